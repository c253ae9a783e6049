/- Walks of layer 1, the fourth part: lines. -/
import Derived.Test.YtopaohficfdhhaaDoorTextC
import Derived.Test.YtopaohficfdhhaaDoorTextLines
import Derived.RegionTactic
namespace Go.Proofs.YtopaohficfdhhaaDoor
open Go Go.RowKit
namespace Tx
set_option maxRecDepth 100000
set_option linter.unusedVariables false
set_option linter.unusedSimpArgs false

def str (l : List UInt8) : Value := .string ⟨l.toArray⟩

theorem clone_any (s : ByteArray) (w : World) (hs : s.size ≤ 281474976710656) :
    Calls Tryd.prog 29 #[.string s] w fun e w' => e = .returned (.string s) ∧ Below w.heap.size w w' := by
  go_enter Tryd.func29, Tryd.ntmps29
  go_wp2_with (go_at_call 36; refine (Tryd.stringslite_Clone s w hs).mono ?_; rintro e w1 ⟨rfl, hb⟩)
  go_ret
  exact ⟨rfl, hb⟩

theorem hp_no (c : UInt8) (t : List UInt8) (h : c ≠ 13 ∨ t.head? ≠ some 10) : Lib.hasPrefix (c :: t) [13, 10] = false := by
  unfold Lib.hasPrefix
  cases t with
  | nil => simp [List.isPrefixOf]
  | cons a t =>
    simp only [List.isPrefixOf, Bool.and_true, Bool.and_eq_false_iff, beq_eq_false_iff_ne, ne_eq]
    rcases h with h | h
    · exact Or.inl (fun e => h e.symm)
    · exact Or.inr (fun e => h (by rw [← e]; rfl))

theorem ext_of (s : ByteArray) (a b : Nat) (l : List UInt8) (h : (s.data.toList.drop a).take (b - a) = l) : s.extract a b = ⟨l.toArray⟩ := by
  have := Lib.extract_data s a b
  rw [h] at this
  cases hx : s.extract a b with
  | mk d => rw [hx] at this; simp at this; rw [← this]

theorem line_at {l : List UInt8} {k : Nat} {c : UInt8} {t : List UInt8} (hn : NoEnd (l.take k)) (hd : l.drop k = c :: t) (hc : isEnd c = true) : lineOf l = l.take k ∧ restOf l = cutEnd (c :: t) := by
  have h := takeWhile_none (fun c => !isEnd c) (l.take k) t c (noEnd_p hn) (by simp [hc])
  rw [← hd, List.take_append_drop] at h
  exact ⟨h.1, by unfold restOf; rw [h.2, hd]⟩

theorem ret_str2 {a b : ByteArray} {x y : List UInt8} (h1 : a = ⟨x.toArray⟩) (h2 : b = ⟨y.toArray⟩) : Ending.returned (.tuple #[.string a, .string b]) = .returned (.tuple #[str x, str y]) := by rw [h1, h2]; rfl

set_option maxHeartbeats 1000000 in
theorem cutLine_any (s : ByteArray) (w : World) (hs : s.size ≤ 140737488355328) :
    Calls Tryd.prog 30 #[.string s] w fun e w' => e = .returned (.tuple #[str (lineOf s.data.toList), str (restOf s.data.toList)]) ∧ ∃ n, w' = w.drewN n := by
  go_enter Tryd.func30, Tryd.ntmps30
  go_wp2
  go_loop [7] (fun i => ∃ k : Nat, k ≤ s.size ∧ i = .int .i64 k ∧ Hid (NoEnd (s.data.toList.take k))) (fun i => s.size - (intOf i).toNat)
  case atStart => exact ⟨0, Nat.zero_le _, rfl, Lib.hid (by intro c hc; simp at hc)⟩
  case round =>
    obtain ⟨k, hk, rfl, HN⟩ := hrel
    have hsz : s.data.toList.length = s.size := by rw [Array.length_toList]; rfl
    by_cases hlt : k < s.size
    · obtain ⟨c, t, hd⟩ : ∃ c t, s.data.toList.drop k = c :: t := by
        cases h : s.data.toList.drop k with
        | nil => have := congrArg List.length h; simp at this; omega
        | cons x t => exact ⟨x, t, rfl⟩
      have hck : s[k] = c := by
        have := congrArg (fun l => l[0]?) hd
        simp at this
        rw [Array.getElem?_eq_getElem (show k < s.data.size from hlt)] at this
        exact Option.some.inj this
      have htk : (s.data.toList.drop k).take (s.size - k) = c :: t := by rw [hd, List.take_of_length_le]; rw [← hd, List.length_drop]; omega
      have htl : t.length + 1 + k = s.size := by have := congrArg List.length hd; rw [List.length_drop, hsz, List.length_cons] at this; omega
      have HD := Lib.hid hd
      have HT : Hid (∀ j, 1 ≤ j → (s.data.toList.drop (k + j)).take (s.size - (k + j)) = t.drop (j - 1)) := Lib.hid (by
        intro j hj
        rw [← List.drop_drop, hd, List.take_of_length_le (by simp; omega)]
        obtain ⟨i, rfl⟩ : ∃ i, j = i + 1 := ⟨j - 1, by omega⟩
        rfl)
      have HK : Hid (∀ x, (s.data.toList.drop 0).take (k - 0) = x → s.extract 0 k = ⟨x.toArray⟩) := Lib.hid (fun x h => ext_of s 0 k x h)
      clear hd
      by_cases hA : c = 13 ∧ t.head? = some 10
      · obtain ⟨hc13, ht10⟩ := hA
        obtain ⟨t', rfl⟩ : ∃ t', t = 10 :: t' := by
          cases t with
          | nil => simp at ht10
          | cons a t => simp at ht10; exact ⟨t, by rw [ht10]⟩
        subst hc13
        have hp : Lib.hasPrefix (List.take (s.size - k) (List.drop k s.data.toList)) [13, 10] = true := by rw [htk]; rfl
        have Hck := Lib.hid hck
        have hk2 : k + 2 ≤ s.size := by simp at htl; omega
        clear htk hck ht10
        go_wp2_with (go_at_call 37; refine (Tryd.strings_HasPrefix _ _ _).mono ?_; rintro e w' ⟨rfl, rfl⟩)
        go_quiet (fail)
        go_wp2
        go_ret2
        refine ⟨ret_str2 ?_ ?_, _, rfl⟩
        · have := (line_at HN.out HD.out (by decide)).1
          exact HK.out _ (by simp [this])
        · have := (line_at HN.out HD.out (by decide)).2
          exact ext_of _ _ _ _ (by rw [HT.out 2 (by decide), this]; rfl)
      · have hp : Lib.hasPrefix (List.take (s.size - k) (List.drop k s.data.toList)) [13, 10] = false := by
          rw [htk]; refine hp_no c t ?_
          by_cases h13 : c = 13
          · exact Or.inr (fun h => hA ⟨h13, h⟩)
          · exact Or.inl h13
        have HA := Lib.hid hA
        clear hA htk
        by_cases he : isEnd c = true
        · have hl := line_at HN.out HD.out he
          have hcut : cutEnd (c :: t) = t := by
            unfold cutEnd; split
            · simp at *
            · rename_i heq; simp at heq; exact absurd ⟨heq.1, by rw [heq.2]; rfl⟩ HA.out
            · rename_i heq; simp at heq; exact heq.2.symm
          rw [hcut] at hl
          have HL := Lib.hid hl
          clear hl hcut
          have he2 : c = 13 ∨ (c ≠ 13 ∧ c = 10) := by
            simp only [isEnd, Bool.or_eq_true, beq_iff_eq] at he
            rcases he with h | h
            · exact Or.inr ⟨by rw [h]; decide, h⟩
            · exact Or.inl h
          rcases he2 with h13 | ⟨_, h10⟩
          · have hcn : (s[k].toNat : Int) = 13 := by rw [hck, h13]; rfl
            clear hck he h13
            go_wp2_with (go_at_call 37; refine (Tryd.strings_HasPrefix _ _ _).mono ?_; rintro e w' ⟨rfl, rfl⟩)
            go_quiet (fail)
            go_wp2
            go_ret2
            refine ⟨ret_str2 ?_ ?_, _, rfl⟩
            · exact HK.out _ (by simp [HL.out.1])
            · exact ext_of _ _ _ _ (by rw [HT.out 1 (by decide), HL.out.2]; rfl)
          · have hcn : (s[k].toNat : Int) = 10 := by rw [hck, h10]; rfl
            clear hck he h10
            go_wp2_with (go_at_call 37; refine (Tryd.strings_HasPrefix _ _ _).mono ?_; rintro e w' ⟨rfl, rfl⟩)
            go_quiet (fail)
            go_wp2
            go_ret2
            refine ⟨ret_str2 ?_ ?_, _, rfl⟩
            · exact HK.out _ (by simp [HL.out.1])
            · exact ext_of _ _ _ _ (by rw [HT.out 1 (by decide), HL.out.2]; rfl)
        · have h13 : c ≠ 13 := by intro e; subst e; exact he (by decide)
          have h10 : c ≠ 10 := by intro e; subst e; exact he (by decide)
          have hv13 : c.toNat ≠ 13 := fun e => h13 (UInt8.toNat_inj.1 (by simpa using e))
          have hv10 : c.toNat ≠ 10 := fun e => h10 (UInt8.toNat_inj.1 (by simpa using e))
          have hcn13 : ((s[k].toNat : Int) == 13) = false := by rw [hck]; simp; omega
          have hcn10 : ((s[k].toNat : Int) == 10) = false := by rw [hck]; simp; omega
          have HE := Lib.hid he
          clear hck he h13 h10 hv13 hv10
          go_wp2_with (go_at_call 37; refine (Tryd.strings_HasPrefix _ _ _).mono ?_; rintro e w' ⟨rfl, rfl⟩)
          go_round
          case rel =>
            refine ⟨k + 1, by omega, by go_num, Lib.hid ?_⟩
            intro x hx
            rw [List.take_add_one] at hx
            rcases List.mem_append.1 hx with hx | hx
            · exact HN.out x hx
            · have h0 := congrArg (fun l => l[0]?) HD.out
              simp at h0
              simp [h0] at hx
              subst hx; simpa using HE.out
          case measure => simp [intOf]; omega
    · have hke : k = s.size := by omega
      have Hk := Lib.hid hke
      clear hke
      go_wp2
      go_ret2
      have hn := HN.out
      rw [Hk.out, List.take_of_length_le (by omega)] at hn
      have htw := tw_all (fun c => !isEnd c) s.data.toList (noEnd_p hn)
      refine ⟨ret_str2 ?_ ?_, 0, rfl⟩
      · unfold lineOf; rw [htw.1]
      · unfold restOf; rw [htw.2]; rfl
end Tx
end Go.Proofs.YtopaohficfdhhaaDoor
