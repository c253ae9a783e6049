/- TextBack: the law's walk. -/
import Derived.Test.YtopaohficfdhhaaDoorTextF
namespace Go.Proofs.YtopaohficfdhhaaDoor
open Go Go.RowKit
namespace TextBack
open Tx
set_option maxRecDepth 100000
set_option linter.unusedVariables false
set_option linter.unusedSimpArgs false

theorem join_le (L : List (List UInt8)) (n : Nat) (h : ∀ x ∈ L, x.length ≤ n) : (join L).length ≤ (n + 1) * L.length := by
  induction L with
  | nil => simp [join]
  | cons a t ih =>
    have h1 := h a (by simp)
    have h2 := ih (fun x hx => h x (by simp [hx]))
    simp [join] at h2 ⊢
    rw [Nat.mul_add]; omega

theorem takeWhile_le (p : UInt8 → Bool) (l : List UInt8) : (l.takeWhile p).length ≤ l.length := by
  induction l with
  | nil => simp
  | cons a t ih => rw [List.takeWhile_cons]; split <;> simp <;> omega

theorem lines_each (l : List UInt8) : ∀ x ∈ lines l, x.length ≤ l.length := by
  induction l using lines.induct with
  | case1 => rw [lines_nil]; intro x hx; cases hx
  | case2 b l ih =>
    rw [lines_cons]; intro x hx
    rcases List.mem_cons.1 hx with rfl | hx
    · exact takeWhile_le _ _
    · have := ih x hx
      have := restOf_lt b l
      omega

set_option maxHeartbeats 2000000 in
theorem law_any (s : ByteArray) (w : World) (hs : s.size ≤ maxLen) :
    Calls Tryd.prog 6 #[.string s] w fun e w' => e = .returned (.bool true) ∧ Below w.heap.size w w' := by
  unfold maxLen at hs
  have HA := Lib.hid (awake_any w)
  by_cases h1 : s.size > 3000
  · go_enter Tryd.func6, Tryd.ntmps6
    go_wp2_with (go_at_call 10; refine HA.out.mono ?_; rintro e w1 ⟨rfl, hb1⟩)
    go_ret
    exact ⟨rfl, hb1⟩
  have h1' : s.size ≤ 3000 := by omega
  clear h1
  have hdl : s.data.toList.length = s.size := by rw [Array.length_toList]; rfl
  have hll := lines_length s.data.toList
  have hln := lines_noEnd s.data.toList
  have hle := lines_each s.data.toList
  have hlj := lines_join _ hln
  obtain ⟨L, hL⟩ : ∃ L, lines s.data.toList = L := ⟨_, rfl⟩
  rw [hL] at hll hln hle hlj
  have hjl := join_le L s.size (fun x hx => by have := hle x hx; omega)
  have hjl2 : (join L).length ≤ 9012003 := by
    have : (s.size + 1) * L.length ≤ 3001 * 3000 := Nat.mul_le_mul (by omega) (by omega)
    omega
  have HL := Lib.hid hL
  have Hln := Lib.hid hln
  have Hle := Lib.hid hle
  have Hlj := Lib.hid hlj
  clear hL hln hle hlj hjl
  have hLs : L.length ≤ s.size := by omega
  have hsb : s.size ≤ 1099511627776 := by omega
  go_enter Tryd.func6, Tryd.ntmps6
  go_wp2_with (go_at_call 10; refine HA.out.mono ?_; rintro e w1 ⟨rfl, hb1⟩)
  refine (lines_from hsb hb1).mono ?_
  rintro e w2 ⟨v, rfl, hs2, hb2⟩
  rw [HL.out] at hs2
  have HS := Lib.hid hs2
  obtain ⟨ao, cap, rfl, _, hrow⟩ := hs2
  have Hrow := Lib.hid hrow
  clear hrow
  go_wp2
  go_loop [5, 6] (fun s5 s6 => ∃ (k : Nat), k ≤ L.length ∧ s5 = .int .i64 k) (fun s5 _ => L.length - (intOf s5).toNat)
  case atStart => exact ⟨0, Nat.zero_le _, rfl⟩
  case round =>
    obtain ⟨k, hk, rfl⟩ := hrel
    by_cases hlt : k < L.length
    · have hkl : (k : Int) < (L.length : Int) := by omega
      obtain ⟨b, off, rfl, hr⟩ := Hrow.out (by intro e; subst e; simp at hlt)
      have hc := hr k hlt
      have hne := Hln.out L[k] (List.getElem_mem _)
      have hxl := Hle.out L[k] (List.getElem_mem _)
      rw [hdl] at hxl
      clear hr
      obtain ⟨x, hx⟩ : ∃ x : ByteArray, x.data.toList = L[k] := ⟨⟨(L[k]).toArray⟩, rfl⟩
      rw [show str L[k] = .string x from by rw [← hx]; rfl] at hc
      rw [← hx] at hne hxl
      have hxs : x.size ≤ 3000 := by rw [show x.data.toList.length = x.size from by rw [Array.length_toList]; rfl] at hxl; omega
      have Hne := Lib.hid hne
      clear hx hne hxl
      go_wp2
      go_loop [6] (fun s6 => ∃ (j : Nat), j ≤ x.size ∧ s6 = .int .i64 j) (fun s6 => x.size - (intOf s6).toNat)
      case atStart => exact ⟨0, Nat.zero_le _, rfl⟩
      case round =>
        obtain ⟨j, hj, rfl⟩ := hrel
        by_cases hjt : j < x.size
        · have hjl3 : (j : Int) < (x.size : Int) := by omega
          have hm : isEnd x[j] = false := Hne.out x[j] (by
            have : x.data.toList[j]'(by rw [show x.data.toList.length = x.size from by rw [Array.length_toList]; rfl]; exact hjt) = x[j] := by rw [Array.getElem_toList]; rfl
            rw [← this]; exact List.getElem_mem _)
          have n10 : ¬ (x[j].toNat : Int) = 10 := fun e => by
            have : x[j] = 10 := UInt8.toNat_inj.1 (by simp; omega)
            rw [this] at hm; cases hm
          have n13 : ¬ (x[j].toNat : Int) = 13 := fun e => by
            have : x[j] = 13 := UInt8.toNat_inj.1 (by simp; omega)
            rw [this] at hm; cases hm
          have b10 : ((x[j].toNat : Int) == 10) = false := by simpa using n10
          have b13 : ((x[j].toNat : Int) == 13) = false := by simpa using n13
          clear hm
          go_wp2
          go_round
          case rel => exact ⟨j + 1, by omega, by go_num⟩
          case measure => simp [intOf]; omega
        · have hjl3 : ¬ ((j : Int) < (x.size : Int)) := by omega
          go_wp2
          go_round
          case rel => exact ⟨k + 1, by omega, by go_num⟩
          case measure => simp [intOf]; omega
    · have hkl : ¬ ((k : Int) < (L.length : Int)) := by omega
      go_wp2_with fail
      refine (join_any L _ _ HS.out (by omega)).mono ?_
      rintro e w3 ⟨rfl, hb3⟩
      have HS3 := Lib.hid (HS.out.below hb3)
      have hb3' := hb2.trans (hb3.mono hb2.size)
      clear hb3
      unfold str
      go_wp2_with fail
      refine (lines_any ⟨(join L).toArray⟩ _ (by rw [size_mk]; omega)).mono ?_
      rintro e w4 ⟨v4, rfl, ho4, hb4⟩
      rw [show (⟨(join L).toArray⟩ : ByteArray).data.toList = join L from rfl, Hlj.out] at ho4
      have HS4 := Lib.hid (HS3.out.below hb4)
      have HV4 := Lib.hid (ho4.ssl (by omega))
      have hb5 := hb3'.trans (hb4.mono hb3'.size)
      clear ho4 hb4
      go_wp2_with fail
      refine (same_any _ _ _ _ _ HV4.out HS4.out).mono ?_
      rintro e w5 ⟨rfl, n, hw5⟩
      rw [decide_eq_true (Eq.refl L)]
      have hb6 : Below w.heap.size w w5 := by rw [hw5]; exact below_drewN hb5 n
      clear hw5
      have hLi : (L.length : Int) ≤ (s.size : Int) := by omega
      go_wp2
      go_ret
      exact ⟨rfl, hb6⟩
end TextBack
end Go.Proofs.YtopaohficfdhhaaDoor
