/- Walks of layer 5, the fourth part: Unescape. -/
import Derived.Test.YtfabiidohdkkcaaGreatDoorEscBs
import Derived.Test.YtfabiidohdkkcaaGreatDoorEntF
import Derived.Laws.DeepStrings4
namespace Go.Proofs.YtfabiidohdkkcaaGreatDoor
open Go Go.RowKit
namespace Es
open En
set_option maxRecDepth 100000
set_option linter.unusedVariables false
set_option linter.unusedSimpArgs false

theorem ext_of (s : ByteArray) (a b : Nat) (l : List UInt8) (h : (s.data.toList.drop a).take (b - a) = l) : s.extract a b = ⟨l.toArray⟩ := by
  have := Lib.extract_data s a b
  rw [h] at this
  cases hx : s.extract a b with
  | mk d => rw [hx] at this; simp at this; rw [← this]
theorem ext_rest (s : ByteArray) (a : Nat) : (s.extract a s.size).data.toList = s.data.toList.drop a := by
  rw [Lib.extract_data, List.take_of_length_le]
  rw [List.length_drop, sz]
  omega
theorem str_encB (v : Int) : (⟨(encB v).toArray⟩ : ByteArray) = Utf8.encode v := by
  unfold encB
  cases Utf8.encode v
  simp
theorem ret_pair {a b : ByteArray} {m n : Int} (h1 : a = b) (h2 : m = n) : Ending.returned (.tuple #[.string a, .int .i64 m]) = .returned (.tuple #[.string b, .int .i64 n]) := by rw [h1, h2]

set_option maxHeartbeats 2000000 in
theorem first_any (s : ByteArray) (w : World) (h0 : 0 < s.size) (hs : s.size ≤ 1000000) (hL : LaidK w) :
    Calls Tryz.prog 65 #[.string s] w fun e w' => e = .returned (.tuple #[str (fst s.data.toList).1, .int .i64 ((fst s.data.toList).2 : Nat)]) ∧ Below w.heap.size w w' := by
  obtain ⟨c, t, hd, hck, ht⟩ := cons_at h0
  rw [List.drop_zero] at hd
  have HE1 : Hid (s.extract 0 1 = ⟨[c].toArray⟩) := Lib.hid (ext_of s 0 1 [c] (by rw [hd]; rfl))
  have hzero : (0 : Int) < (s.size : Int) := by omega
  by_cases h1 : c = 92
  · subst h1
    by_cases h2 : 1 < s.size
    · obtain ⟨c2, t2, hd2, hck2, _⟩ := cons_at h2
      have htt : t = c2 :: t2 := by
        rw [hd] at hd2
        simpa using hd2
      subst htt
      have HS := Lib.hid (fun W h => sign_any (c2.toNat : Int) W (by omega) (by have := c2.toNat_lt; omega) h)
      have hlt : (1 : Int) < (s.size : Int) := by omega
      have HE2 : Hid (s.extract 1 2 = ⟨[c2].toArray⟩) := Lib.hid (ext_of s 1 2 [c2] (by rw [hd]; rfl))
      have h22 : (2 : Int) ≤ (s.size : Int) := by omega
      cases hsg : sgI (c2.toNat : Int) with
      | true =>
        have HV : Hid (fst s.data.toList = ([c2], 2)) := Lib.hid (by rw [hd]; exact fst_slash hsg)
        rw [hsg] at HS
        have HS2 := Lib.hid (HS.out w hL)
        clear hd hd2 ht hsg HS hL
        go_enter Tryz.func65, Tryz.ntmps65
        go_wp2_with fail
        refine HS2.out.mono ?_
        rintro e w' ⟨rfl, rfl⟩
        go_wp2
        go_ret2
        exact ⟨by rw [HV.out]; exact ret_pair HE2.out rfl, Below.refl _ _⟩
      | false =>
        have HV : Hid (fst s.data.toList = ([92], 1)) := Lib.hid (by
          rw [hd, fst_self (by rw [esc1_slash, if_neg (by unfold sg; rw [hsg]; simp)]) (rread_other (by decide))]
          rfl)
        rw [hsg] at HS
        have HS2 := Lib.hid (HS.out w hL)
        clear hd hd2 ht hsg HS hL
        go_enter Tryz.func65, Tryz.ntmps65
        go_wp2_with fail
        refine HS2.out.mono ?_
        rintro e w' ⟨rfl, rfl⟩
        go_wp2
        go_ret2
        exact ⟨by rw [HV.out]; exact ret_pair HE1.out rfl, Below.refl _ _⟩
    · have htn : t = [] := by
        have := congrArg List.length hd
        rw [sz] at this
        simp at this
        exact List.length_eq_zero_iff.1 (by omega)
      have HV : Hid (fst s.data.toList = ([92], 1)) := Lib.hid (by
        rw [hd, htn, fst_self (esc1_one 92) (rread_other (by decide))]
        rfl)
      have hlt : ¬ (1 : Int) < (s.size : Int) := by omega
      clear hd ht htn hL h2
      go_enter Tryz.func65, Tryz.ntmps65
      go_wp2
      go_ret2
      exact ⟨by rw [HV.out]; exact ret_pair HE1.out rfl, Below.refl _ _⟩
  have e1 : ((c.toNat : Int) == 92) = false := u8_ne (n := 92) (by decide) h1
  have HO : Hid (esc1 s.data.toList = none) := Lib.hid (by rw [hd]; exact esc1_other h1)
  by_cases h2 : c = 38
  · subst h2
    have HR := Lib.hid (gread_any s w hs)
    rw [gread_eq] at HR
    cases hr : rread s.data.toList with
    | some x =>
      obtain ⟨v, n⟩ := x
      have hn := (rread_pos hr).1
      have HV := Lib.hid (fst_ref HO.out hr)
      rw [hr] at HR
      unfold resV at HR
      have hn' : (0 : Int) < (n : Int) := by omega
      clear hd ht hL hr hn e1
      go_enter Tryz.func65, Tryz.ntmps65
      go_wp2_with fail
      refine HR.out.mono ?_
      rintro e w' ⟨rfl, hb⟩
      go_wp2
      go_ret2
      exact ⟨by rw [HV.out]; exact ret_pair (str_encB v).symm rfl, hb⟩
    | none =>
      have HV : Hid (fst s.data.toList = ([38], 1)) := Lib.hid (by rw [fst_self HO.out hr, hd]; rfl)
      rw [hr] at HR
      unfold resV at HR
      clear hd ht hL hr e1
      go_enter Tryz.func65, Tryz.ntmps65
      go_wp2_with fail
      refine HR.out.mono ?_
      rintro e w' ⟨rfl, hb⟩
      go_wp2
      go_ret2
      exact ⟨by rw [HV.out]; exact ret_pair HE1.out rfl, hb⟩
  · have e2 : ((c.toNat : Int) == 38) = false := u8_ne (n := 38) (by decide) h2
    have HV : Hid (fst s.data.toList = ([c], 1)) := Lib.hid (by rw [hd]; exact fst_plain h1 h2)
    clear hd ht hL h1 h2
    go_enter Tryz.func65, Tryz.ntmps65
    go_wp2
    go_ret2
    exact ⟨by rw [HV.out]; exact ret_pair HE1.out rfl, Below.refl _ _⟩

theorem app_len {a b c : List UInt8} (h : a ++ b = c) : a.length ≤ c.length := by rw [← h]; simp
set_option maxHeartbeats 2000000 in
theorem unescape_any (s : ByteArray) (w : World) (hs : s.size ≤ 1000000) (hL : LaidK w) :
    Calls Tryz.prog 39 #[.string s] w fun e w' => e = .returned (str (une s.data.toList)) ∧ Below w.heap.size w w' := by
  have hdl := Lib.hid (sz s)
  have HL := Lib.hid hL
  clear hL
  go_enter Tryz.func39, Tryz.ntmps39
  go_wp2_with (go_at_call 64; refine (Tryz.Builder_Grow_fresh w.heap.size w.heap.size s.size _ (Nat.le_refl _) ?g1 ?g2 ?g3).mono ?_)
  case g1 => simp only [World.alloc, Array.getElem?_push_size]
  case g2 => simp
  case g3 => omega
  rintro e w1 ⟨rfl, hb1, hbw1⟩
  have hbw0 : Below w.heap.size w w1 := ((Below.refl _ w).alloc (Nat.le_refl _) _).trans hbw1
  have hB1 : BF w.heap.size [] w1 := Lib.IsBuilderF.of (Or.inr hb1)
  clear hbw1 hb1
  go_wp2
  go_loopg [4, 13] s.size (fun g s4 s13 wr => ∃ (k n : Nat) (acc : List UInt8), k + g = s.size ∧ s13 = .int .i64 k ∧ s4 = .int .i64 n ∧ n ≤ s.size ∧ Hid (acc ++ unes (n - k) (s.data.toList.drop k) = une s.data.toList) ∧ BF w.heap.size acc wr ∧ Below w.heap.size w wr)
  case atStart => exact ⟨0, 0, [], by omega, rfl, rfl, by omega, Lib.hid rfl, hB1, hbw0⟩
  case round =>
    obtain ⟨k, n, acc, hkg, rfl, rfl, hn, HI, hB, hbw⟩ := hrel
    have hsz := hbw.size
    have hacc : acc.length ≤ 4000000 := by
      have := app_len HI.out
      have := une_len s.data.toList
      rw [hdl.out] at this
      omega
    clear hB1 hbw0
    cases gk with
    | zero =>
      have hkl : ¬ ((k : Int) < (s.size : Int)) := by omega
      have HV : Hid (une s.data.toList = acc) := Lib.hid (by
        have := HI.out
        rw [List.drop_eq_nil_of_le (by rw [hdl.out]; omega), unes_nil, List.append_nil] at this
        exact this.symm)
      go_wp2_with (go_at_call 67; refine (Tryz.Builder_String_any_f w.heap.size w.heap.size _ _ hB hsz).mono ?_; rintro e w3 ⟨rfl, _, hb3⟩)
      go_ret
      exact ⟨ret_strL HV.out.symm, hbw.trans hb3⟩
    | succ g =>
      have hkl : (k : Int) < (s.size : Int) := by omega
      have hk2 : k < s.size := by omega
      obtain ⟨c, t, hd, _, ht⟩ := cons_at hk2
      by_cases hnk : k < n
      · have hnk' : (k : Int) < (n : Int) := by omega
        have HI2 : Hid (acc ++ unes (n - (k + 1)) (s.data.toList.drop (k + 1)) = une s.data.toList) := Lib.hid (by
          rw [← HI.out, ht, hd, show n - k = (n - (k + 1)) + 1 by omega]
          rfl)
        clear hd ht
        go_wp2
        go_roundg g
        case rel => exact ⟨k + 1, n, acc, by omega, by go_num, rfl, hn, HI2, hB, hbw⟩
        case measure => omega
      · have hnk' : ¬ ((k : Int) < (n : Int)) := by omega
        have hfb := fst_bounds (l := s.data.toList.drop k) (by rw [hd]; simp)
        have HI2 : Hid ((acc ++ (fst (s.data.toList.drop k)).1) ++ unes (k + (fst (s.data.toList.drop k)).2 - (k + 1)) (s.data.toList.drop (k + 1)) = une s.data.toList) := Lib.hid (by
          rw [← HI.out, ht, hd, show n - k = 0 by omega, List.append_assoc, show ∀ x, k + x - (k + 1) = x - 1 by omega]
          rfl)
        have HF := Lib.hid (first_any (s.extract k s.size) wr (by simp; omega) (by simp; omega) (HL.out.below hbw))
        rw [ext_rest] at HF
        have hfl := hfb.2.2
        rw [List.length_drop, hdl.out] at hfl
        have hf1 := hfb.2.1
        have hf4 := hfb.1
        clear hd ht hfb
        generalize (fst (s.data.toList.drop k)).1 = told at *
        generalize (fst (s.data.toList.drop k)).2 = m at *
        unfold str at HF
        go_wp2_with (go_at_call 65; refine HF.out.mono ?_; rintro e w2 ⟨rfl, hb2⟩)
        have hbw2 := hbw.trans (hb2.mono hbw.size)
        have hB2 := bf_below hB hb2
        have hsz2 := hbw2.size
        go_wp2_with (go_at_call 66; refine (Tryz.Builder_WriteString_k w.heap.size w.heap.size _ _ _ hB2 ?a1 hsz2).mono ?_)
        case a1 => rw [Lib.byteCells_length, size_mk]; omega
        rintro e w3 ⟨rfl, hb3, hbw3, _⟩
        go_wp2
        go_roundg g
        case rel => exact ⟨k + 1, k + m, _, by omega, by go_num, by go_num, by omega, HI2, bf_str hb3 rfl rfl, hbw2.trans hbw3⟩
        case measure => omega
end Es
end Go.Proofs.YtfabiidohdkkcaaGreatDoor
