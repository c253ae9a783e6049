/- SpanNone: the law's walk. -/
import Derived.Test.YtapibalcekedfaaGreatDoorSpJ
import Derived.Test.YtapibalcekedfaaGreatDoorSpQ
namespace Go.Proofs.YtapibalcekedfaaGreatDoor
open Go Go.RowKit
namespace SpanNone
open Sp Sc
set_option maxRecDepth 100000
set_option linter.unusedVariables false
set_option linter.unusedSimpArgs false

set_option maxHeartbeats 4000000 in
theorem law_any (s : ByteArray) (w : World) (hL : LaidP w) (hs : s.size ≤ maxLen) :
    Calls Tryz.prog 7 #[.string s] w fun e w' => e = .returned (.bool true) ∧ Below w.heap.size w w' := by
  unfold maxLen at hs
  have HA := Lib.hid (frm_awake hL)
  have hb0 := Below.refl w.heap.size w
  by_cases hbig : 1000 < s.size
  · have hb' : (1000 : Int) < (s.size : Int) := by omega
    clear hL
    go_enter Tryz.func7, Tryz.ntmps7
    go_wp2_with fail
    refine (HA.out _ hb0).mono ?_
    rintro e w1 ⟨rfl, hb1⟩
    go_wp2
    go_ret
    exact ⟨rfl, hb1⟩
  · have hb' : (s.size : Int) ≤ 1000 := by omega
    obtain ⟨J, hJ⟩ : ∃ J, (⟨#[120]⟩ : ByteArray) ++ s = J := ⟨_, rfl⟩
    have hJd : J.data.toList = 120 :: s.data.toList := by rw [← hJ, app_data]; rfl
    have sJ : J.size = 1 + s.size := by rw [← hJ, app_size]; rfl
    have hhead : J.data.toList.head? ≠ some 96 ∧ J.data.toList.head? ≠ some 60 := by rw [hJd]; simp
    obtain ⟨u, hu⟩ : ∃ u, runP J.data.toList = u := ⟨_, rfl⟩
    have F1 := Lib.hid (frm_code hL (s := J) (b := ⟨#[]⟩) (n := 0) (by omega) (by rw [codeP_no hhead.1]; rfl))
    have F2 := Lib.hid (frm_auto hL (s := J) (b := ⟨#[]⟩) (c := ⟨#[]⟩) (n := 0) (by omega) (by rw [autoP_no hhead.2]; rfl))
    have F3 := Lib.hid (frm_raw hL (s := J) (by omega) (raw_no60 hhead.2))
    have F4 := Lib.hid (frm_run hL (s := J) (by omega) hu)
    have F5 := Lib.hid (frm_run hL (s := ⟨#[]⟩) (n := 0) (by decide) rfl)
    have hu1 : 1 ≤ u := by rw [← hu]; exact runP_pos (by rw [hJd]; simp)
    have hu1' : (1 : Int) ≤ (u : Int) := by omega
    have HU : Hid (s.data.toList.head? = some 120 ∨ s.data.toList = [] ∨ (∃ c : UInt8, s.data.toList.head? = some c ∧ c ≠ 120 ∧ u = 1)) := Lib.hid (by
      cases hl : s.data.toList with
      | nil => exact .inr (.inl rfl)
      | cons c t =>
        by_cases hc : c = 120
        · subst hc; exact .inl rfl
        · refine .inr (.inr ⟨c, rfl, hc, ?_⟩)
          rw [← hu, hJd, hl, runP_cons, runN_miss t hc])
    clear hL hu hbig hhead hJd
    rcases HU.out with hh | hh | ⟨c, hh, hc, rfl⟩
    · have h0 : 0 < s.size := by
        rw [← sz]; cases hl : s.data.toList with
        | nil => rw [hl] at hh; cases hh
        | cons _ _ => simp
      have he := emp_f h0
      have h0' : (0 : Int) < (s.size : Int) := by omega
      have hs0 : s[0] = 120 := by
        have := get_of h0 rfl
        rw [← List.head?_eq_getElem?, hh] at this
        exact (Option.some.inj this).symm
      clear HU hh
      go_enter Tryz.func7, Tryz.ntmps7
      go_wp2_with fail
      refine (HA.out _ hb0).mono ?_
      rintro e w1 ⟨rfl, hb1⟩
      go_wp2_with fail
      refine (F1.out _ hb1).mono ?_
      rintro e w2 ⟨rfl, hb2⟩
      go_wp2_with fail
      refine (F2.out _ hb2).mono ?_
      rintro e w3 ⟨rfl, hb3⟩
      go_wp2_with fail
      refine (F3.out _ hb3).mono ?_
      rintro e w4 ⟨rfl, hb4⟩
      go_wp2_with fail
      refine (F4.out _ hb4).mono ?_
      rintro e w5 ⟨rfl, hb5⟩
      go_wp2_with fail
      refine (F5.out _ hb5).mono ?_
      rintro e w6 ⟨rfl, hb6⟩
      go_wp2
      go_ret
      exact ⟨rfl, hb6⟩
    · have he := emp_t hh
      clear HU hh
      go_enter Tryz.func7, Tryz.ntmps7
      go_wp2_with fail
      refine (HA.out _ hb0).mono ?_
      rintro e w1 ⟨rfl, hb1⟩
      go_wp2_with fail
      refine (F1.out _ hb1).mono ?_
      rintro e w2 ⟨rfl, hb2⟩
      go_wp2_with fail
      refine (F2.out _ hb2).mono ?_
      rintro e w3 ⟨rfl, hb3⟩
      go_wp2_with fail
      refine (F3.out _ hb3).mono ?_
      rintro e w4 ⟨rfl, hb4⟩
      go_wp2_with fail
      refine (F4.out _ hb4).mono ?_
      rintro e w5 ⟨rfl, hb5⟩
      go_wp2_with fail
      refine (F5.out _ hb5).mono ?_
      rintro e w6 ⟨rfl, hb6⟩
      go_wp2
      go_ret
      exact ⟨rfl, hb6⟩
    · have h0 : 0 < s.size := by
        rw [← sz]; cases hl : s.data.toList with
        | nil => rw [hl] at hh; cases hh
        | cons _ _ => simp
      have he := emp_f h0
      have h0' : (0 : Int) < (s.size : Int) := by omega
      have hs0 : s[0] = c := by
        have := get_of h0 rfl
        rw [← List.head?_eq_getElem?, hh] at this
        exact (Option.some.inj this).symm
      have e120 : ((c.toNat : Int) == 120) = false := u8_ne (n := 120) (by decide) hc
      clear HU hh hc
      go_enter Tryz.func7, Tryz.ntmps7
      go_wp2_with fail
      refine (HA.out _ hb0).mono ?_
      rintro e w1 ⟨rfl, hb1⟩
      go_wp2_with fail
      refine (F1.out _ hb1).mono ?_
      rintro e w2 ⟨rfl, hb2⟩
      go_wp2_with fail
      refine (F2.out _ hb2).mono ?_
      rintro e w3 ⟨rfl, hb3⟩
      go_wp2_with fail
      refine (F3.out _ hb3).mono ?_
      rintro e w4 ⟨rfl, hb4⟩
      go_wp2_with fail
      refine (F4.out _ hb4).mono ?_
      rintro e w5 ⟨rfl, hb5⟩
      go_wp2_with fail
      refine (F5.out _ hb5).mono ?_
      rintro e w6 ⟨rfl, hb6⟩
      go_wp2_with fail
      refine (F4.out _ hb6).mono ?_
      rintro e w7 ⟨rfl, hb7⟩
      go_wp2
      go_ret
      exact ⟨rfl, hb7⟩
end SpanNone
end Go.Proofs.YtapibalcekedfaaGreatDoor
