/- ClassOnce: the law's walk. -/
import Derived.Test.YtbfmbhilkgnkeaaDoorClassG
namespace Go.Proofs.YtbfmbhilkgnkeaaDoor
open Go Go.RowKit
namespace ClassOnce
open Tx Ks
set_option maxRecDepth 100000
set_option linter.unusedVariables false
set_option linter.unusedSimpArgs false

set_option maxHeartbeats 1000000 in
theorem law_any (s : ByteArray) (w : World) (hL : Laid w) (hs : s.size ≤ maxLen) :
    Calls Tryd.prog 5 #[.string s] w fun e w' => e = .returned (.bool true) ∧ Below w.heap.size w w' := by
  unfold maxLen at hs
  have HA := Lib.hid (frm_awake hL)
  have hb0 := Below.refl w.heap.size w
  by_cases hbig : 2000 < s.size
  · have hb' : (2000 : Int) < (s.size : Int) := by omega
    clear hL
    go_enter Tryd.func5, Tryd.ntmps5
    go_wp2_with fail
    refine (HA.out _ hb0).mono ?_
    rintro e w1 ⟨rfl, hb1⟩
    go_wp2
    go_ret
    exact ⟨rfl, hb1⟩
  · have hb' : (s.size : Int) ≤ 2000 := by omega
    have hs2 : s.data.toList.length ≤ 2000 := by rw [Array.length_toList]; have : s.size = s.data.size := rfl; omega
    have hf := fold_len s.data.toList
    have hl := lab_len s.data.toList
    have H1 := Lib.hid (frm_fold hL (s := s) rfl rfl (by omega))
    have H2 := Lib.hid (frm_label hL (s := s) rfl rfl (by omega))
    have H3 := Lib.hid (frm_fold hL (s := ⟨(fold s.data.toList).toArray⟩) (l := fold s.data.toList) rfl (fold_fold _) (by omega))
    have H4 := Lib.hid (frm_label hL (s := ⟨(lab s.data.toList).toArray⟩) (l := lab s.data.toList) rfl (lab_lab _) (by omega))
    have H5 := Lib.hid (frm_label hL (s := ⟨(fold s.data.toList).toArray⟩) (l := fold s.data.toList) rfl (lab_fold _) (by omega))
    have H6 := Lib.hid (frm_fold hL (s := ⟨(lab s.data.toList).toArray⟩) (l := lab s.data.toList) rfl (fold_lab _) (by omega))
    clear hf hl
    generalize (⟨(fold s.data.toList).toArray⟩ : ByteArray) = f at *
    generalize (⟨(lab s.data.toList).toArray⟩ : ByteArray) = l at *
    clear hL hbig hs2
    go_enter Tryd.func5, Tryd.ntmps5
    go_wp2_with fail
    refine (HA.out _ hb0).mono ?_
    rintro e w1 ⟨rfl, hb1⟩
    go_wp2_with fail
    refine (H1.out _ hb1).mono ?_
    rintro e w2 ⟨rfl, hb2⟩
    go_wp2_with fail
    refine (H2.out _ hb2).mono ?_
    rintro e w3 ⟨rfl, hb3⟩
    go_wp2_with fail
    refine (H3.out _ hb3).mono ?_
    rintro e w4 ⟨rfl, hb4⟩
    go_wp2_with fail
    refine (H4.out _ hb4).mono ?_
    rintro e w5 ⟨rfl, hb5⟩
    go_wp2_with fail
    refine (H5.out _ hb5).mono ?_
    rintro e w6 ⟨rfl, hb6⟩
    go_wp2_with fail
    refine (H6.out _ hb6).mono ?_
    rintro e w7 ⟨rfl, hb7⟩
    go_wp2
    go_ret
    exact ⟨rfl, hb7⟩
end ClassOnce
end Go.Proofs.YtbfmbhilkgnkeaaDoor
