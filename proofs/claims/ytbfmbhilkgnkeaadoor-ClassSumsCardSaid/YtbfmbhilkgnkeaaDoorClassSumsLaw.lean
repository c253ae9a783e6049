/- ClassSums: the law's walk. -/
import Derived.Test.YtbfmbhilkgnkeaaDoorClassG
namespace Go.Proofs.YtbfmbhilkgnkeaaDoor
open Go Go.RowKit
namespace ClassSums
open Tx Ks
set_option maxRecDepth 100000
set_option linter.unusedVariables false
set_option linter.unusedSimpArgs false

set_option maxHeartbeats 2000000 in
theorem law_any (la lb : List UInt8) (a b : Value) (w : World) (hL : Laid w) (ha : Sl w a la) (hb : Sl w b lb) :
    Calls Tryd.prog 8 #[a, b] w fun e w' => e = .returned (.bool true) ∧ Below w.heap.size w w' := by
  have HA := Lib.hid (frm_awake hL)
  have HVa := Lib.hid ha
  have HVb := Lib.hid hb
  obtain ⟨ao, cap, rfl, hla, hca, _⟩ := ha
  obtain ⟨bo, cap2, rfl, hlb, hcb, _⟩ := hb
  unfold maxLen at hca hcb
  have hb0 := Below.refl w.heap.size w
  by_cases h1 : 1000 < la.length
  · have h1' : (1000 : Int) < (la.length : Int) := by omega
    clear hL
    go_enter Tryd.func8, Tryd.ntmps8
    go_wp2_with fail
    refine (HA.out _ hb0).mono ?_
    rintro e w1 ⟨rfl, hb1⟩
    go_wp2
    go_ret
    exact ⟨rfl, hb1⟩
  have h1' : (la.length : Int) ≤ 1000 := by omega
  by_cases h2 : 1000 < lb.length
  · have h2' : (1000 : Int) < (lb.length : Int) := by omega
    clear hL
    go_enter Tryd.func8, Tryd.ntmps8
    go_wp2_with fail
    refine (HA.out _ hb0).mono ?_
    rintro e w1 ⟨rfl, hb1⟩
    go_wp2
    go_ret
    exact ⟨rfl, hb1⟩
  · have h2' : (lb.length : Int) ≤ 1000 := by omega
    have hca1 := clean_length la
    have hca2 := clean_length lb
    have CA : Hid (Frm w 20 #[.slice ao la.length cap] (.string ⟨(clean la).toArray⟩)) := Lib.hid (fun W hb => (clean_any la _ W (HVa.out.below hb) (by omega)).mono fun e w' ⟨h1, h2⟩ => ⟨h1, hb.trans (h2.mono hb.size)⟩)
    have CB : Hid (Frm w 20 #[.slice bo lb.length cap2] (.string ⟨(clean lb).toArray⟩)) := Lib.hid (fun W hb => (clean_any lb _ W (HVb.out.below hb) (by omega)).mono fun e w' ⟨h1, h2⟩ => ⟨h1, hb.trans (h2.mono hb.size)⟩)
    have F1 := Lib.hid (frm_fold hL (s := ⟨(clean la).toArray⟩) (l := clean la) rfl rfl (by omega))
    have F2 := Lib.hid (frm_fold hL (s := ⟨(clean lb).toArray⟩) (l := clean lb) rfl rfl (by omega))
    have F3 := Lib.hid (frm_fold hL (s := (⟨(clean la).toArray⟩ : ByteArray) ++ ⟨(clean lb).toArray⟩) (l := clean la ++ clean lb) (by rw [mk_app]) (fold_sums la lb) (by simp; omega))
    rw [← mk_app (fold (clean la)) (fold (clean lb))] at F3
    have hf1 := fold_len (clean la)
    have hf2 := fold_len (clean lb)
    have hs1 : (⟨(clean la).toArray⟩ : ByteArray).size ≤ 3000 := by rw [size_mk]; omega
    have hs2 : (⟨(clean lb).toArray⟩ : ByteArray).size ≤ 3000 := by rw [size_mk]; omega
    have hs3 : (⟨(fold (clean la)).toArray⟩ : ByteArray).size ≤ 24000 := by rw [size_mk]; omega
    have hs4 : (⟨(fold (clean lb)).toArray⟩ : ByteArray).size ≤ 24000 := by rw [size_mk]; omega
    clear hL h1 h2 hca1 hca2 hf1 hf2 hla hlb
    generalize (⟨(fold (clean la)).toArray⟩ : ByteArray) = fx at *
    generalize (⟨(fold (clean lb)).toArray⟩ : ByteArray) = fy at *
    generalize (⟨(clean la).toArray⟩ : ByteArray) = x at *
    generalize (⟨(clean lb).toArray⟩ : ByteArray) = y at *
    go_enter Tryd.func8, Tryd.ntmps8
    go_wp2_with fail
    refine (HA.out _ hb0).mono ?_
    rintro e w1 ⟨rfl, hb1⟩
    go_wp2_with fail
    refine (CA.out _ hb1).mono ?_
    rintro e w2 ⟨rfl, hb2⟩
    go_wp2_with fail
    refine (CB.out _ hb2).mono ?_
    rintro e w3 ⟨rfl, hb3⟩
    go_wp2_with fail
    refine (F3.out _ hb3).mono ?_
    rintro e w4 ⟨rfl, hb4⟩
    go_wp2_with fail
    refine (F1.out _ hb4).mono ?_
    rintro e w5 ⟨rfl, hb5⟩
    go_wp2_with fail
    refine (F2.out _ hb5).mono ?_
    rintro e w6 ⟨rfl, hb6⟩
    go_wp2
    go_ret
    exact ⟨rfl, hb6⟩
end ClassSums
end Go.Proofs.YtbfmbhilkgnkeaaDoor
