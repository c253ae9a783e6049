/- EntityReads: the law's walk. -/
import Derived.Test.YtgdgaagfambliaaEntJ
namespace Go.Proofs.Ytgdgaagfambliaa
open Go Go.RowKit
namespace EntityReads
open En
set_option maxRecDepth 100000
set_option linter.unusedVariables false
set_option linter.unusedSimpArgs false

set_option maxHeartbeats 1000000 in
theorem law_any (s : ByteArray) (w : World) (hs : s.size ≤ maxLen) :
    Calls Try.prog 3 #[.string s] w fun e w' => e = .returned (.bool true) ∧ Below w.heap.size w w' := by
  unfold maxLen at hs
  have HA := Lib.hid (frm_awake w)
  have hb0 := Below.refl w.heap.size w
  by_cases hbig : 500 < s.size
  · have hb' : (500 : Int) < (s.size : Int) := by omega
    go_enter Try.func3, Try.ntmps3
    go_wp2_with fail
    refine (HA.out _ hb0).mono ?_
    rintro e w1 ⟨rfl, hb1⟩
    go_wp2
    go_ret
    exact ⟨rfl, hb1⟩
  · have hb' : (s.size : Int) ≤ 500 := by omega
    have H1 := Lib.hid (frm_read w (s := s) rfl rfl (by rw [sz]; omega))
    have H2 := Lib.hid (frm_rread w (s := s) rfl rfl (by rw [sz]; omega))
    obtain ⟨b, n, hv⟩ := resV_form (rread s.data.toList)
    rw [hv] at H1 H2
    clear hv hbig
    go_enter Try.func3, Try.ntmps3
    go_wp2_with fail
    refine (HA.out _ hb0).mono ?_
    rintro e w1 ⟨rfl, hb1⟩
    go_wp2_with fail
    refine (H1.out _ hb1).mono ?_
    rintro e w2 ⟨rfl, hb2⟩
    go_wp2_with fail
    refine (H2.out _ hb2).mono ?_
    rintro e w3 ⟨rfl, hb3⟩
    go_wp2
    go_ret
    exact ⟨rfl, hb3⟩
end EntityReads
end Go.Proofs.Ytgdgaagfambliaa
