/- ScanTags: the law's walk. -/
import Derived.Test.YtnpaagglnfocpaaGreatDoorScV
namespace Go.Proofs.YtnpaagglnfocpaaGreatDoor
open Go Go.RowKit
namespace ScanTags
open Sc
set_option maxRecDepth 100000
set_option linter.unusedVariables false
set_option linter.unusedSimpArgs false

set_option maxHeartbeats 2000000 in
theorem law_any (s : ByteArray) (w : World) (hL : LaidS w) (hs : s.size ≤ maxLen) :
    Calls Tryz.prog 4 #[.string s] w fun e w' => e = .returned (.bool true) ∧ Below w.heap.size w w' := by
  unfold maxLen at hs
  have HA := Lib.hid (frm_awake hL)
  have hb0 := Below.refl w.heap.size w
  by_cases hbig : 1000 < s.size
  · have hb' : (1000 : Int) < (s.size : Int) := by omega
    clear hL
    go_enter Tryz.func4, Tryz.ntmps4
    go_wp2_with fail
    refine (HA.out _ hb0).mono ?_
    rintro e w1 ⟨rfl, hb1⟩
    go_wp2
    go_ret
    exact ⟨rfl, hb1⟩
  · have hb' : (s.size : Int) ≤ 1000 := by omega
    have hz : s.size ≤ 100000 := by omega
    obtain ⟨a, ha⟩ : ∃ a, tagN s.data.toList = a := ⟨_, rfl⟩
    have F1 := Lib.hid (frm_tag hL hz ha)
    have G1 := Lib.hid (frm_rtag hL hz ha)
    clear hL ha hbig
    go_enter Tryz.func4, Tryz.ntmps4
    go_wp2_with fail
    refine (HA.out _ hb0).mono ?_
    rintro e w1 ⟨rfl, hb1⟩
    go_wp2_with fail
    refine (F1.out _ hb1).mono ?_
    rintro e w2 ⟨rfl, hb2⟩
    go_wp2_with fail
    refine (G1.out _ hb2).mono ?_
    rintro e w3 ⟨rfl, hb3⟩
    go_wp2
    go_ret
    exact ⟨rfl, hb3⟩
end ScanTags
end Go.Proofs.YtnpaagglnfocpaaGreatDoor
