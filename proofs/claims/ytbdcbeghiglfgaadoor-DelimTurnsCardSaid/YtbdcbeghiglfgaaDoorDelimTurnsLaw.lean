/- DelimTurns: the law's walk. -/
import Derived.Test.YtbdcbeghiglfgaaDoorDlAw
namespace Go.Proofs.YtbdcbeghiglfgaaDoor
open Go Go.RowKit
namespace DelimTurns
open Dl
set_option maxRecDepth 100000
set_option linter.unusedVariables false
set_option linter.unusedSimpArgs false

set_option maxHeartbeats 8000000 in
theorem law_any (b a : Int) (c : UInt8) (w : World) (hP : Prog13 w) :
    Calls Tryd.prog 6 #[.int .i32 b, .int .i32 a, .int .u8 (c.toNat : Int)] w fun e w' => e = .returned (.bool true) ∧ Below w.heap.size w w' := by
  have HA := Lib.hid (awake_any w hP)
  have HF := Lib.hid (hP.flank b a c)
  have HG : Hid (∀ W, Below w.heap.size w W → Calls Tryd.prog 11 #[.int .i32 a, .int .i32 b, .int .u8 (c.toNat : Int)] W fun e w' => e = .returned (.tuple #[.bool (flankP b a c).2, .bool (flankP b a c).1]) ∧ Below W.heap.size W w') := Lib.hid (fun W hW => (hP.flank a b c W hW).mono (by rintro e w' ⟨rfl, hb⟩; exact ⟨by unfold flankV; rw [flank_turn], hb⟩))
  unfold flankV at HF
  generalize flankP b a c = p at *
  obtain ⟨x, y⟩ := p
  have e1 : (x == x) = true := by simp
  have e2 : (y == y) = true := by simp
  have hb0 := Below.refl w.heap.size w
  clear hP
  go_enter Tryd.func6, Tryd.ntmps6
  go_wp2_with fail
  refine HA.out.mono ?_
  rintro e w1 ⟨rfl, hb1⟩
  go_wp2_with fail
  refine (HF.out _ hb1).mono ?_
  rintro e w2 ⟨rfl, hb2⟩
  have hb2' := below_later hb1 hb2
  go_wp2_with fail
  refine (HG.out _ hb2').mono ?_
  rintro e w3 ⟨rfl, hb3⟩
  have hb3' := below_later hb2' hb3
  go_wp2
  go_ret
  exact ⟨rfl, hb3'⟩
end DelimTurns
end Go.Proofs.YtbdcbeghiglfgaaDoor
