/- From the world's shape to what the walks ask. -/
import Derived.Test.YtapibalcekedfaaGreatDoorSpG
import Derived.Test.YtapibalcekedfaaGreatDoorKitS
import Derived.Deep.Strs
import Derived.OpenShut
import Derived.LaidMore
namespace Go.Proofs.YtapibalcekedfaaGreatDoor
open Go Go.ChangeShapes Go.WideShapes Go.ChangeAt Go.RowKit
namespace Sp
set_option maxRecDepth 100000
set_option linter.unusedVariables false

/-- What the condition gives the walks. -/
theorem laid_of {W : World} {L : List (String × DataW Unit)} (h : laidMetH Tryz.prog L W) (hs : W.ShapedOpen Tryz.prog) : LaidP W :=
  cell_of_shapedOpen_int (t := 3) (zero := #[.int .i64 0]) hs (of_decide_eq_true (by kernel_rfl)) (by kernel_rfl) rfl (by kernel_rfl) (by kernel_rfl) Tryz.underlying3
end Sp
end Go.Proofs.YtapibalcekedfaaGreatDoor
