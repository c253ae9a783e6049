/-
  NARROWER THAN 'FOR EVERY INPUT', by the rows' own cells (each row's printed sentence says how): ClassIs: laid · ClassFolds: laid · ClassOnce: laid · ClassBlanks: laid · ClassSigns: laid · ClassSums: laid.
  DERIVED. THE GIVEN ROWS OF THIS SEAT. 6 by the template 'for every input the law returns true; each argument reads behind the call as it read before'; 0 by the template 'total and deterministic' (their statements: YtbfmbhilkgnkeaaDoorTotals.lean).
  GIVEN WITH THE SEED: the statements are not yours to turn. If you find one false, say at which input.
  Laid BY PROGRAM, IN A SANDBOX (cutbox-rows.mjs): the forced cells as the released guide's own fill.sh prints them over the translation 1d391755291e1a8b… (all of the seat's roots in one cut). By AI agents, Wed Nov 11 2026. No macro, syntax, notation, axiom, sorry.
-/
import Derived.Test.YtbfmbhilkgnkeaaDoorChecked
import GoSem.Claim
import GoSem.ClaimJoined
import GoSem.ClaimMapViews
import Derived.JoinedTies
import Derived.KernelRfl
namespace Go.Proofs.YtbfmbhilkgnkeaaDoor
/- THE CELL 'sum', in the pinned program and in every row, IS THE sha256 OF THE DUMP (.gsa) THAT YtbfmbhilkgnkeaaDoorProg.lean LOADS. Nothing in Lean hashes anything: it is a label: what it is worth is what the hold of that sum in a sandbox is worth. -/
noncomputable def Tryd.pinned : Pinned := { name := "ytbfmbhilkgnkeaadoor", sum := "1d391755291e1a8b37f7a3e28c8d22bfda69ebded5e837e08ca135afe506fdc0", checked := Tryd.checked }
namespace Rows
def none {H : Type} : Left H := { results := [], args := [] }

/- WHAT THE LISTED PACKAGE-LEVEL VARIABLES READ AS WHEN THE CALL BEGINS. Each datum BY PROGRAM (the guide's laid-datum.mjs) off the statement by which the dump's own 'gosem.cut.vars' lays the variable. In a bare row this is a premise. The card (YtbfmbhilkgnkeaaDoorCards.lean) ties it to the program's text. -/
def laid_incipit_class_kinds {H : Type} : DataW H := .agg [.agg [.lit (.int .i32 9), .lit (.int .i32 10), .lit (.int .i64 1)], .agg [.lit (.int .i32 12), .lit (.int .i32 13), .lit (.int .i64 1)], .agg [.lit (.int .i32 32), .lit (.int .i32 32), .lit (.int .i64 1)], .agg [.lit (.int .i32 33), .lit (.int .i32 47), .lit (.int .i64 2)], .agg [.lit (.int .i32 58), .lit (.int .i32 64), .lit (.int .i64 2)], .agg [.lit (.int .i32 91), .lit (.int .i32 96), .lit (.int .i64 2)], .agg [.lit (.int .i32 123), .lit (.int .i32 126), .lit (.int .i64 2)], .agg [.lit (.int .i32 160), .lit (.int .i32 160), .lit (.int .i64 1)], .agg [.lit (.int .i32 161), .lit (.int .i32 169), .lit (.int .i64 2)], .agg [.lit (.int .i32 171), .lit (.int .i32 172), .lit (.int .i64 2)], .agg [.lit (.int .i32 174), .lit (.int .i32 177), .lit (.int .i64 2)], .agg [.lit (.int .i32 180), .lit (.int .i32 180), .lit (.int .i64 2)], .agg [.lit (.int .i32 182), .lit (.int .i32 184), .lit (.int .i64 2)], .agg [.lit (.int .i32 187), .lit (.int .i32 187), .lit (.int .i64 2)], .agg [.lit (.int .i32 191), .lit (.int .i32 191), .lit (.int .i64 2)], .agg [.lit (.int .i32 215), .lit (.int .i32 215), .lit (.int .i64 2)], .agg [.lit (.int .i32 247), .lit (.int .i32 247), .lit (.int .i64 2)], .agg [.lit (.int .i32 5760), .lit (.int .i32 5760), .lit (.int .i64 1)], .agg [.lit (.int .i32 8192), .lit (.int .i32 8202), .lit (.int .i64 1)], .agg [.lit (.int .i32 8208), .lit (.int .i32 8231), .lit (.int .i64 2)], .agg [.lit (.int .i32 8239), .lit (.int .i32 8239), .lit (.int .i64 1)], .agg [.lit (.int .i32 8240), .lit (.int .i32 8286), .lit (.int .i64 2)], .agg [.lit (.int .i32 8287), .lit (.int .i32 8287), .lit (.int .i64 1)], .agg [.lit (.int .i32 8352), .lit (.int .i32 8384), .lit (.int .i64 2)], .agg [.lit (.int .i32 12288), .lit (.int .i32 12288), .lit (.int .i64 1)], .agg [.lit (.int .i32 12289), .lit (.int .i32 12291), .lit (.int .i64 2)], .agg [.lit (.int .i32 12296), .lit (.int .i32 12319), .lit (.int .i64 2)], .agg [.lit (.int .i32 65281), .lit (.int .i32 65295), .lit (.int .i64 2)]]
def laid_incipit_class_capitals {H : Type} : DataW H := .agg [.agg [.lit (.int .i32 65), .lit (.int .i32 90), .lit (.int .i32 32)], .agg [.lit (.int .i32 192), .lit (.int .i32 214), .lit (.int .i32 32)], .agg [.lit (.int .i32 216), .lit (.int .i32 222), .lit (.int .i32 32)], .agg [.lit (.int .i32 913), .lit (.int .i32 929), .lit (.int .i32 32)], .agg [.lit (.int .i32 931), .lit (.int .i32 939), .lit (.int .i32 32)], .agg [.lit (.int .i32 962), .lit (.int .i32 962), .lit (.int .i32 1)], .agg [.lit (.int .i32 1024), .lit (.int .i32 1039), .lit (.int .i32 80)], .agg [.lit (.int .i32 1040), .lit (.int .i32 1071), .lit (.int .i32 32)]]

/-- 'incipitlaw03.ClassIs': WHATEVER THE INPUT: true; the input reads as it did. -/
def classIsSpec : ChangeSpec := { name := "classIs", fn := fun _ => fun
  | [d1, d2] => { results := [.lit (.bool true)], args := [d1, d2] }
  | _ => none }
def classIsRow : OpenClaim := { program := "ytbfmbhilkgnkeaadoor", sum := "1d391755291e1a8b37f7a3e28c8d22bfda69ebded5e837e08ca135afe506fdc0", func := "incipit/incipitlaw03.ClassIs", spec := "classIs", inPlace := ["internal/abi.NoEscape", "internal/bytealg.MakeNoZero"], unfollowed := true, recurses := true, named := ["incipit/class.capitals", "incipit/class.kinds"], apart := false, laid := [("incipit/class.kinds", laid_incipit_class_kinds), ("incipit/class.capitals", laid_incipit_class_capitals)] }
def ClassIsSaid : Prop := classIsRow.holds Tryd.pinned (OpenSpec.ofChange classIsSpec)

/-- ITS FALSE NEIGHBOUR: 'it returns false'. Refute it at one input. -/
def classIsWrong : ChangeSpec := { name := "classIs", fn := fun _ => fun
  | [d1, d2] => { results := [.lit (.bool false)], args := [d1, d2] }
  | _ => none }
def ClassIsWrongFalsely : Prop := classIsRow.holds Tryd.pinned (OpenSpec.ofChange classIsWrong)

/-- 'incipitlaw03.ClassFolds': WHATEVER THE INPUT: true; the input reads as it did. -/
def classFoldsSpec : ChangeSpec := { name := "classFolds", fn := fun _ => fun
  | [d] => { results := [.lit (.bool true)], args := [d] }
  | _ => none }
def classFoldsRow : OpenClaim := { program := "ytbfmbhilkgnkeaadoor", sum := "1d391755291e1a8b37f7a3e28c8d22bfda69ebded5e837e08ca135afe506fdc0", func := "incipit/incipitlaw03.ClassFolds", spec := "classFolds", inPlace := ["internal/abi.NoEscape", "internal/bytealg.MakeNoZero"], unfollowed := true, recurses := true, named := ["incipit/class.capitals", "incipit/class.kinds"], apart := false, laid := [("incipit/class.kinds", laid_incipit_class_kinds), ("incipit/class.capitals", laid_incipit_class_capitals)] }
def ClassFoldsSaid : Prop := classFoldsRow.holds Tryd.pinned (OpenSpec.ofChange classFoldsSpec)

/-- ITS FALSE NEIGHBOUR: 'it returns false'. Refute it at one input. -/
def classFoldsWrong : ChangeSpec := { name := "classFolds", fn := fun _ => fun
  | [d] => { results := [.lit (.bool false)], args := [d] }
  | _ => none }
def ClassFoldsWrongFalsely : Prop := classFoldsRow.holds Tryd.pinned (OpenSpec.ofChange classFoldsWrong)

/-- 'incipitlaw03.ClassOnce': WHATEVER THE INPUT: true; the input reads as it did. -/
def classOnceSpec : ChangeSpec := { name := "classOnce", fn := fun _ => fun
  | [d] => { results := [.lit (.bool true)], args := [d] }
  | _ => none }
def classOnceRow : OpenClaim := { program := "ytbfmbhilkgnkeaadoor", sum := "1d391755291e1a8b37f7a3e28c8d22bfda69ebded5e837e08ca135afe506fdc0", func := "incipit/incipitlaw03.ClassOnce", spec := "classOnce", inPlace := ["internal/abi.NoEscape", "internal/bytealg.MakeNoZero"], unfollowed := true, recurses := true, named := ["incipit/class.capitals", "incipit/class.kinds"], apart := false, laid := [("incipit/class.kinds", laid_incipit_class_kinds), ("incipit/class.capitals", laid_incipit_class_capitals)] }
def ClassOnceSaid : Prop := classOnceRow.holds Tryd.pinned (OpenSpec.ofChange classOnceSpec)

/-- ITS FALSE NEIGHBOUR: 'it returns false'. Refute it at one input. -/
def classOnceWrong : ChangeSpec := { name := "classOnce", fn := fun _ => fun
  | [d] => { results := [.lit (.bool false)], args := [d] }
  | _ => none }
def ClassOnceWrongFalsely : Prop := classOnceRow.holds Tryd.pinned (OpenSpec.ofChange classOnceWrong)

/-- 'incipitlaw03.ClassBlanks': WHATEVER THE INPUT: true; the input reads as it did. -/
def classBlanksSpec : ChangeSpec := { name := "classBlanks", fn := fun _ => fun
  | [d1, d2, d3] => { results := [.lit (.bool true)], args := [d1, d2, d3] }
  | _ => none }
def classBlanksRow : OpenClaim := { program := "ytbfmbhilkgnkeaadoor", sum := "1d391755291e1a8b37f7a3e28c8d22bfda69ebded5e837e08ca135afe506fdc0", func := "incipit/incipitlaw03.ClassBlanks", spec := "classBlanks", inPlace := ["internal/abi.NoEscape", "internal/bytealg.MakeNoZero"], unfollowed := true, recurses := true, named := ["incipit/class.capitals", "incipit/class.kinds"], apart := false, laid := [("incipit/class.kinds", laid_incipit_class_kinds), ("incipit/class.capitals", laid_incipit_class_capitals)] }
def ClassBlanksSaid : Prop := classBlanksRow.holds Tryd.pinned (OpenSpec.ofChange classBlanksSpec)

/-- ITS FALSE NEIGHBOUR: 'it returns false'. Refute it at one input. -/
def classBlanksWrong : ChangeSpec := { name := "classBlanks", fn := fun _ => fun
  | [d1, d2, d3] => { results := [.lit (.bool false)], args := [d1, d2, d3] }
  | _ => none }
def ClassBlanksWrongFalsely : Prop := classBlanksRow.holds Tryd.pinned (OpenSpec.ofChange classBlanksWrong)

/-- 'incipitlaw03.ClassSigns': WHATEVER THE INPUT: true; the input reads as it did. -/
def classSignsSpec : ChangeSpec := { name := "classSigns", fn := fun _ => fun
  | [d] => { results := [.lit (.bool true)], args := [d] }
  | _ => none }
def classSignsRow : OpenClaim := { program := "ytbfmbhilkgnkeaadoor", sum := "1d391755291e1a8b37f7a3e28c8d22bfda69ebded5e837e08ca135afe506fdc0", func := "incipit/incipitlaw03.ClassSigns", spec := "classSigns", inPlace := ["internal/abi.NoEscape", "internal/bytealg.MakeNoZero"], unfollowed := true, recurses := true, named := ["incipit/class.capitals", "incipit/class.kinds"], apart := false, laid := [("incipit/class.kinds", laid_incipit_class_kinds), ("incipit/class.capitals", laid_incipit_class_capitals)] }
def ClassSignsSaid : Prop := classSignsRow.holds Tryd.pinned (OpenSpec.ofChange classSignsSpec)

/-- ITS FALSE NEIGHBOUR: 'it returns false'. Refute it at one input. -/
def classSignsWrong : ChangeSpec := { name := "classSigns", fn := fun _ => fun
  | [d] => { results := [.lit (.bool false)], args := [d] }
  | _ => none }
def ClassSignsWrongFalsely : Prop := classSignsRow.holds Tryd.pinned (OpenSpec.ofChange classSignsWrong)

/-- 'incipitlaw03.ClassSums': WHATEVER THE INPUT: true; the input reads as it did. -/
def classSumsSpec : ChangeSpec := { name := "classSums", fn := fun _ => fun
  | [d1, d2] => { results := [.lit (.bool true)], args := [d1, d2] }
  | _ => none }
def classSumsRow : OpenClaim := { program := "ytbfmbhilkgnkeaadoor", sum := "1d391755291e1a8b37f7a3e28c8d22bfda69ebded5e837e08ca135afe506fdc0", func := "incipit/incipitlaw03.ClassSums", spec := "classSums", inPlace := ["internal/abi.NoEscape", "internal/bytealg.MakeNoZero"], unfollowed := true, recurses := true, named := ["incipit/class.capitals", "incipit/class.kinds"], apart := false, laid := [("incipit/class.kinds", laid_incipit_class_kinds), ("incipit/class.capitals", laid_incipit_class_capitals)] }
def ClassSumsSaid : Prop := classSumsRow.holds Tryd.pinned (OpenSpec.ofChange classSumsSpec)

/-- ITS FALSE NEIGHBOUR: 'it returns false'. Refute it at one input. -/
def classSumsWrong : ChangeSpec := { name := "classSums", fn := fun _ => fun
  | [d1, d2] => { results := [.lit (.bool false)], args := [d1, d2] }
  | _ => none }
def ClassSumsWrongFalsely : Prop := classSumsRow.holds Tryd.pinned (OpenSpec.ofChange classSumsWrong)

/- THE SECOND FORM. 'bulk': how many values and letters a reading holds, each counted each time it is reached (what is shared counts as often as it is met; a slice's spare places count too). A statement '..UptoSaid' is the law's where the arguments, and the package variables that the reading takes, are together of bulk at most 1048576: NARROWER than '..Said'. Prove '..Said' where nothing that the law and all that it calls make is longer than what came in: it says more and counts as full. Else prove '..UptoSaid'. A law counts once. -/
mutual
def uptoBulk {H : Type} : DataW H → Nat
  | .lit (.string bytes) => bytes.length + 1
  | .lit _ => 1
  | .nil => 1
  | .ptr d => uptoBulk d + 1
  | .slice elems spare => uptoBulkAll elems + uptoBulkAll spare + 1
  | .agg parts => uptoBulkAll parts + 1
  | .iface _ d => uptoBulk d + 1
  | .map entries => uptoBulkEntries entries + 1
  | .held _ => 1
def uptoBulkAll {H : Type} : List (DataW H) → Nat
  | [] => 0
  | d :: r => uptoBulk d + uptoBulkAll r
def uptoBulkEntries {H : Type} : List (Lit × DataW H) → Nat
  | [] => 0
  | x :: r => uptoBulkEntry x + uptoBulkEntries r
def uptoBulkEntry {H : Type} : Lit × DataW H → Nat
  | (.string bytes, d) => bytes.length + uptoBulk d + 1
  | (_, d) => uptoBulk d + 1
 end
def uptoSmall : (H : Type) → List (DataW H) → Bool := fun _ ds => decide (uptoBulkAll ds ≤ 1048576)
def OpenSpec.upto (s : _root_.Go.ChangeSpec) : _root_.Go.OpenSpec := { _root_.Go.OpenSpec.ofChange s with cond := some uptoSmall }

/-- 'incipitlaw03.ClassIs', WHERE WHAT IT READS IS OF BULK AT MOST 1048576: true; the input reads as it did. -/
def classIsUptoRow : OpenClaim := { program := "ytbfmbhilkgnkeaadoor", sum := "1d391755291e1a8b37f7a3e28c8d22bfda69ebded5e837e08ca135afe506fdc0", func := "incipit/incipitlaw03.ClassIs", spec := "classIs", inPlace := ["internal/abi.NoEscape", "internal/bytealg.MakeNoZero"], unfollowed := true, recurses := true, named := ["incipit/class.capitals", "incipit/class.kinds"], apart := false, laid := [("incipit/class.kinds", laid_incipit_class_kinds), ("incipit/class.capitals", laid_incipit_class_capitals)], narrowed := true }
def ClassIsUptoSaid : Prop := classIsUptoRow.holds Tryd.pinned (OpenSpec.upto classIsSpec)

/-- 'incipitlaw03.ClassFolds', WHERE WHAT IT READS IS OF BULK AT MOST 1048576: true; the input reads as it did. -/
def classFoldsUptoRow : OpenClaim := { program := "ytbfmbhilkgnkeaadoor", sum := "1d391755291e1a8b37f7a3e28c8d22bfda69ebded5e837e08ca135afe506fdc0", func := "incipit/incipitlaw03.ClassFolds", spec := "classFolds", inPlace := ["internal/abi.NoEscape", "internal/bytealg.MakeNoZero"], unfollowed := true, recurses := true, named := ["incipit/class.capitals", "incipit/class.kinds"], apart := false, laid := [("incipit/class.kinds", laid_incipit_class_kinds), ("incipit/class.capitals", laid_incipit_class_capitals)], narrowed := true }
def ClassFoldsUptoSaid : Prop := classFoldsUptoRow.holds Tryd.pinned (OpenSpec.upto classFoldsSpec)

/-- 'incipitlaw03.ClassOnce', WHERE WHAT IT READS IS OF BULK AT MOST 1048576: true; the input reads as it did. -/
def classOnceUptoRow : OpenClaim := { program := "ytbfmbhilkgnkeaadoor", sum := "1d391755291e1a8b37f7a3e28c8d22bfda69ebded5e837e08ca135afe506fdc0", func := "incipit/incipitlaw03.ClassOnce", spec := "classOnce", inPlace := ["internal/abi.NoEscape", "internal/bytealg.MakeNoZero"], unfollowed := true, recurses := true, named := ["incipit/class.capitals", "incipit/class.kinds"], apart := false, laid := [("incipit/class.kinds", laid_incipit_class_kinds), ("incipit/class.capitals", laid_incipit_class_capitals)], narrowed := true }
def ClassOnceUptoSaid : Prop := classOnceUptoRow.holds Tryd.pinned (OpenSpec.upto classOnceSpec)

/-- 'incipitlaw03.ClassBlanks', WHERE WHAT IT READS IS OF BULK AT MOST 1048576: true; the input reads as it did. -/
def classBlanksUptoRow : OpenClaim := { program := "ytbfmbhilkgnkeaadoor", sum := "1d391755291e1a8b37f7a3e28c8d22bfda69ebded5e837e08ca135afe506fdc0", func := "incipit/incipitlaw03.ClassBlanks", spec := "classBlanks", inPlace := ["internal/abi.NoEscape", "internal/bytealg.MakeNoZero"], unfollowed := true, recurses := true, named := ["incipit/class.capitals", "incipit/class.kinds"], apart := false, laid := [("incipit/class.kinds", laid_incipit_class_kinds), ("incipit/class.capitals", laid_incipit_class_capitals)], narrowed := true }
def ClassBlanksUptoSaid : Prop := classBlanksUptoRow.holds Tryd.pinned (OpenSpec.upto classBlanksSpec)

/-- 'incipitlaw03.ClassSigns', WHERE WHAT IT READS IS OF BULK AT MOST 1048576: true; the input reads as it did. -/
def classSignsUptoRow : OpenClaim := { program := "ytbfmbhilkgnkeaadoor", sum := "1d391755291e1a8b37f7a3e28c8d22bfda69ebded5e837e08ca135afe506fdc0", func := "incipit/incipitlaw03.ClassSigns", spec := "classSigns", inPlace := ["internal/abi.NoEscape", "internal/bytealg.MakeNoZero"], unfollowed := true, recurses := true, named := ["incipit/class.capitals", "incipit/class.kinds"], apart := false, laid := [("incipit/class.kinds", laid_incipit_class_kinds), ("incipit/class.capitals", laid_incipit_class_capitals)], narrowed := true }
def ClassSignsUptoSaid : Prop := classSignsUptoRow.holds Tryd.pinned (OpenSpec.upto classSignsSpec)

/-- 'incipitlaw03.ClassSums', WHERE WHAT IT READS IS OF BULK AT MOST 1048576: true; the input reads as it did. -/
def classSumsUptoRow : OpenClaim := { program := "ytbfmbhilkgnkeaadoor", sum := "1d391755291e1a8b37f7a3e28c8d22bfda69ebded5e837e08ca135afe506fdc0", func := "incipit/incipitlaw03.ClassSums", spec := "classSums", inPlace := ["internal/abi.NoEscape", "internal/bytealg.MakeNoZero"], unfollowed := true, recurses := true, named := ["incipit/class.capitals", "incipit/class.kinds"], apart := false, laid := [("incipit/class.kinds", laid_incipit_class_kinds), ("incipit/class.capitals", laid_incipit_class_capitals)], narrowed := true }
def ClassSumsUptoSaid : Prop := classSumsUptoRow.holds Tryd.pinned (OpenSpec.upto classSumsSpec)

end Rows
end Go.Proofs.YtbfmbhilkgnkeaaDoor
