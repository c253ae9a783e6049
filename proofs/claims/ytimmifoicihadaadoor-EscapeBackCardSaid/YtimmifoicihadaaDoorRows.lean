/-
  NARROWER THAN 'FOR EVERY INPUT', by the rows' own cells (each row's printed sentence says how): EscapeIs: laid · EscapeSafe: laid · EscapeBack: laid · EscapeSigns: laid · EscapeParts: laid · EscapePlain: laid · EscapeCuts: laid.
  DERIVED. THE GIVEN ROWS OF THIS SEAT. 7 by the template 'for every input the law returns true; each argument reads behind the call as it read before'; 0 by the template 'total and deterministic' (their statements: YtimmifoicihadaaDoorTotals.lean).
  GIVEN WITH THE SEED: the statements are not yours to turn. If you find one false, say at which input.
  Laid BY PROGRAM, IN A SANDBOX (cutbox-rows.mjs): the forced cells as the released guide's own fill.sh prints them over the translation 5a004bc190009ba0… (all of the seat's roots in one cut). By AI agents, Wed Nov 11 2026. No macro, syntax, notation, axiom, sorry.
-/
import Derived.Test.YtimmifoicihadaaDoorChecked
import GoSem.Claim
import GoSem.ClaimJoined
import GoSem.ClaimMapViews
import Derived.JoinedTies
import Derived.KernelRfl
namespace Go.Proofs.YtimmifoicihadaaDoor
/- THE CELL 'sum', in the pinned program and in every row, IS THE sha256 OF THE DUMP (.gsa) THAT YtimmifoicihadaaDoorProg.lean LOADS. Nothing in Lean hashes anything: it is a label: what it is worth is what the hold of that sum in a sandbox is worth. -/
noncomputable def Tryd.pinned : Pinned := { name := "ytimmifoicihadaadoor", sum := "5a004bc190009ba0b0fb370653e7e71d76dd9a53f5cac6dcc7707ff54123b93a", checked := Tryd.checked }
namespace Rows
def none {H : Type} : Left H := { results := [], args := [] }

/- WHAT THE LISTED PACKAGE-LEVEL VARIABLES READ AS WHEN THE CALL BEGINS. Each datum BY PROGRAM (the guide's laid-datum.mjs) off the statement by which the dump's own 'gosem.cut.vars' lays the variable. In a bare row this is a premise. The card (YtimmifoicihadaaDoorCards.lean) ties it to the program's text. -/
def laid_incipit_class_kinds {H : Type} : DataW H := .agg [.agg [.lit (.int .i32 9), .lit (.int .i32 10), .lit (.int .i64 1)], .agg [.lit (.int .i32 12), .lit (.int .i32 13), .lit (.int .i64 1)], .agg [.lit (.int .i32 32), .lit (.int .i32 32), .lit (.int .i64 1)], .agg [.lit (.int .i32 33), .lit (.int .i32 47), .lit (.int .i64 2)], .agg [.lit (.int .i32 58), .lit (.int .i32 64), .lit (.int .i64 2)], .agg [.lit (.int .i32 91), .lit (.int .i32 96), .lit (.int .i64 2)], .agg [.lit (.int .i32 123), .lit (.int .i32 126), .lit (.int .i64 2)], .agg [.lit (.int .i32 160), .lit (.int .i32 160), .lit (.int .i64 1)], .agg [.lit (.int .i32 161), .lit (.int .i32 169), .lit (.int .i64 2)], .agg [.lit (.int .i32 171), .lit (.int .i32 172), .lit (.int .i64 2)], .agg [.lit (.int .i32 174), .lit (.int .i32 177), .lit (.int .i64 2)], .agg [.lit (.int .i32 180), .lit (.int .i32 180), .lit (.int .i64 2)], .agg [.lit (.int .i32 182), .lit (.int .i32 184), .lit (.int .i64 2)], .agg [.lit (.int .i32 187), .lit (.int .i32 187), .lit (.int .i64 2)], .agg [.lit (.int .i32 191), .lit (.int .i32 191), .lit (.int .i64 2)], .agg [.lit (.int .i32 215), .lit (.int .i32 215), .lit (.int .i64 2)], .agg [.lit (.int .i32 247), .lit (.int .i32 247), .lit (.int .i64 2)], .agg [.lit (.int .i32 5760), .lit (.int .i32 5760), .lit (.int .i64 1)], .agg [.lit (.int .i32 8192), .lit (.int .i32 8202), .lit (.int .i64 1)], .agg [.lit (.int .i32 8208), .lit (.int .i32 8231), .lit (.int .i64 2)], .agg [.lit (.int .i32 8239), .lit (.int .i32 8239), .lit (.int .i64 1)], .agg [.lit (.int .i32 8240), .lit (.int .i32 8286), .lit (.int .i64 2)], .agg [.lit (.int .i32 8287), .lit (.int .i32 8287), .lit (.int .i64 1)], .agg [.lit (.int .i32 8352), .lit (.int .i32 8384), .lit (.int .i64 2)], .agg [.lit (.int .i32 12288), .lit (.int .i32 12288), .lit (.int .i64 1)], .agg [.lit (.int .i32 12289), .lit (.int .i32 12291), .lit (.int .i64 2)], .agg [.lit (.int .i32 12296), .lit (.int .i32 12319), .lit (.int .i64 2)], .agg [.lit (.int .i32 65281), .lit (.int .i32 65295), .lit (.int .i64 2)]]

/-- 'incipitlaw05.EscapeIs': WHATEVER THE INPUT: true; the input reads as it did. -/
def escapeIsSpec : ChangeSpec := { name := "escapeIs", fn := fun _ => fun
  | [d1, d2] => { results := [.lit (.bool true)], args := [d1, d2] }
  | _ => none }
def escapeIsRow : OpenClaim := { program := "ytimmifoicihadaadoor", sum := "5a004bc190009ba0b0fb370653e7e71d76dd9a53f5cac6dcc7707ff54123b93a", func := "incipit/incipitlaw05.EscapeIs", spec := "escapeIs", inPlace := ["internal/abi.NoEscape", "internal/bytealg.MakeNoZero", "internal/bytealg.IndexByteString", "internal/bytealg.abigen_runtime_cmpstring"], unfollowed := true, recurses := true, named := ["incipit/class.kinds"], apart := false, laid := [("incipit/class.kinds", laid_incipit_class_kinds)] }
def EscapeIsSaid : Prop := escapeIsRow.holds Tryd.pinned (OpenSpec.ofChange escapeIsSpec)

/-- ITS FALSE NEIGHBOUR: 'it returns false'. Refute it at one input. -/
def escapeIsWrong : ChangeSpec := { name := "escapeIs", fn := fun _ => fun
  | [d1, d2] => { results := [.lit (.bool false)], args := [d1, d2] }
  | _ => none }
def EscapeIsWrongFalsely : Prop := escapeIsRow.holds Tryd.pinned (OpenSpec.ofChange escapeIsWrong)

/-- 'incipitlaw05.EscapeSafe': WHATEVER THE INPUT: true; the input reads as it did. -/
def escapeSafeSpec : ChangeSpec := { name := "escapeSafe", fn := fun _ => fun
  | [d] => { results := [.lit (.bool true)], args := [d] }
  | _ => none }
def escapeSafeRow : OpenClaim := { program := "ytimmifoicihadaadoor", sum := "5a004bc190009ba0b0fb370653e7e71d76dd9a53f5cac6dcc7707ff54123b93a", func := "incipit/incipitlaw05.EscapeSafe", spec := "escapeSafe", inPlace := ["internal/abi.NoEscape", "internal/bytealg.MakeNoZero", "internal/bytealg.IndexByteString", "internal/bytealg.abigen_runtime_cmpstring"], unfollowed := true, recurses := true, named := ["incipit/class.kinds"], apart := false, laid := [("incipit/class.kinds", laid_incipit_class_kinds)] }
def EscapeSafeSaid : Prop := escapeSafeRow.holds Tryd.pinned (OpenSpec.ofChange escapeSafeSpec)

/-- ITS FALSE NEIGHBOUR: 'it returns false'. Refute it at one input. -/
def escapeSafeWrong : ChangeSpec := { name := "escapeSafe", fn := fun _ => fun
  | [d] => { results := [.lit (.bool false)], args := [d] }
  | _ => none }
def EscapeSafeWrongFalsely : Prop := escapeSafeRow.holds Tryd.pinned (OpenSpec.ofChange escapeSafeWrong)

/-- 'incipitlaw05.EscapeBack': WHATEVER THE INPUT: true; the input reads as it did. -/
def escapeBackSpec : ChangeSpec := { name := "escapeBack", fn := fun _ => fun
  | [d] => { results := [.lit (.bool true)], args := [d] }
  | _ => none }
def escapeBackRow : OpenClaim := { program := "ytimmifoicihadaadoor", sum := "5a004bc190009ba0b0fb370653e7e71d76dd9a53f5cac6dcc7707ff54123b93a", func := "incipit/incipitlaw05.EscapeBack", spec := "escapeBack", inPlace := ["internal/abi.NoEscape", "internal/bytealg.MakeNoZero", "internal/bytealg.IndexByteString", "internal/bytealg.abigen_runtime_cmpstring"], unfollowed := true, recurses := true, named := ["incipit/class.kinds"], apart := false, laid := [("incipit/class.kinds", laid_incipit_class_kinds)] }
def EscapeBackSaid : Prop := escapeBackRow.holds Tryd.pinned (OpenSpec.ofChange escapeBackSpec)

/-- ITS FALSE NEIGHBOUR: 'it returns false'. Refute it at one input. -/
def escapeBackWrong : ChangeSpec := { name := "escapeBack", fn := fun _ => fun
  | [d] => { results := [.lit (.bool false)], args := [d] }
  | _ => none }
def EscapeBackWrongFalsely : Prop := escapeBackRow.holds Tryd.pinned (OpenSpec.ofChange escapeBackWrong)

/-- 'incipitlaw05.EscapeSigns': WHATEVER THE INPUT: true; the input reads as it did. -/
def escapeSignsSpec : ChangeSpec := { name := "escapeSigns", fn := fun _ => fun
  | [d] => { results := [.lit (.bool true)], args := [d] }
  | _ => none }
def escapeSignsRow : OpenClaim := { program := "ytimmifoicihadaadoor", sum := "5a004bc190009ba0b0fb370653e7e71d76dd9a53f5cac6dcc7707ff54123b93a", func := "incipit/incipitlaw05.EscapeSigns", spec := "escapeSigns", inPlace := ["internal/abi.NoEscape", "internal/bytealg.MakeNoZero", "internal/bytealg.IndexByteString", "internal/bytealg.abigen_runtime_cmpstring"], unfollowed := true, recurses := true, named := ["incipit/class.kinds"], apart := false, laid := [("incipit/class.kinds", laid_incipit_class_kinds)] }
def EscapeSignsSaid : Prop := escapeSignsRow.holds Tryd.pinned (OpenSpec.ofChange escapeSignsSpec)

/-- ITS FALSE NEIGHBOUR: 'it returns false'. Refute it at one input. -/
def escapeSignsWrong : ChangeSpec := { name := "escapeSigns", fn := fun _ => fun
  | [d] => { results := [.lit (.bool false)], args := [d] }
  | _ => none }
def EscapeSignsWrongFalsely : Prop := escapeSignsRow.holds Tryd.pinned (OpenSpec.ofChange escapeSignsWrong)

/-- 'incipitlaw05.EscapeParts': WHATEVER THE INPUT: true; the input reads as it did. -/
def escapePartsSpec : ChangeSpec := { name := "escapeParts", fn := fun _ => fun
  | [d1, d2] => { results := [.lit (.bool true)], args := [d1, d2] }
  | _ => none }
def escapePartsRow : OpenClaim := { program := "ytimmifoicihadaadoor", sum := "5a004bc190009ba0b0fb370653e7e71d76dd9a53f5cac6dcc7707ff54123b93a", func := "incipit/incipitlaw05.EscapeParts", spec := "escapeParts", inPlace := ["internal/abi.NoEscape", "internal/bytealg.MakeNoZero", "internal/bytealg.IndexByteString", "internal/bytealg.abigen_runtime_cmpstring"], unfollowed := true, recurses := true, named := ["incipit/class.kinds"], apart := false, laid := [("incipit/class.kinds", laid_incipit_class_kinds)] }
def EscapePartsSaid : Prop := escapePartsRow.holds Tryd.pinned (OpenSpec.ofChange escapePartsSpec)

/-- ITS FALSE NEIGHBOUR: 'it returns false'. Refute it at one input. -/
def escapePartsWrong : ChangeSpec := { name := "escapeParts", fn := fun _ => fun
  | [d1, d2] => { results := [.lit (.bool false)], args := [d1, d2] }
  | _ => none }
def EscapePartsWrongFalsely : Prop := escapePartsRow.holds Tryd.pinned (OpenSpec.ofChange escapePartsWrong)

/-- 'incipitlaw05.EscapePlain': WHATEVER THE INPUT: true; the input reads as it did. -/
def escapePlainSpec : ChangeSpec := { name := "escapePlain", fn := fun _ => fun
  | [d] => { results := [.lit (.bool true)], args := [d] }
  | _ => none }
def escapePlainRow : OpenClaim := { program := "ytimmifoicihadaadoor", sum := "5a004bc190009ba0b0fb370653e7e71d76dd9a53f5cac6dcc7707ff54123b93a", func := "incipit/incipitlaw05.EscapePlain", spec := "escapePlain", inPlace := ["internal/abi.NoEscape", "internal/bytealg.MakeNoZero", "internal/bytealg.IndexByteString", "internal/bytealg.abigen_runtime_cmpstring"], unfollowed := true, recurses := true, named := ["incipit/class.kinds"], apart := false, laid := [("incipit/class.kinds", laid_incipit_class_kinds)] }
def EscapePlainSaid : Prop := escapePlainRow.holds Tryd.pinned (OpenSpec.ofChange escapePlainSpec)

/-- ITS FALSE NEIGHBOUR: 'it returns false'. Refute it at one input. -/
def escapePlainWrong : ChangeSpec := { name := "escapePlain", fn := fun _ => fun
  | [d] => { results := [.lit (.bool false)], args := [d] }
  | _ => none }
def EscapePlainWrongFalsely : Prop := escapePlainRow.holds Tryd.pinned (OpenSpec.ofChange escapePlainWrong)

/-- 'incipitlaw05.EscapeCuts': WHATEVER THE INPUT: true; the input reads as it did. -/
def escapeCutsSpec : ChangeSpec := { name := "escapeCuts", fn := fun _ => fun
  | [d1, d2] => { results := [.lit (.bool true)], args := [d1, d2] }
  | _ => none }
def escapeCutsRow : OpenClaim := { program := "ytimmifoicihadaadoor", sum := "5a004bc190009ba0b0fb370653e7e71d76dd9a53f5cac6dcc7707ff54123b93a", func := "incipit/incipitlaw05.EscapeCuts", spec := "escapeCuts", inPlace := ["internal/abi.NoEscape", "internal/bytealg.MakeNoZero", "internal/bytealg.IndexByteString", "internal/bytealg.abigen_runtime_cmpstring"], unfollowed := true, recurses := true, named := ["incipit/class.kinds"], apart := false, laid := [("incipit/class.kinds", laid_incipit_class_kinds)] }
def EscapeCutsSaid : Prop := escapeCutsRow.holds Tryd.pinned (OpenSpec.ofChange escapeCutsSpec)

/-- ITS FALSE NEIGHBOUR: 'it returns false'. Refute it at one input. -/
def escapeCutsWrong : ChangeSpec := { name := "escapeCuts", fn := fun _ => fun
  | [d1, d2] => { results := [.lit (.bool false)], args := [d1, d2] }
  | _ => none }
def EscapeCutsWrongFalsely : Prop := escapeCutsRow.holds Tryd.pinned (OpenSpec.ofChange escapeCutsWrong)

/- THE SECOND FORM. 'bulk': how many values and letters a reading holds, each counted each time it is reached (what is shared counts as often as it is met; a slice's spare places count too). A statement '..UptoSaid' is the law's where the arguments, and the package variables that the reading takes, are together of bulk at most 1048576: NARROWER than '..Said'. Prove '..Said' where nothing that the law and all that it calls make is longer than what came in: it says more and counts as full. Else prove '..UptoSaid'. A law counts once. -/
mutual
def uptoBulk {H : Type} : DataW H → Nat
  | .lit (.string bytes) => bytes.length + 1
  | .lit _ => 1
  | .nil => 1
  | .ptr d => uptoBulk d + 1
  | .slice elems spare => uptoBulkAll elems + uptoBulkAll spare + 1
  | .agg parts => uptoBulkAll parts + 1
  | .iface _ d => uptoBulk d + 1
  | .map entries => uptoBulkEntries entries + 1
  | .held _ => 1
def uptoBulkAll {H : Type} : List (DataW H) → Nat
  | [] => 0
  | d :: r => uptoBulk d + uptoBulkAll r
def uptoBulkEntries {H : Type} : List (Lit × DataW H) → Nat
  | [] => 0
  | x :: r => uptoBulkEntry x + uptoBulkEntries r
def uptoBulkEntry {H : Type} : Lit × DataW H → Nat
  | (.string bytes, d) => bytes.length + uptoBulk d + 1
  | (_, d) => uptoBulk d + 1
 end
def uptoSmall : (H : Type) → List (DataW H) → Bool := fun _ ds => decide (uptoBulkAll ds ≤ 1048576)
def OpenSpec.upto (s : _root_.Go.ChangeSpec) : _root_.Go.OpenSpec := { _root_.Go.OpenSpec.ofChange s with cond := some uptoSmall }

/-- 'incipitlaw05.EscapeIs', WHERE WHAT IT READS IS OF BULK AT MOST 1048576: true; the input reads as it did. -/
def escapeIsUptoRow : OpenClaim := { program := "ytimmifoicihadaadoor", sum := "5a004bc190009ba0b0fb370653e7e71d76dd9a53f5cac6dcc7707ff54123b93a", func := "incipit/incipitlaw05.EscapeIs", spec := "escapeIs", inPlace := ["internal/abi.NoEscape", "internal/bytealg.MakeNoZero", "internal/bytealg.IndexByteString", "internal/bytealg.abigen_runtime_cmpstring"], unfollowed := true, recurses := true, named := ["incipit/class.kinds"], apart := false, laid := [("incipit/class.kinds", laid_incipit_class_kinds)], narrowed := true }
def EscapeIsUptoSaid : Prop := escapeIsUptoRow.holds Tryd.pinned (OpenSpec.upto escapeIsSpec)

/-- 'incipitlaw05.EscapeSafe', WHERE WHAT IT READS IS OF BULK AT MOST 1048576: true; the input reads as it did. -/
def escapeSafeUptoRow : OpenClaim := { program := "ytimmifoicihadaadoor", sum := "5a004bc190009ba0b0fb370653e7e71d76dd9a53f5cac6dcc7707ff54123b93a", func := "incipit/incipitlaw05.EscapeSafe", spec := "escapeSafe", inPlace := ["internal/abi.NoEscape", "internal/bytealg.MakeNoZero", "internal/bytealg.IndexByteString", "internal/bytealg.abigen_runtime_cmpstring"], unfollowed := true, recurses := true, named := ["incipit/class.kinds"], apart := false, laid := [("incipit/class.kinds", laid_incipit_class_kinds)], narrowed := true }
def EscapeSafeUptoSaid : Prop := escapeSafeUptoRow.holds Tryd.pinned (OpenSpec.upto escapeSafeSpec)

/-- 'incipitlaw05.EscapeBack', WHERE WHAT IT READS IS OF BULK AT MOST 1048576: true; the input reads as it did. -/
def escapeBackUptoRow : OpenClaim := { program := "ytimmifoicihadaadoor", sum := "5a004bc190009ba0b0fb370653e7e71d76dd9a53f5cac6dcc7707ff54123b93a", func := "incipit/incipitlaw05.EscapeBack", spec := "escapeBack", inPlace := ["internal/abi.NoEscape", "internal/bytealg.MakeNoZero", "internal/bytealg.IndexByteString", "internal/bytealg.abigen_runtime_cmpstring"], unfollowed := true, recurses := true, named := ["incipit/class.kinds"], apart := false, laid := [("incipit/class.kinds", laid_incipit_class_kinds)], narrowed := true }
def EscapeBackUptoSaid : Prop := escapeBackUptoRow.holds Tryd.pinned (OpenSpec.upto escapeBackSpec)

/-- 'incipitlaw05.EscapeSigns', WHERE WHAT IT READS IS OF BULK AT MOST 1048576: true; the input reads as it did. -/
def escapeSignsUptoRow : OpenClaim := { program := "ytimmifoicihadaadoor", sum := "5a004bc190009ba0b0fb370653e7e71d76dd9a53f5cac6dcc7707ff54123b93a", func := "incipit/incipitlaw05.EscapeSigns", spec := "escapeSigns", inPlace := ["internal/abi.NoEscape", "internal/bytealg.MakeNoZero", "internal/bytealg.IndexByteString", "internal/bytealg.abigen_runtime_cmpstring"], unfollowed := true, recurses := true, named := ["incipit/class.kinds"], apart := false, laid := [("incipit/class.kinds", laid_incipit_class_kinds)], narrowed := true }
def EscapeSignsUptoSaid : Prop := escapeSignsUptoRow.holds Tryd.pinned (OpenSpec.upto escapeSignsSpec)

/-- 'incipitlaw05.EscapeParts', WHERE WHAT IT READS IS OF BULK AT MOST 1048576: true; the input reads as it did. -/
def escapePartsUptoRow : OpenClaim := { program := "ytimmifoicihadaadoor", sum := "5a004bc190009ba0b0fb370653e7e71d76dd9a53f5cac6dcc7707ff54123b93a", func := "incipit/incipitlaw05.EscapeParts", spec := "escapeParts", inPlace := ["internal/abi.NoEscape", "internal/bytealg.MakeNoZero", "internal/bytealg.IndexByteString", "internal/bytealg.abigen_runtime_cmpstring"], unfollowed := true, recurses := true, named := ["incipit/class.kinds"], apart := false, laid := [("incipit/class.kinds", laid_incipit_class_kinds)], narrowed := true }
def EscapePartsUptoSaid : Prop := escapePartsUptoRow.holds Tryd.pinned (OpenSpec.upto escapePartsSpec)

/-- 'incipitlaw05.EscapePlain', WHERE WHAT IT READS IS OF BULK AT MOST 1048576: true; the input reads as it did. -/
def escapePlainUptoRow : OpenClaim := { program := "ytimmifoicihadaadoor", sum := "5a004bc190009ba0b0fb370653e7e71d76dd9a53f5cac6dcc7707ff54123b93a", func := "incipit/incipitlaw05.EscapePlain", spec := "escapePlain", inPlace := ["internal/abi.NoEscape", "internal/bytealg.MakeNoZero", "internal/bytealg.IndexByteString", "internal/bytealg.abigen_runtime_cmpstring"], unfollowed := true, recurses := true, named := ["incipit/class.kinds"], apart := false, laid := [("incipit/class.kinds", laid_incipit_class_kinds)], narrowed := true }
def EscapePlainUptoSaid : Prop := escapePlainUptoRow.holds Tryd.pinned (OpenSpec.upto escapePlainSpec)

/-- 'incipitlaw05.EscapeCuts', WHERE WHAT IT READS IS OF BULK AT MOST 1048576: true; the input reads as it did. -/
def escapeCutsUptoRow : OpenClaim := { program := "ytimmifoicihadaadoor", sum := "5a004bc190009ba0b0fb370653e7e71d76dd9a53f5cac6dcc7707ff54123b93a", func := "incipit/incipitlaw05.EscapeCuts", spec := "escapeCuts", inPlace := ["internal/abi.NoEscape", "internal/bytealg.MakeNoZero", "internal/bytealg.IndexByteString", "internal/bytealg.abigen_runtime_cmpstring"], unfollowed := true, recurses := true, named := ["incipit/class.kinds"], apart := false, laid := [("incipit/class.kinds", laid_incipit_class_kinds)], narrowed := true }
def EscapeCutsUptoSaid : Prop := escapeCutsUptoRow.holds Tryd.pinned (OpenSpec.upto escapeCutsSpec)

end Rows
end Go.Proofs.YtimmifoicihadaaDoor
