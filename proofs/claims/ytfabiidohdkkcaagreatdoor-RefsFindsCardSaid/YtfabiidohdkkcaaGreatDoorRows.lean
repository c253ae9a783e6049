/-
  NARROWER THAN 'FOR EVERY INPUT', by the rows' own cells (each row's printed sentence says how): RefsTakes: laid · RefsFinds: laid · RefsRest: laid · RefsFirst: laid · RefsPlain: laid.
  DERIVED. THE GIVEN ROWS OF THIS SEAT. 5 by the template 'for every input the law returns true; each argument reads behind the call as it read before'; 0 by the template 'total and deterministic' (their statements: YtfabiidohdkkcaaGreatDoorTotals.lean).
  GIVEN WITH THE SEED: the statements are not yours to turn. If you find one false, say at which input.
  Laid BY PROGRAM, IN A SANDBOX (cutbox-rows.mjs): the forced cells as the released guide's own fill.sh prints them over the translation 94fdd6c8efe80599… (all of the seat's roots in one cut). By AI agents, Wed Nov 11 2026. No macro, syntax, notation, axiom, sorry.
-/
import Derived.Test.YtfabiidohdkkcaaGreatDoorChecked
import GoSem.PinnedTables
import GoSem.Claim
import GoSem.ClaimJoined
import GoSem.ClaimMapViews
import Derived.JoinedTies
import Derived.KernelRfl
namespace Go.Proofs.YtfabiidohdkkcaaGreatDoor
/- THE CELL 'sum', in the pinned program and in every row, IS THE sha256 OF THE DUMP (.gsa) THAT YtfabiidohdkkcaaGreatDoorProg.lean LOADS. Nothing in Lean hashes anything: it is a label: what it is worth is what the hold of that sum in a sandbox is worth. -/
noncomputable def Tryz.pinned : Pinned := { name := "ytfabiidohdkkcaagreatdoor", sum := "94fdd6c8efe80599fc983a37e3983d0e916abaac2e1c33a95d88ddf276a8cd93", checked := Tryz.checked }
namespace Rows
def none {H : Type} : Left H := { results := [], args := [] }

/- WHAT THE LISTED PACKAGE-LEVEL VARIABLES READ AS WHEN THE CALL BEGINS. Each datum BY PROGRAM (the guide's laid-datum.mjs) off the statement by which the dump's own 'gosem.cut.vars' lays the variable. In a bare row this is a premise. The card (YtfabiidohdkkcaaGreatDoorCards.lean) ties it to the program's text. -/
def laid_unicode_utf8_acceptRanges {H : Type} : DataW H := .agg [.agg [.lit (.int .u8 128), .lit (.int .u8 191)], .agg [.lit (.int .u8 160), .lit (.int .u8 191)], .agg [.lit (.int .u8 128), .lit (.int .u8 159)], .agg [.lit (.int .u8 144), .lit (.int .u8 191)], .agg [.lit (.int .u8 128), .lit (.int .u8 143)], .agg [.lit (.int .u8 0), .lit (.int .u8 0)], .agg [.lit (.int .u8 0), .lit (.int .u8 0)], .agg [.lit (.int .u8 0), .lit (.int .u8 0)], .agg [.lit (.int .u8 0), .lit (.int .u8 0)], .agg [.lit (.int .u8 0), .lit (.int .u8 0)], .agg [.lit (.int .u8 0), .lit (.int .u8 0)], .agg [.lit (.int .u8 0), .lit (.int .u8 0)], .agg [.lit (.int .u8 0), .lit (.int .u8 0)], .agg [.lit (.int .u8 0), .lit (.int .u8 0)], .agg [.lit (.int .u8 0), .lit (.int .u8 0)], .agg [.lit (.int .u8 0), .lit (.int .u8 0)]]
def laid_incipit_class_kinds {H : Type} : DataW H := .agg [.agg [.lit (.int .i32 9), .lit (.int .i32 10), .lit (.int .i64 1)], .agg [.lit (.int .i32 12), .lit (.int .i32 13), .lit (.int .i64 1)], .agg [.lit (.int .i32 32), .lit (.int .i32 32), .lit (.int .i64 1)], .agg [.lit (.int .i32 33), .lit (.int .i32 47), .lit (.int .i64 2)], .agg [.lit (.int .i32 58), .lit (.int .i32 64), .lit (.int .i64 2)], .agg [.lit (.int .i32 91), .lit (.int .i32 96), .lit (.int .i64 2)], .agg [.lit (.int .i32 123), .lit (.int .i32 126), .lit (.int .i64 2)], .agg [.lit (.int .i32 160), .lit (.int .i32 160), .lit (.int .i64 1)], .agg [.lit (.int .i32 161), .lit (.int .i32 169), .lit (.int .i64 2)], .agg [.lit (.int .i32 171), .lit (.int .i32 172), .lit (.int .i64 2)], .agg [.lit (.int .i32 174), .lit (.int .i32 177), .lit (.int .i64 2)], .agg [.lit (.int .i32 180), .lit (.int .i32 180), .lit (.int .i64 2)], .agg [.lit (.int .i32 182), .lit (.int .i32 184), .lit (.int .i64 2)], .agg [.lit (.int .i32 187), .lit (.int .i32 187), .lit (.int .i64 2)], .agg [.lit (.int .i32 191), .lit (.int .i32 191), .lit (.int .i64 2)], .agg [.lit (.int .i32 215), .lit (.int .i32 215), .lit (.int .i64 2)], .agg [.lit (.int .i32 247), .lit (.int .i32 247), .lit (.int .i64 2)], .agg [.lit (.int .i32 5760), .lit (.int .i32 5760), .lit (.int .i64 1)], .agg [.lit (.int .i32 8192), .lit (.int .i32 8202), .lit (.int .i64 1)], .agg [.lit (.int .i32 8208), .lit (.int .i32 8231), .lit (.int .i64 2)], .agg [.lit (.int .i32 8239), .lit (.int .i32 8239), .lit (.int .i64 1)], .agg [.lit (.int .i32 8240), .lit (.int .i32 8286), .lit (.int .i64 2)], .agg [.lit (.int .i32 8287), .lit (.int .i32 8287), .lit (.int .i64 1)], .agg [.lit (.int .i32 8352), .lit (.int .i32 8384), .lit (.int .i64 2)], .agg [.lit (.int .i32 12288), .lit (.int .i32 12288), .lit (.int .i64 1)], .agg [.lit (.int .i32 12289), .lit (.int .i32 12291), .lit (.int .i64 2)], .agg [.lit (.int .i32 12296), .lit (.int .i32 12319), .lit (.int .i64 2)], .agg [.lit (.int .i32 65281), .lit (.int .i32 65295), .lit (.int .i64 2)]]
def laid_incipit_class_capitals {H : Type} : DataW H := .agg [.agg [.lit (.int .i32 65), .lit (.int .i32 90), .lit (.int .i32 32)], .agg [.lit (.int .i32 192), .lit (.int .i32 214), .lit (.int .i32 32)], .agg [.lit (.int .i32 216), .lit (.int .i32 222), .lit (.int .i32 32)], .agg [.lit (.int .i32 913), .lit (.int .i32 929), .lit (.int .i32 32)], .agg [.lit (.int .i32 931), .lit (.int .i32 939), .lit (.int .i32 32)], .agg [.lit (.int .i32 962), .lit (.int .i32 962), .lit (.int .i32 1)], .agg [.lit (.int .i32 1024), .lit (.int .i32 1039), .lit (.int .i32 80)], .agg [.lit (.int .i32 1040), .lit (.int .i32 1071), .lit (.int .i32 32)]]
/-- One of Go's own tables, pinned by name: the form's constant. -/
def laid_unicode_utf8_first : DataW Unit := Go.Pinned.utf8First

/-- 'incipitlaw10.RefsTakes': WHATEVER THE INPUT: true; the input reads as it did. -/
def refsTakesSpec : ChangeSpec := { name := "refsTakes", fn := fun _ => fun
  | [d] => { results := [.lit (.bool true)], args := [d] }
  | _ => none }
def refsTakesRow : OpenClaim := { program := "ytfabiidohdkkcaagreatdoor", sum := "94fdd6c8efe80599fc983a37e3983d0e916abaac2e1c33a95d88ddf276a8cd93", func := "incipit/incipitlaw10.RefsTakes", spec := "refsTakes", inPlace := ["internal/bytealg.IndexByteString", "internal/bytealg.IndexString", "internal/bytealg.CountString", "internal/abi.NoEscape", "internal/bytealg.MakeNoZero", "internal/bytealg.abigen_runtime_cmpstring"], unfollowed := true, recurses := true, named := ["incipit/class.kinds", "unicode/utf8.first", "unicode/utf8.acceptRanges", "internal/bytealg.MaxLen", "incipit/class.capitals"], apart := false, laid := [("unicode/utf8.acceptRanges", laid_unicode_utf8_acceptRanges), ("incipit/class.kinds", laid_incipit_class_kinds), ("incipit/class.capitals", laid_incipit_class_capitals), ("unicode/utf8.first", laid_unicode_utf8_first)] }
def RefsTakesSaid : Prop := refsTakesRow.holds Tryz.pinned (OpenSpec.ofChange refsTakesSpec)

/-- ITS FALSE NEIGHBOUR: 'it returns false'. Refute it at one input. -/
def refsTakesWrong : ChangeSpec := { name := "refsTakes", fn := fun _ => fun
  | [d] => { results := [.lit (.bool false)], args := [d] }
  | _ => none }
def RefsTakesWrongFalsely : Prop := refsTakesRow.holds Tryz.pinned (OpenSpec.ofChange refsTakesWrong)

/-- 'incipitlaw10.RefsFinds': WHATEVER THE INPUT: true; the input reads as it did. -/
def refsFindsSpec : ChangeSpec := { name := "refsFinds", fn := fun _ => fun
  | [d1, d2, d3] => { results := [.lit (.bool true)], args := [d1, d2, d3] }
  | _ => none }
def refsFindsRow : OpenClaim := { program := "ytfabiidohdkkcaagreatdoor", sum := "94fdd6c8efe80599fc983a37e3983d0e916abaac2e1c33a95d88ddf276a8cd93", func := "incipit/incipitlaw10.RefsFinds", spec := "refsFinds", inPlace := ["internal/bytealg.IndexByteString", "internal/bytealg.IndexString", "internal/bytealg.CountString", "internal/abi.NoEscape", "internal/bytealg.MakeNoZero", "internal/bytealg.abigen_runtime_cmpstring"], unfollowed := true, recurses := true, named := ["incipit/class.kinds", "unicode/utf8.first", "unicode/utf8.acceptRanges", "internal/bytealg.MaxLen", "incipit/class.capitals"], apart := false, laid := [("unicode/utf8.acceptRanges", laid_unicode_utf8_acceptRanges), ("incipit/class.kinds", laid_incipit_class_kinds), ("incipit/class.capitals", laid_incipit_class_capitals), ("unicode/utf8.first", laid_unicode_utf8_first)] }
def RefsFindsSaid : Prop := refsFindsRow.holds Tryz.pinned (OpenSpec.ofChange refsFindsSpec)

/-- ITS FALSE NEIGHBOUR: 'it returns false'. Refute it at one input. -/
def refsFindsWrong : ChangeSpec := { name := "refsFinds", fn := fun _ => fun
  | [d1, d2, d3] => { results := [.lit (.bool false)], args := [d1, d2, d3] }
  | _ => none }
def RefsFindsWrongFalsely : Prop := refsFindsRow.holds Tryz.pinned (OpenSpec.ofChange refsFindsWrong)

/-- 'incipitlaw10.RefsRest': WHATEVER THE INPUT: true; the input reads as it did. -/
def refsRestSpec : ChangeSpec := { name := "refsRest", fn := fun _ => fun
  | [d] => { results := [.lit (.bool true)], args := [d] }
  | _ => none }
def refsRestRow : OpenClaim := { program := "ytfabiidohdkkcaagreatdoor", sum := "94fdd6c8efe80599fc983a37e3983d0e916abaac2e1c33a95d88ddf276a8cd93", func := "incipit/incipitlaw10.RefsRest", spec := "refsRest", inPlace := ["internal/bytealg.IndexByteString", "internal/bytealg.IndexString", "internal/bytealg.CountString", "internal/abi.NoEscape", "internal/bytealg.MakeNoZero", "internal/bytealg.abigen_runtime_cmpstring"], unfollowed := true, recurses := true, named := ["incipit/class.kinds", "unicode/utf8.first", "unicode/utf8.acceptRanges", "internal/bytealg.MaxLen", "incipit/class.capitals"], apart := false, laid := [("unicode/utf8.acceptRanges", laid_unicode_utf8_acceptRanges), ("incipit/class.kinds", laid_incipit_class_kinds), ("incipit/class.capitals", laid_incipit_class_capitals), ("unicode/utf8.first", laid_unicode_utf8_first)] }
def RefsRestSaid : Prop := refsRestRow.holds Tryz.pinned (OpenSpec.ofChange refsRestSpec)

/-- ITS FALSE NEIGHBOUR: 'it returns false'. Refute it at one input. -/
def refsRestWrong : ChangeSpec := { name := "refsRest", fn := fun _ => fun
  | [d] => { results := [.lit (.bool false)], args := [d] }
  | _ => none }
def RefsRestWrongFalsely : Prop := refsRestRow.holds Tryz.pinned (OpenSpec.ofChange refsRestWrong)

/-- 'incipitlaw10.RefsFirst': WHATEVER THE INPUT: true; the input reads as it did. -/
def refsFirstSpec : ChangeSpec := { name := "refsFirst", fn := fun _ => fun
  | [d1, d2, d3] => { results := [.lit (.bool true)], args := [d1, d2, d3] }
  | _ => none }
def refsFirstRow : OpenClaim := { program := "ytfabiidohdkkcaagreatdoor", sum := "94fdd6c8efe80599fc983a37e3983d0e916abaac2e1c33a95d88ddf276a8cd93", func := "incipit/incipitlaw10.RefsFirst", spec := "refsFirst", inPlace := ["internal/bytealg.IndexByteString", "internal/bytealg.IndexString", "internal/bytealg.CountString", "internal/abi.NoEscape", "internal/bytealg.MakeNoZero", "internal/bytealg.abigen_runtime_cmpstring"], unfollowed := true, recurses := true, named := ["incipit/class.kinds", "unicode/utf8.first", "unicode/utf8.acceptRanges", "internal/bytealg.MaxLen", "incipit/class.capitals"], apart := false, laid := [("unicode/utf8.acceptRanges", laid_unicode_utf8_acceptRanges), ("incipit/class.kinds", laid_incipit_class_kinds), ("incipit/class.capitals", laid_incipit_class_capitals), ("unicode/utf8.first", laid_unicode_utf8_first)] }
def RefsFirstSaid : Prop := refsFirstRow.holds Tryz.pinned (OpenSpec.ofChange refsFirstSpec)

/-- ITS FALSE NEIGHBOUR: 'it returns false'. Refute it at one input. -/
def refsFirstWrong : ChangeSpec := { name := "refsFirst", fn := fun _ => fun
  | [d1, d2, d3] => { results := [.lit (.bool false)], args := [d1, d2, d3] }
  | _ => none }
def RefsFirstWrongFalsely : Prop := refsFirstRow.holds Tryz.pinned (OpenSpec.ofChange refsFirstWrong)

/-- 'incipitlaw10.RefsPlain': WHATEVER THE INPUT: true; the input reads as it did. -/
def refsPlainSpec : ChangeSpec := { name := "refsPlain", fn := fun _ => fun
  | [d1, d2, d3, d4] => { results := [.lit (.bool true)], args := [d1, d2, d3, d4] }
  | _ => none }
def refsPlainRow : OpenClaim := { program := "ytfabiidohdkkcaagreatdoor", sum := "94fdd6c8efe80599fc983a37e3983d0e916abaac2e1c33a95d88ddf276a8cd93", func := "incipit/incipitlaw10.RefsPlain", spec := "refsPlain", inPlace := ["internal/bytealg.IndexByteString", "internal/bytealg.IndexString", "internal/bytealg.CountString", "internal/abi.NoEscape", "internal/bytealg.MakeNoZero", "internal/bytealg.abigen_runtime_cmpstring"], unfollowed := true, recurses := true, named := ["incipit/class.kinds", "unicode/utf8.first", "unicode/utf8.acceptRanges", "internal/bytealg.MaxLen", "incipit/class.capitals"], apart := false, laid := [("unicode/utf8.acceptRanges", laid_unicode_utf8_acceptRanges), ("incipit/class.kinds", laid_incipit_class_kinds), ("incipit/class.capitals", laid_incipit_class_capitals), ("unicode/utf8.first", laid_unicode_utf8_first)] }
def RefsPlainSaid : Prop := refsPlainRow.holds Tryz.pinned (OpenSpec.ofChange refsPlainSpec)

/-- ITS FALSE NEIGHBOUR: 'it returns false'. Refute it at one input. -/
def refsPlainWrong : ChangeSpec := { name := "refsPlain", fn := fun _ => fun
  | [d1, d2, d3, d4] => { results := [.lit (.bool false)], args := [d1, d2, d3, d4] }
  | _ => none }
def RefsPlainWrongFalsely : Prop := refsPlainRow.holds Tryz.pinned (OpenSpec.ofChange refsPlainWrong)

/- THE SECOND FORM. 'bulk': how many values and letters a reading holds, each counted each time it is reached (what is shared counts as often as it is met; a slice's spare places count too). A statement '..UptoSaid' is the law's where the arguments, and the package variables that the reading takes, are together of bulk at most 1048576: NARROWER than '..Said'. Prove '..Said' where nothing that the law and all that it calls make is longer than what came in: it says more and counts as full. Else prove '..UptoSaid'. A law counts once. -/
mutual
def uptoBulk {H : Type} : DataW H → Nat
  | .lit (.string bytes) => bytes.length + 1
  | .lit _ => 1
  | .nil => 1
  | .ptr d => uptoBulk d + 1
  | .slice elems spare => uptoBulkAll elems + uptoBulkAll spare + 1
  | .agg parts => uptoBulkAll parts + 1
  | .iface _ d => uptoBulk d + 1
  | .map entries => uptoBulkEntries entries + 1
  | .held _ => 1
def uptoBulkAll {H : Type} : List (DataW H) → Nat
  | [] => 0
  | d :: r => uptoBulk d + uptoBulkAll r
def uptoBulkEntries {H : Type} : List (Lit × DataW H) → Nat
  | [] => 0
  | x :: r => uptoBulkEntry x + uptoBulkEntries r
def uptoBulkEntry {H : Type} : Lit × DataW H → Nat
  | (.string bytes, d) => bytes.length + uptoBulk d + 1
  | (_, d) => uptoBulk d + 1
 end
def uptoSmall : (H : Type) → List (DataW H) → Bool := fun _ ds => decide (uptoBulkAll ds ≤ 1048576)
def OpenSpec.upto (s : _root_.Go.ChangeSpec) : _root_.Go.OpenSpec := { _root_.Go.OpenSpec.ofChange s with cond := some uptoSmall }

/-- 'incipitlaw10.RefsTakes', WHERE WHAT IT READS IS OF BULK AT MOST 1048576: true; the input reads as it did. -/
def refsTakesUptoRow : OpenClaim := { program := "ytfabiidohdkkcaagreatdoor", sum := "94fdd6c8efe80599fc983a37e3983d0e916abaac2e1c33a95d88ddf276a8cd93", func := "incipit/incipitlaw10.RefsTakes", spec := "refsTakes", inPlace := ["internal/bytealg.IndexByteString", "internal/bytealg.IndexString", "internal/bytealg.CountString", "internal/abi.NoEscape", "internal/bytealg.MakeNoZero", "internal/bytealg.abigen_runtime_cmpstring"], unfollowed := true, recurses := true, named := ["incipit/class.kinds", "unicode/utf8.first", "unicode/utf8.acceptRanges", "internal/bytealg.MaxLen", "incipit/class.capitals"], apart := false, laid := [("unicode/utf8.acceptRanges", laid_unicode_utf8_acceptRanges), ("incipit/class.kinds", laid_incipit_class_kinds), ("incipit/class.capitals", laid_incipit_class_capitals), ("unicode/utf8.first", laid_unicode_utf8_first)], narrowed := true }
def RefsTakesUptoSaid : Prop := refsTakesUptoRow.holds Tryz.pinned (OpenSpec.upto refsTakesSpec)

/-- 'incipitlaw10.RefsFinds', WHERE WHAT IT READS IS OF BULK AT MOST 1048576: true; the input reads as it did. -/
def refsFindsUptoRow : OpenClaim := { program := "ytfabiidohdkkcaagreatdoor", sum := "94fdd6c8efe80599fc983a37e3983d0e916abaac2e1c33a95d88ddf276a8cd93", func := "incipit/incipitlaw10.RefsFinds", spec := "refsFinds", inPlace := ["internal/bytealg.IndexByteString", "internal/bytealg.IndexString", "internal/bytealg.CountString", "internal/abi.NoEscape", "internal/bytealg.MakeNoZero", "internal/bytealg.abigen_runtime_cmpstring"], unfollowed := true, recurses := true, named := ["incipit/class.kinds", "unicode/utf8.first", "unicode/utf8.acceptRanges", "internal/bytealg.MaxLen", "incipit/class.capitals"], apart := false, laid := [("unicode/utf8.acceptRanges", laid_unicode_utf8_acceptRanges), ("incipit/class.kinds", laid_incipit_class_kinds), ("incipit/class.capitals", laid_incipit_class_capitals), ("unicode/utf8.first", laid_unicode_utf8_first)], narrowed := true }
def RefsFindsUptoSaid : Prop := refsFindsUptoRow.holds Tryz.pinned (OpenSpec.upto refsFindsSpec)

/-- 'incipitlaw10.RefsRest', WHERE WHAT IT READS IS OF BULK AT MOST 1048576: true; the input reads as it did. -/
def refsRestUptoRow : OpenClaim := { program := "ytfabiidohdkkcaagreatdoor", sum := "94fdd6c8efe80599fc983a37e3983d0e916abaac2e1c33a95d88ddf276a8cd93", func := "incipit/incipitlaw10.RefsRest", spec := "refsRest", inPlace := ["internal/bytealg.IndexByteString", "internal/bytealg.IndexString", "internal/bytealg.CountString", "internal/abi.NoEscape", "internal/bytealg.MakeNoZero", "internal/bytealg.abigen_runtime_cmpstring"], unfollowed := true, recurses := true, named := ["incipit/class.kinds", "unicode/utf8.first", "unicode/utf8.acceptRanges", "internal/bytealg.MaxLen", "incipit/class.capitals"], apart := false, laid := [("unicode/utf8.acceptRanges", laid_unicode_utf8_acceptRanges), ("incipit/class.kinds", laid_incipit_class_kinds), ("incipit/class.capitals", laid_incipit_class_capitals), ("unicode/utf8.first", laid_unicode_utf8_first)], narrowed := true }
def RefsRestUptoSaid : Prop := refsRestUptoRow.holds Tryz.pinned (OpenSpec.upto refsRestSpec)

/-- 'incipitlaw10.RefsFirst', WHERE WHAT IT READS IS OF BULK AT MOST 1048576: true; the input reads as it did. -/
def refsFirstUptoRow : OpenClaim := { program := "ytfabiidohdkkcaagreatdoor", sum := "94fdd6c8efe80599fc983a37e3983d0e916abaac2e1c33a95d88ddf276a8cd93", func := "incipit/incipitlaw10.RefsFirst", spec := "refsFirst", inPlace := ["internal/bytealg.IndexByteString", "internal/bytealg.IndexString", "internal/bytealg.CountString", "internal/abi.NoEscape", "internal/bytealg.MakeNoZero", "internal/bytealg.abigen_runtime_cmpstring"], unfollowed := true, recurses := true, named := ["incipit/class.kinds", "unicode/utf8.first", "unicode/utf8.acceptRanges", "internal/bytealg.MaxLen", "incipit/class.capitals"], apart := false, laid := [("unicode/utf8.acceptRanges", laid_unicode_utf8_acceptRanges), ("incipit/class.kinds", laid_incipit_class_kinds), ("incipit/class.capitals", laid_incipit_class_capitals), ("unicode/utf8.first", laid_unicode_utf8_first)], narrowed := true }
def RefsFirstUptoSaid : Prop := refsFirstUptoRow.holds Tryz.pinned (OpenSpec.upto refsFirstSpec)

/-- 'incipitlaw10.RefsPlain', WHERE WHAT IT READS IS OF BULK AT MOST 1048576: true; the input reads as it did. -/
def refsPlainUptoRow : OpenClaim := { program := "ytfabiidohdkkcaagreatdoor", sum := "94fdd6c8efe80599fc983a37e3983d0e916abaac2e1c33a95d88ddf276a8cd93", func := "incipit/incipitlaw10.RefsPlain", spec := "refsPlain", inPlace := ["internal/bytealg.IndexByteString", "internal/bytealg.IndexString", "internal/bytealg.CountString", "internal/abi.NoEscape", "internal/bytealg.MakeNoZero", "internal/bytealg.abigen_runtime_cmpstring"], unfollowed := true, recurses := true, named := ["incipit/class.kinds", "unicode/utf8.first", "unicode/utf8.acceptRanges", "internal/bytealg.MaxLen", "incipit/class.capitals"], apart := false, laid := [("unicode/utf8.acceptRanges", laid_unicode_utf8_acceptRanges), ("incipit/class.kinds", laid_incipit_class_kinds), ("incipit/class.capitals", laid_incipit_class_capitals), ("unicode/utf8.first", laid_unicode_utf8_first)], narrowed := true }
def RefsPlainUptoSaid : Prop := refsPlainUptoRow.holds Tryz.pinned (OpenSpec.upto refsPlainSpec)

end Rows
end Go.Proofs.YtfabiidohdkkcaaGreatDoor
