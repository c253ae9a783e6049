/-
  NARROWER THAN 'FOR EVERY INPUT', by the rows' own cells (each row's printed sentence says how): LinkReads: laid · LinkEnds: laid · LinkPlain: laid · LinkBlanks: laid · LinkLabels: laid · LinkNone: laid.
  DERIVED. THE GIVEN ROWS OF THIS SEAT. 6 by the template 'for every input the law returns true; each argument reads behind the call as it read before'; 0 by the template 'total and deterministic' (their statements: YtilippcmdhkddaaDoorTotals.lean).
  GIVEN WITH THE SEED: the statements are not yours to turn. If you find one false, say at which input.
  Laid BY PROGRAM, IN A SANDBOX (cutbox-rows.mjs): the forced cells as the released guide's own fill.sh prints them over the translation b737b3381530bf04… (all of the seat's roots in one cut). By AI agents, Wed Nov 11 2026. No macro, syntax, notation, axiom, sorry.
-/
import Derived.Test.YtilippcmdhkddaaDoorChecked
import GoSem.PinnedTables
import GoSem.Claim
import GoSem.ClaimJoined
import GoSem.ClaimMapViews
import Derived.JoinedTies
import Derived.KernelRfl
namespace Go.Proofs.YtilippcmdhkddaaDoor
/- THE CELL 'sum', in the pinned program and in every row, IS THE sha256 OF THE DUMP (.gsa) THAT YtilippcmdhkddaaDoorProg.lean LOADS. Nothing in Lean hashes anything: it is a label: what it is worth is what the hold of that sum in a sandbox is worth. -/
noncomputable def Tryd.pinned : Pinned := { name := "ytilippcmdhkddaadoor", sum := "b737b3381530bf04f1db79653e445a366b4b487262ab039ec693d33d008b3671", checked := Tryd.checked }
namespace Rows
def none {H : Type} : Left H := { results := [], args := [] }

/- WHAT THE LISTED PACKAGE-LEVEL VARIABLES READ AS WHEN THE CALL BEGINS. Each datum BY PROGRAM (the guide's laid-datum.mjs) off the statement by which the dump's own 'gosem.cut.vars' lays the variable. In a bare row this is a premise. The card (YtilippcmdhkddaaDoorCards.lean) ties it to the program's text. -/
def laid_unicode_utf8_acceptRanges {H : Type} : DataW H := .agg [.agg [.lit (.int .u8 128), .lit (.int .u8 191)], .agg [.lit (.int .u8 160), .lit (.int .u8 191)], .agg [.lit (.int .u8 128), .lit (.int .u8 159)], .agg [.lit (.int .u8 144), .lit (.int .u8 191)], .agg [.lit (.int .u8 128), .lit (.int .u8 143)], .agg [.lit (.int .u8 0), .lit (.int .u8 0)], .agg [.lit (.int .u8 0), .lit (.int .u8 0)], .agg [.lit (.int .u8 0), .lit (.int .u8 0)], .agg [.lit (.int .u8 0), .lit (.int .u8 0)], .agg [.lit (.int .u8 0), .lit (.int .u8 0)], .agg [.lit (.int .u8 0), .lit (.int .u8 0)], .agg [.lit (.int .u8 0), .lit (.int .u8 0)], .agg [.lit (.int .u8 0), .lit (.int .u8 0)], .agg [.lit (.int .u8 0), .lit (.int .u8 0)], .agg [.lit (.int .u8 0), .lit (.int .u8 0)], .agg [.lit (.int .u8 0), .lit (.int .u8 0)]]
def laid_incipit_class_kinds {H : Type} : DataW H := .agg [.agg [.lit (.int .i32 9), .lit (.int .i32 10), .lit (.int .i64 1)], .agg [.lit (.int .i32 12), .lit (.int .i32 13), .lit (.int .i64 1)], .agg [.lit (.int .i32 32), .lit (.int .i32 32), .lit (.int .i64 1)], .agg [.lit (.int .i32 33), .lit (.int .i32 47), .lit (.int .i64 2)], .agg [.lit (.int .i32 58), .lit (.int .i32 64), .lit (.int .i64 2)], .agg [.lit (.int .i32 91), .lit (.int .i32 96), .lit (.int .i64 2)], .agg [.lit (.int .i32 123), .lit (.int .i32 126), .lit (.int .i64 2)], .agg [.lit (.int .i32 160), .lit (.int .i32 160), .lit (.int .i64 1)], .agg [.lit (.int .i32 161), .lit (.int .i32 169), .lit (.int .i64 2)], .agg [.lit (.int .i32 171), .lit (.int .i32 172), .lit (.int .i64 2)], .agg [.lit (.int .i32 174), .lit (.int .i32 177), .lit (.int .i64 2)], .agg [.lit (.int .i32 180), .lit (.int .i32 180), .lit (.int .i64 2)], .agg [.lit (.int .i32 182), .lit (.int .i32 184), .lit (.int .i64 2)], .agg [.lit (.int .i32 187), .lit (.int .i32 187), .lit (.int .i64 2)], .agg [.lit (.int .i32 191), .lit (.int .i32 191), .lit (.int .i64 2)], .agg [.lit (.int .i32 215), .lit (.int .i32 215), .lit (.int .i64 2)], .agg [.lit (.int .i32 247), .lit (.int .i32 247), .lit (.int .i64 2)], .agg [.lit (.int .i32 5760), .lit (.int .i32 5760), .lit (.int .i64 1)], .agg [.lit (.int .i32 8192), .lit (.int .i32 8202), .lit (.int .i64 1)], .agg [.lit (.int .i32 8208), .lit (.int .i32 8231), .lit (.int .i64 2)], .agg [.lit (.int .i32 8239), .lit (.int .i32 8239), .lit (.int .i64 1)], .agg [.lit (.int .i32 8240), .lit (.int .i32 8286), .lit (.int .i64 2)], .agg [.lit (.int .i32 8287), .lit (.int .i32 8287), .lit (.int .i64 1)], .agg [.lit (.int .i32 8352), .lit (.int .i32 8384), .lit (.int .i64 2)], .agg [.lit (.int .i32 12288), .lit (.int .i32 12288), .lit (.int .i64 1)], .agg [.lit (.int .i32 12289), .lit (.int .i32 12291), .lit (.int .i64 2)], .agg [.lit (.int .i32 12296), .lit (.int .i32 12319), .lit (.int .i64 2)], .agg [.lit (.int .i32 65281), .lit (.int .i32 65295), .lit (.int .i64 2)]]
/-- One of Go's own tables, pinned by name: the form's constant. -/
def laid_unicode_utf8_first : DataW Unit := Go.Pinned.utf8First

/-- 'incipitlaw09.LinkReads': WHATEVER THE INPUT: true; the input reads as it did. -/
def linkReadsSpec : ChangeSpec := { name := "linkReads", fn := fun _ => fun
  | [d] => { results := [.lit (.bool true)], args := [d] }
  | _ => none }
def linkReadsRow : OpenClaim := { program := "ytilippcmdhkddaadoor", sum := "b737b3381530bf04f1db79653e445a366b4b487262ab039ec693d33d008b3671", func := "incipit/incipitlaw09.LinkReads", spec := "linkReads", inPlace := ["internal/bytealg.IndexByteString", "internal/bytealg.IndexString", "internal/abi.NoEscape", "internal/bytealg.MakeNoZero", "internal/bytealg.abigen_runtime_cmpstring"], unfollowed := true, recurses := true, named := ["incipit/class.kinds", "unicode/utf8.first", "unicode/utf8.acceptRanges", "internal/bytealg.MaxLen"], apart := false, laid := [("unicode/utf8.acceptRanges", laid_unicode_utf8_acceptRanges), ("incipit/class.kinds", laid_incipit_class_kinds), ("unicode/utf8.first", laid_unicode_utf8_first)] }
def LinkReadsSaid : Prop := linkReadsRow.holds Tryd.pinned (OpenSpec.ofChange linkReadsSpec)

/-- ITS FALSE NEIGHBOUR: 'it returns false'. Refute it at one input. -/
def linkReadsWrong : ChangeSpec := { name := "linkReads", fn := fun _ => fun
  | [d] => { results := [.lit (.bool false)], args := [d] }
  | _ => none }
def LinkReadsWrongFalsely : Prop := linkReadsRow.holds Tryd.pinned (OpenSpec.ofChange linkReadsWrong)

/-- 'incipitlaw09.LinkEnds': WHATEVER THE INPUT: true; the input reads as it did. -/
def linkEndsSpec : ChangeSpec := { name := "linkEnds", fn := fun _ => fun
  | [d1, d2] => { results := [.lit (.bool true)], args := [d1, d2] }
  | _ => none }
def linkEndsRow : OpenClaim := { program := "ytilippcmdhkddaadoor", sum := "b737b3381530bf04f1db79653e445a366b4b487262ab039ec693d33d008b3671", func := "incipit/incipitlaw09.LinkEnds", spec := "linkEnds", inPlace := ["internal/bytealg.IndexByteString", "internal/bytealg.IndexString", "internal/abi.NoEscape", "internal/bytealg.MakeNoZero", "internal/bytealg.abigen_runtime_cmpstring"], unfollowed := true, recurses := true, named := ["incipit/class.kinds", "unicode/utf8.first", "unicode/utf8.acceptRanges", "internal/bytealg.MaxLen"], apart := false, laid := [("unicode/utf8.acceptRanges", laid_unicode_utf8_acceptRanges), ("incipit/class.kinds", laid_incipit_class_kinds), ("unicode/utf8.first", laid_unicode_utf8_first)] }
def LinkEndsSaid : Prop := linkEndsRow.holds Tryd.pinned (OpenSpec.ofChange linkEndsSpec)

/-- ITS FALSE NEIGHBOUR: 'it returns false'. Refute it at one input. -/
def linkEndsWrong : ChangeSpec := { name := "linkEnds", fn := fun _ => fun
  | [d1, d2] => { results := [.lit (.bool false)], args := [d1, d2] }
  | _ => none }
def LinkEndsWrongFalsely : Prop := linkEndsRow.holds Tryd.pinned (OpenSpec.ofChange linkEndsWrong)

/-- 'incipitlaw09.LinkPlain': WHATEVER THE INPUT: true; the input reads as it did. -/
def linkPlainSpec : ChangeSpec := { name := "linkPlain", fn := fun _ => fun
  | [d1, d2, d3] => { results := [.lit (.bool true)], args := [d1, d2, d3] }
  | _ => none }
def linkPlainRow : OpenClaim := { program := "ytilippcmdhkddaadoor", sum := "b737b3381530bf04f1db79653e445a366b4b487262ab039ec693d33d008b3671", func := "incipit/incipitlaw09.LinkPlain", spec := "linkPlain", inPlace := ["internal/bytealg.IndexByteString", "internal/bytealg.IndexString", "internal/abi.NoEscape", "internal/bytealg.MakeNoZero", "internal/bytealg.abigen_runtime_cmpstring"], unfollowed := true, recurses := true, named := ["incipit/class.kinds", "unicode/utf8.first", "unicode/utf8.acceptRanges", "internal/bytealg.MaxLen"], apart := false, laid := [("unicode/utf8.acceptRanges", laid_unicode_utf8_acceptRanges), ("incipit/class.kinds", laid_incipit_class_kinds), ("unicode/utf8.first", laid_unicode_utf8_first)] }
def LinkPlainSaid : Prop := linkPlainRow.holds Tryd.pinned (OpenSpec.ofChange linkPlainSpec)

/-- ITS FALSE NEIGHBOUR: 'it returns false'. Refute it at one input. -/
def linkPlainWrong : ChangeSpec := { name := "linkPlain", fn := fun _ => fun
  | [d1, d2, d3] => { results := [.lit (.bool false)], args := [d1, d2, d3] }
  | _ => none }
def LinkPlainWrongFalsely : Prop := linkPlainRow.holds Tryd.pinned (OpenSpec.ofChange linkPlainWrong)

/-- 'incipitlaw09.LinkBlanks': WHATEVER THE INPUT: true; the input reads as it did. -/
def linkBlanksSpec : ChangeSpec := { name := "linkBlanks", fn := fun _ => fun
  | [d] => { results := [.lit (.bool true)], args := [d] }
  | _ => none }
def linkBlanksRow : OpenClaim := { program := "ytilippcmdhkddaadoor", sum := "b737b3381530bf04f1db79653e445a366b4b487262ab039ec693d33d008b3671", func := "incipit/incipitlaw09.LinkBlanks", spec := "linkBlanks", inPlace := ["internal/bytealg.IndexByteString", "internal/bytealg.IndexString", "internal/abi.NoEscape", "internal/bytealg.MakeNoZero", "internal/bytealg.abigen_runtime_cmpstring"], unfollowed := true, recurses := true, named := ["incipit/class.kinds", "unicode/utf8.first", "unicode/utf8.acceptRanges", "internal/bytealg.MaxLen"], apart := false, laid := [("unicode/utf8.acceptRanges", laid_unicode_utf8_acceptRanges), ("incipit/class.kinds", laid_incipit_class_kinds), ("unicode/utf8.first", laid_unicode_utf8_first)] }
def LinkBlanksSaid : Prop := linkBlanksRow.holds Tryd.pinned (OpenSpec.ofChange linkBlanksSpec)

/-- ITS FALSE NEIGHBOUR: 'it returns false'. Refute it at one input. -/
def linkBlanksWrong : ChangeSpec := { name := "linkBlanks", fn := fun _ => fun
  | [d] => { results := [.lit (.bool false)], args := [d] }
  | _ => none }
def LinkBlanksWrongFalsely : Prop := linkBlanksRow.holds Tryd.pinned (OpenSpec.ofChange linkBlanksWrong)

/-- 'incipitlaw09.LinkLabels': WHATEVER THE INPUT: true; the input reads as it did. -/
def linkLabelsSpec : ChangeSpec := { name := "linkLabels", fn := fun _ => fun
  | [d1, d2] => { results := [.lit (.bool true)], args := [d1, d2] }
  | _ => none }
def linkLabelsRow : OpenClaim := { program := "ytilippcmdhkddaadoor", sum := "b737b3381530bf04f1db79653e445a366b4b487262ab039ec693d33d008b3671", func := "incipit/incipitlaw09.LinkLabels", spec := "linkLabels", inPlace := ["internal/bytealg.IndexByteString", "internal/bytealg.IndexString", "internal/abi.NoEscape", "internal/bytealg.MakeNoZero", "internal/bytealg.abigen_runtime_cmpstring"], unfollowed := true, recurses := true, named := ["incipit/class.kinds", "unicode/utf8.first", "unicode/utf8.acceptRanges", "internal/bytealg.MaxLen"], apart := false, laid := [("unicode/utf8.acceptRanges", laid_unicode_utf8_acceptRanges), ("incipit/class.kinds", laid_incipit_class_kinds), ("unicode/utf8.first", laid_unicode_utf8_first)] }
def LinkLabelsSaid : Prop := linkLabelsRow.holds Tryd.pinned (OpenSpec.ofChange linkLabelsSpec)

/-- ITS FALSE NEIGHBOUR: 'it returns false'. Refute it at one input. -/
def linkLabelsWrong : ChangeSpec := { name := "linkLabels", fn := fun _ => fun
  | [d1, d2] => { results := [.lit (.bool false)], args := [d1, d2] }
  | _ => none }
def LinkLabelsWrongFalsely : Prop := linkLabelsRow.holds Tryd.pinned (OpenSpec.ofChange linkLabelsWrong)

/-- 'incipitlaw09.LinkNone': WHATEVER THE INPUT: true; the input reads as it did. -/
def linkNoneSpec : ChangeSpec := { name := "linkNone", fn := fun _ => fun
  | [d] => { results := [.lit (.bool true)], args := [d] }
  | _ => none }
def linkNoneRow : OpenClaim := { program := "ytilippcmdhkddaadoor", sum := "b737b3381530bf04f1db79653e445a366b4b487262ab039ec693d33d008b3671", func := "incipit/incipitlaw09.LinkNone", spec := "linkNone", inPlace := ["internal/bytealg.IndexByteString", "internal/bytealg.IndexString", "internal/abi.NoEscape", "internal/bytealg.MakeNoZero", "internal/bytealg.abigen_runtime_cmpstring"], unfollowed := true, recurses := true, named := ["incipit/class.kinds", "unicode/utf8.first", "unicode/utf8.acceptRanges", "internal/bytealg.MaxLen"], apart := false, laid := [("unicode/utf8.acceptRanges", laid_unicode_utf8_acceptRanges), ("incipit/class.kinds", laid_incipit_class_kinds), ("unicode/utf8.first", laid_unicode_utf8_first)] }
def LinkNoneSaid : Prop := linkNoneRow.holds Tryd.pinned (OpenSpec.ofChange linkNoneSpec)

/-- ITS FALSE NEIGHBOUR: 'it returns false'. Refute it at one input. -/
def linkNoneWrong : ChangeSpec := { name := "linkNone", fn := fun _ => fun
  | [d] => { results := [.lit (.bool false)], args := [d] }
  | _ => none }
def LinkNoneWrongFalsely : Prop := linkNoneRow.holds Tryd.pinned (OpenSpec.ofChange linkNoneWrong)

/- THE SECOND FORM. 'bulk': how many values and letters a reading holds, each counted each time it is reached (what is shared counts as often as it is met; a slice's spare places count too). A statement '..UptoSaid' is the law's where the arguments, and the package variables that the reading takes, are together of bulk at most 1048576: NARROWER than '..Said'. Prove '..Said' where nothing that the law and all that it calls make is longer than what came in: it says more and counts as full. Else prove '..UptoSaid'. A law counts once. -/
mutual
def uptoBulk {H : Type} : DataW H → Nat
  | .lit (.string bytes) => bytes.length + 1
  | .lit _ => 1
  | .nil => 1
  | .ptr d => uptoBulk d + 1
  | .slice elems spare => uptoBulkAll elems + uptoBulkAll spare + 1
  | .agg parts => uptoBulkAll parts + 1
  | .iface _ d => uptoBulk d + 1
  | .map entries => uptoBulkEntries entries + 1
  | .held _ => 1
def uptoBulkAll {H : Type} : List (DataW H) → Nat
  | [] => 0
  | d :: r => uptoBulk d + uptoBulkAll r
def uptoBulkEntries {H : Type} : List (Lit × DataW H) → Nat
  | [] => 0
  | x :: r => uptoBulkEntry x + uptoBulkEntries r
def uptoBulkEntry {H : Type} : Lit × DataW H → Nat
  | (.string bytes, d) => bytes.length + uptoBulk d + 1
  | (_, d) => uptoBulk d + 1
 end
def uptoSmall : (H : Type) → List (DataW H) → Bool := fun _ ds => decide (uptoBulkAll ds ≤ 1048576)
def OpenSpec.upto (s : _root_.Go.ChangeSpec) : _root_.Go.OpenSpec := { _root_.Go.OpenSpec.ofChange s with cond := some uptoSmall }

/-- 'incipitlaw09.LinkReads', WHERE WHAT IT READS IS OF BULK AT MOST 1048576: true; the input reads as it did. -/
def linkReadsUptoRow : OpenClaim := { program := "ytilippcmdhkddaadoor", sum := "b737b3381530bf04f1db79653e445a366b4b487262ab039ec693d33d008b3671", func := "incipit/incipitlaw09.LinkReads", spec := "linkReads", inPlace := ["internal/bytealg.IndexByteString", "internal/bytealg.IndexString", "internal/abi.NoEscape", "internal/bytealg.MakeNoZero", "internal/bytealg.abigen_runtime_cmpstring"], unfollowed := true, recurses := true, named := ["incipit/class.kinds", "unicode/utf8.first", "unicode/utf8.acceptRanges", "internal/bytealg.MaxLen"], apart := false, laid := [("unicode/utf8.acceptRanges", laid_unicode_utf8_acceptRanges), ("incipit/class.kinds", laid_incipit_class_kinds), ("unicode/utf8.first", laid_unicode_utf8_first)], narrowed := true }
def LinkReadsUptoSaid : Prop := linkReadsUptoRow.holds Tryd.pinned (OpenSpec.upto linkReadsSpec)

/-- 'incipitlaw09.LinkEnds', WHERE WHAT IT READS IS OF BULK AT MOST 1048576: true; the input reads as it did. -/
def linkEndsUptoRow : OpenClaim := { program := "ytilippcmdhkddaadoor", sum := "b737b3381530bf04f1db79653e445a366b4b487262ab039ec693d33d008b3671", func := "incipit/incipitlaw09.LinkEnds", spec := "linkEnds", inPlace := ["internal/bytealg.IndexByteString", "internal/bytealg.IndexString", "internal/abi.NoEscape", "internal/bytealg.MakeNoZero", "internal/bytealg.abigen_runtime_cmpstring"], unfollowed := true, recurses := true, named := ["incipit/class.kinds", "unicode/utf8.first", "unicode/utf8.acceptRanges", "internal/bytealg.MaxLen"], apart := false, laid := [("unicode/utf8.acceptRanges", laid_unicode_utf8_acceptRanges), ("incipit/class.kinds", laid_incipit_class_kinds), ("unicode/utf8.first", laid_unicode_utf8_first)], narrowed := true }
def LinkEndsUptoSaid : Prop := linkEndsUptoRow.holds Tryd.pinned (OpenSpec.upto linkEndsSpec)

/-- 'incipitlaw09.LinkPlain', WHERE WHAT IT READS IS OF BULK AT MOST 1048576: true; the input reads as it did. -/
def linkPlainUptoRow : OpenClaim := { program := "ytilippcmdhkddaadoor", sum := "b737b3381530bf04f1db79653e445a366b4b487262ab039ec693d33d008b3671", func := "incipit/incipitlaw09.LinkPlain", spec := "linkPlain", inPlace := ["internal/bytealg.IndexByteString", "internal/bytealg.IndexString", "internal/abi.NoEscape", "internal/bytealg.MakeNoZero", "internal/bytealg.abigen_runtime_cmpstring"], unfollowed := true, recurses := true, named := ["incipit/class.kinds", "unicode/utf8.first", "unicode/utf8.acceptRanges", "internal/bytealg.MaxLen"], apart := false, laid := [("unicode/utf8.acceptRanges", laid_unicode_utf8_acceptRanges), ("incipit/class.kinds", laid_incipit_class_kinds), ("unicode/utf8.first", laid_unicode_utf8_first)], narrowed := true }
def LinkPlainUptoSaid : Prop := linkPlainUptoRow.holds Tryd.pinned (OpenSpec.upto linkPlainSpec)

/-- 'incipitlaw09.LinkBlanks', WHERE WHAT IT READS IS OF BULK AT MOST 1048576: true; the input reads as it did. -/
def linkBlanksUptoRow : OpenClaim := { program := "ytilippcmdhkddaadoor", sum := "b737b3381530bf04f1db79653e445a366b4b487262ab039ec693d33d008b3671", func := "incipit/incipitlaw09.LinkBlanks", spec := "linkBlanks", inPlace := ["internal/bytealg.IndexByteString", "internal/bytealg.IndexString", "internal/abi.NoEscape", "internal/bytealg.MakeNoZero", "internal/bytealg.abigen_runtime_cmpstring"], unfollowed := true, recurses := true, named := ["incipit/class.kinds", "unicode/utf8.first", "unicode/utf8.acceptRanges", "internal/bytealg.MaxLen"], apart := false, laid := [("unicode/utf8.acceptRanges", laid_unicode_utf8_acceptRanges), ("incipit/class.kinds", laid_incipit_class_kinds), ("unicode/utf8.first", laid_unicode_utf8_first)], narrowed := true }
def LinkBlanksUptoSaid : Prop := linkBlanksUptoRow.holds Tryd.pinned (OpenSpec.upto linkBlanksSpec)

/-- 'incipitlaw09.LinkLabels', WHERE WHAT IT READS IS OF BULK AT MOST 1048576: true; the input reads as it did. -/
def linkLabelsUptoRow : OpenClaim := { program := "ytilippcmdhkddaadoor", sum := "b737b3381530bf04f1db79653e445a366b4b487262ab039ec693d33d008b3671", func := "incipit/incipitlaw09.LinkLabels", spec := "linkLabels", inPlace := ["internal/bytealg.IndexByteString", "internal/bytealg.IndexString", "internal/abi.NoEscape", "internal/bytealg.MakeNoZero", "internal/bytealg.abigen_runtime_cmpstring"], unfollowed := true, recurses := true, named := ["incipit/class.kinds", "unicode/utf8.first", "unicode/utf8.acceptRanges", "internal/bytealg.MaxLen"], apart := false, laid := [("unicode/utf8.acceptRanges", laid_unicode_utf8_acceptRanges), ("incipit/class.kinds", laid_incipit_class_kinds), ("unicode/utf8.first", laid_unicode_utf8_first)], narrowed := true }
def LinkLabelsUptoSaid : Prop := linkLabelsUptoRow.holds Tryd.pinned (OpenSpec.upto linkLabelsSpec)

/-- 'incipitlaw09.LinkNone', WHERE WHAT IT READS IS OF BULK AT MOST 1048576: true; the input reads as it did. -/
def linkNoneUptoRow : OpenClaim := { program := "ytilippcmdhkddaadoor", sum := "b737b3381530bf04f1db79653e445a366b4b487262ab039ec693d33d008b3671", func := "incipit/incipitlaw09.LinkNone", spec := "linkNone", inPlace := ["internal/bytealg.IndexByteString", "internal/bytealg.IndexString", "internal/abi.NoEscape", "internal/bytealg.MakeNoZero", "internal/bytealg.abigen_runtime_cmpstring"], unfollowed := true, recurses := true, named := ["incipit/class.kinds", "unicode/utf8.first", "unicode/utf8.acceptRanges", "internal/bytealg.MaxLen"], apart := false, laid := [("unicode/utf8.acceptRanges", laid_unicode_utf8_acceptRanges), ("incipit/class.kinds", laid_incipit_class_kinds), ("unicode/utf8.first", laid_unicode_utf8_first)], narrowed := true }
def LinkNoneUptoSaid : Prop := linkNoneUptoRow.holds Tryd.pinned (OpenSpec.upto linkNoneSpec)

end Rows
end Go.Proofs.YtilippcmdhkddaaDoor
