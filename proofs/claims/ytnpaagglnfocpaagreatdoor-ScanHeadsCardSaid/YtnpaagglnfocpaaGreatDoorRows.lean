/-
  NARROWER THAN 'FOR EVERY INPUT', by the rows' own cells (each row's printed sentence says how): ScanLines: laid · ScanTags: laid · ScanHtml: laid · ScanEnds: laid · ScanOne: laid · ScanIndents: laid · ScanHeads: laid.
  DERIVED. THE GIVEN ROWS OF THIS SEAT. 7 by the template 'for every input the law returns true; each argument reads behind the call as it read before'; 0 by the template 'total and deterministic' (their statements: YtnpaagglnfocpaaGreatDoorTotals.lean).
  GIVEN WITH THE SEED: the statements are not yours to turn. If you find one false, say at which input.
  Laid BY PROGRAM, IN A SANDBOX (cutbox-rows.mjs): the forced cells as the released guide's own fill.sh prints them over the translation c35a85330cc80a47… (all of the seat's roots in one cut). By AI agents, Wed Nov 11 2026. No macro, syntax, notation, axiom, sorry.
-/
import Derived.Test.YtnpaagglnfocpaaGreatDoorChecked
import GoSem.PinnedTables
import GoSem.Claim
import GoSem.ClaimJoined
import GoSem.ClaimMapViews
import Derived.JoinedTies
import Derived.KernelRfl
namespace Go.Proofs.YtnpaagglnfocpaaGreatDoor
/- THE CELL 'sum', in the pinned program and in every row, IS THE sha256 OF THE DUMP (.gsa) THAT YtnpaagglnfocpaaGreatDoorProg.lean LOADS. Nothing in Lean hashes anything: it is a label: what it is worth is what the hold of that sum in a sandbox is worth. -/
noncomputable def Tryz.pinned : Pinned := { name := "ytnpaagglnfocpaagreatdoor", sum := "c35a85330cc80a47026056a908a5fe7129d21b6aaf3dcc461d46d42c8b5beefd", checked := Tryz.checked }
namespace Rows
def none {H : Type} : Left H := { results := [], args := [] }

/- WHAT THE LISTED PACKAGE-LEVEL VARIABLES READ AS WHEN THE CALL BEGINS. Each datum BY PROGRAM (the guide's laid-datum.mjs) off the statement by which the dump's own 'gosem.cut.vars' lays the variable. In a bare row this is a premise. The card (YtnpaagglnfocpaaGreatDoorCards.lean) ties it to the program's text. -/
def laid_unicode_utf8_acceptRanges {H : Type} : DataW H := .agg [.agg [.lit (.int .u8 128), .lit (.int .u8 191)], .agg [.lit (.int .u8 160), .lit (.int .u8 191)], .agg [.lit (.int .u8 128), .lit (.int .u8 159)], .agg [.lit (.int .u8 144), .lit (.int .u8 191)], .agg [.lit (.int .u8 128), .lit (.int .u8 143)], .agg [.lit (.int .u8 0), .lit (.int .u8 0)], .agg [.lit (.int .u8 0), .lit (.int .u8 0)], .agg [.lit (.int .u8 0), .lit (.int .u8 0)], .agg [.lit (.int .u8 0), .lit (.int .u8 0)], .agg [.lit (.int .u8 0), .lit (.int .u8 0)], .agg [.lit (.int .u8 0), .lit (.int .u8 0)], .agg [.lit (.int .u8 0), .lit (.int .u8 0)], .agg [.lit (.int .u8 0), .lit (.int .u8 0)], .agg [.lit (.int .u8 0), .lit (.int .u8 0)], .agg [.lit (.int .u8 0), .lit (.int .u8 0)], .agg [.lit (.int .u8 0), .lit (.int .u8 0)]]
def laid_incipit_class_capitals {H : Type} : DataW H := .agg [.agg [.lit (.int .i32 65), .lit (.int .i32 90), .lit (.int .i32 32)], .agg [.lit (.int .i32 192), .lit (.int .i32 214), .lit (.int .i32 32)], .agg [.lit (.int .i32 216), .lit (.int .i32 222), .lit (.int .i32 32)], .agg [.lit (.int .i32 913), .lit (.int .i32 929), .lit (.int .i32 32)], .agg [.lit (.int .i32 931), .lit (.int .i32 939), .lit (.int .i32 32)], .agg [.lit (.int .i32 962), .lit (.int .i32 962), .lit (.int .i32 1)], .agg [.lit (.int .i32 1024), .lit (.int .i32 1039), .lit (.int .i32 80)], .agg [.lit (.int .i32 1040), .lit (.int .i32 1071), .lit (.int .i32 32)]]
/-- One of Go's own tables, pinned by name: the form's constant. -/
def laid_unicode_utf8_first : DataW Unit := Go.Pinned.utf8First

/-- 'incipitlaw08.ScanLines': WHATEVER THE INPUT: true; the input reads as it did. -/
def scanLinesSpec : ChangeSpec := { name := "scanLines", fn := fun _ => fun
  | [d1, d2, d3] => { results := [.lit (.bool true)], args := [d1, d2, d3] }
  | _ => none }
def scanLinesRow : OpenClaim := { program := "ytnpaagglnfocpaagreatdoor", sum := "c35a85330cc80a47026056a908a5fe7129d21b6aaf3dcc461d46d42c8b5beefd", func := "incipit/incipitlaw08.ScanLines", spec := "scanLines", inPlace := ["internal/bytealg.IndexByteString", "internal/bytealg.IndexString", "internal/abi.NoEscape", "internal/bytealg.MakeNoZero"], unfollowed := true, recurses := true, named := ["unicode/utf8.first", "unicode/utf8.acceptRanges", "internal/bytealg.MaxLen", "incipit/class.capitals"], apart := false, laid := [("unicode/utf8.acceptRanges", laid_unicode_utf8_acceptRanges), ("incipit/class.capitals", laid_incipit_class_capitals), ("unicode/utf8.first", laid_unicode_utf8_first)] }
def ScanLinesSaid : Prop := scanLinesRow.holds Tryz.pinned (OpenSpec.ofChange scanLinesSpec)

/-- ITS FALSE NEIGHBOUR: 'it returns false'. Refute it at one input. -/
def scanLinesWrong : ChangeSpec := { name := "scanLines", fn := fun _ => fun
  | [d1, d2, d3] => { results := [.lit (.bool false)], args := [d1, d2, d3] }
  | _ => none }
def ScanLinesWrongFalsely : Prop := scanLinesRow.holds Tryz.pinned (OpenSpec.ofChange scanLinesWrong)

/-- 'incipitlaw08.ScanTags': WHATEVER THE INPUT: true; the input reads as it did. -/
def scanTagsSpec : ChangeSpec := { name := "scanTags", fn := fun _ => fun
  | [d] => { results := [.lit (.bool true)], args := [d] }
  | _ => none }
def scanTagsRow : OpenClaim := { program := "ytnpaagglnfocpaagreatdoor", sum := "c35a85330cc80a47026056a908a5fe7129d21b6aaf3dcc461d46d42c8b5beefd", func := "incipit/incipitlaw08.ScanTags", spec := "scanTags", inPlace := ["internal/bytealg.IndexByteString", "internal/bytealg.IndexString", "internal/abi.NoEscape", "internal/bytealg.MakeNoZero"], unfollowed := true, recurses := true, named := ["unicode/utf8.first", "unicode/utf8.acceptRanges", "internal/bytealg.MaxLen", "incipit/class.capitals"], apart := false, laid := [("unicode/utf8.acceptRanges", laid_unicode_utf8_acceptRanges), ("incipit/class.capitals", laid_incipit_class_capitals), ("unicode/utf8.first", laid_unicode_utf8_first)] }
def ScanTagsSaid : Prop := scanTagsRow.holds Tryz.pinned (OpenSpec.ofChange scanTagsSpec)

/-- ITS FALSE NEIGHBOUR: 'it returns false'. Refute it at one input. -/
def scanTagsWrong : ChangeSpec := { name := "scanTags", fn := fun _ => fun
  | [d] => { results := [.lit (.bool false)], args := [d] }
  | _ => none }
def ScanTagsWrongFalsely : Prop := scanTagsRow.holds Tryz.pinned (OpenSpec.ofChange scanTagsWrong)

/-- 'incipitlaw08.ScanHtml': WHATEVER THE INPUT: true; the input reads as it did. -/
def scanHtmlSpec : ChangeSpec := { name := "scanHtml", fn := fun _ => fun
  | [d1, d2] => { results := [.lit (.bool true)], args := [d1, d2] }
  | _ => none }
def scanHtmlRow : OpenClaim := { program := "ytnpaagglnfocpaagreatdoor", sum := "c35a85330cc80a47026056a908a5fe7129d21b6aaf3dcc461d46d42c8b5beefd", func := "incipit/incipitlaw08.ScanHtml", spec := "scanHtml", inPlace := ["internal/bytealg.IndexByteString", "internal/bytealg.IndexString", "internal/abi.NoEscape", "internal/bytealg.MakeNoZero"], unfollowed := true, recurses := true, named := ["unicode/utf8.first", "unicode/utf8.acceptRanges", "internal/bytealg.MaxLen", "incipit/class.capitals"], apart := false, laid := [("unicode/utf8.acceptRanges", laid_unicode_utf8_acceptRanges), ("incipit/class.capitals", laid_incipit_class_capitals), ("unicode/utf8.first", laid_unicode_utf8_first)] }
def ScanHtmlSaid : Prop := scanHtmlRow.holds Tryz.pinned (OpenSpec.ofChange scanHtmlSpec)

/-- ITS FALSE NEIGHBOUR: 'it returns false'. Refute it at one input. -/
def scanHtmlWrong : ChangeSpec := { name := "scanHtml", fn := fun _ => fun
  | [d1, d2] => { results := [.lit (.bool false)], args := [d1, d2] }
  | _ => none }
def ScanHtmlWrongFalsely : Prop := scanHtmlRow.holds Tryz.pinned (OpenSpec.ofChange scanHtmlWrong)

/-- 'incipitlaw08.ScanEnds': WHATEVER THE INPUT: true; the input reads as it did. -/
def scanEndsSpec : ChangeSpec := { name := "scanEnds", fn := fun _ => fun
  | [d1, d2] => { results := [.lit (.bool true)], args := [d1, d2] }
  | _ => none }
def scanEndsRow : OpenClaim := { program := "ytnpaagglnfocpaagreatdoor", sum := "c35a85330cc80a47026056a908a5fe7129d21b6aaf3dcc461d46d42c8b5beefd", func := "incipit/incipitlaw08.ScanEnds", spec := "scanEnds", inPlace := ["internal/bytealg.IndexByteString", "internal/bytealg.IndexString", "internal/abi.NoEscape", "internal/bytealg.MakeNoZero"], unfollowed := true, recurses := true, named := ["unicode/utf8.first", "unicode/utf8.acceptRanges", "internal/bytealg.MaxLen", "incipit/class.capitals"], apart := false, laid := [("unicode/utf8.acceptRanges", laid_unicode_utf8_acceptRanges), ("incipit/class.capitals", laid_incipit_class_capitals), ("unicode/utf8.first", laid_unicode_utf8_first)] }
def ScanEndsSaid : Prop := scanEndsRow.holds Tryz.pinned (OpenSpec.ofChange scanEndsSpec)

/-- ITS FALSE NEIGHBOUR: 'it returns false'. Refute it at one input. -/
def scanEndsWrong : ChangeSpec := { name := "scanEnds", fn := fun _ => fun
  | [d1, d2] => { results := [.lit (.bool false)], args := [d1, d2] }
  | _ => none }
def ScanEndsWrongFalsely : Prop := scanEndsRow.holds Tryz.pinned (OpenSpec.ofChange scanEndsWrong)

/-- 'incipitlaw08.ScanOne': WHATEVER THE INPUT: true; the input reads as it did. -/
def scanOneSpec : ChangeSpec := { name := "scanOne", fn := fun _ => fun
  | [d] => { results := [.lit (.bool true)], args := [d] }
  | _ => none }
def scanOneRow : OpenClaim := { program := "ytnpaagglnfocpaagreatdoor", sum := "c35a85330cc80a47026056a908a5fe7129d21b6aaf3dcc461d46d42c8b5beefd", func := "incipit/incipitlaw08.ScanOne", spec := "scanOne", inPlace := ["internal/bytealg.IndexByteString", "internal/bytealg.IndexString", "internal/abi.NoEscape", "internal/bytealg.MakeNoZero"], unfollowed := true, recurses := true, named := ["unicode/utf8.first", "unicode/utf8.acceptRanges", "internal/bytealg.MaxLen", "incipit/class.capitals"], apart := false, laid := [("unicode/utf8.acceptRanges", laid_unicode_utf8_acceptRanges), ("incipit/class.capitals", laid_incipit_class_capitals), ("unicode/utf8.first", laid_unicode_utf8_first)] }
def ScanOneSaid : Prop := scanOneRow.holds Tryz.pinned (OpenSpec.ofChange scanOneSpec)

/-- ITS FALSE NEIGHBOUR: 'it returns false'. Refute it at one input. -/
def scanOneWrong : ChangeSpec := { name := "scanOne", fn := fun _ => fun
  | [d] => { results := [.lit (.bool false)], args := [d] }
  | _ => none }
def ScanOneWrongFalsely : Prop := scanOneRow.holds Tryz.pinned (OpenSpec.ofChange scanOneWrong)

/-- 'incipitlaw08.ScanIndents': WHATEVER THE INPUT: true; the input reads as it did. -/
def scanIndentsSpec : ChangeSpec := { name := "scanIndents", fn := fun _ => fun
  | [d] => { results := [.lit (.bool true)], args := [d] }
  | _ => none }
def scanIndentsRow : OpenClaim := { program := "ytnpaagglnfocpaagreatdoor", sum := "c35a85330cc80a47026056a908a5fe7129d21b6aaf3dcc461d46d42c8b5beefd", func := "incipit/incipitlaw08.ScanIndents", spec := "scanIndents", inPlace := ["internal/bytealg.IndexByteString", "internal/bytealg.IndexString", "internal/abi.NoEscape", "internal/bytealg.MakeNoZero"], unfollowed := true, recurses := true, named := ["unicode/utf8.first", "unicode/utf8.acceptRanges", "internal/bytealg.MaxLen", "incipit/class.capitals"], apart := false, laid := [("unicode/utf8.acceptRanges", laid_unicode_utf8_acceptRanges), ("incipit/class.capitals", laid_incipit_class_capitals), ("unicode/utf8.first", laid_unicode_utf8_first)] }
def ScanIndentsSaid : Prop := scanIndentsRow.holds Tryz.pinned (OpenSpec.ofChange scanIndentsSpec)

/-- ITS FALSE NEIGHBOUR: 'it returns false'. Refute it at one input. -/
def scanIndentsWrong : ChangeSpec := { name := "scanIndents", fn := fun _ => fun
  | [d] => { results := [.lit (.bool false)], args := [d] }
  | _ => none }
def ScanIndentsWrongFalsely : Prop := scanIndentsRow.holds Tryz.pinned (OpenSpec.ofChange scanIndentsWrong)

/-- 'incipitlaw08.ScanHeads': WHATEVER THE INPUT: true; the input reads as it did. -/
def scanHeadsSpec : ChangeSpec := { name := "scanHeads", fn := fun _ => fun
  | [d1, d2] => { results := [.lit (.bool true)], args := [d1, d2] }
  | _ => none }
def scanHeadsRow : OpenClaim := { program := "ytnpaagglnfocpaagreatdoor", sum := "c35a85330cc80a47026056a908a5fe7129d21b6aaf3dcc461d46d42c8b5beefd", func := "incipit/incipitlaw08.ScanHeads", spec := "scanHeads", inPlace := ["internal/bytealg.IndexByteString", "internal/bytealg.IndexString", "internal/abi.NoEscape", "internal/bytealg.MakeNoZero"], unfollowed := true, recurses := true, named := ["unicode/utf8.first", "unicode/utf8.acceptRanges", "internal/bytealg.MaxLen", "incipit/class.capitals"], apart := false, laid := [("unicode/utf8.acceptRanges", laid_unicode_utf8_acceptRanges), ("incipit/class.capitals", laid_incipit_class_capitals), ("unicode/utf8.first", laid_unicode_utf8_first)] }
def ScanHeadsSaid : Prop := scanHeadsRow.holds Tryz.pinned (OpenSpec.ofChange scanHeadsSpec)

/-- ITS FALSE NEIGHBOUR: 'it returns false'. Refute it at one input. -/
def scanHeadsWrong : ChangeSpec := { name := "scanHeads", fn := fun _ => fun
  | [d1, d2] => { results := [.lit (.bool false)], args := [d1, d2] }
  | _ => none }
def ScanHeadsWrongFalsely : Prop := scanHeadsRow.holds Tryz.pinned (OpenSpec.ofChange scanHeadsWrong)

/- THE SECOND FORM. 'bulk': how many values and letters a reading holds, each counted each time it is reached (what is shared counts as often as it is met; a slice's spare places count too). A statement '..UptoSaid' is the law's where the arguments, and the package variables that the reading takes, are together of bulk at most 1048576: NARROWER than '..Said'. Prove '..Said' where nothing that the law and all that it calls make is longer than what came in: it says more and counts as full. Else prove '..UptoSaid'. A law counts once. -/
mutual
def uptoBulk {H : Type} : DataW H → Nat
  | .lit (.string bytes) => bytes.length + 1
  | .lit _ => 1
  | .nil => 1
  | .ptr d => uptoBulk d + 1
  | .slice elems spare => uptoBulkAll elems + uptoBulkAll spare + 1
  | .agg parts => uptoBulkAll parts + 1
  | .iface _ d => uptoBulk d + 1
  | .map entries => uptoBulkEntries entries + 1
  | .held _ => 1
def uptoBulkAll {H : Type} : List (DataW H) → Nat
  | [] => 0
  | d :: r => uptoBulk d + uptoBulkAll r
def uptoBulkEntries {H : Type} : List (Lit × DataW H) → Nat
  | [] => 0
  | x :: r => uptoBulkEntry x + uptoBulkEntries r
def uptoBulkEntry {H : Type} : Lit × DataW H → Nat
  | (.string bytes, d) => bytes.length + uptoBulk d + 1
  | (_, d) => uptoBulk d + 1
 end
def uptoSmall : (H : Type) → List (DataW H) → Bool := fun _ ds => decide (uptoBulkAll ds ≤ 1048576)
def OpenSpec.upto (s : _root_.Go.ChangeSpec) : _root_.Go.OpenSpec := { _root_.Go.OpenSpec.ofChange s with cond := some uptoSmall }

/-- 'incipitlaw08.ScanLines', WHERE WHAT IT READS IS OF BULK AT MOST 1048576: true; the input reads as it did. -/
def scanLinesUptoRow : OpenClaim := { program := "ytnpaagglnfocpaagreatdoor", sum := "c35a85330cc80a47026056a908a5fe7129d21b6aaf3dcc461d46d42c8b5beefd", func := "incipit/incipitlaw08.ScanLines", spec := "scanLines", inPlace := ["internal/bytealg.IndexByteString", "internal/bytealg.IndexString", "internal/abi.NoEscape", "internal/bytealg.MakeNoZero"], unfollowed := true, recurses := true, named := ["unicode/utf8.first", "unicode/utf8.acceptRanges", "internal/bytealg.MaxLen", "incipit/class.capitals"], apart := false, laid := [("unicode/utf8.acceptRanges", laid_unicode_utf8_acceptRanges), ("incipit/class.capitals", laid_incipit_class_capitals), ("unicode/utf8.first", laid_unicode_utf8_first)], narrowed := true }
def ScanLinesUptoSaid : Prop := scanLinesUptoRow.holds Tryz.pinned (OpenSpec.upto scanLinesSpec)

/-- 'incipitlaw08.ScanTags', WHERE WHAT IT READS IS OF BULK AT MOST 1048576: true; the input reads as it did. -/
def scanTagsUptoRow : OpenClaim := { program := "ytnpaagglnfocpaagreatdoor", sum := "c35a85330cc80a47026056a908a5fe7129d21b6aaf3dcc461d46d42c8b5beefd", func := "incipit/incipitlaw08.ScanTags", spec := "scanTags", inPlace := ["internal/bytealg.IndexByteString", "internal/bytealg.IndexString", "internal/abi.NoEscape", "internal/bytealg.MakeNoZero"], unfollowed := true, recurses := true, named := ["unicode/utf8.first", "unicode/utf8.acceptRanges", "internal/bytealg.MaxLen", "incipit/class.capitals"], apart := false, laid := [("unicode/utf8.acceptRanges", laid_unicode_utf8_acceptRanges), ("incipit/class.capitals", laid_incipit_class_capitals), ("unicode/utf8.first", laid_unicode_utf8_first)], narrowed := true }
def ScanTagsUptoSaid : Prop := scanTagsUptoRow.holds Tryz.pinned (OpenSpec.upto scanTagsSpec)

/-- 'incipitlaw08.ScanHtml', WHERE WHAT IT READS IS OF BULK AT MOST 1048576: true; the input reads as it did. -/
def scanHtmlUptoRow : OpenClaim := { program := "ytnpaagglnfocpaagreatdoor", sum := "c35a85330cc80a47026056a908a5fe7129d21b6aaf3dcc461d46d42c8b5beefd", func := "incipit/incipitlaw08.ScanHtml", spec := "scanHtml", inPlace := ["internal/bytealg.IndexByteString", "internal/bytealg.IndexString", "internal/abi.NoEscape", "internal/bytealg.MakeNoZero"], unfollowed := true, recurses := true, named := ["unicode/utf8.first", "unicode/utf8.acceptRanges", "internal/bytealg.MaxLen", "incipit/class.capitals"], apart := false, laid := [("unicode/utf8.acceptRanges", laid_unicode_utf8_acceptRanges), ("incipit/class.capitals", laid_incipit_class_capitals), ("unicode/utf8.first", laid_unicode_utf8_first)], narrowed := true }
def ScanHtmlUptoSaid : Prop := scanHtmlUptoRow.holds Tryz.pinned (OpenSpec.upto scanHtmlSpec)

/-- 'incipitlaw08.ScanEnds', WHERE WHAT IT READS IS OF BULK AT MOST 1048576: true; the input reads as it did. -/
def scanEndsUptoRow : OpenClaim := { program := "ytnpaagglnfocpaagreatdoor", sum := "c35a85330cc80a47026056a908a5fe7129d21b6aaf3dcc461d46d42c8b5beefd", func := "incipit/incipitlaw08.ScanEnds", spec := "scanEnds", inPlace := ["internal/bytealg.IndexByteString", "internal/bytealg.IndexString", "internal/abi.NoEscape", "internal/bytealg.MakeNoZero"], unfollowed := true, recurses := true, named := ["unicode/utf8.first", "unicode/utf8.acceptRanges", "internal/bytealg.MaxLen", "incipit/class.capitals"], apart := false, laid := [("unicode/utf8.acceptRanges", laid_unicode_utf8_acceptRanges), ("incipit/class.capitals", laid_incipit_class_capitals), ("unicode/utf8.first", laid_unicode_utf8_first)], narrowed := true }
def ScanEndsUptoSaid : Prop := scanEndsUptoRow.holds Tryz.pinned (OpenSpec.upto scanEndsSpec)

/-- 'incipitlaw08.ScanOne', WHERE WHAT IT READS IS OF BULK AT MOST 1048576: true; the input reads as it did. -/
def scanOneUptoRow : OpenClaim := { program := "ytnpaagglnfocpaagreatdoor", sum := "c35a85330cc80a47026056a908a5fe7129d21b6aaf3dcc461d46d42c8b5beefd", func := "incipit/incipitlaw08.ScanOne", spec := "scanOne", inPlace := ["internal/bytealg.IndexByteString", "internal/bytealg.IndexString", "internal/abi.NoEscape", "internal/bytealg.MakeNoZero"], unfollowed := true, recurses := true, named := ["unicode/utf8.first", "unicode/utf8.acceptRanges", "internal/bytealg.MaxLen", "incipit/class.capitals"], apart := false, laid := [("unicode/utf8.acceptRanges", laid_unicode_utf8_acceptRanges), ("incipit/class.capitals", laid_incipit_class_capitals), ("unicode/utf8.first", laid_unicode_utf8_first)], narrowed := true }
def ScanOneUptoSaid : Prop := scanOneUptoRow.holds Tryz.pinned (OpenSpec.upto scanOneSpec)

/-- 'incipitlaw08.ScanIndents', WHERE WHAT IT READS IS OF BULK AT MOST 1048576: true; the input reads as it did. -/
def scanIndentsUptoRow : OpenClaim := { program := "ytnpaagglnfocpaagreatdoor", sum := "c35a85330cc80a47026056a908a5fe7129d21b6aaf3dcc461d46d42c8b5beefd", func := "incipit/incipitlaw08.ScanIndents", spec := "scanIndents", inPlace := ["internal/bytealg.IndexByteString", "internal/bytealg.IndexString", "internal/abi.NoEscape", "internal/bytealg.MakeNoZero"], unfollowed := true, recurses := true, named := ["unicode/utf8.first", "unicode/utf8.acceptRanges", "internal/bytealg.MaxLen", "incipit/class.capitals"], apart := false, laid := [("unicode/utf8.acceptRanges", laid_unicode_utf8_acceptRanges), ("incipit/class.capitals", laid_incipit_class_capitals), ("unicode/utf8.first", laid_unicode_utf8_first)], narrowed := true }
def ScanIndentsUptoSaid : Prop := scanIndentsUptoRow.holds Tryz.pinned (OpenSpec.upto scanIndentsSpec)

/-- 'incipitlaw08.ScanHeads', WHERE WHAT IT READS IS OF BULK AT MOST 1048576: true; the input reads as it did. -/
def scanHeadsUptoRow : OpenClaim := { program := "ytnpaagglnfocpaagreatdoor", sum := "c35a85330cc80a47026056a908a5fe7129d21b6aaf3dcc461d46d42c8b5beefd", func := "incipit/incipitlaw08.ScanHeads", spec := "scanHeads", inPlace := ["internal/bytealg.IndexByteString", "internal/bytealg.IndexString", "internal/abi.NoEscape", "internal/bytealg.MakeNoZero"], unfollowed := true, recurses := true, named := ["unicode/utf8.first", "unicode/utf8.acceptRanges", "internal/bytealg.MaxLen", "incipit/class.capitals"], apart := false, laid := [("unicode/utf8.acceptRanges", laid_unicode_utf8_acceptRanges), ("incipit/class.capitals", laid_incipit_class_capitals), ("unicode/utf8.first", laid_unicode_utf8_first)], narrowed := true }
def ScanHeadsUptoSaid : Prop := scanHeadsUptoRow.holds Tryz.pinned (OpenSpec.upto scanHeadsSpec)

end Rows
end Go.Proofs.YtnpaagglnfocpaaGreatDoor
