/-
  NARROWER THAN 'FOR EVERY INPUT', by the rows' own cells (each row's printed sentence says how): BlockNodes: laid · BlockInside: laid · BlockQuotes: laid · BlockItems: laid · BlockPlain: laid · BlockRules: laid · BlockFences: laid · BlockApart: laid.
  DERIVED. THE GIVEN ROWS OF THIS SEAT. 8 by the template 'for every input the law returns true; each argument reads behind the call as it read before'; 0 by the template 'total and deterministic' (their statements: YtkiipaaaakhhfaaGreatDoorTotals.lean).
  GIVEN WITH THE SEED: the statements are not yours to turn. If you find one false, say at which input.
  Laid BY PROGRAM, IN A SANDBOX (cutbox-rows.mjs): the forced cells as the released guide's own fill.sh prints them over the translation 21df5a628b6cf475… (all of the seat's roots in one cut). By AI agents, Wed Nov 11 2026. No macro, syntax, notation, axiom, sorry.
-/
import Derived.Test.YtkiipaaaakhhfaaGreatDoorChecked
import GoSem.PinnedTables
import GoSem.Claim
import GoSem.ClaimJoined
import GoSem.ClaimMapViews
import Derived.JoinedTies
import Derived.KernelRfl
namespace Go.Proofs.YtkiipaaaakhhfaaGreatDoor
/- THE CELL 'sum', in the pinned program and in every row, IS THE sha256 OF THE DUMP (.gsa) THAT YtkiipaaaakhhfaaGreatDoorProg.lean LOADS. Nothing in Lean hashes anything: it is a label: what it is worth is what the hold of that sum in a sandbox is worth. -/
noncomputable def Tryz.pinned : Pinned := { name := "ytkiipaaaakhhfaagreatdoor", sum := "21df5a628b6cf4755609587c55163a479e58b6cc5d777fe54663c76f7f9fbc19", checked := Tryz.checked }
namespace Rows
def none {H : Type} : Left H := { results := [], args := [] }

/- WHAT THE LISTED PACKAGE-LEVEL VARIABLES READ AS WHEN THE CALL BEGINS. Each datum BY PROGRAM (the guide's laid-datum.mjs) off the statement by which the dump's own 'gosem.cut.vars' lays the variable. In a bare row this is a premise. The card (YtkiipaaaakhhfaaGreatDoorCards.lean) ties it to the program's text. -/
def laid_unicode_utf8_acceptRanges {H : Type} : DataW H := .agg [.agg [.lit (.int .u8 128), .lit (.int .u8 191)], .agg [.lit (.int .u8 160), .lit (.int .u8 191)], .agg [.lit (.int .u8 128), .lit (.int .u8 159)], .agg [.lit (.int .u8 144), .lit (.int .u8 191)], .agg [.lit (.int .u8 128), .lit (.int .u8 143)], .agg [.lit (.int .u8 0), .lit (.int .u8 0)], .agg [.lit (.int .u8 0), .lit (.int .u8 0)], .agg [.lit (.int .u8 0), .lit (.int .u8 0)], .agg [.lit (.int .u8 0), .lit (.int .u8 0)], .agg [.lit (.int .u8 0), .lit (.int .u8 0)], .agg [.lit (.int .u8 0), .lit (.int .u8 0)], .agg [.lit (.int .u8 0), .lit (.int .u8 0)], .agg [.lit (.int .u8 0), .lit (.int .u8 0)], .agg [.lit (.int .u8 0), .lit (.int .u8 0)], .agg [.lit (.int .u8 0), .lit (.int .u8 0)], .agg [.lit (.int .u8 0), .lit (.int .u8 0)]]
def laid_incipit_class_kinds {H : Type} : DataW H := .agg [.agg [.lit (.int .i32 9), .lit (.int .i32 10), .lit (.int .i64 1)], .agg [.lit (.int .i32 12), .lit (.int .i32 13), .lit (.int .i64 1)], .agg [.lit (.int .i32 32), .lit (.int .i32 32), .lit (.int .i64 1)], .agg [.lit (.int .i32 33), .lit (.int .i32 47), .lit (.int .i64 2)], .agg [.lit (.int .i32 58), .lit (.int .i32 64), .lit (.int .i64 2)], .agg [.lit (.int .i32 91), .lit (.int .i32 96), .lit (.int .i64 2)], .agg [.lit (.int .i32 123), .lit (.int .i32 126), .lit (.int .i64 2)], .agg [.lit (.int .i32 160), .lit (.int .i32 160), .lit (.int .i64 1)], .agg [.lit (.int .i32 161), .lit (.int .i32 169), .lit (.int .i64 2)], .agg [.lit (.int .i32 171), .lit (.int .i32 172), .lit (.int .i64 2)], .agg [.lit (.int .i32 174), .lit (.int .i32 177), .lit (.int .i64 2)], .agg [.lit (.int .i32 180), .lit (.int .i32 180), .lit (.int .i64 2)], .agg [.lit (.int .i32 182), .lit (.int .i32 184), .lit (.int .i64 2)], .agg [.lit (.int .i32 187), .lit (.int .i32 187), .lit (.int .i64 2)], .agg [.lit (.int .i32 191), .lit (.int .i32 191), .lit (.int .i64 2)], .agg [.lit (.int .i32 215), .lit (.int .i32 215), .lit (.int .i64 2)], .agg [.lit (.int .i32 247), .lit (.int .i32 247), .lit (.int .i64 2)], .agg [.lit (.int .i32 5760), .lit (.int .i32 5760), .lit (.int .i64 1)], .agg [.lit (.int .i32 8192), .lit (.int .i32 8202), .lit (.int .i64 1)], .agg [.lit (.int .i32 8208), .lit (.int .i32 8231), .lit (.int .i64 2)], .agg [.lit (.int .i32 8239), .lit (.int .i32 8239), .lit (.int .i64 1)], .agg [.lit (.int .i32 8240), .lit (.int .i32 8286), .lit (.int .i64 2)], .agg [.lit (.int .i32 8287), .lit (.int .i32 8287), .lit (.int .i64 1)], .agg [.lit (.int .i32 8352), .lit (.int .i32 8384), .lit (.int .i64 2)], .agg [.lit (.int .i32 12288), .lit (.int .i32 12288), .lit (.int .i64 1)], .agg [.lit (.int .i32 12289), .lit (.int .i32 12291), .lit (.int .i64 2)], .agg [.lit (.int .i32 12296), .lit (.int .i32 12319), .lit (.int .i64 2)], .agg [.lit (.int .i32 65281), .lit (.int .i32 65295), .lit (.int .i64 2)]]
def laid_incipit_class_capitals {H : Type} : DataW H := .agg [.agg [.lit (.int .i32 65), .lit (.int .i32 90), .lit (.int .i32 32)], .agg [.lit (.int .i32 192), .lit (.int .i32 214), .lit (.int .i32 32)], .agg [.lit (.int .i32 216), .lit (.int .i32 222), .lit (.int .i32 32)], .agg [.lit (.int .i32 913), .lit (.int .i32 929), .lit (.int .i32 32)], .agg [.lit (.int .i32 931), .lit (.int .i32 939), .lit (.int .i32 32)], .agg [.lit (.int .i32 962), .lit (.int .i32 962), .lit (.int .i32 1)], .agg [.lit (.int .i32 1024), .lit (.int .i32 1039), .lit (.int .i32 80)], .agg [.lit (.int .i32 1040), .lit (.int .i32 1071), .lit (.int .i32 32)]]
/-- One of Go's own tables, pinned by name: the form's constant. -/
def laid_unicode_utf8_first : DataW Unit := Go.Pinned.utf8First

/-- 'incipitlaw11.BlockNodes': WHATEVER THE INPUT: true; the input reads as it did. -/
def blockNodesSpec : ChangeSpec := { name := "blockNodes", fn := fun _ => fun
  | [d1, d2, d3] => { results := [.lit (.bool true)], args := [d1, d2, d3] }
  | _ => none }
def blockNodesRow : OpenClaim := { program := "ytkiipaaaakhhfaagreatdoor", sum := "21df5a628b6cf4755609587c55163a479e58b6cc5d777fe54663c76f7f9fbc19", func := "incipit/incipitlaw11.BlockNodes", spec := "blockNodes", inPlace := ["internal/bytealg.IndexByteString", "internal/bytealg.IndexString", "internal/abi.NoEscape", "internal/bytealg.MakeNoZero", "internal/bytealg.abigen_runtime_cmpstring", "internal/bytealg.CountString"], unfollowed := true, recurses := true, named := ["unicode/utf8.first", "unicode/utf8.acceptRanges", "internal/bytealg.MaxLen", "incipit/class.capitals", "incipit/class.kinds"], apart := false, laid := [("unicode/utf8.acceptRanges", laid_unicode_utf8_acceptRanges), ("incipit/class.kinds", laid_incipit_class_kinds), ("incipit/class.capitals", laid_incipit_class_capitals), ("unicode/utf8.first", laid_unicode_utf8_first)] }
def BlockNodesSaid : Prop := blockNodesRow.holds Tryz.pinned (OpenSpec.ofChange blockNodesSpec)

/-- ITS FALSE NEIGHBOUR: 'it returns false'. Refute it at one input. -/
def blockNodesWrong : ChangeSpec := { name := "blockNodes", fn := fun _ => fun
  | [d1, d2, d3] => { results := [.lit (.bool false)], args := [d1, d2, d3] }
  | _ => none }
def BlockNodesWrongFalsely : Prop := blockNodesRow.holds Tryz.pinned (OpenSpec.ofChange blockNodesWrong)

/-- 'incipitlaw11.BlockInside': WHATEVER THE INPUT: true; the input reads as it did. -/
def blockInsideSpec : ChangeSpec := { name := "blockInside", fn := fun _ => fun
  | [d1, d2] => { results := [.lit (.bool true)], args := [d1, d2] }
  | _ => none }
def blockInsideRow : OpenClaim := { program := "ytkiipaaaakhhfaagreatdoor", sum := "21df5a628b6cf4755609587c55163a479e58b6cc5d777fe54663c76f7f9fbc19", func := "incipit/incipitlaw11.BlockInside", spec := "blockInside", inPlace := ["internal/bytealg.IndexByteString", "internal/bytealg.IndexString", "internal/abi.NoEscape", "internal/bytealg.MakeNoZero", "internal/bytealg.abigen_runtime_cmpstring", "internal/bytealg.CountString"], unfollowed := true, recurses := true, named := ["unicode/utf8.first", "unicode/utf8.acceptRanges", "internal/bytealg.MaxLen", "incipit/class.capitals", "incipit/class.kinds"], apart := false, laid := [("unicode/utf8.acceptRanges", laid_unicode_utf8_acceptRanges), ("incipit/class.kinds", laid_incipit_class_kinds), ("incipit/class.capitals", laid_incipit_class_capitals), ("unicode/utf8.first", laid_unicode_utf8_first)] }
def BlockInsideSaid : Prop := blockInsideRow.holds Tryz.pinned (OpenSpec.ofChange blockInsideSpec)

/-- ITS FALSE NEIGHBOUR: 'it returns false'. Refute it at one input. -/
def blockInsideWrong : ChangeSpec := { name := "blockInside", fn := fun _ => fun
  | [d1, d2] => { results := [.lit (.bool false)], args := [d1, d2] }
  | _ => none }
def BlockInsideWrongFalsely : Prop := blockInsideRow.holds Tryz.pinned (OpenSpec.ofChange blockInsideWrong)

/-- 'incipitlaw11.BlockQuotes': WHATEVER THE INPUT: true; the input reads as it did. -/
def blockQuotesSpec : ChangeSpec := { name := "blockQuotes", fn := fun _ => fun
  | [d1, d2] => { results := [.lit (.bool true)], args := [d1, d2] }
  | _ => none }
def blockQuotesRow : OpenClaim := { program := "ytkiipaaaakhhfaagreatdoor", sum := "21df5a628b6cf4755609587c55163a479e58b6cc5d777fe54663c76f7f9fbc19", func := "incipit/incipitlaw11.BlockQuotes", spec := "blockQuotes", inPlace := ["internal/bytealg.IndexByteString", "internal/bytealg.IndexString", "internal/abi.NoEscape", "internal/bytealg.MakeNoZero", "internal/bytealg.abigen_runtime_cmpstring", "internal/bytealg.CountString"], unfollowed := true, recurses := true, named := ["unicode/utf8.first", "unicode/utf8.acceptRanges", "internal/bytealg.MaxLen", "incipit/class.capitals", "incipit/class.kinds"], apart := false, laid := [("unicode/utf8.acceptRanges", laid_unicode_utf8_acceptRanges), ("incipit/class.kinds", laid_incipit_class_kinds), ("incipit/class.capitals", laid_incipit_class_capitals), ("unicode/utf8.first", laid_unicode_utf8_first)] }
def BlockQuotesSaid : Prop := blockQuotesRow.holds Tryz.pinned (OpenSpec.ofChange blockQuotesSpec)

/-- ITS FALSE NEIGHBOUR: 'it returns false'. Refute it at one input. -/
def blockQuotesWrong : ChangeSpec := { name := "blockQuotes", fn := fun _ => fun
  | [d1, d2] => { results := [.lit (.bool false)], args := [d1, d2] }
  | _ => none }
def BlockQuotesWrongFalsely : Prop := blockQuotesRow.holds Tryz.pinned (OpenSpec.ofChange blockQuotesWrong)

/-- 'incipitlaw11.BlockItems': WHATEVER THE INPUT: true; the input reads as it did. -/
def blockItemsSpec : ChangeSpec := { name := "blockItems", fn := fun _ => fun
  | [d1, d2] => { results := [.lit (.bool true)], args := [d1, d2] }
  | _ => none }
def blockItemsRow : OpenClaim := { program := "ytkiipaaaakhhfaagreatdoor", sum := "21df5a628b6cf4755609587c55163a479e58b6cc5d777fe54663c76f7f9fbc19", func := "incipit/incipitlaw11.BlockItems", spec := "blockItems", inPlace := ["internal/bytealg.IndexByteString", "internal/bytealg.IndexString", "internal/abi.NoEscape", "internal/bytealg.MakeNoZero", "internal/bytealg.abigen_runtime_cmpstring", "internal/bytealg.CountString"], unfollowed := true, recurses := true, named := ["unicode/utf8.first", "unicode/utf8.acceptRanges", "internal/bytealg.MaxLen", "incipit/class.capitals", "incipit/class.kinds"], apart := false, laid := [("unicode/utf8.acceptRanges", laid_unicode_utf8_acceptRanges), ("incipit/class.kinds", laid_incipit_class_kinds), ("incipit/class.capitals", laid_incipit_class_capitals), ("unicode/utf8.first", laid_unicode_utf8_first)] }
def BlockItemsSaid : Prop := blockItemsRow.holds Tryz.pinned (OpenSpec.ofChange blockItemsSpec)

/-- ITS FALSE NEIGHBOUR: 'it returns false'. Refute it at one input. -/
def blockItemsWrong : ChangeSpec := { name := "blockItems", fn := fun _ => fun
  | [d1, d2] => { results := [.lit (.bool false)], args := [d1, d2] }
  | _ => none }
def BlockItemsWrongFalsely : Prop := blockItemsRow.holds Tryz.pinned (OpenSpec.ofChange blockItemsWrong)

/-- 'incipitlaw11.BlockPlain': WHATEVER THE INPUT: true; the input reads as it did. -/
def blockPlainSpec : ChangeSpec := { name := "blockPlain", fn := fun _ => fun
  | [d1, d2, d3] => { results := [.lit (.bool true)], args := [d1, d2, d3] }
  | _ => none }
def blockPlainRow : OpenClaim := { program := "ytkiipaaaakhhfaagreatdoor", sum := "21df5a628b6cf4755609587c55163a479e58b6cc5d777fe54663c76f7f9fbc19", func := "incipit/incipitlaw11.BlockPlain", spec := "blockPlain", inPlace := ["internal/bytealg.IndexByteString", "internal/bytealg.IndexString", "internal/abi.NoEscape", "internal/bytealg.MakeNoZero", "internal/bytealg.abigen_runtime_cmpstring", "internal/bytealg.CountString"], unfollowed := true, recurses := true, named := ["unicode/utf8.first", "unicode/utf8.acceptRanges", "internal/bytealg.MaxLen", "incipit/class.capitals", "incipit/class.kinds"], apart := false, laid := [("unicode/utf8.acceptRanges", laid_unicode_utf8_acceptRanges), ("incipit/class.kinds", laid_incipit_class_kinds), ("incipit/class.capitals", laid_incipit_class_capitals), ("unicode/utf8.first", laid_unicode_utf8_first)] }
def BlockPlainSaid : Prop := blockPlainRow.holds Tryz.pinned (OpenSpec.ofChange blockPlainSpec)

/-- ITS FALSE NEIGHBOUR: 'it returns false'. Refute it at one input. -/
def blockPlainWrong : ChangeSpec := { name := "blockPlain", fn := fun _ => fun
  | [d1, d2, d3] => { results := [.lit (.bool false)], args := [d1, d2, d3] }
  | _ => none }
def BlockPlainWrongFalsely : Prop := blockPlainRow.holds Tryz.pinned (OpenSpec.ofChange blockPlainWrong)

/-- 'incipitlaw11.BlockRules': WHATEVER THE INPUT: true; the input reads as it did. -/
def blockRulesSpec : ChangeSpec := { name := "blockRules", fn := fun _ => fun
  | [d1, d2] => { results := [.lit (.bool true)], args := [d1, d2] }
  | _ => none }
def blockRulesRow : OpenClaim := { program := "ytkiipaaaakhhfaagreatdoor", sum := "21df5a628b6cf4755609587c55163a479e58b6cc5d777fe54663c76f7f9fbc19", func := "incipit/incipitlaw11.BlockRules", spec := "blockRules", inPlace := ["internal/bytealg.IndexByteString", "internal/bytealg.IndexString", "internal/abi.NoEscape", "internal/bytealg.MakeNoZero", "internal/bytealg.abigen_runtime_cmpstring", "internal/bytealg.CountString"], unfollowed := true, recurses := true, named := ["unicode/utf8.first", "unicode/utf8.acceptRanges", "internal/bytealg.MaxLen", "incipit/class.capitals", "incipit/class.kinds"], apart := false, laid := [("unicode/utf8.acceptRanges", laid_unicode_utf8_acceptRanges), ("incipit/class.kinds", laid_incipit_class_kinds), ("incipit/class.capitals", laid_incipit_class_capitals), ("unicode/utf8.first", laid_unicode_utf8_first)] }
def BlockRulesSaid : Prop := blockRulesRow.holds Tryz.pinned (OpenSpec.ofChange blockRulesSpec)

/-- ITS FALSE NEIGHBOUR: 'it returns false'. Refute it at one input. -/
def blockRulesWrong : ChangeSpec := { name := "blockRules", fn := fun _ => fun
  | [d1, d2] => { results := [.lit (.bool false)], args := [d1, d2] }
  | _ => none }
def BlockRulesWrongFalsely : Prop := blockRulesRow.holds Tryz.pinned (OpenSpec.ofChange blockRulesWrong)

/-- 'incipitlaw11.BlockFences': WHATEVER THE INPUT: true; the input reads as it did. -/
def blockFencesSpec : ChangeSpec := { name := "blockFences", fn := fun _ => fun
  | [d1, d2, d3] => { results := [.lit (.bool true)], args := [d1, d2, d3] }
  | _ => none }
def blockFencesRow : OpenClaim := { program := "ytkiipaaaakhhfaagreatdoor", sum := "21df5a628b6cf4755609587c55163a479e58b6cc5d777fe54663c76f7f9fbc19", func := "incipit/incipitlaw11.BlockFences", spec := "blockFences", inPlace := ["internal/bytealg.IndexByteString", "internal/bytealg.IndexString", "internal/abi.NoEscape", "internal/bytealg.MakeNoZero", "internal/bytealg.abigen_runtime_cmpstring", "internal/bytealg.CountString"], unfollowed := true, recurses := true, named := ["unicode/utf8.first", "unicode/utf8.acceptRanges", "internal/bytealg.MaxLen", "incipit/class.capitals", "incipit/class.kinds"], apart := false, laid := [("unicode/utf8.acceptRanges", laid_unicode_utf8_acceptRanges), ("incipit/class.kinds", laid_incipit_class_kinds), ("incipit/class.capitals", laid_incipit_class_capitals), ("unicode/utf8.first", laid_unicode_utf8_first)] }
def BlockFencesSaid : Prop := blockFencesRow.holds Tryz.pinned (OpenSpec.ofChange blockFencesSpec)

/-- ITS FALSE NEIGHBOUR: 'it returns false'. Refute it at one input. -/
def blockFencesWrong : ChangeSpec := { name := "blockFences", fn := fun _ => fun
  | [d1, d2, d3] => { results := [.lit (.bool false)], args := [d1, d2, d3] }
  | _ => none }
def BlockFencesWrongFalsely : Prop := blockFencesRow.holds Tryz.pinned (OpenSpec.ofChange blockFencesWrong)

/-- 'incipitlaw11.BlockApart': WHATEVER THE INPUT: true; the input reads as it did. -/
def blockApartSpec : ChangeSpec := { name := "blockApart", fn := fun _ => fun
  | [d1, d2] => { results := [.lit (.bool true)], args := [d1, d2] }
  | _ => none }
def blockApartRow : OpenClaim := { program := "ytkiipaaaakhhfaagreatdoor", sum := "21df5a628b6cf4755609587c55163a479e58b6cc5d777fe54663c76f7f9fbc19", func := "incipit/incipitlaw11.BlockApart", spec := "blockApart", inPlace := ["internal/bytealg.IndexByteString", "internal/bytealg.IndexString", "internal/abi.NoEscape", "internal/bytealg.MakeNoZero", "internal/bytealg.abigen_runtime_cmpstring", "internal/bytealg.CountString"], unfollowed := true, recurses := true, named := ["unicode/utf8.first", "unicode/utf8.acceptRanges", "internal/bytealg.MaxLen", "incipit/class.capitals", "incipit/class.kinds"], apart := false, laid := [("unicode/utf8.acceptRanges", laid_unicode_utf8_acceptRanges), ("incipit/class.kinds", laid_incipit_class_kinds), ("incipit/class.capitals", laid_incipit_class_capitals), ("unicode/utf8.first", laid_unicode_utf8_first)] }
def BlockApartSaid : Prop := blockApartRow.holds Tryz.pinned (OpenSpec.ofChange blockApartSpec)

/-- ITS FALSE NEIGHBOUR: 'it returns false'. Refute it at one input. -/
def blockApartWrong : ChangeSpec := { name := "blockApart", fn := fun _ => fun
  | [d1, d2] => { results := [.lit (.bool false)], args := [d1, d2] }
  | _ => none }
def BlockApartWrongFalsely : Prop := blockApartRow.holds Tryz.pinned (OpenSpec.ofChange blockApartWrong)

/- THE SECOND FORM. 'bulk': how many values and letters a reading holds, each counted each time it is reached (what is shared counts as often as it is met; a slice's spare places count too). A statement '..UptoSaid' is the law's where the arguments, and the package variables that the reading takes, are together of bulk at most 1048576: NARROWER than '..Said'. Prove '..Said' where nothing that the law and all that it calls make is longer than what came in: it says more and counts as full. Else prove '..UptoSaid'. A law counts once. -/
mutual
def uptoBulk {H : Type} : DataW H → Nat
  | .lit (.string bytes) => bytes.length + 1
  | .lit _ => 1
  | .nil => 1
  | .ptr d => uptoBulk d + 1
  | .slice elems spare => uptoBulkAll elems + uptoBulkAll spare + 1
  | .agg parts => uptoBulkAll parts + 1
  | .iface _ d => uptoBulk d + 1
  | .map entries => uptoBulkEntries entries + 1
  | .held _ => 1
def uptoBulkAll {H : Type} : List (DataW H) → Nat
  | [] => 0
  | d :: r => uptoBulk d + uptoBulkAll r
def uptoBulkEntries {H : Type} : List (Lit × DataW H) → Nat
  | [] => 0
  | x :: r => uptoBulkEntry x + uptoBulkEntries r
def uptoBulkEntry {H : Type} : Lit × DataW H → Nat
  | (.string bytes, d) => bytes.length + uptoBulk d + 1
  | (_, d) => uptoBulk d + 1
 end
def uptoSmall : (H : Type) → List (DataW H) → Bool := fun _ ds => decide (uptoBulkAll ds ≤ 1048576)
def OpenSpec.upto (s : _root_.Go.ChangeSpec) : _root_.Go.OpenSpec := { _root_.Go.OpenSpec.ofChange s with cond := some uptoSmall }

/-- 'incipitlaw11.BlockNodes', WHERE WHAT IT READS IS OF BULK AT MOST 1048576: true; the input reads as it did. -/
def blockNodesUptoRow : OpenClaim := { program := "ytkiipaaaakhhfaagreatdoor", sum := "21df5a628b6cf4755609587c55163a479e58b6cc5d777fe54663c76f7f9fbc19", func := "incipit/incipitlaw11.BlockNodes", spec := "blockNodes", inPlace := ["internal/bytealg.IndexByteString", "internal/bytealg.IndexString", "internal/abi.NoEscape", "internal/bytealg.MakeNoZero", "internal/bytealg.abigen_runtime_cmpstring", "internal/bytealg.CountString"], unfollowed := true, recurses := true, named := ["unicode/utf8.first", "unicode/utf8.acceptRanges", "internal/bytealg.MaxLen", "incipit/class.capitals", "incipit/class.kinds"], apart := false, laid := [("unicode/utf8.acceptRanges", laid_unicode_utf8_acceptRanges), ("incipit/class.kinds", laid_incipit_class_kinds), ("incipit/class.capitals", laid_incipit_class_capitals), ("unicode/utf8.first", laid_unicode_utf8_first)], narrowed := true }
def BlockNodesUptoSaid : Prop := blockNodesUptoRow.holds Tryz.pinned (OpenSpec.upto blockNodesSpec)

/-- 'incipitlaw11.BlockInside', WHERE WHAT IT READS IS OF BULK AT MOST 1048576: true; the input reads as it did. -/
def blockInsideUptoRow : OpenClaim := { program := "ytkiipaaaakhhfaagreatdoor", sum := "21df5a628b6cf4755609587c55163a479e58b6cc5d777fe54663c76f7f9fbc19", func := "incipit/incipitlaw11.BlockInside", spec := "blockInside", inPlace := ["internal/bytealg.IndexByteString", "internal/bytealg.IndexString", "internal/abi.NoEscape", "internal/bytealg.MakeNoZero", "internal/bytealg.abigen_runtime_cmpstring", "internal/bytealg.CountString"], unfollowed := true, recurses := true, named := ["unicode/utf8.first", "unicode/utf8.acceptRanges", "internal/bytealg.MaxLen", "incipit/class.capitals", "incipit/class.kinds"], apart := false, laid := [("unicode/utf8.acceptRanges", laid_unicode_utf8_acceptRanges), ("incipit/class.kinds", laid_incipit_class_kinds), ("incipit/class.capitals", laid_incipit_class_capitals), ("unicode/utf8.first", laid_unicode_utf8_first)], narrowed := true }
def BlockInsideUptoSaid : Prop := blockInsideUptoRow.holds Tryz.pinned (OpenSpec.upto blockInsideSpec)

/-- 'incipitlaw11.BlockQuotes', WHERE WHAT IT READS IS OF BULK AT MOST 1048576: true; the input reads as it did. -/
def blockQuotesUptoRow : OpenClaim := { program := "ytkiipaaaakhhfaagreatdoor", sum := "21df5a628b6cf4755609587c55163a479e58b6cc5d777fe54663c76f7f9fbc19", func := "incipit/incipitlaw11.BlockQuotes", spec := "blockQuotes", inPlace := ["internal/bytealg.IndexByteString", "internal/bytealg.IndexString", "internal/abi.NoEscape", "internal/bytealg.MakeNoZero", "internal/bytealg.abigen_runtime_cmpstring", "internal/bytealg.CountString"], unfollowed := true, recurses := true, named := ["unicode/utf8.first", "unicode/utf8.acceptRanges", "internal/bytealg.MaxLen", "incipit/class.capitals", "incipit/class.kinds"], apart := false, laid := [("unicode/utf8.acceptRanges", laid_unicode_utf8_acceptRanges), ("incipit/class.kinds", laid_incipit_class_kinds), ("incipit/class.capitals", laid_incipit_class_capitals), ("unicode/utf8.first", laid_unicode_utf8_first)], narrowed := true }
def BlockQuotesUptoSaid : Prop := blockQuotesUptoRow.holds Tryz.pinned (OpenSpec.upto blockQuotesSpec)

/-- 'incipitlaw11.BlockItems', WHERE WHAT IT READS IS OF BULK AT MOST 1048576: true; the input reads as it did. -/
def blockItemsUptoRow : OpenClaim := { program := "ytkiipaaaakhhfaagreatdoor", sum := "21df5a628b6cf4755609587c55163a479e58b6cc5d777fe54663c76f7f9fbc19", func := "incipit/incipitlaw11.BlockItems", spec := "blockItems", inPlace := ["internal/bytealg.IndexByteString", "internal/bytealg.IndexString", "internal/abi.NoEscape", "internal/bytealg.MakeNoZero", "internal/bytealg.abigen_runtime_cmpstring", "internal/bytealg.CountString"], unfollowed := true, recurses := true, named := ["unicode/utf8.first", "unicode/utf8.acceptRanges", "internal/bytealg.MaxLen", "incipit/class.capitals", "incipit/class.kinds"], apart := false, laid := [("unicode/utf8.acceptRanges", laid_unicode_utf8_acceptRanges), ("incipit/class.kinds", laid_incipit_class_kinds), ("incipit/class.capitals", laid_incipit_class_capitals), ("unicode/utf8.first", laid_unicode_utf8_first)], narrowed := true }
def BlockItemsUptoSaid : Prop := blockItemsUptoRow.holds Tryz.pinned (OpenSpec.upto blockItemsSpec)

/-- 'incipitlaw11.BlockPlain', WHERE WHAT IT READS IS OF BULK AT MOST 1048576: true; the input reads as it did. -/
def blockPlainUptoRow : OpenClaim := { program := "ytkiipaaaakhhfaagreatdoor", sum := "21df5a628b6cf4755609587c55163a479e58b6cc5d777fe54663c76f7f9fbc19", func := "incipit/incipitlaw11.BlockPlain", spec := "blockPlain", inPlace := ["internal/bytealg.IndexByteString", "internal/bytealg.IndexString", "internal/abi.NoEscape", "internal/bytealg.MakeNoZero", "internal/bytealg.abigen_runtime_cmpstring", "internal/bytealg.CountString"], unfollowed := true, recurses := true, named := ["unicode/utf8.first", "unicode/utf8.acceptRanges", "internal/bytealg.MaxLen", "incipit/class.capitals", "incipit/class.kinds"], apart := false, laid := [("unicode/utf8.acceptRanges", laid_unicode_utf8_acceptRanges), ("incipit/class.kinds", laid_incipit_class_kinds), ("incipit/class.capitals", laid_incipit_class_capitals), ("unicode/utf8.first", laid_unicode_utf8_first)], narrowed := true }
def BlockPlainUptoSaid : Prop := blockPlainUptoRow.holds Tryz.pinned (OpenSpec.upto blockPlainSpec)

/-- 'incipitlaw11.BlockRules', WHERE WHAT IT READS IS OF BULK AT MOST 1048576: true; the input reads as it did. -/
def blockRulesUptoRow : OpenClaim := { program := "ytkiipaaaakhhfaagreatdoor", sum := "21df5a628b6cf4755609587c55163a479e58b6cc5d777fe54663c76f7f9fbc19", func := "incipit/incipitlaw11.BlockRules", spec := "blockRules", inPlace := ["internal/bytealg.IndexByteString", "internal/bytealg.IndexString", "internal/abi.NoEscape", "internal/bytealg.MakeNoZero", "internal/bytealg.abigen_runtime_cmpstring", "internal/bytealg.CountString"], unfollowed := true, recurses := true, named := ["unicode/utf8.first", "unicode/utf8.acceptRanges", "internal/bytealg.MaxLen", "incipit/class.capitals", "incipit/class.kinds"], apart := false, laid := [("unicode/utf8.acceptRanges", laid_unicode_utf8_acceptRanges), ("incipit/class.kinds", laid_incipit_class_kinds), ("incipit/class.capitals", laid_incipit_class_capitals), ("unicode/utf8.first", laid_unicode_utf8_first)], narrowed := true }
def BlockRulesUptoSaid : Prop := blockRulesUptoRow.holds Tryz.pinned (OpenSpec.upto blockRulesSpec)

/-- 'incipitlaw11.BlockFences', WHERE WHAT IT READS IS OF BULK AT MOST 1048576: true; the input reads as it did. -/
def blockFencesUptoRow : OpenClaim := { program := "ytkiipaaaakhhfaagreatdoor", sum := "21df5a628b6cf4755609587c55163a479e58b6cc5d777fe54663c76f7f9fbc19", func := "incipit/incipitlaw11.BlockFences", spec := "blockFences", inPlace := ["internal/bytealg.IndexByteString", "internal/bytealg.IndexString", "internal/abi.NoEscape", "internal/bytealg.MakeNoZero", "internal/bytealg.abigen_runtime_cmpstring", "internal/bytealg.CountString"], unfollowed := true, recurses := true, named := ["unicode/utf8.first", "unicode/utf8.acceptRanges", "internal/bytealg.MaxLen", "incipit/class.capitals", "incipit/class.kinds"], apart := false, laid := [("unicode/utf8.acceptRanges", laid_unicode_utf8_acceptRanges), ("incipit/class.kinds", laid_incipit_class_kinds), ("incipit/class.capitals", laid_incipit_class_capitals), ("unicode/utf8.first", laid_unicode_utf8_first)], narrowed := true }
def BlockFencesUptoSaid : Prop := blockFencesUptoRow.holds Tryz.pinned (OpenSpec.upto blockFencesSpec)

/-- 'incipitlaw11.BlockApart', WHERE WHAT IT READS IS OF BULK AT MOST 1048576: true; the input reads as it did. -/
def blockApartUptoRow : OpenClaim := { program := "ytkiipaaaakhhfaagreatdoor", sum := "21df5a628b6cf4755609587c55163a479e58b6cc5d777fe54663c76f7f9fbc19", func := "incipit/incipitlaw11.BlockApart", spec := "blockApart", inPlace := ["internal/bytealg.IndexByteString", "internal/bytealg.IndexString", "internal/abi.NoEscape", "internal/bytealg.MakeNoZero", "internal/bytealg.abigen_runtime_cmpstring", "internal/bytealg.CountString"], unfollowed := true, recurses := true, named := ["unicode/utf8.first", "unicode/utf8.acceptRanges", "internal/bytealg.MaxLen", "incipit/class.capitals", "incipit/class.kinds"], apart := false, laid := [("unicode/utf8.acceptRanges", laid_unicode_utf8_acceptRanges), ("incipit/class.kinds", laid_incipit_class_kinds), ("incipit/class.capitals", laid_incipit_class_capitals), ("unicode/utf8.first", laid_unicode_utf8_first)], narrowed := true }
def BlockApartUptoSaid : Prop := blockApartUptoRow.holds Tryz.pinned (OpenSpec.upto blockApartSpec)

end Rows
end Go.Proofs.YtkiipaaaakhhfaaGreatDoor
