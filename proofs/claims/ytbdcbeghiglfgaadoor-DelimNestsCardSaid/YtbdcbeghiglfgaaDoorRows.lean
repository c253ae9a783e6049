/-
  NARROWER THAN 'FOR EVERY INPUT', by the rows' own cells (each row's printed sentence says how): DelimFlanks: laid · DelimMatches: laid · DelimNests: laid · DelimTurns: laid · DelimDeep: laid · DelimApart: laid · DelimNone: laid.
  DERIVED. THE GIVEN ROWS OF THIS SEAT. 7 by the template 'for every input the law returns true; each argument reads behind the call as it read before'; 0 by the template 'total and deterministic' (their statements: YtbdcbeghiglfgaaDoorTotals.lean).
  GIVEN WITH THE SEED: the statements are not yours to turn. If you find one false, say at which input.
  Laid BY PROGRAM, IN A SANDBOX (cutbox-rows.mjs): the forced cells as the released guide's own fill.sh prints them over the translation c4b81d506220814e… (all of the seat's roots in one cut). By AI agents, Wed Nov 11 2026. No macro, syntax, notation, axiom, sorry.
-/
import Derived.Test.YtbdcbeghiglfgaaDoorChecked
import GoSem.Claim
import GoSem.ClaimJoined
import GoSem.ClaimMapViews
import Derived.JoinedTies
import Derived.KernelRfl
namespace Go.Proofs.YtbdcbeghiglfgaaDoor
/- THE CELL 'sum', in the pinned program and in every row, IS THE sha256 OF THE DUMP (.gsa) THAT YtbdcbeghiglfgaaDoorProg.lean LOADS. Nothing in Lean hashes anything: it is a label: what it is worth is what the hold of that sum in a sandbox is worth. -/
noncomputable def Tryd.pinned : Pinned := { name := "ytbdcbeghiglfgaadoor", sum := "c4b81d506220814e5916449ea233749664afc4cb9af572225e3becae8cadc62a", checked := Tryd.checked }
namespace Rows
def none {H : Type} : Left H := { results := [], args := [] }

/- WHAT THE LISTED PACKAGE-LEVEL VARIABLES READ AS WHEN THE CALL BEGINS. Each datum BY PROGRAM (the guide's laid-datum.mjs) off the statement by which the dump's own 'gosem.cut.vars' lays the variable. In a bare row this is a premise. The card (YtbdcbeghiglfgaaDoorCards.lean) ties it to the program's text. -/
def laid_incipit_class_kinds {H : Type} : DataW H := .agg [.agg [.lit (.int .i32 9), .lit (.int .i32 10), .lit (.int .i64 1)], .agg [.lit (.int .i32 12), .lit (.int .i32 13), .lit (.int .i64 1)], .agg [.lit (.int .i32 32), .lit (.int .i32 32), .lit (.int .i64 1)], .agg [.lit (.int .i32 33), .lit (.int .i32 47), .lit (.int .i64 2)], .agg [.lit (.int .i32 58), .lit (.int .i32 64), .lit (.int .i64 2)], .agg [.lit (.int .i32 91), .lit (.int .i32 96), .lit (.int .i64 2)], .agg [.lit (.int .i32 123), .lit (.int .i32 126), .lit (.int .i64 2)], .agg [.lit (.int .i32 160), .lit (.int .i32 160), .lit (.int .i64 1)], .agg [.lit (.int .i32 161), .lit (.int .i32 169), .lit (.int .i64 2)], .agg [.lit (.int .i32 171), .lit (.int .i32 172), .lit (.int .i64 2)], .agg [.lit (.int .i32 174), .lit (.int .i32 177), .lit (.int .i64 2)], .agg [.lit (.int .i32 180), .lit (.int .i32 180), .lit (.int .i64 2)], .agg [.lit (.int .i32 182), .lit (.int .i32 184), .lit (.int .i64 2)], .agg [.lit (.int .i32 187), .lit (.int .i32 187), .lit (.int .i64 2)], .agg [.lit (.int .i32 191), .lit (.int .i32 191), .lit (.int .i64 2)], .agg [.lit (.int .i32 215), .lit (.int .i32 215), .lit (.int .i64 2)], .agg [.lit (.int .i32 247), .lit (.int .i32 247), .lit (.int .i64 2)], .agg [.lit (.int .i32 5760), .lit (.int .i32 5760), .lit (.int .i64 1)], .agg [.lit (.int .i32 8192), .lit (.int .i32 8202), .lit (.int .i64 1)], .agg [.lit (.int .i32 8208), .lit (.int .i32 8231), .lit (.int .i64 2)], .agg [.lit (.int .i32 8239), .lit (.int .i32 8239), .lit (.int .i64 1)], .agg [.lit (.int .i32 8240), .lit (.int .i32 8286), .lit (.int .i64 2)], .agg [.lit (.int .i32 8287), .lit (.int .i32 8287), .lit (.int .i64 1)], .agg [.lit (.int .i32 8352), .lit (.int .i32 8384), .lit (.int .i64 2)], .agg [.lit (.int .i32 12288), .lit (.int .i32 12288), .lit (.int .i64 1)], .agg [.lit (.int .i32 12289), .lit (.int .i32 12291), .lit (.int .i64 2)], .agg [.lit (.int .i32 12296), .lit (.int .i32 12319), .lit (.int .i64 2)], .agg [.lit (.int .i32 65281), .lit (.int .i32 65295), .lit (.int .i64 2)]]

/-- 'incipitlaw13.DelimFlanks': WHATEVER THE INPUT: true; the input reads as it did. -/
def delimFlanksSpec : ChangeSpec := { name := "delimFlanks", fn := fun _ => fun
  | [d1, d2, d3] => { results := [.lit (.bool true)], args := [d1, d2, d3] }
  | _ => none }
def delimFlanksRow : OpenClaim := { program := "ytbdcbeghiglfgaadoor", sum := "c4b81d506220814e5916449ea233749664afc4cb9af572225e3becae8cadc62a", func := "incipit/incipitlaw13.DelimFlanks", spec := "delimFlanks", named := ["incipit/class.kinds"], plainKeys := false, apart := false, laid := [("incipit/class.kinds", laid_incipit_class_kinds)] }
def DelimFlanksSaid : Prop := delimFlanksRow.holds Tryd.pinned (OpenSpec.ofChange delimFlanksSpec)

/-- ITS FALSE NEIGHBOUR: 'it returns false'. Refute it at one input. -/
def delimFlanksWrong : ChangeSpec := { name := "delimFlanks", fn := fun _ => fun
  | [d1, d2, d3] => { results := [.lit (.bool false)], args := [d1, d2, d3] }
  | _ => none }
def DelimFlanksWrongFalsely : Prop := delimFlanksRow.holds Tryd.pinned (OpenSpec.ofChange delimFlanksWrong)

/-- 'incipitlaw13.DelimMatches': WHATEVER THE INPUT: true; the input reads as it did. -/
def delimMatchesSpec : ChangeSpec := { name := "delimMatches", fn := fun _ => fun
  | [d] => { results := [.lit (.bool true)], args := [d] }
  | _ => none }
def delimMatchesRow : OpenClaim := { program := "ytbdcbeghiglfgaadoor", sum := "c4b81d506220814e5916449ea233749664afc4cb9af572225e3becae8cadc62a", func := "incipit/incipitlaw13.DelimMatches", spec := "delimMatches", named := ["incipit/class.kinds"], plainKeys := false, apart := false, laid := [("incipit/class.kinds", laid_incipit_class_kinds)] }
def DelimMatchesSaid : Prop := delimMatchesRow.holds Tryd.pinned (OpenSpec.ofChange delimMatchesSpec)

/-- ITS FALSE NEIGHBOUR: 'it returns false'. Refute it at one input. -/
def delimMatchesWrong : ChangeSpec := { name := "delimMatches", fn := fun _ => fun
  | [d] => { results := [.lit (.bool false)], args := [d] }
  | _ => none }
def DelimMatchesWrongFalsely : Prop := delimMatchesRow.holds Tryd.pinned (OpenSpec.ofChange delimMatchesWrong)

/-- 'incipitlaw13.DelimNests': WHATEVER THE INPUT: true; the input reads as it did. -/
def delimNestsSpec : ChangeSpec := { name := "delimNests", fn := fun _ => fun
  | [d] => { results := [.lit (.bool true)], args := [d] }
  | _ => none }
def delimNestsRow : OpenClaim := { program := "ytbdcbeghiglfgaadoor", sum := "c4b81d506220814e5916449ea233749664afc4cb9af572225e3becae8cadc62a", func := "incipit/incipitlaw13.DelimNests", spec := "delimNests", named := ["incipit/class.kinds"], plainKeys := false, apart := false, laid := [("incipit/class.kinds", laid_incipit_class_kinds)] }
def DelimNestsSaid : Prop := delimNestsRow.holds Tryd.pinned (OpenSpec.ofChange delimNestsSpec)

/-- ITS FALSE NEIGHBOUR: 'it returns false'. Refute it at one input. -/
def delimNestsWrong : ChangeSpec := { name := "delimNests", fn := fun _ => fun
  | [d] => { results := [.lit (.bool false)], args := [d] }
  | _ => none }
def DelimNestsWrongFalsely : Prop := delimNestsRow.holds Tryd.pinned (OpenSpec.ofChange delimNestsWrong)

/-- 'incipitlaw13.DelimTurns': WHATEVER THE INPUT: true; the input reads as it did. -/
def delimTurnsSpec : ChangeSpec := { name := "delimTurns", fn := fun _ => fun
  | [d1, d2, d3] => { results := [.lit (.bool true)], args := [d1, d2, d3] }
  | _ => none }
def delimTurnsRow : OpenClaim := { program := "ytbdcbeghiglfgaadoor", sum := "c4b81d506220814e5916449ea233749664afc4cb9af572225e3becae8cadc62a", func := "incipit/incipitlaw13.DelimTurns", spec := "delimTurns", named := ["incipit/class.kinds"], plainKeys := false, apart := false, laid := [("incipit/class.kinds", laid_incipit_class_kinds)] }
def DelimTurnsSaid : Prop := delimTurnsRow.holds Tryd.pinned (OpenSpec.ofChange delimTurnsSpec)

/-- ITS FALSE NEIGHBOUR: 'it returns false'. Refute it at one input. -/
def delimTurnsWrong : ChangeSpec := { name := "delimTurns", fn := fun _ => fun
  | [d1, d2, d3] => { results := [.lit (.bool false)], args := [d1, d2, d3] }
  | _ => none }
def DelimTurnsWrongFalsely : Prop := delimTurnsRow.holds Tryd.pinned (OpenSpec.ofChange delimTurnsWrong)

/-- 'incipitlaw13.DelimDeep': WHATEVER THE INPUT: true; the input reads as it did. -/
def delimDeepSpec : ChangeSpec := { name := "delimDeep", fn := fun _ => fun
  | [d1, d2] => { results := [.lit (.bool true)], args := [d1, d2] }
  | _ => none }
def delimDeepRow : OpenClaim := { program := "ytbdcbeghiglfgaadoor", sum := "c4b81d506220814e5916449ea233749664afc4cb9af572225e3becae8cadc62a", func := "incipit/incipitlaw13.DelimDeep", spec := "delimDeep", named := ["incipit/class.kinds"], plainKeys := false, apart := false, laid := [("incipit/class.kinds", laid_incipit_class_kinds)] }
def DelimDeepSaid : Prop := delimDeepRow.holds Tryd.pinned (OpenSpec.ofChange delimDeepSpec)

/-- ITS FALSE NEIGHBOUR: 'it returns false'. Refute it at one input. -/
def delimDeepWrong : ChangeSpec := { name := "delimDeep", fn := fun _ => fun
  | [d1, d2] => { results := [.lit (.bool false)], args := [d1, d2] }
  | _ => none }
def DelimDeepWrongFalsely : Prop := delimDeepRow.holds Tryd.pinned (OpenSpec.ofChange delimDeepWrong)

/-- 'incipitlaw13.DelimApart': WHATEVER THE INPUT: true; the input reads as it did. -/
def delimApartSpec : ChangeSpec := { name := "delimApart", fn := fun _ => fun
  | [d1, d2] => { results := [.lit (.bool true)], args := [d1, d2] }
  | _ => none }
def delimApartRow : OpenClaim := { program := "ytbdcbeghiglfgaadoor", sum := "c4b81d506220814e5916449ea233749664afc4cb9af572225e3becae8cadc62a", func := "incipit/incipitlaw13.DelimApart", spec := "delimApart", named := ["incipit/class.kinds"], plainKeys := false, apart := false, laid := [("incipit/class.kinds", laid_incipit_class_kinds)] }
def DelimApartSaid : Prop := delimApartRow.holds Tryd.pinned (OpenSpec.ofChange delimApartSpec)

/-- ITS FALSE NEIGHBOUR: 'it returns false'. Refute it at one input. -/
def delimApartWrong : ChangeSpec := { name := "delimApart", fn := fun _ => fun
  | [d1, d2] => { results := [.lit (.bool false)], args := [d1, d2] }
  | _ => none }
def DelimApartWrongFalsely : Prop := delimApartRow.holds Tryd.pinned (OpenSpec.ofChange delimApartWrong)

/-- 'incipitlaw13.DelimNone': WHATEVER THE INPUT: true; the input reads as it did. -/
def delimNoneSpec : ChangeSpec := { name := "delimNone", fn := fun _ => fun
  | [d1, d2] => { results := [.lit (.bool true)], args := [d1, d2] }
  | _ => none }
def delimNoneRow : OpenClaim := { program := "ytbdcbeghiglfgaadoor", sum := "c4b81d506220814e5916449ea233749664afc4cb9af572225e3becae8cadc62a", func := "incipit/incipitlaw13.DelimNone", spec := "delimNone", named := ["incipit/class.kinds"], plainKeys := false, apart := false, laid := [("incipit/class.kinds", laid_incipit_class_kinds)] }
def DelimNoneSaid : Prop := delimNoneRow.holds Tryd.pinned (OpenSpec.ofChange delimNoneSpec)

/-- ITS FALSE NEIGHBOUR: 'it returns false'. Refute it at one input. -/
def delimNoneWrong : ChangeSpec := { name := "delimNone", fn := fun _ => fun
  | [d1, d2] => { results := [.lit (.bool false)], args := [d1, d2] }
  | _ => none }
def DelimNoneWrongFalsely : Prop := delimNoneRow.holds Tryd.pinned (OpenSpec.ofChange delimNoneWrong)

/- THE SECOND FORM. 'bulk': how many values and letters a reading holds, each counted each time it is reached (what is shared counts as often as it is met; a slice's spare places count too). A statement '..UptoSaid' is the law's where the arguments, and the package variables that the reading takes, are together of bulk at most 1048576: NARROWER than '..Said'. Prove '..Said' where nothing that the law and all that it calls make is longer than what came in: it says more and counts as full. Else prove '..UptoSaid'. A law counts once. -/
mutual
def uptoBulk {H : Type} : DataW H → Nat
  | .lit (.string bytes) => bytes.length + 1
  | .lit _ => 1
  | .nil => 1
  | .ptr d => uptoBulk d + 1
  | .slice elems spare => uptoBulkAll elems + uptoBulkAll spare + 1
  | .agg parts => uptoBulkAll parts + 1
  | .iface _ d => uptoBulk d + 1
  | .map entries => uptoBulkEntries entries + 1
  | .held _ => 1
def uptoBulkAll {H : Type} : List (DataW H) → Nat
  | [] => 0
  | d :: r => uptoBulk d + uptoBulkAll r
def uptoBulkEntries {H : Type} : List (Lit × DataW H) → Nat
  | [] => 0
  | x :: r => uptoBulkEntry x + uptoBulkEntries r
def uptoBulkEntry {H : Type} : Lit × DataW H → Nat
  | (.string bytes, d) => bytes.length + uptoBulk d + 1
  | (_, d) => uptoBulk d + 1
 end
def uptoSmall : (H : Type) → List (DataW H) → Bool := fun _ ds => decide (uptoBulkAll ds ≤ 1048576)
def OpenSpec.upto (s : _root_.Go.ChangeSpec) : _root_.Go.OpenSpec := { _root_.Go.OpenSpec.ofChange s with cond := some uptoSmall }

/-- 'incipitlaw13.DelimFlanks', WHERE WHAT IT READS IS OF BULK AT MOST 1048576: true; the input reads as it did. -/
def delimFlanksUptoRow : OpenClaim := { program := "ytbdcbeghiglfgaadoor", sum := "c4b81d506220814e5916449ea233749664afc4cb9af572225e3becae8cadc62a", func := "incipit/incipitlaw13.DelimFlanks", spec := "delimFlanks", named := ["incipit/class.kinds"], plainKeys := false, apart := false, laid := [("incipit/class.kinds", laid_incipit_class_kinds)], narrowed := true }
def DelimFlanksUptoSaid : Prop := delimFlanksUptoRow.holds Tryd.pinned (OpenSpec.upto delimFlanksSpec)

/-- 'incipitlaw13.DelimMatches', WHERE WHAT IT READS IS OF BULK AT MOST 1048576: true; the input reads as it did. -/
def delimMatchesUptoRow : OpenClaim := { program := "ytbdcbeghiglfgaadoor", sum := "c4b81d506220814e5916449ea233749664afc4cb9af572225e3becae8cadc62a", func := "incipit/incipitlaw13.DelimMatches", spec := "delimMatches", named := ["incipit/class.kinds"], plainKeys := false, apart := false, laid := [("incipit/class.kinds", laid_incipit_class_kinds)], narrowed := true }
def DelimMatchesUptoSaid : Prop := delimMatchesUptoRow.holds Tryd.pinned (OpenSpec.upto delimMatchesSpec)

/-- 'incipitlaw13.DelimNests', WHERE WHAT IT READS IS OF BULK AT MOST 1048576: true; the input reads as it did. -/
def delimNestsUptoRow : OpenClaim := { program := "ytbdcbeghiglfgaadoor", sum := "c4b81d506220814e5916449ea233749664afc4cb9af572225e3becae8cadc62a", func := "incipit/incipitlaw13.DelimNests", spec := "delimNests", named := ["incipit/class.kinds"], plainKeys := false, apart := false, laid := [("incipit/class.kinds", laid_incipit_class_kinds)], narrowed := true }
def DelimNestsUptoSaid : Prop := delimNestsUptoRow.holds Tryd.pinned (OpenSpec.upto delimNestsSpec)

/-- 'incipitlaw13.DelimTurns', WHERE WHAT IT READS IS OF BULK AT MOST 1048576: true; the input reads as it did. -/
def delimTurnsUptoRow : OpenClaim := { program := "ytbdcbeghiglfgaadoor", sum := "c4b81d506220814e5916449ea233749664afc4cb9af572225e3becae8cadc62a", func := "incipit/incipitlaw13.DelimTurns", spec := "delimTurns", named := ["incipit/class.kinds"], plainKeys := false, apart := false, laid := [("incipit/class.kinds", laid_incipit_class_kinds)], narrowed := true }
def DelimTurnsUptoSaid : Prop := delimTurnsUptoRow.holds Tryd.pinned (OpenSpec.upto delimTurnsSpec)

/-- 'incipitlaw13.DelimDeep', WHERE WHAT IT READS IS OF BULK AT MOST 1048576: true; the input reads as it did. -/
def delimDeepUptoRow : OpenClaim := { program := "ytbdcbeghiglfgaadoor", sum := "c4b81d506220814e5916449ea233749664afc4cb9af572225e3becae8cadc62a", func := "incipit/incipitlaw13.DelimDeep", spec := "delimDeep", named := ["incipit/class.kinds"], plainKeys := false, apart := false, laid := [("incipit/class.kinds", laid_incipit_class_kinds)], narrowed := true }
def DelimDeepUptoSaid : Prop := delimDeepUptoRow.holds Tryd.pinned (OpenSpec.upto delimDeepSpec)

/-- 'incipitlaw13.DelimApart', WHERE WHAT IT READS IS OF BULK AT MOST 1048576: true; the input reads as it did. -/
def delimApartUptoRow : OpenClaim := { program := "ytbdcbeghiglfgaadoor", sum := "c4b81d506220814e5916449ea233749664afc4cb9af572225e3becae8cadc62a", func := "incipit/incipitlaw13.DelimApart", spec := "delimApart", named := ["incipit/class.kinds"], plainKeys := false, apart := false, laid := [("incipit/class.kinds", laid_incipit_class_kinds)], narrowed := true }
def DelimApartUptoSaid : Prop := delimApartUptoRow.holds Tryd.pinned (OpenSpec.upto delimApartSpec)

/-- 'incipitlaw13.DelimNone', WHERE WHAT IT READS IS OF BULK AT MOST 1048576: true; the input reads as it did. -/
def delimNoneUptoRow : OpenClaim := { program := "ytbdcbeghiglfgaadoor", sum := "c4b81d506220814e5916449ea233749664afc4cb9af572225e3becae8cadc62a", func := "incipit/incipitlaw13.DelimNone", spec := "delimNone", named := ["incipit/class.kinds"], plainKeys := false, apart := false, laid := [("incipit/class.kinds", laid_incipit_class_kinds)], narrowed := true }
def DelimNoneUptoSaid : Prop := delimNoneUptoRow.holds Tryd.pinned (OpenSpec.upto delimNoneSpec)

end Rows
end Go.Proofs.YtbdcbeghiglfgaaDoor
