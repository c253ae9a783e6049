/-
  DERIVED. GIVEN WITH THE SEED: THE CARDS: each row of YtapibalcekedfaaGreatDoorRows.lean that lists a variable, with what it lists TIED to the program's text (the seventh form; the later family's looks); each row that meets fmt, with fmt's text TOLD by the authors' own Lean function (tested against real Go, not proved from fmt's source: count such statements apart). THE CARD IS WHAT COUNTS. Prove the row's statement (the work); the ties are given (YtapibalcekedfaaGreatDoorTie.lean); close each card by the builder's one call (the guide's Derived/Test/ToyasCard.lean, 'card_holds'). Laid BY PROGRAM, IN A SANDBOX (cutbox-door.mjs). By AI agents, Wed Nov 11 2026. No macro, syntax, notation, axiom, sorry.
-/
import Derived.Test.YtapibalcekedfaaGreatDoorRows
import GoSem.ClaimSeven
namespace Go.Proofs.YtapibalcekedfaaGreatDoor
namespace Rows

/-- THE TIED CARD OF 'incipitlaw12.SpanReads'. -/
def spanReadsCard : Claim7 := { stood := { row := spanReadsRow, standIns := [], harness := (true, "b0a30421352fb62e3571b7c932200f7be1287fce74743c24777d95ee85074fc0"), looks := false }, kinds := [], alts := [], laidByText := true, laidKinds := [.data, .pinned], laidTests := true, laidLooks := .later }
def SpanReadsCardSaid : Prop := Claim7.holds Tryz.pinned (.plain (OpenSpec.ofChange spanReadsSpec)) spanReadsCard

/-- THE TIED CARD OF 'incipitlaw12.SpanEnds'. -/
def spanEndsCard : Claim7 := { stood := { row := spanEndsRow, standIns := [], harness := (true, "b0a30421352fb62e3571b7c932200f7be1287fce74743c24777d95ee85074fc0"), looks := false }, kinds := [], alts := [], laidByText := true, laidKinds := [.data, .pinned], laidTests := true, laidLooks := .later }
def SpanEndsCardSaid : Prop := Claim7.holds Tryz.pinned (.plain (OpenSpec.ofChange spanEndsSpec)) spanEndsCard

/-- THE TIED CARD OF 'incipitlaw12.SpanCodes'. -/
def spanCodesCard : Claim7 := { stood := { row := spanCodesRow, standIns := [], harness := (true, "b0a30421352fb62e3571b7c932200f7be1287fce74743c24777d95ee85074fc0"), looks := false }, kinds := [], alts := [], laidByText := true, laidKinds := [.data, .pinned], laidTests := true, laidLooks := .later }
def SpanCodesCardSaid : Prop := Claim7.holds Tryz.pinned (.plain (OpenSpec.ofChange spanCodesSpec)) spanCodesCard

/-- THE TIED CARD OF 'incipitlaw12.SpanShort'. -/
def spanShortCard : Claim7 := { stood := { row := spanShortRow, standIns := [], harness := (true, "b0a30421352fb62e3571b7c932200f7be1287fce74743c24777d95ee85074fc0"), looks := false }, kinds := [], alts := [], laidByText := true, laidKinds := [.data, .pinned], laidTests := true, laidLooks := .later }
def SpanShortCardSaid : Prop := Claim7.holds Tryz.pinned (.plain (OpenSpec.ofChange spanShortSpec)) spanShortCard

/-- THE TIED CARD OF 'incipitlaw12.SpanNone'. -/
def spanNoneCard : Claim7 := { stood := { row := spanNoneRow, standIns := [], harness := (true, "b0a30421352fb62e3571b7c932200f7be1287fce74743c24777d95ee85074fc0"), looks := false }, kinds := [], alts := [], laidByText := true, laidKinds := [.data, .pinned], laidTests := true, laidLooks := .later }
def SpanNoneCardSaid : Prop := Claim7.holds Tryz.pinned (.plain (OpenSpec.ofChange spanNoneSpec)) spanNoneCard

/-- THE TIED CARD OF 'incipitlaw12.SpanMails'. -/
def spanMailsCard : Claim7 := { stood := { row := spanMailsRow, standIns := [], harness := (true, "b0a30421352fb62e3571b7c932200f7be1287fce74743c24777d95ee85074fc0"), looks := false }, kinds := [], alts := [], laidByText := true, laidKinds := [.data, .pinned], laidTests := true, laidLooks := .later }
def SpanMailsCardSaid : Prop := Claim7.holds Tryz.pinned (.plain (OpenSpec.ofChange spanMailsSpec)) spanMailsCard

/-- THE SECOND FORM's CARD OF 'incipitlaw12.SpanReads'. -/
def spanReadsUptoCard : Claim7 := { stood := { row := spanReadsUptoRow, standIns := [], harness := (true, "b0a30421352fb62e3571b7c932200f7be1287fce74743c24777d95ee85074fc0"), looks := false }, kinds := [], alts := [], laidByText := true, laidKinds := [.data, .pinned], laidTests := true, laidLooks := .later }
def SpanReadsUptoCardSaid : Prop := Claim7.holds Tryz.pinned (.plain (OpenSpec.upto spanReadsSpec)) spanReadsUptoCard

/-- THE SECOND FORM's CARD OF 'incipitlaw12.SpanEnds'. -/
def spanEndsUptoCard : Claim7 := { stood := { row := spanEndsUptoRow, standIns := [], harness := (true, "b0a30421352fb62e3571b7c932200f7be1287fce74743c24777d95ee85074fc0"), looks := false }, kinds := [], alts := [], laidByText := true, laidKinds := [.data, .pinned], laidTests := true, laidLooks := .later }
def SpanEndsUptoCardSaid : Prop := Claim7.holds Tryz.pinned (.plain (OpenSpec.upto spanEndsSpec)) spanEndsUptoCard

/-- THE SECOND FORM's CARD OF 'incipitlaw12.SpanCodes'. -/
def spanCodesUptoCard : Claim7 := { stood := { row := spanCodesUptoRow, standIns := [], harness := (true, "b0a30421352fb62e3571b7c932200f7be1287fce74743c24777d95ee85074fc0"), looks := false }, kinds := [], alts := [], laidByText := true, laidKinds := [.data, .pinned], laidTests := true, laidLooks := .later }
def SpanCodesUptoCardSaid : Prop := Claim7.holds Tryz.pinned (.plain (OpenSpec.upto spanCodesSpec)) spanCodesUptoCard

/-- THE SECOND FORM's CARD OF 'incipitlaw12.SpanShort'. -/
def spanShortUptoCard : Claim7 := { stood := { row := spanShortUptoRow, standIns := [], harness := (true, "b0a30421352fb62e3571b7c932200f7be1287fce74743c24777d95ee85074fc0"), looks := false }, kinds := [], alts := [], laidByText := true, laidKinds := [.data, .pinned], laidTests := true, laidLooks := .later }
def SpanShortUptoCardSaid : Prop := Claim7.holds Tryz.pinned (.plain (OpenSpec.upto spanShortSpec)) spanShortUptoCard

/-- THE SECOND FORM's CARD OF 'incipitlaw12.SpanNone'. -/
def spanNoneUptoCard : Claim7 := { stood := { row := spanNoneUptoRow, standIns := [], harness := (true, "b0a30421352fb62e3571b7c932200f7be1287fce74743c24777d95ee85074fc0"), looks := false }, kinds := [], alts := [], laidByText := true, laidKinds := [.data, .pinned], laidTests := true, laidLooks := .later }
def SpanNoneUptoCardSaid : Prop := Claim7.holds Tryz.pinned (.plain (OpenSpec.upto spanNoneSpec)) spanNoneUptoCard

/-- THE SECOND FORM's CARD OF 'incipitlaw12.SpanMails'. -/
def spanMailsUptoCard : Claim7 := { stood := { row := spanMailsUptoRow, standIns := [], harness := (true, "b0a30421352fb62e3571b7c932200f7be1287fce74743c24777d95ee85074fc0"), looks := false }, kinds := [], alts := [], laidByText := true, laidKinds := [.data, .pinned], laidTests := true, laidLooks := .later }
def SpanMailsUptoCardSaid : Prop := Claim7.holds Tryz.pinned (.plain (OpenSpec.upto spanMailsSpec)) spanMailsUptoCard
end Rows
end Go.Proofs.YtapibalcekedfaaGreatDoor
