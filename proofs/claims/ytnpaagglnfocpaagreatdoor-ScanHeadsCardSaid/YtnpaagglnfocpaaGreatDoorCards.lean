/-
  DERIVED. GIVEN WITH THE SEED: THE CARDS: each row of YtnpaagglnfocpaaGreatDoorRows.lean that lists a variable, with what it lists TIED to the program's text (the seventh form; the later family's looks); each row that meets fmt, with fmt's text TOLD by the authors' own Lean function (tested against real Go, not proved from fmt's source: count such statements apart). THE CARD IS WHAT COUNTS. Prove the row's statement (the work); the ties are given (YtnpaagglnfocpaaGreatDoorTie.lean); close each card by the builder's one call (the guide's Derived/Test/ToyasCard.lean, 'card_holds'). Laid BY PROGRAM, IN A SANDBOX (cutbox-door.mjs). By AI agents, Wed Nov 11 2026. No macro, syntax, notation, axiom, sorry.
-/
import Derived.Test.YtnpaagglnfocpaaGreatDoorRows
import GoSem.ClaimSeven
namespace Go.Proofs.YtnpaagglnfocpaaGreatDoor
namespace Rows

/-- THE TIED CARD OF 'incipitlaw08.ScanLines'. -/
def scanLinesCard : Claim7 := { stood := { row := scanLinesRow, standIns := [], harness := (true, "930a93457c2b768a2dbe32958b967025e0ba4040a50ad688335679aea08723f4"), looks := false }, kinds := [], alts := [], laidByText := true, laidKinds := [.data, .data, .pinned], laidTests := true, laidLooks := .later }
def ScanLinesCardSaid : Prop := Claim7.holds Tryz.pinned (.plain (OpenSpec.ofChange scanLinesSpec)) scanLinesCard

/-- THE TIED CARD OF 'incipitlaw08.ScanTags'. -/
def scanTagsCard : Claim7 := { stood := { row := scanTagsRow, standIns := [], harness := (true, "930a93457c2b768a2dbe32958b967025e0ba4040a50ad688335679aea08723f4"), looks := false }, kinds := [], alts := [], laidByText := true, laidKinds := [.data, .data, .pinned], laidTests := true, laidLooks := .later }
def ScanTagsCardSaid : Prop := Claim7.holds Tryz.pinned (.plain (OpenSpec.ofChange scanTagsSpec)) scanTagsCard

/-- THE TIED CARD OF 'incipitlaw08.ScanHtml'. -/
def scanHtmlCard : Claim7 := { stood := { row := scanHtmlRow, standIns := [], harness := (true, "930a93457c2b768a2dbe32958b967025e0ba4040a50ad688335679aea08723f4"), looks := false }, kinds := [], alts := [], laidByText := true, laidKinds := [.data, .data, .pinned], laidTests := true, laidLooks := .later }
def ScanHtmlCardSaid : Prop := Claim7.holds Tryz.pinned (.plain (OpenSpec.ofChange scanHtmlSpec)) scanHtmlCard

/-- THE TIED CARD OF 'incipitlaw08.ScanEnds'. -/
def scanEndsCard : Claim7 := { stood := { row := scanEndsRow, standIns := [], harness := (true, "930a93457c2b768a2dbe32958b967025e0ba4040a50ad688335679aea08723f4"), looks := false }, kinds := [], alts := [], laidByText := true, laidKinds := [.data, .data, .pinned], laidTests := true, laidLooks := .later }
def ScanEndsCardSaid : Prop := Claim7.holds Tryz.pinned (.plain (OpenSpec.ofChange scanEndsSpec)) scanEndsCard

/-- THE TIED CARD OF 'incipitlaw08.ScanOne'. -/
def scanOneCard : Claim7 := { stood := { row := scanOneRow, standIns := [], harness := (true, "930a93457c2b768a2dbe32958b967025e0ba4040a50ad688335679aea08723f4"), looks := false }, kinds := [], alts := [], laidByText := true, laidKinds := [.data, .data, .pinned], laidTests := true, laidLooks := .later }
def ScanOneCardSaid : Prop := Claim7.holds Tryz.pinned (.plain (OpenSpec.ofChange scanOneSpec)) scanOneCard

/-- THE TIED CARD OF 'incipitlaw08.ScanIndents'. -/
def scanIndentsCard : Claim7 := { stood := { row := scanIndentsRow, standIns := [], harness := (true, "930a93457c2b768a2dbe32958b967025e0ba4040a50ad688335679aea08723f4"), looks := false }, kinds := [], alts := [], laidByText := true, laidKinds := [.data, .data, .pinned], laidTests := true, laidLooks := .later }
def ScanIndentsCardSaid : Prop := Claim7.holds Tryz.pinned (.plain (OpenSpec.ofChange scanIndentsSpec)) scanIndentsCard

/-- THE TIED CARD OF 'incipitlaw08.ScanHeads'. -/
def scanHeadsCard : Claim7 := { stood := { row := scanHeadsRow, standIns := [], harness := (true, "930a93457c2b768a2dbe32958b967025e0ba4040a50ad688335679aea08723f4"), looks := false }, kinds := [], alts := [], laidByText := true, laidKinds := [.data, .data, .pinned], laidTests := true, laidLooks := .later }
def ScanHeadsCardSaid : Prop := Claim7.holds Tryz.pinned (.plain (OpenSpec.ofChange scanHeadsSpec)) scanHeadsCard

/-- THE SECOND FORM's CARD OF 'incipitlaw08.ScanLines'. -/
def scanLinesUptoCard : Claim7 := { stood := { row := scanLinesUptoRow, standIns := [], harness := (true, "930a93457c2b768a2dbe32958b967025e0ba4040a50ad688335679aea08723f4"), looks := false }, kinds := [], alts := [], laidByText := true, laidKinds := [.data, .data, .pinned], laidTests := true, laidLooks := .later }
def ScanLinesUptoCardSaid : Prop := Claim7.holds Tryz.pinned (.plain (OpenSpec.upto scanLinesSpec)) scanLinesUptoCard

/-- THE SECOND FORM's CARD OF 'incipitlaw08.ScanTags'. -/
def scanTagsUptoCard : Claim7 := { stood := { row := scanTagsUptoRow, standIns := [], harness := (true, "930a93457c2b768a2dbe32958b967025e0ba4040a50ad688335679aea08723f4"), looks := false }, kinds := [], alts := [], laidByText := true, laidKinds := [.data, .data, .pinned], laidTests := true, laidLooks := .later }
def ScanTagsUptoCardSaid : Prop := Claim7.holds Tryz.pinned (.plain (OpenSpec.upto scanTagsSpec)) scanTagsUptoCard

/-- THE SECOND FORM's CARD OF 'incipitlaw08.ScanHtml'. -/
def scanHtmlUptoCard : Claim7 := { stood := { row := scanHtmlUptoRow, standIns := [], harness := (true, "930a93457c2b768a2dbe32958b967025e0ba4040a50ad688335679aea08723f4"), looks := false }, kinds := [], alts := [], laidByText := true, laidKinds := [.data, .data, .pinned], laidTests := true, laidLooks := .later }
def ScanHtmlUptoCardSaid : Prop := Claim7.holds Tryz.pinned (.plain (OpenSpec.upto scanHtmlSpec)) scanHtmlUptoCard

/-- THE SECOND FORM's CARD OF 'incipitlaw08.ScanEnds'. -/
def scanEndsUptoCard : Claim7 := { stood := { row := scanEndsUptoRow, standIns := [], harness := (true, "930a93457c2b768a2dbe32958b967025e0ba4040a50ad688335679aea08723f4"), looks := false }, kinds := [], alts := [], laidByText := true, laidKinds := [.data, .data, .pinned], laidTests := true, laidLooks := .later }
def ScanEndsUptoCardSaid : Prop := Claim7.holds Tryz.pinned (.plain (OpenSpec.upto scanEndsSpec)) scanEndsUptoCard

/-- THE SECOND FORM's CARD OF 'incipitlaw08.ScanOne'. -/
def scanOneUptoCard : Claim7 := { stood := { row := scanOneUptoRow, standIns := [], harness := (true, "930a93457c2b768a2dbe32958b967025e0ba4040a50ad688335679aea08723f4"), looks := false }, kinds := [], alts := [], laidByText := true, laidKinds := [.data, .data, .pinned], laidTests := true, laidLooks := .later }
def ScanOneUptoCardSaid : Prop := Claim7.holds Tryz.pinned (.plain (OpenSpec.upto scanOneSpec)) scanOneUptoCard

/-- THE SECOND FORM's CARD OF 'incipitlaw08.ScanIndents'. -/
def scanIndentsUptoCard : Claim7 := { stood := { row := scanIndentsUptoRow, standIns := [], harness := (true, "930a93457c2b768a2dbe32958b967025e0ba4040a50ad688335679aea08723f4"), looks := false }, kinds := [], alts := [], laidByText := true, laidKinds := [.data, .data, .pinned], laidTests := true, laidLooks := .later }
def ScanIndentsUptoCardSaid : Prop := Claim7.holds Tryz.pinned (.plain (OpenSpec.upto scanIndentsSpec)) scanIndentsUptoCard

/-- THE SECOND FORM's CARD OF 'incipitlaw08.ScanHeads'. -/
def scanHeadsUptoCard : Claim7 := { stood := { row := scanHeadsUptoRow, standIns := [], harness := (true, "930a93457c2b768a2dbe32958b967025e0ba4040a50ad688335679aea08723f4"), looks := false }, kinds := [], alts := [], laidByText := true, laidKinds := [.data, .data, .pinned], laidTests := true, laidLooks := .later }
def ScanHeadsUptoCardSaid : Prop := Claim7.holds Tryz.pinned (.plain (OpenSpec.upto scanHeadsSpec)) scanHeadsUptoCard
end Rows
end Go.Proofs.YtnpaagglnfocpaaGreatDoor
