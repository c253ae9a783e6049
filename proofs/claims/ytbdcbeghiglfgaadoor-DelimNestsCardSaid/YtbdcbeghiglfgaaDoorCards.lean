/-
  DERIVED. GIVEN WITH THE SEED: THE CARDS: each row of YtbdcbeghiglfgaaDoorRows.lean that lists a variable, with what it lists TIED to the program's text (the seventh form; the later family's looks); each row that meets fmt, with fmt's text TOLD by the authors' own Lean function (tested against real Go, not proved from fmt's source: count such statements apart). THE CARD IS WHAT COUNTS. Prove the row's statement (the work); the ties are given (YtbdcbeghiglfgaaDoorTie.lean); close each card by the builder's one call (the guide's Derived/Test/ToyasCard.lean, 'card_holds'). Laid BY PROGRAM, IN A SANDBOX (cutbox-door.mjs). By AI agents, Wed Nov 11 2026. No macro, syntax, notation, axiom, sorry.
-/
import Derived.Test.YtbdcbeghiglfgaaDoorRows
import GoSem.ClaimSeven
namespace Go.Proofs.YtbdcbeghiglfgaaDoor
namespace Rows

/-- THE TIED CARD OF 'incipitlaw13.DelimFlanks'. -/
def delimFlanksCard : Claim7 := { stood := { row := delimFlanksRow, standIns := [], harness := (true, "11833aa1b1640114128975474a798ceabbcff1021e493e076b5031776712d0d7"), looks := false }, kinds := [], alts := [], laidByText := true, laidKinds := [.data], laidTests := true, laidLooks := .later }
def DelimFlanksCardSaid : Prop := Claim7.holds Tryd.pinned (.plain (OpenSpec.ofChange delimFlanksSpec)) delimFlanksCard

/-- THE TIED CARD OF 'incipitlaw13.DelimMatches'. -/
def delimMatchesCard : Claim7 := { stood := { row := delimMatchesRow, standIns := [], harness := (true, "11833aa1b1640114128975474a798ceabbcff1021e493e076b5031776712d0d7"), looks := false }, kinds := [], alts := [], laidByText := true, laidKinds := [.data], laidTests := true, laidLooks := .later }
def DelimMatchesCardSaid : Prop := Claim7.holds Tryd.pinned (.plain (OpenSpec.ofChange delimMatchesSpec)) delimMatchesCard

/-- THE TIED CARD OF 'incipitlaw13.DelimNests'. -/
def delimNestsCard : Claim7 := { stood := { row := delimNestsRow, standIns := [], harness := (true, "11833aa1b1640114128975474a798ceabbcff1021e493e076b5031776712d0d7"), looks := false }, kinds := [], alts := [], laidByText := true, laidKinds := [.data], laidTests := true, laidLooks := .later }
def DelimNestsCardSaid : Prop := Claim7.holds Tryd.pinned (.plain (OpenSpec.ofChange delimNestsSpec)) delimNestsCard

/-- THE TIED CARD OF 'incipitlaw13.DelimTurns'. -/
def delimTurnsCard : Claim7 := { stood := { row := delimTurnsRow, standIns := [], harness := (true, "11833aa1b1640114128975474a798ceabbcff1021e493e076b5031776712d0d7"), looks := false }, kinds := [], alts := [], laidByText := true, laidKinds := [.data], laidTests := true, laidLooks := .later }
def DelimTurnsCardSaid : Prop := Claim7.holds Tryd.pinned (.plain (OpenSpec.ofChange delimTurnsSpec)) delimTurnsCard

/-- THE TIED CARD OF 'incipitlaw13.DelimDeep'. -/
def delimDeepCard : Claim7 := { stood := { row := delimDeepRow, standIns := [], harness := (true, "11833aa1b1640114128975474a798ceabbcff1021e493e076b5031776712d0d7"), looks := false }, kinds := [], alts := [], laidByText := true, laidKinds := [.data], laidTests := true, laidLooks := .later }
def DelimDeepCardSaid : Prop := Claim7.holds Tryd.pinned (.plain (OpenSpec.ofChange delimDeepSpec)) delimDeepCard

/-- THE TIED CARD OF 'incipitlaw13.DelimApart'. -/
def delimApartCard : Claim7 := { stood := { row := delimApartRow, standIns := [], harness := (true, "11833aa1b1640114128975474a798ceabbcff1021e493e076b5031776712d0d7"), looks := false }, kinds := [], alts := [], laidByText := true, laidKinds := [.data], laidTests := true, laidLooks := .later }
def DelimApartCardSaid : Prop := Claim7.holds Tryd.pinned (.plain (OpenSpec.ofChange delimApartSpec)) delimApartCard

/-- THE TIED CARD OF 'incipitlaw13.DelimNone'. -/
def delimNoneCard : Claim7 := { stood := { row := delimNoneRow, standIns := [], harness := (true, "11833aa1b1640114128975474a798ceabbcff1021e493e076b5031776712d0d7"), looks := false }, kinds := [], alts := [], laidByText := true, laidKinds := [.data], laidTests := true, laidLooks := .later }
def DelimNoneCardSaid : Prop := Claim7.holds Tryd.pinned (.plain (OpenSpec.ofChange delimNoneSpec)) delimNoneCard

/-- THE SECOND FORM's CARD OF 'incipitlaw13.DelimFlanks'. -/
def delimFlanksUptoCard : Claim7 := { stood := { row := delimFlanksUptoRow, standIns := [], harness := (true, "11833aa1b1640114128975474a798ceabbcff1021e493e076b5031776712d0d7"), looks := false }, kinds := [], alts := [], laidByText := true, laidKinds := [.data], laidTests := true, laidLooks := .later }
def DelimFlanksUptoCardSaid : Prop := Claim7.holds Tryd.pinned (.plain (OpenSpec.upto delimFlanksSpec)) delimFlanksUptoCard

/-- THE SECOND FORM's CARD OF 'incipitlaw13.DelimMatches'. -/
def delimMatchesUptoCard : Claim7 := { stood := { row := delimMatchesUptoRow, standIns := [], harness := (true, "11833aa1b1640114128975474a798ceabbcff1021e493e076b5031776712d0d7"), looks := false }, kinds := [], alts := [], laidByText := true, laidKinds := [.data], laidTests := true, laidLooks := .later }
def DelimMatchesUptoCardSaid : Prop := Claim7.holds Tryd.pinned (.plain (OpenSpec.upto delimMatchesSpec)) delimMatchesUptoCard

/-- THE SECOND FORM's CARD OF 'incipitlaw13.DelimNests'. -/
def delimNestsUptoCard : Claim7 := { stood := { row := delimNestsUptoRow, standIns := [], harness := (true, "11833aa1b1640114128975474a798ceabbcff1021e493e076b5031776712d0d7"), looks := false }, kinds := [], alts := [], laidByText := true, laidKinds := [.data], laidTests := true, laidLooks := .later }
def DelimNestsUptoCardSaid : Prop := Claim7.holds Tryd.pinned (.plain (OpenSpec.upto delimNestsSpec)) delimNestsUptoCard

/-- THE SECOND FORM's CARD OF 'incipitlaw13.DelimTurns'. -/
def delimTurnsUptoCard : Claim7 := { stood := { row := delimTurnsUptoRow, standIns := [], harness := (true, "11833aa1b1640114128975474a798ceabbcff1021e493e076b5031776712d0d7"), looks := false }, kinds := [], alts := [], laidByText := true, laidKinds := [.data], laidTests := true, laidLooks := .later }
def DelimTurnsUptoCardSaid : Prop := Claim7.holds Tryd.pinned (.plain (OpenSpec.upto delimTurnsSpec)) delimTurnsUptoCard

/-- THE SECOND FORM's CARD OF 'incipitlaw13.DelimDeep'. -/
def delimDeepUptoCard : Claim7 := { stood := { row := delimDeepUptoRow, standIns := [], harness := (true, "11833aa1b1640114128975474a798ceabbcff1021e493e076b5031776712d0d7"), looks := false }, kinds := [], alts := [], laidByText := true, laidKinds := [.data], laidTests := true, laidLooks := .later }
def DelimDeepUptoCardSaid : Prop := Claim7.holds Tryd.pinned (.plain (OpenSpec.upto delimDeepSpec)) delimDeepUptoCard

/-- THE SECOND FORM's CARD OF 'incipitlaw13.DelimApart'. -/
def delimApartUptoCard : Claim7 := { stood := { row := delimApartUptoRow, standIns := [], harness := (true, "11833aa1b1640114128975474a798ceabbcff1021e493e076b5031776712d0d7"), looks := false }, kinds := [], alts := [], laidByText := true, laidKinds := [.data], laidTests := true, laidLooks := .later }
def DelimApartUptoCardSaid : Prop := Claim7.holds Tryd.pinned (.plain (OpenSpec.upto delimApartSpec)) delimApartUptoCard

/-- THE SECOND FORM's CARD OF 'incipitlaw13.DelimNone'. -/
def delimNoneUptoCard : Claim7 := { stood := { row := delimNoneUptoRow, standIns := [], harness := (true, "11833aa1b1640114128975474a798ceabbcff1021e493e076b5031776712d0d7"), looks := false }, kinds := [], alts := [], laidByText := true, laidKinds := [.data], laidTests := true, laidLooks := .later }
def DelimNoneUptoCardSaid : Prop := Claim7.holds Tryd.pinned (.plain (OpenSpec.upto delimNoneSpec)) delimNoneUptoCard
end Rows
end Go.Proofs.YtbdcbeghiglfgaaDoor
