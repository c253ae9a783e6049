/-
  DERIVED. GIVEN WITH THE SEED: THE CARDS: each row of YtbfmbhilkgnkeaaDoorRows.lean that lists a variable, with what it lists TIED to the program's text (the seventh form; the later family's looks); each row that meets fmt, with fmt's text TOLD by the authors' own Lean function (tested against real Go, not proved from fmt's source: count such statements apart). THE CARD IS WHAT COUNTS. Prove the row's statement (the work); the ties are given (YtbfmbhilkgnkeaaDoorTie.lean); close each card by the builder's one call (the guide's Derived/Test/ToyasCard.lean, 'card_holds'). Laid BY PROGRAM, IN A SANDBOX (cutbox-door.mjs). By AI agents, Wed Nov 11 2026. No macro, syntax, notation, axiom, sorry.
-/
import Derived.Test.YtbfmbhilkgnkeaaDoorRows
import GoSem.ClaimSeven
namespace Go.Proofs.YtbfmbhilkgnkeaaDoor
namespace Rows

/-- THE TIED CARD OF 'incipitlaw03.ClassIs'. -/
def classIsCard : Claim7 := { stood := { row := classIsRow, standIns := [], harness := (true, "79273eaa8108f2d3fcdbf9e1b901064787a1f2afcd143dd84fc1008ebc54e778"), looks := false }, kinds := [], alts := [], laidByText := true, laidKinds := [.data, .data], laidTests := true, laidLooks := .later }
def ClassIsCardSaid : Prop := Claim7.holds Tryd.pinned (.plain (OpenSpec.ofChange classIsSpec)) classIsCard

/-- THE TIED CARD OF 'incipitlaw03.ClassFolds'. -/
def classFoldsCard : Claim7 := { stood := { row := classFoldsRow, standIns := [], harness := (true, "79273eaa8108f2d3fcdbf9e1b901064787a1f2afcd143dd84fc1008ebc54e778"), looks := false }, kinds := [], alts := [], laidByText := true, laidKinds := [.data, .data], laidTests := true, laidLooks := .later }
def ClassFoldsCardSaid : Prop := Claim7.holds Tryd.pinned (.plain (OpenSpec.ofChange classFoldsSpec)) classFoldsCard

/-- THE TIED CARD OF 'incipitlaw03.ClassOnce'. -/
def classOnceCard : Claim7 := { stood := { row := classOnceRow, standIns := [], harness := (true, "79273eaa8108f2d3fcdbf9e1b901064787a1f2afcd143dd84fc1008ebc54e778"), looks := false }, kinds := [], alts := [], laidByText := true, laidKinds := [.data, .data], laidTests := true, laidLooks := .later }
def ClassOnceCardSaid : Prop := Claim7.holds Tryd.pinned (.plain (OpenSpec.ofChange classOnceSpec)) classOnceCard

/-- THE TIED CARD OF 'incipitlaw03.ClassBlanks'. -/
def classBlanksCard : Claim7 := { stood := { row := classBlanksRow, standIns := [], harness := (true, "79273eaa8108f2d3fcdbf9e1b901064787a1f2afcd143dd84fc1008ebc54e778"), looks := false }, kinds := [], alts := [], laidByText := true, laidKinds := [.data, .data], laidTests := true, laidLooks := .later }
def ClassBlanksCardSaid : Prop := Claim7.holds Tryd.pinned (.plain (OpenSpec.ofChange classBlanksSpec)) classBlanksCard

/-- THE TIED CARD OF 'incipitlaw03.ClassSigns'. -/
def classSignsCard : Claim7 := { stood := { row := classSignsRow, standIns := [], harness := (true, "79273eaa8108f2d3fcdbf9e1b901064787a1f2afcd143dd84fc1008ebc54e778"), looks := false }, kinds := [], alts := [], laidByText := true, laidKinds := [.data, .data], laidTests := true, laidLooks := .later }
def ClassSignsCardSaid : Prop := Claim7.holds Tryd.pinned (.plain (OpenSpec.ofChange classSignsSpec)) classSignsCard

/-- THE TIED CARD OF 'incipitlaw03.ClassSums'. -/
def classSumsCard : Claim7 := { stood := { row := classSumsRow, standIns := [], harness := (true, "79273eaa8108f2d3fcdbf9e1b901064787a1f2afcd143dd84fc1008ebc54e778"), looks := false }, kinds := [], alts := [], laidByText := true, laidKinds := [.data, .data], laidTests := true, laidLooks := .later }
def ClassSumsCardSaid : Prop := Claim7.holds Tryd.pinned (.plain (OpenSpec.ofChange classSumsSpec)) classSumsCard

/-- THE SECOND FORM's CARD OF 'incipitlaw03.ClassIs'. -/
def classIsUptoCard : Claim7 := { stood := { row := classIsUptoRow, standIns := [], harness := (true, "79273eaa8108f2d3fcdbf9e1b901064787a1f2afcd143dd84fc1008ebc54e778"), looks := false }, kinds := [], alts := [], laidByText := true, laidKinds := [.data, .data], laidTests := true, laidLooks := .later }
def ClassIsUptoCardSaid : Prop := Claim7.holds Tryd.pinned (.plain (OpenSpec.upto classIsSpec)) classIsUptoCard

/-- THE SECOND FORM's CARD OF 'incipitlaw03.ClassFolds'. -/
def classFoldsUptoCard : Claim7 := { stood := { row := classFoldsUptoRow, standIns := [], harness := (true, "79273eaa8108f2d3fcdbf9e1b901064787a1f2afcd143dd84fc1008ebc54e778"), looks := false }, kinds := [], alts := [], laidByText := true, laidKinds := [.data, .data], laidTests := true, laidLooks := .later }
def ClassFoldsUptoCardSaid : Prop := Claim7.holds Tryd.pinned (.plain (OpenSpec.upto classFoldsSpec)) classFoldsUptoCard

/-- THE SECOND FORM's CARD OF 'incipitlaw03.ClassOnce'. -/
def classOnceUptoCard : Claim7 := { stood := { row := classOnceUptoRow, standIns := [], harness := (true, "79273eaa8108f2d3fcdbf9e1b901064787a1f2afcd143dd84fc1008ebc54e778"), looks := false }, kinds := [], alts := [], laidByText := true, laidKinds := [.data, .data], laidTests := true, laidLooks := .later }
def ClassOnceUptoCardSaid : Prop := Claim7.holds Tryd.pinned (.plain (OpenSpec.upto classOnceSpec)) classOnceUptoCard

/-- THE SECOND FORM's CARD OF 'incipitlaw03.ClassBlanks'. -/
def classBlanksUptoCard : Claim7 := { stood := { row := classBlanksUptoRow, standIns := [], harness := (true, "79273eaa8108f2d3fcdbf9e1b901064787a1f2afcd143dd84fc1008ebc54e778"), looks := false }, kinds := [], alts := [], laidByText := true, laidKinds := [.data, .data], laidTests := true, laidLooks := .later }
def ClassBlanksUptoCardSaid : Prop := Claim7.holds Tryd.pinned (.plain (OpenSpec.upto classBlanksSpec)) classBlanksUptoCard

/-- THE SECOND FORM's CARD OF 'incipitlaw03.ClassSigns'. -/
def classSignsUptoCard : Claim7 := { stood := { row := classSignsUptoRow, standIns := [], harness := (true, "79273eaa8108f2d3fcdbf9e1b901064787a1f2afcd143dd84fc1008ebc54e778"), looks := false }, kinds := [], alts := [], laidByText := true, laidKinds := [.data, .data], laidTests := true, laidLooks := .later }
def ClassSignsUptoCardSaid : Prop := Claim7.holds Tryd.pinned (.plain (OpenSpec.upto classSignsSpec)) classSignsUptoCard

/-- THE SECOND FORM's CARD OF 'incipitlaw03.ClassSums'. -/
def classSumsUptoCard : Claim7 := { stood := { row := classSumsUptoRow, standIns := [], harness := (true, "79273eaa8108f2d3fcdbf9e1b901064787a1f2afcd143dd84fc1008ebc54e778"), looks := false }, kinds := [], alts := [], laidByText := true, laidKinds := [.data, .data], laidTests := true, laidLooks := .later }
def ClassSumsUptoCardSaid : Prop := Claim7.holds Tryd.pinned (.plain (OpenSpec.upto classSumsSpec)) classSumsUptoCard
end Rows
end Go.Proofs.YtbfmbhilkgnkeaaDoor
