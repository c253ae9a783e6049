/- Walks of layer 5, the second part: Html. -/
import Derived.Test.YtfabiidohdkkcaaGreatDoorEscA
import Derived.Deep.LoopGhost
namespace Go.Proofs.YtfabiidohdkkcaaGreatDoor
open Go Go.RowKit
namespace Es
open En
set_option maxRecDepth 100000
set_option linter.unusedVariables false
set_option linter.unusedSimpArgs false

def str (l : List UInt8) : Value := .string ⟨l.toArray⟩
theorem size_mk (l : List UInt8) : (⟨l.toArray⟩ : ByteArray).size = l.length := by rfl
theorem ret_strL {a b : List UInt8} (h : a = b) : Ending.returned (.string ⟨a.toArray⟩) = .returned (str b) := by rw [h]; rfl
/-- A builder of the call's own that holds these bytes. -/
def BF (B : Nat) (bs : List UInt8) (w : World) : Prop := Lib.IsBuilderF 73 5 B B (Lib.byteCells bs) w
theorem bf_below {W W' : World} {B : Nat} {bs : List UInt8} (h : BF B bs W) (hb : Below W.heap.size W W') : BF B bs W' := by
  have one : ∀ p, Lib.BuilderAtF 73 5 B B p (Lib.byteCells bs) W → Lib.BuilderAtF 73 5 B B p (Lib.byteCells bs) W' := by
    intro p h
    have hlt := h.lt
    obtain ⟨hB, v, hv, hown, hne⟩ := h
    exact ⟨hB, v, (hb.block B hlt).trans hv, hown.kept (row := none) ⟨hb.os, hb.tape, hb.output, hb.size, fun k hk _ => hb.block k hk⟩ (Classical.em _), hne⟩
  exact h.elim (fun x => .inl (one _ x)) (fun x => .inr (one _ x))
theorem byteCells_app (a b : List UInt8) : Lib.byteCells (a ++ b) = Lib.byteCells a ++ Lib.byteCells b := by simp [Lib.byteCells]
theorem strCells_mk (l : List UInt8) : Lib.strCells ⟨l.toArray⟩ = Lib.byteCells l := by simp [Lib.strCells, Lib.byteCells]
theorem bf_str {B : Nat} {p : Value} {bs l r : List UInt8} {w : World} (h : Lib.BuilderAtF 73 5 B B p (Lib.byteCells bs ++ Lib.strCells ⟨l.toArray⟩) w) (hp : p = .pointer (some ⟨B, 0, none⟩)) (hr : r = bs ++ l) : BF B r w := by
  subst hp hr
  refine Or.inr ?_
  rw [byteCells_app, ← strCells_mk l]
  exact h
theorem bf_byte {B : Nat} {p : Value} {bs r : List UInt8} {c : UInt8} {w : World} (h : Lib.BuilderAtF 73 5 B B p (Lib.byteCells bs ++ [.int .u8 (c.toNat : Int)]) w) (hp : p = .pointer (some ⟨B, 0, none⟩)) (hr : r = bs ++ [c]) : BF B r w := by
  subst hp hr
  refine Or.inr ?_
  rw [byteCells_app]
  exact h

end Es
end Go.Proofs.YtfabiidohdkkcaaGreatDoor
