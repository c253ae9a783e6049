/- Walks of layer 1, the first part: shape, between, good. -/
import Derived.Test.YtnpaagglnfocpaaGreatDoorShelf
import Derived.Test.YtnpaagglnfocpaaGreatDoorTextPure
import Derived.WalkKit
import Derived.BigCall
import Derived.BigQuiet
import Derived.Deep.QuietTactic
import Derived.Lib.Hide
import Derived.Deep.DeepCutAuto
namespace Go.Proofs.YtnpaagglnfocpaaGreatDoor
open Go Go.RowKit
namespace Tx
set_option maxRecDepth 100000
set_option linter.unusedVariables false

/-- What 'shape' tells of a first byte. -/
def shS (c : Nat) : Nat := if c < 128 then 1 else if c < 194 then 0 else if c ≤ 223 then 2 else if c ≤ 239 then 3 else if c ≤ 244 then 4 else 0
def shLo (c : Nat) : Nat := if c < 194 then 0 else if c ≤ 223 then 128 else if c = 224 then 160 else if c ≤ 239 then 128 else if c = 240 then 144 else if c ≤ 244 then 128 else 0
def shHi (c : Nat) : Nat := if c < 194 then 0 else if c = 237 then 159 else if c ≤ 243 then 191 else if c = 244 then 143 else 0

theorem tup3 {a b c : Int} {x y z : Nat} (h1 : (x : Int) = a) (h2 : (y : Int) = b) (h3 : (z : Int) = c) : (.tuple #[.int .i64 a, .int .u8 b, .int .u8 c] : Value) = .tuple #[.int .i64 x, .int .u8 y, .int .u8 z] := by rw [h1, h2, h3]

set_option maxHeartbeats 1000000 in
theorem shape_any (c : Nat) (hc : c < 256) (w : World) :
    Calls Tryz.prog 139 #[.int .u8 (c : Int)] w fun e w' => e = .returned (.tuple #[.int .i64 (shS c : Nat), .int .u8 (shLo c : Nat), .int .u8 (shHi c : Nat)]) ∧ w = w' := by
  have e1 : 0 ≤ (c : Int) := by omega
  have e2 : (c : Int) ≤ 255 := by omega
  go_enter Tryz.func139, Tryz.ntmps139
  go_wp2
  all_goals (
    go_ret3
    refine ⟨congrArg Ending.returned (tup3 ?_ ?_ ?_), rfl⟩
    all_goals try simp only [beq_iff_eq, beq_eq_false_iff_ne] at *
    · unfold shS; (repeat' split) <;> omega
    · unfold shLo; (repeat' split) <;> omega
    · unfold shHi; (repeat' split) <;> omega)

/-- A slice of bytes in memory. -/
def Row (w : World) (b off : Nat) (l : List UInt8) : Prop := ∀ i, i < l.length → w.cell? ⟨b, off + i, none⟩ = some (.int .u8 (at' l i : Nat))

theorem Row.one {w : World} {b off : Nat} {l : List UInt8} (h : Row w b off l) (i : Nat) (hi : i < l.length) : w.cell? ⟨b, off + i, none⟩ = some (.int .u8 (at' l i : Nat)) := h i hi
theorem at_drop (l : List UInt8) (n i : Nat) : at' (l.drop n) i = at' l (n + i) := by simp [at', List.getD]
theorem Row.drop {w : World} {b off : Nat} {l : List UInt8} (h : Row w b off l) (n : Nat) : Row w b (off + n) (l.drop n) := by
  intro i hi
  rw [List.length_drop] at hi
  rw [at_drop, Nat.add_assoc]
  exact h (n + i) (by omega)

theorem btw_of (l : List UInt8) (k : Nat) (lo hi : Int) (hlo : 0 ≤ lo) (hhi : 0 ≤ hi) (hlt : k < l.length) : btw l k lo.toNat hi.toNat = (decide (lo ≤ (at' l k : Int)) && decide ((at' l k : Int) ≤ hi)) := by
  rw [btw_at, decide_eq_true hlt, Bool.true_and]
  congr 1 <;> rw [decide_eq_decide] <;> omega
theorem ret_bool {a b : Bool} (h : a = b) : Ending.returned (.bool a) = .returned (.bool b) := by rw [h]

theorem ret_int {k : IntKind} {a b : Int} (h : a = b) : Ending.returned (.int k a) = .returned (.int k b) := by rw [h]

end Tx
end Go.Proofs.YtnpaagglnfocpaaGreatDoor
