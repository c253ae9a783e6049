import Derived.Test.YtkiipaaaakhhfaaGreatDoorCBk2
import Derived.Deep.Upon
import Derived.Maps.AppendAt
import Derived.Deep.QuietTactic
import Derived.Deep.CutBlock
import Derived.Lib.Bytealg
import Derived.Laws.DeepStrings4
import Derived.Deep.AppendLies
import Derived.Deep.DrawnRows
import Derived.Deep.RegionHeld3
section
namespace Go.Proofs.YtkiipaaaakhhfaaGreatDoor
open Go Go.RowKit
namespace Bk
set_option maxRecDepth 100000
set_option linter.unusedVariables false
set_option linter.unusedSimpArgs false
def FewS (l : List Str) : Prop := l.length ≤ 40 ∧ ∀ s ∈ l, s.length ≤ 80
theorem size_mk (l : Str) : (⟨l.toArray⟩ : ByteArray).size = l.length := by rfl
def ar9 (o : Ow) (L : Value) : Array Value := #[.int .i64 (o.k : Nat), .string ⟨o.s.toArray⟩, .string ⟨o.t.toArray⟩, .int .i64 (o.n : Nat), .int .i64 (o.m : Nat), .bool o.f, .int .i64 (o.a : Nat), .int .i64 (o.z : Nat), L]
def Box (w : World) (N : Nat) (cs : Array Value) (t : TypeId) : Prop := w.heap[N]? = some (.cells cs t (0, 0))
theorem Box.lt {w : World} {N : Nat} {cs : Array Value} {t : TypeId} (h : Box w N cs t) : N < w.heap.size := (Array.getElem?_eq_some_iff.1 h).1
theorem Box.keep {w w' : World} {N : Nat} {cs : Array Value} {t : TypeId} (h : Box w N cs t) (hb : Below w.heap.size w w') : Box w' N cs t := (hb.block N h.lt).trans h
theorem Box.cell {w : World} {N : Nat} {cs : Array Value} {t : TypeId} (h : Box w N cs t) (k : Nat) {v : Value} (hk : cs[k]? = some v) : w.cell? ⟨N, k, none⟩ = some v := by rw [cell_of_row w N k _ _ _ h]; exact hk
theorem Box.fr {w : World} {N : Nat} {cs : Array Value} {t : TypeId} (h : Box w N cs t) (k : Nat) : w.frozen? ⟨N, k, none⟩ = false := frozen_of_row w N k _ _ h
theorem Box.new (w : World) (cs : Array Value) (t : TypeId) : Box (w.alloc (.cells cs t)) w.heap.size cs t := heap_alloc_new w _
theorem Box.alloc {w : World} {N : Nat} {cs : Array Value} {t : TypeId} (h : Box w N cs t) (o : Obj) : Box (w.alloc o) N cs t := (Below.heap_alloc w o N h.lt).trans h
theorem Box.set {w : World} {N : Nat} {cs cs' : Array Value} {t : TypeId} (h : Box w N cs t) (k : Nat) (v : Value) (e : cs.setIfInBounds k v = cs') : Box (w.setCell ⟨N, k, none⟩ v) N cs' t := by
 subst e; exact heap_setCell_same w N k cs t v h
end Bk
end Go.Proofs.YtkiipaaaakhhfaaGreatDoor
end
section
namespace Go.Proofs.YtkiipaaaakhhfaaGreatDoor
open Go Go.RowKit
namespace Bk
set_option maxRecDepth 100000
set_option linter.unusedVariables false
set_option linter.unusedSimpArgs false
theorem cons_at {s : ByteArray} {k : Nat} (h : k < s.size) : ∃ c t, s.data.toList.drop k = c :: t ∧ s.data.toList.drop (k + 1) = t := by
 cases hd : s.data.toList.drop k with
 | nil => have := congrArg List.length hd; rw [List.length_drop, szB] at this; simp at this; omega
 | cons x t => exact ⟨x, t, rfl, by rw [← List.drop_drop, hd]; rfl⟩
end Bk
end Go.Proofs.YtkiipaaaakhhfaaGreatDoor
end
section
namespace Go.Proofs.YtkiipaaaakhhfaaGreatDoor
open Go Go.RowKit
namespace Bk
set_option maxRecDepth 100000
set_option linter.unusedVariables false
set_option linter.unusedSimpArgs false
theorem Box.grown {w w' : World} {N : Nat} {cs : Array Value} {t : TypeId} {row : Option Nat} (h : Box w N cs t) (hg : w.grownBy w' row) (hne : row ≠ some N) : Box w' N cs t := (hg.block N h.lt (fun e => hne e.symm)).trans h
end Bk
end Go.Proofs.YtkiipaaaakhhfaaGreatDoor
end
