/- Layer 13: whole blocks, and what has turned. -/
import Derived.Test.YtbdcbeghiglfgaaDoorDlMem
namespace Go.Proofs.YtbdcbeghiglfgaaDoor
open Go Go.RowKit
namespace Dl
set_option maxRecDepth 100000
set_option linter.unusedVariables false
set_option linter.unusedSimpArgs false

def ptr (A : Nat) : Value := .pointer (some ⟨A, 0, none⟩)
/-- A whole block. -/
def Blk (w : World) (B : Nat) (cs : Array Value) (t : TypeId) : Prop := w.heap[B]? = some (.cells cs t (0, 0))
theorem Blk.lt {w : World} {B : Nat} {cs : Array Value} {t : TypeId} (h : Blk w B cs t) : B < w.heap.size := (Array.getElem?_eq_some_iff.1 h).1
theorem Blk.below {w w' : World} {B : Nat} {cs : Array Value} {t : TypeId} (h : Blk w B cs t) (hb : Below w.heap.size w w') : Blk w' B cs t := (hb.block B h.lt).trans h
theorem Blk.cell {w : World} {B : Nat} {cs : Array Value} {t : TypeId} (h : Blk w B cs t) (k : Nat) {v : Value} (hk : cs[k]? = some v) : w.cell? ⟨B, k, none⟩ = some v := by rw [cell_of_row w B k _ _ _ h]; exact hk
theorem Blk.fr {w : World} {B : Nat} {cs : Array Value} {t : TypeId} (h : Blk w B cs t) (k : Nat) : w.frozen? ⟨B, k, none⟩ = false := frozen_of_row w B k _ _ h
theorem Blk.set {w : World} {B : Nat} {cs cs' : Array Value} {t : TypeId} (h : Blk w B cs t) (k : Nat) (v : Value) (e : cs.setIfInBounds k v = cs') : Blk (w.setCell ⟨B, k, none⟩ v) B cs' t := by
  subst e; exact heap_setCell_same w B k cs t v h
theorem Blk.other {w : World} {B : Nat} {cs : Array Value} {t : TypeId} (h : Blk w B cs t) {p : Addr} (v : Value) (e : B ≠ p.block) : Blk (w.setCell p v) B cs t := (heap_setCell_other w p B v e).trans h
theorem Blk.new (w : World) (cs : Array Value) (t : TypeId) : Blk (w.alloc (.cells cs t)) w.heap.size cs t := heap_alloc_new w _
theorem Blk.alloc {w : World} {B : Nat} {cs : Array Value} {t : TypeId} (h : Blk w B cs t) (o : Obj) : Blk (w.alloc o) B cs t := (Below.heap_alloc w o B h.lt).trans h
/-- Only these blocks have turned. -/
structure Only (X : Nat → Prop) (w w' : World) : Prop where
  os : w'.os = w.os
  tape : w'.tape = w.tape
  output : w'.output = w.output
  size : w.heap.size ≤ w'.heap.size
  block : ∀ k, k < w.heap.size → ¬ X k → w'.heap[k]? = w.heap[k]?
theorem Only.refl (X : Nat → Prop) (w : World) : Only X w w := ⟨rfl, rfl, rfl, Nat.le_refl _, fun _ _ _ => rfl⟩
theorem Only.trans {X Y : Nat → Prop} {a b c : World} (h : Only X a b) (k : Only Y b c) (hY : ∀ i, i < a.heap.size → Y i → X i) : Only X a c :=
  ⟨k.os.trans h.os, k.tape.trans h.tape, k.output.trans h.output, Nat.le_trans h.size k.size, fun i hi hx =>
    (k.block i (Nat.lt_of_lt_of_le hi h.size) (fun hy => hx (hY i hi hy))).trans (h.block i hi hx)⟩
theorem Only.trans' {X : Nat → Prop} {a b c : World} (h : Only X a b) (k : Only X b c) : Only X a c := h.trans k fun _ _ h => h
theorem Only.mono {X Y : Nat → Prop} {a b : World} (h : Only X a b) (hX : ∀ k, X k → Y k) : Only Y a b := ⟨h.os, h.tape, h.output, h.size, fun k hk hy => h.block k hk fun hx => hy (hX k hx)⟩
theorem Only.of_below {X : Nat → Prop} {w w' : World} (h : Below w.heap.size w w') : Only X w w' := ⟨h.os, h.tape, h.output, h.size, fun k hk _ => h.block k hk⟩
theorem Only.below {X : Nat → Prop} {w w' : World} {B : Nat} (h : Only X w w') (hB : B ≤ w.heap.size) (hX : ∀ k, X k → B ≤ k) : Below B w w' :=
  ⟨h.os, h.tape, h.output, h.size, fun k hk => h.block k (by omega) (fun hx => by have := hX k hx; omega)⟩
theorem Only.then_below {X : Nat → Prop} {a b c : World} (h : Only X a b) (k : Below b.heap.size b c) : Only X a c := h.trans' (Only.of_below k)
theorem Only.setCell {X : Nat → Prop} {a b : World} (h : Only X a b) {p : Addr} (hp : X p.block) (u : Value) : Only X a (b.setCell p u) :=
  h.trans' ⟨rfl, rfl, rfl, by simp, fun k hk hx => Below.heap_setCell _ _ _ _ (fun e => hx (by rw [e]; exact hp))⟩
theorem Only.drew {X : Nat → Prop} {a b : World} (h : Only X a b) : Only X a b.drew := ⟨h.os, h.tape, h.output, h.size, h.block⟩
theorem Only.alloc {X : Nat → Prop} {a b : World} (h : Only X a b) (o : Obj) : Only X a (b.alloc o) := h.trans' (Only.of_below ((Below.refl _ b).alloc (Nat.le_refl _) _))
theorem Only.grown {X : Nat → Prop} {a b c : World} {row : Option Nat} (h : Only X a b) (k : b.grownBy c row) (hr : ∀ j, row = some j → X j) : Only X a c :=
  h.trans' ⟨k.os, k.tape, k.output, k.size, fun i hi hx => k.block i hi (fun e => hx (hr i e.symm))⟩
theorem Only.new {X : Nat → Prop} {a b : World} (h : Only X a b) {Y : Nat → Prop} (hX : ∀ k, k < a.heap.size → X k → Y k) : Only Y a b :=
  ⟨h.os, h.tape, h.output, h.size, fun k hk hy => h.block k hk fun hx => hy (hX k hk hx)⟩
theorem Blk.only {w w' : World} {B : Nat} {cs : Array Value} {t : TypeId} {X : Nat → Prop} (h : Blk w B cs t) (ho : Only X w w') (hx : ¬ X B) : Blk w' B cs t := (ho.block B h.lt hx).trans h
theorem owns_only {w w' : World} {base : Nat} {e : TypeId} {size n : Nat} {v : Value} {xs : List Value} {X : Nat → Prop} (h : w.ownsRow base e size v n xs) (ho : Only X w w') (hx : ∀ k, v.ownBlock = some k → ¬ X k) : w'.ownsRow base e size v n xs :=
  owns_block h fun k hk => ho.block k (h.lt k hk).2 (hx k hk)

theorem only_drew {w w' : World} {X : Nat → Prop} (h : Only X w w') : Only X w w'.drew := h.drew
end Dl
end Go.Proofs.YtbdcbeghiglfgaaDoor
