/- Layer 7: blocks; hooks in memory. -/
import Derived.Test.YtemcahbpfjlnlaaRegPure
import Derived.Test.YtemcahbpfjlnlaaShelf
import Derived.WalkKit
import Derived.BigCall
import Derived.BigQuiet
import Derived.Below
import Derived.WideShapes
import Derived.Deep.LoopGhost
import Derived.Maps.RangeWalk
import Derived.Laws.LoneSync
import Derived.Laws.NewBlocks
namespace Go.Proofs.Ytemcahbpfjlnlaa
open Go Go.RowKit
namespace Rg
set_option maxRecDepth 100000
set_option linter.unusedVariables false
set_option linter.unusedSimpArgs false

def hookC (h : Hk) : Array Value := #[.string h.name, .int .i64 h.ph, .int .i64 h.pri, .string h.trig, .int .i64 h.bit]
def hookV (h : Hk) : Value := .agg (hookC h)
/-- Cells of hooks one behind the other. -/
def rowC (l : List Hk) : List Value := l.flatMap fun h => (hookC h).toList
theorem rowC_len : ∀ l : List Hk, (rowC l).length = l.length * 5
  | [] => rfl
  | h :: r => by
    have := rowC_len r
    simp only [rowC, List.flatMap_cons, List.length_append, List.length_cons] at *
    rw [this]; simp [hookC]; omega
theorem rowC_snoc (l : List Hk) (h : Hk) : rowC (l ++ [h]) = rowC l ++ (hookC h).toList := by simp [rowC]
theorem rowC_append (l m : List Hk) : rowC (l ++ m) = rowC l ++ rowC m := by simp [rowC]
theorem rowC_get : ∀ {l : List Hk} {i : Nat} {h : Hk}, l[i]? = some h → ∀ j v, (hookC h)[j]? = some v → (rowC l)[i * 5 + j]? = some v
  | [], i, h, e, _, _, _ => by simp at e
  | x :: r, 0, h, e, j, v, hj => by
    simp at e; subst e
    rw [Nat.zero_mul, Nat.zero_add]
    show ((hookC x).toList ++ rowC r)[j]? = _
    have hl : j < (hookC x).size := (Array.getElem?_eq_some_iff.1 hj).1
    rw [List.getElem?_append_left (by simpa using hl)]
    simpa using hj
  | x :: r, i + 1, h, e, j, v, hj => by
    show ((hookC x).toList ++ rowC r)[(i + 1) * 5 + j]? = _
    rw [List.getElem?_append_right (by simp [hookC]; omega)]
    rw [show (i + 1) * 5 + j - (hookC x).toList.length = i * 5 + j by simp [hookC]; omega]
    exact rowC_get (by simpa using e) j v hj
theorem hookC_one (h : Hk) : ∀ u ∈ (hookC h).toList, u.oneCell' = true := by
  intro u hu
  simp [hookC] at hu
  rcases hu with rfl | rfl | rfl | rfl | rfl <;> rfl
theorem rowC_one (l : List Hk) : ∀ u ∈ rowC l, u.oneCell' = true := by
  intro u hu
  obtain ⟨h, _, hu⟩ := List.mem_flatMap.1 hu
  exact hookC_one h u hu
theorem rowC_take (l : List Hk) (n : Nat) : (rowC l).take (n * 5) = rowC (l.take n) := by
  rcases Nat.lt_or_ge l.length n with h | h
  · rw [List.take_of_length_le (by rw [rowC_len]; omega), List.take_of_length_le (by omega)]
  · have h1 : rowC l = rowC (l.take n) ++ rowC (l.drop n) := by rw [← rowC_append, List.take_append_drop]
    have h2 : (rowC (l.take n)).length = n * 5 := by rw [rowC_len, List.length_take]; congr 1; omega
    rw [h1, ← h2, List.take_left]
theorem rowC_drop (l : List Hk) (n : Nat) : (rowC l).drop (n * 5) = rowC (l.drop n) := by
  rcases Nat.lt_or_ge l.length n with h | h
  · rw [List.drop_of_length_le (by rw [rowC_len]; omega), List.drop_of_length_le (by omega)]; rfl
  · have h1 : rowC l = rowC (l.take n) ++ rowC (l.drop n) := by rw [← rowC_append, List.take_append_drop]
    have h2 : (rowC (l.take n)).length = n * 5 := by rw [rowC_len, List.length_take]; congr 1; omega
    rw [h1, ← h2, List.drop_left]

/-- How the cells of a hook lie. -/
structure CellsAt (w : World) (b off : Nat) (h : Hk) : Prop where
  c0 : w.cell? ⟨b, off, none⟩ = some (.string h.name)
  c1 : w.cell? ⟨b, off + 1, none⟩ = some (.int .i64 h.ph)
  c2 : w.cell? ⟨b, off + 2, none⟩ = some (.int .i64 h.pri)
  c3 : w.cell? ⟨b, off + 3, none⟩ = some (.string h.trig)
  c4 : w.cell? ⟨b, off + 4, none⟩ = some (.int .i64 h.bit)
theorem keep_cell {w W : World} {a : Addr} {v : Value} (hb : Below w.heap.size w W) (h : w.cell? a = some v) : W.cell? a = some v := by
  rw [hb.cell (World.block_lt_of_cell? w a h)]; exact h
theorem CellsAt.carry {w w' : World} {b off : Nat} {o : Hk} (h : CellsAt w b off o) (hc : ∀ off v, w.cell? ⟨b, off, none⟩ = some v → w'.cell? ⟨b, off, none⟩ = some v) : CellsAt w' b off o :=
  ⟨hc _ _ h.c0, hc _ _ h.c1, hc _ _ h.c2, hc _ _ h.c3, hc _ _ h.c4⟩
theorem CellsAt.keep {w w' : World} {b off : Nat} {o : Hk} (h : CellsAt w b off o) (hb : Below w.heap.size w w') : CellsAt w' b off o := h.carry fun _ _ hc => keep_cell hb hc
theorem below_later {w W W' : World} (h : Below w.heap.size w W) (h' : Below W.heap.size W W') : Below w.heap.size w W' := h.trans (h'.mono h.size)
theorem ret_int {a b : Int} (h : a = b) : Ending.returned (.int .i64 a) = .returned (.int .i64 b) := by rw [h]
theorem ret_bool {a b : Bool} (h : a = b) : Ending.returned (.bool a) = .returned (.bool b) := by rw [h]
theorem toList_eq (a : ByteArray) : a.toList = a.data.toList := Go.ByteArray.toList_eq a
theorem toList_inj {a b : ByteArray} : a.toList = b.toList ↔ a = b := by
  constructor
  · intro h
    rw [toList_eq, toList_eq] at h
    exact Go.WideShapes.bytes_inj h
  · exact fun h => h ▸ rfl
def ptr (A : Nat) : Value := .pointer (some ⟨A, 0, none⟩)

/-- A whole block. -/
def Blk (w : World) (B : Nat) (cs : Array Value) (t : TypeId) : Prop := w.heap[B]? = some (.cells cs t (0, 0))
theorem Blk.lt {w : World} {B : Nat} {cs : Array Value} {t : TypeId} (h : Blk w B cs t) : B < w.heap.size := (Array.getElem?_eq_some_iff.1 h).1
theorem Blk.below {w w' : World} {B : Nat} {cs : Array Value} {t : TypeId} (h : Blk w B cs t) (hb : Below w.heap.size w w') : Blk w' B cs t := (hb.block B h.lt).trans h
theorem Blk.cell {w : World} {B : Nat} {cs : Array Value} {t : TypeId} (h : Blk w B cs t) (k : Nat) {v : Value} (hk : cs[k]? = some v) : w.cell? ⟨B, k, none⟩ = some v := by rw [cell_of_row w B k _ _ _ h]; exact hk
theorem Blk.fr {w : World} {B : Nat} {cs : Array Value} {t : TypeId} (h : Blk w B cs t) (k : Nat) : w.frozen? ⟨B, k, none⟩ = false := frozen_of_row w B k _ _ h
theorem Blk.set {w : World} {B : Nat} {cs cs' : Array Value} {t : TypeId} (h : Blk w B cs t) (k : Nat) (v : Value) (e : cs.setIfInBounds k v = cs') : Blk (w.setCell ⟨B, k, none⟩ v) B cs' t := by
  subst e; exact heap_setCell_same w B k cs t v h
theorem Blk.other {w : World} {B : Nat} {cs : Array Value} {t : TypeId} (h : Blk w B cs t) {p : Addr} (v : Value) (e : B ≠ p.block) : Blk (w.setCell p v) B cs t := (heap_setCell_other w p B v e).trans h
theorem Blk.new (w : World) (cs : Array Value) (t : TypeId) : Blk (w.alloc (.cells cs t)) w.heap.size cs t := heap_alloc_new w _
theorem Blk.alloc {w : World} {B : Nat} {cs : Array Value} {t : TypeId} (h : Blk w B cs t) (o : Obj) : Blk (w.alloc o) B cs t := (Below.heap_alloc w o B h.lt).trans h
theorem Blk.hook {w : World} {B : Nat} {o : Hk} {t : TypeId} (h : Blk w B (hookC o) t) : CellsAt w B 0 o :=
  ⟨h.cell 0 rfl, h.cell 1 rfl, h.cell 2 rfl, h.cell 3 rfl, h.cell 4 rfl⟩
theorem infoHook : (Try.prog.info? 29).map (·.size) = some 5 := by kernel_rfl
theorem hookInfo : (Try.prog.info? 29).map (fun i => (i.zero, i.size, i.bytes)) = some (some (.agg (hookC default)), 5, 56) := by kernel_rfl
/-- A hook by value is laid over a hook's cells. -/
theorem Blk.rehook {W : World} {B : Nat} {o0 : Hk} {t : TypeId} (h : Blk W B (hookC o0) t) (o : Hk) :
    Blk (((((W.setCell ⟨B, 0, none⟩ (.string o.name)).setCell ⟨B, 1, none⟩ (.int .i64 o.ph)).setCell ⟨B, 2, none⟩ (.int .i64 o.pri)).setCell ⟨B, 3, none⟩ (.string o.trig)).setCell ⟨B, 4, none⟩ (.int .i64 o.bit)) B (hookC o) t := by
  have R0 := Blk.set (cs' := hookC ⟨o.name, o0.ph, o0.pri, o0.trig, o0.bit⟩) h 0 (.string o.name) rfl
  have R1 := Blk.set (cs' := hookC ⟨o.name, o.ph, o0.pri, o0.trig, o0.bit⟩) R0 1 (.int .i64 o.ph) rfl
  have R2 := Blk.set (cs' := hookC ⟨o.name, o.ph, o.pri, o0.trig, o0.bit⟩) R1 2 (.int .i64 o.pri) rfl
  have R3 := Blk.set (cs' := hookC ⟨o.name, o.ph, o.pri, o.trig, o0.bit⟩) R2 3 (.string o.trig) rfl
  exact Blk.set (cs' := hookC o) R3 4 (.int .i64 o.bit) rfl

/-- Only these blocks have turned. -/
structure Only (X : Nat → Prop) (w w' : World) : Prop where
  os : w'.os = w.os
  tape : w'.tape = w.tape
  output : w'.output = w.output
  size : w.heap.size ≤ w'.heap.size
  block : ∀ k, k < w.heap.size → ¬ X k → w'.heap[k]? = w.heap[k]?
theorem Only.refl (X : Nat → Prop) (w : World) : Only X w w := ⟨rfl, rfl, rfl, Nat.le_refl _, fun _ _ _ => rfl⟩
theorem Only.trans {X Y : Nat → Prop} {a b c : World} (h : Only X a b) (k : Only Y b c) (hY : ∀ i, i < a.heap.size → Y i → X i) : Only X a c :=
  ⟨k.os.trans h.os, k.tape.trans h.tape, k.output.trans h.output, Nat.le_trans h.size k.size, fun i hi hx =>
    (k.block i (Nat.lt_of_lt_of_le hi h.size) (fun hy => hx (hY i hi hy))).trans (h.block i hi hx)⟩
theorem Only.trans' {X : Nat → Prop} {a b c : World} (h : Only X a b) (k : Only X b c) : Only X a c := h.trans k fun _ _ h => h
theorem Only.mono {X Y : Nat → Prop} {a b : World} (h : Only X a b) (hX : ∀ k, X k → Y k) : Only Y a b := ⟨h.os, h.tape, h.output, h.size, fun k hk hy => h.block k hk fun hx => hy (hX k hx)⟩
theorem Only.of_below {X : Nat → Prop} {w w' : World} (h : Below w.heap.size w w') : Only X w w' := ⟨h.os, h.tape, h.output, h.size, fun k hk _ => h.block k hk⟩
theorem Only.below {X : Nat → Prop} {w w' : World} {B : Nat} (h : Only X w w') (hB : B ≤ w.heap.size) (hX : ∀ k, X k → B ≤ k) : Below B w w' :=
  ⟨h.os, h.tape, h.output, h.size, fun k hk => h.block k (by omega) (fun hx => by have := hX k hx; omega)⟩
theorem Only.then_below {X : Nat → Prop} {a b c : World} (h : Only X a b) (k : Below b.heap.size b c) : Only X a c := h.trans' (Only.of_below k)
theorem Only.setCell {X : Nat → Prop} {a b : World} (h : Only X a b) {p : Addr} (hp : X p.block) (u : Value) : Only X a (b.setCell p u) :=
  h.trans' ⟨rfl, rfl, rfl, by simp, fun k hk hx => Below.heap_setCell _ _ _ _ (fun e => hx (by rw [e]; exact hp))⟩
theorem Only.drew {X : Nat → Prop} {a b : World} (h : Only X a b) : Only X a b.drew := ⟨h.os, h.tape, h.output, h.size, h.block⟩
theorem Only.alloc {X : Nat → Prop} {a b : World} (h : Only X a b) (o : Obj) : Only X a (b.alloc o) := h.trans' (Only.of_below ((Below.refl _ b).alloc (Nat.le_refl _) _))
theorem Only.grown {X : Nat → Prop} {a b c : World} {row : Option Nat} (h : Only X a b) (k : b.grownBy c row) (hr : ∀ j, row = some j → X j) : Only X a c :=
  h.trans' ⟨k.os, k.tape, k.output, k.size, fun i hi hx => k.block i hi (fun e => hx (hr i e.symm))⟩
theorem Only.new {X : Nat → Prop} {a b : World} (h : Only X a b) {Y : Nat → Prop} (hX : ∀ k, k < a.heap.size → X k → Y k) : Only Y a b :=
  ⟨h.os, h.tape, h.output, h.size, fun k hk hy => h.block k hk fun hx => hy (hX k hk hx)⟩
theorem Blk.only {w w' : World} {B : Nat} {cs : Array Value} {t : TypeId} {X : Nat → Prop} (h : Blk w B cs t) (ho : Only X w w') (hx : ¬ X B) : Blk w' B cs t := (ho.block B h.lt hx).trans h
theorem add_off (b k n : Nat) : (⟨b, k, none⟩ : Addr).add n = ⟨b, k + n, none⟩ := by unfold Addr.add; split <;> simp_all
theorem owns_form {w : World} {base n : Nat} {e : TypeId} {size : Nat} {v : Value} {xs : List Value} (h : w.ownsRow base e size v n xs) : ∃ a cap, v = .slice a n cap := by
  rcases h.2 with ⟨rfl, rfl⟩ | ⟨g, cap, cur, rfl, _⟩
  · exact ⟨none, 0, rfl⟩
  · exact ⟨_, _, rfl⟩
theorem owns_block {w w' : World} {base : Nat} {e : TypeId} {size n : Nat} {v : Value} {xs : List Value} (h : w.ownsRow base e size v n xs) (hb : ∀ k, v.ownBlock = some k → w'.heap[k]? = w.heap[k]?) : w'.ownsRow base e size v n xs := by
  refine ⟨h.1, h.2.imp id ?_⟩
  rintro ⟨g, cap, cur, rfl, h1, h2, h3⟩
  exact ⟨g, cap, cur, rfl, h1, (hb g rfl).trans h2, h3⟩
theorem owns_keep {w w' : World} {base : Nat} {e : TypeId} {size n : Nat} {v : Value} {xs : List Value} (h : w.ownsRow base e size v n xs) (hb : Below w.heap.size w w') : w'.ownsRow base e size v n xs :=
  owns_block h fun k hk => hb.block k (h.lt k hk).2
theorem owns_only {w w' : World} {base : Nat} {e : TypeId} {size n : Nat} {v : Value} {xs : List Value} {X : Nat → Prop} (h : w.ownsRow base e size v n xs) (ho : Only X w w') (hx : ∀ k, v.ownBlock = some k → ¬ X k) : w'.ownsRow base e size v n xs :=
  owns_block h fun k hk => ho.block k (h.lt k hk).2 (hx k hk)

/-- A slice of hooks that lies anywhere (what came in, or what a call told). -/
def Hooks (w : World) (v : Value) (l : List Hk) : Prop :=
  ∃ a cap, v = .slice a l.length cap ∧ l.length ≤ maxLen ∧ (l = [] ∨ ∃ b off, a = some ⟨b, off, none⟩ ∧ ∀ (i : Nat) (h : Hk), l[i]? = some h → CellsAt w b (off + i * 5) h)
theorem Hooks.keep {w w' : World} {v : Value} {l : List Hk} (h : Hooks w v l) (hb : Below w.heap.size w w') : Hooks w' v l := by
  obtain ⟨a, cap, h1, h2, h3⟩ := h
  exact ⟨a, cap, h1, h2, h3.imp id fun ⟨b, off, e, h⟩ => ⟨b, off, e, fun i c hc => (h i c hc).keep hb⟩⟩
theorem Hooks.of_owns {w : World} {base : Nat} {v : Value} {l : List Hk} (h : w.ownsRow base 29 5 v l.length (rowC l)) : Hooks w v l := by
  have hc := fun g => h.cells (g := g)
  rcases h.2 with ⟨rfl, h0⟩ | ⟨g, cap, cur, rfl, _, _, hle, hm, _⟩
  · have : l = [] := List.length_eq_zero_iff.1 h0
    subst this
    exact ⟨none, 0, rfl, by decide, .inl rfl⟩
  · refine ⟨some ⟨g, 0, none⟩, cap, rfl, Nat.le_trans hle hm, .inr ⟨g, 0, rfl, fun i c hi => ?_⟩⟩
    have := fun j v hj => hc g rfl _ _ (rowC_get hi j v hj)
    rw [Nat.zero_add]
    refine ⟨?_, ?_, ?_, ?_, ?_⟩
    · have := this 0 _ rfl; rwa [add_off, Nat.zero_add, Nat.add_zero] at this
    · have := this 1 _ rfl; rwa [add_off, Nat.zero_add] at this
    · have := this 2 _ rfl; rwa [add_off, Nat.zero_add] at this
    · have := this 3 _ rfl; rwa [add_off, Nat.zero_add] at this
    · have := this 4 _ rfl; rwa [add_off, Nat.zero_add] at this
theorem below_drewN {B : Nat} {a w : World} (h : Below B a w) (n : Nat) : Below B a (w.drewN n) := h.trans ⟨rfl, rfl, rfl, Nat.le_refl _, fun _ _ => rfl⟩
theorem Hooks.nil (w : World) : Hooks w (.slice none 0 0) [] := ⟨none, 0, rfl, by decide, .inl rfl⟩
end Rg
end Go.Proofs.Ytemcahbpfjlnlaa
