import Derived.Test.YtkiipaaaakhhfaaGreatDoorCBk1
import Derived.Test.YtkiipaaaakhhfaaGreatDoorProg
import Derived.WalkKit
import Derived.BigCall
import Derived.BigQuiet
import Derived.Below
import Derived.WideShapes
import Derived.Deep.LoopGhost
import Derived.OwnWalk
import Derived.Lib.Hide
import Derived.RegionTactic
import Derived.Laws.ResultCell
import Derived.Laws.Rows
section
namespace Go.Proofs.YtkiipaaaakhhfaaGreatDoor
open Go Go.RowKit
namespace Bk
set_option maxRecDepth 100000
set_option linter.unusedVariables false
set_option linter.unusedSimpArgs false
def str (l : Str) : Value := .string ⟨l.toArray⟩
theorem keep_cell {w W : World} {a : Addr} {v : Value} (hb : Below w.heap.size w W) (h : w.cell? a = some v) : W.cell? a = some v := by
 rw [hb.cell (World.block_lt_of_cell? w a h)]; exact h
theorem below_later {w W W' : World} (h : Below w.heap.size w W) (h' : Below W.heap.size W W') : Below w.heap.size w W' := h.trans (h'.mono h.size)
theorem below_drewN {B : Nat} {a w : World} (h : Below B a w) (n : Nat) : Below B a (w.drewN n) := h.trans ⟨rfl, rfl, rfl, Nat.le_refl _, fun _ _ => rfl⟩
theorem add_off (b k n : Nat) : (⟨b, k, none⟩ : Addr).add n = ⟨b, k + n, none⟩ := by unfold Addr.add; split <;> simp_all
theorem retB {a b : Bool} (h : a = b) : Ending.returned (.bool a) = .returned (.bool b) := by rw [h]
theorem bytes_ext {a b : ByteArray} (h : a.data.toList = b.data.toList) : a = b := Go.WideShapes.bytes_inj h
theorem szB (s : ByteArray) : s.data.toList.length = s.size := by rw [Array.length_toList]; rfl
theorem Blk.ind {P : Blk → Prop} (h : ∀ k s t n m f a z kids, (∀ b ∈ kids, P b) → P (.mk k s t n m f a z kids)) (b : Blk) : P b :=
 Blk.rec (motive_1 := P) (motive_2 := fun ts => ∀ t ∈ ts, P t) (fun k s t n m f a z kids ih => h k s t n m f a z kids ih) (fun t ht => by cases ht)
  (fun t ts h1 h2 u hu => by rcases List.mem_cons.1 hu with rfl | hu; exact h1; exact h2 u hu) b
structure Ow where
 k : Nat
 s : Str
 t : Str
 n : Nat
 m : Nat
 f : Bool
 a : Nat
 z : Nat
def Blk.ow : Blk → Ow
 | .mk k s t n m f a z _ => ⟨k, s, t, n, m, f, a, z⟩
def cells9 (o : Ow) (L : Value) : List Value := [.int .i64 (o.k : Nat), str o.s, str o.t, .int .i64 (o.n : Nat), .int .i64 (o.m : Nat), .bool o.f, .int .i64 (o.a : Nat), .int .i64 (o.z : Nat), L]
structure Cells9 (w : World) (b off : Nat) (o : Ow) (L : Value) : Prop where
 c0 : w.cell? ⟨b, off, none⟩ = some (.int .i64 (o.k : Nat))
 c1 : w.cell? ⟨b, off + 1, none⟩ = some (str o.s)
 c2 : w.cell? ⟨b, off + 2, none⟩ = some (str o.t)
 c3 : w.cell? ⟨b, off + 3, none⟩ = some (.int .i64 (o.n : Nat))
 c4 : w.cell? ⟨b, off + 4, none⟩ = some (.int .i64 (o.m : Nat))
 c5 : w.cell? ⟨b, off + 5, none⟩ = some (.bool o.f)
 c6 : w.cell? ⟨b, off + 6, none⟩ = some (.int .i64 (o.a : Nat))
 c7 : w.cell? ⟨b, off + 7, none⟩ = some (.int .i64 (o.z : Nat))
 c8 : w.cell? ⟨b, off + 8, none⟩ = some L
theorem Cells9.carry {w w' : World} {b off : Nat} {o : Ow} {L : Value} (h : Cells9 w b off o L) (hc : ∀ off v, w.cell? ⟨b, off, none⟩ = some v → w'.cell? ⟨b, off, none⟩ = some v) : Cells9 w' b off o L :=
 ⟨hc _ _ h.c0, hc _ _ h.c1, hc _ _ h.c2, hc _ _ h.c3, hc _ _ h.c4, hc _ _ h.c5, hc _ _ h.c6, hc _ _ h.c7, hc _ _ h.c8⟩
theorem Cells9.keep {w w' : World} {b off : Nat} {o : Ow} {L : Value} (h : Cells9 w b off o L) (hb : Below w.heap.size w w') : Cells9 w' b off o L := h.carry fun off v hc => keep_cell hb hc
mutual
def InB (w : World) (C : Nat → Prop) : Blk → Value → Prop
 | .mk _ _ _ _ _ _ _ _ kids, L => ∃ a cap, L = .slice a kids.length cap ∧ kids.length ≤ maxLen ∧ (kids = [] ∨ ∃ b off, a = some ⟨b, off, none⟩ ∧ C b ∧ InK w C kids b off)
def InK (w : World) (C : Nat → Prop) : List Blk → Nat → Nat → Prop
 | [], _, _ => True
 | t :: ts, b, off => (∃ L, Cells9 w b off t.ow L ∧ InB w C t L) ∧ InK w C ts b (off + 9)
end
def InS (w : World) (C : Nat → Prop) (l : List Blk) (L : Value) : Prop := ∃ a cap, L = .slice a l.length cap ∧ l.length ≤ maxLen ∧ (l = [] ∨ ∃ b off, a = some ⟨b, off, none⟩ ∧ C b ∧ InK w C l b off)
theorem InB.kids {w : World} {C : Nat → Prop} {t : Blk} {L : Value} (h : InB w C t L) : InS w C t.kids L := by
 cases t
 rw [InB] at h
 exact h
theorem InB.of {w : World} {C : Nat → Prop} {t : Blk} {L : Value} (h : InS w C t.kids L) : InB w C t L := by
 cases t
 rw [InB]
 exact h
theorem InB.carry {w w' : World} {C C' : Nat → Prop} (hB : ∀ b off v, C b → w.cell? ⟨b, off, none⟩ = some v → C' b) (hc : ∀ b off v, C b → w.cell? ⟨b, off, none⟩ = some v → w'.cell? ⟨b, off, none⟩ = some v) (T : Blk) : ∀ {L}, InB w C T L → InB w' C' T L := by
 induction T using Blk.ind with
 | h k s t n m f a z kids ih =>
  intro L hin
  rw [InB] at hin ⊢
  obtain ⟨a, cap, h1, h2, h4⟩ := hin
  refine ⟨a, cap, h1, h2, ?_⟩
  rcases h4 with e | ⟨b, off, h5, h6, h7⟩
  ·exact .inl e
  by_cases hk : kids = []
  ·exact .inl hk
  refine .inr ⟨b, off, h5, ?_, ?_⟩
  ·cases kids with
   | nil => exact absurd rfl hk
   | cons t ts => rw [InK] at h7; obtain ⟨⟨L1, g1, _⟩, _⟩ := h7; exact hB _ _ _ h6 g1.c0
  clear h1 h2 h5 hk
  induction kids generalizing off with
  | nil => rw [InK]; trivial
  | cons t ts ih2 =>
   rw [InK] at h7 ⊢
   obtain ⟨⟨L1, g1, g2⟩, g3⟩ := h7
   exact ⟨⟨L1, g1.carry (fun o v => hc b o v h6), ih t (by simp) g2⟩, ih2 (fun t ht => ih t (by simp [ht])) _ g3⟩
theorem InK.carry {w w' : World} {C C' : Nat → Prop} (hB : ∀ b off v, C b → w.cell? ⟨b, off, none⟩ = some v → C' b) (hc : ∀ b off v, C b → w.cell? ⟨b, off, none⟩ = some v → w'.cell? ⟨b, off, none⟩ = some v) {b : Nat} (hb : C b) : ∀ {l : List Blk} {off : Nat}, InK w C l b off → InK w' C' l b off
 | [], off, h => by rw [InK]; trivial
 | t :: ts, off, h => by
  rw [InK] at h ⊢
  obtain ⟨⟨L1, g1, g2⟩, g3⟩ := h
  exact ⟨⟨L1, g1.carry (fun o v => hc b o v hb), g2.carry hB hc⟩, InK.carry hB hc hb g3⟩
theorem InS.carry {w w' : World} {C C' : Nat → Prop} (hB : ∀ b off v, C b → w.cell? ⟨b, off, none⟩ = some v → C' b) (hc : ∀ b off v, C b → w.cell? ⟨b, off, none⟩ = some v → w'.cell? ⟨b, off, none⟩ = some v) {l : List Blk} {L : Value} (h : InS w C l L) : InS w' C' l L := by
 obtain ⟨a, cap, h1, h2, h3⟩ := h
 refine ⟨a, cap, h1, h2, ?_⟩
 rcases h3 with e | ⟨b, off, h5, h6, h7⟩
 ·exact .inl e
 cases l with
 | nil => exact .inl rfl
 | cons t ts =>
  have h8 := h7
  rw [InK] at h8
  obtain ⟨⟨L1, g1, _⟩, _⟩ := h8
  exact .inr ⟨b, off, h5, hB _ _ _ h6 g1.c0, h7.carry hB hc h6⟩
theorem InS.keep {w w' : World} {C : Nat → Prop} {l : List Blk} {L : Value} (h : InS w C l L) (hb : Below w.heap.size w w') : InS w' C l L := h.carry (fun _ _ _ h _ => h) fun b off v _ hc => keep_cell hb hc
theorem InB.keep {w w' : World} {C : Nat → Prop} {t : Blk} {L : Value} (h : InB w C t L) (hb : Below w.heap.size w w') : InB w' C t L := h.carry (fun _ _ _ h _ => h) fun b off v _ hc => keep_cell hb hc
theorem InK.get {w : World} {C : Nat → Prop} {b : Nat} : ∀ {l : List Blk} {off : Nat}, InK w C l b off → ∀ {i : Nat} {t : Blk}, l[i]? = some t → ∃ L, Cells9 w b (off + i * 9) t.ow L ∧ InB w C t L
 | [], off, h, i, t, e => by simp at e
 | u :: us, off, h, i, t, e => by
  rw [InK] at h
  cases i with
  | zero => simp at e; subst e; simpa using h.1
  | succ i =>
   obtain ⟨L, h1, h2⟩ := InK.get h.2 (i := i) (by simpa using e)
   refine ⟨L, ?_, h2⟩
   rw [show off + (i + 1) * 9 = off + 9 + i * 9 by omega]
   exact h1
theorem InK.mk {w : World} {C : Nat → Prop} {b : Nat} : ∀ {l : List Blk} {off : Nat}, (∀ i t, l[i]? = some t → ∃ L, Cells9 w b (off + i * 9) t.ow L ∧ InB w C t L) → InK w C l b off
 | [], off, h => by rw [InK]; trivial
 | u :: us, off, h => by
  rw [InK]
  refine ⟨by simpa using h 0 u rfl, InK.mk fun i t ht => ?_⟩
  obtain ⟨L, h1, h2⟩ := h (i + 1) t (by simpa using ht)
  refine ⟨L, ?_, h2⟩
  rw [show off + 9 + i * 9 = off + (i + 1) * 9 by omega]
  exact h1
theorem InS.nil (w : World) (C : Nat → Prop) : InS w C [] (.slice none 0 0) := ⟨none, 0, rfl, by decide, .inl rfl⟩
theorem InS.form {w : World} {C : Nat → Prop} {l : List Blk} {L : Value} (h : InS w C l L) : ∃ a cap, L = .slice a l.length cap ∧ l.length ≤ maxLen := by
 obtain ⟨a, cap, h1, h2, _⟩ := h; exact ⟨a, cap, h1, h2⟩
def rowC : List (Blk × Value) → List Value
 | [] => []
 | x :: r => cells9 x.1.ow x.2 ++ rowC r
theorem rowC_app : ∀ l m : List (Blk × Value), rowC (l ++ m) = rowC l ++ rowC m
 | [], m => rfl
 | x :: l, m => by rw [List.cons_append, rowC, rowC, rowC_app l m, List.append_assoc]
theorem rowC_len : ∀ l : List (Blk × Value), (rowC l).length = l.length * 9
 | [] => rfl
 | x :: r => by rw [rowC, List.length_append, rowC_len r, List.length_cons]; simp [cells9]; omega
theorem rowC_get : ∀ {l : List (Blk × Value)} {i : Nat} {x : Blk × Value}, l[i]? = some x → ∀ j v, (cells9 x.1.ow x.2)[j]? = some v → (rowC l)[i * 9 + j]? = some v
 | [], i, x, e, _, _, _ => by simp at e
 | y :: r, 0, x, e, j, v, hj => by
  simp at e; subst e
  rw [Nat.zero_mul, Nat.zero_add, rowC, List.getElem?_append_left (List.getElem?_eq_some_iff.1 hj).1]
  exact hj
 | y :: r, i + 1, x, e, j, v, hj => by
  rw [rowC, List.getElem?_append_right (by simp [cells9]; omega)]
  rw [show (i + 1) * 9 + j - (cells9 y.1.ow y.2).length = i * 9 + j by simp [cells9]; omega]
  exact rowC_get (by simpa using e) j v hj
def NotOf (v : Value) (base : Nat) (b : Nat) : Prop := v.ownBlock ≠ some b ∧ base ≤ b
mutual
def cntB : Blk → Nat
 | .mk _ _ _ _ _ _ _ _ kids => 1 + cntK kids
def cntK : List Blk → Nat
 | [] => 0
 | b :: l => cntB b + cntK l
end
theorem cntB_eq (b : Blk) : cntB b = 1 + cntK b.kids := by cases b; rw [cntB]; rfl
theorem cntK_cons (b : Blk) (l : List Blk) : cntK (b :: l) = cntB b + cntK l := by rw [cntK]
structure OwnT (w : World) (base : Nat) (t : TypeId) (v : Value) (l : List (Blk × Value)) : Prop where
 row : w.ownsRow base t 9 v l.length (rowC l)
 kids : ∀ x ∈ l, InB w (NotOf v base) x.1 x.2
theorem OwnT.nil (w : World) (base : Nat) (t : TypeId) : OwnT w base t (.slice none 0 0) [] := ⟨World.ownsRow_nil _ _ _ _, fun x hx => by cases hx⟩
theorem owns_block {w w' : World} {base : Nat} {e : TypeId} {size n : Nat} {v : Value} {xs : List Value} (h : w.ownsRow base e size v n xs) (hb : ∀ k, v.ownBlock = some k → w'.heap[k]? = w.heap[k]?) : w'.ownsRow base e size v n xs := by
 refine ⟨h.1, h.2.imp id ?_⟩
 rintro ⟨g, cap, cur, rfl, h1, h2, h3⟩
 exact ⟨g, cap, cur, rfl, h1, (hb g rfl).trans h2, h3⟩
theorem OwnT.form {w : World} {base : Nat} {t : TypeId} {v : Value} {l : List (Blk × Value)} (h : OwnT w base t v l) : ∃ a c, v = .slice a l.length c := by
 rcases h.row.2 with ⟨rfl, e⟩ | ⟨g, cap, cur, rfl, _⟩
 ·exact ⟨none, 0, by rw [e]⟩
 ·exact ⟨_, _, rfl⟩
theorem OwnT.keep {w w' : World} {base : Nat} {t : TypeId} {v : Value} {l : List (Blk × Value)} (h : OwnT w base t v l) (hb : Below w.heap.size w w') : OwnT w' base t v l :=
 ⟨owns_block h.row fun k hk => hb.block k (h.row.lt k hk).2, fun x hx => (h.kids x hx).keep hb⟩
theorem OwnT.inS {w : World} {base : Nat} {t : TypeId} {v : Value} {l : List (Blk × Value)} (h : OwnT w base t v l) : InS w (fun b => base ≤ b) (l.map Prod.fst) v := by
 have hrow := h.row
 have hc := fun g => hrow.cells (g := g)
 rcases hrow.2 with ⟨rfl, h0⟩ | ⟨g, cap, cur, rfl, hgb, _, hle, hm, _⟩
 ·have : l = [] := List.length_eq_zero_iff.1 h0
  subst this
  exact InS.nil w _
 ·refine ⟨some ⟨g, 0, none⟩, cap, by rw [List.length_map], by rw [List.length_map]; exact Nat.le_trans hle hm, .inr ⟨g, 0, rfl, hgb, InK.mk fun i b hb => ?_⟩⟩
  rw [List.getElem?_map] at hb
  obtain ⟨x, hx, rfl⟩ := Option.map_eq_some_iff.1 hb
  have := fun j v hj => hc g rfl _ _ (rowC_get hx j v hj)
  refine ⟨x.2, ?_, (h.kids x (List.mem_of_getElem? hx)).carry (fun _ _ _ h _ => h.2) fun _ _ _ _ h => h⟩
  rw [Nat.zero_add]
  refine ⟨?_, ?_, ?_, ?_, ?_, ?_, ?_, ?_, ?_⟩
  ·have := this 0 _ rfl; rwa [add_off, Nat.zero_add, Nat.add_zero] at this
  all_goals first
   | (have := this 1 _ rfl; rwa [add_off, Nat.zero_add] at this; done)
   | (have := this 2 _ rfl; rwa [add_off, Nat.zero_add] at this; done)
   | (have := this 3 _ rfl; rwa [add_off, Nat.zero_add] at this; done)
   | (have := this 4 _ rfl; rwa [add_off, Nat.zero_add] at this; done)
   | (have := this 5 _ rfl; rwa [add_off, Nat.zero_add] at this; done)
   | (have := this 6 _ rfl; rwa [add_off, Nat.zero_add] at this; done)
   | (have := this 7 _ rfl; rwa [add_off, Nat.zero_add] at this; done)
   | (have := this 8 _ rfl; rwa [add_off, Nat.zero_add] at this; done)
theorem OwnT.more {w w1 w2 : World} {B : Nat} {t : TypeId} {l : List (Blk × Value)} {x : Blk × Value} {u v' : Value} {o : Obj} (hB : w.heap.size ≤ B) (hown : OwnT w1 B t u l) (hx : InS w1 (NotOf u B) x.1.kids x.2) (hbw : Below w.heap.size w w1)
  (hown' : w2.ownsRow B t 9 v' (l.length + 1) (rowC l ++ cells9 x.1.ow x.2)) (hgrow : (w1.alloc o).grownBy w2 u.ownBlock) (hnew : ∀ k, v'.ownBlock = some k → u.ownBlock = some k ∨ w1.heap.size ≤ k) : OwnT w2 B t v' (l ++ [x]) ∧ Below w.heap.size w w2 := by
 have hsz := hbw.size
 refine ⟨⟨by rw [rowC_app]; simpa [rowC] using hown', fun y hy => ?_⟩, (hbw.alloc (by omega) _).grown hgrow (by simp; omega) (fun k hk => Nat.le_trans hB (hown.row.lt k hk).1)⟩
 have hy1 : InB w1 (NotOf u B) y.1 y.2 := by
  rcases List.mem_append.1 hy with h | h
  ·exact hown.kids y h
  ·rw [List.mem_singleton.1 h]; exact InB.of hx
 have hN : ∀ (b off : Nat) (v : Value), NotOf u B b → w1.cell? ⟨b, off, none⟩ = some v → NotOf v' B b := fun b off v hb hc => ⟨fun e => by
  rcases hnew b e with h | h
  ·exact hb.1 h
  ·have := World.block_lt_of_cell? w1 _ hc
   have : b < w1.heap.size := this
   omega, hb.2⟩
 refine hy1.carry hN (fun b off v hb hc => ?_)
 ·have hlt : b < w1.heap.size := World.block_lt_of_cell? w1 _ hc
  have h1 := keep_cell ((Below.refl _ w1).alloc (Nat.le_refl _) o) hc
  have h2 : w2.heap[b]? = (w1.alloc o).heap[b]? := hgrow.block b (by rw [World.size_alloc]; omega) (fun e => hb.1 e.symm)
  unfold World.cell? at h1 ⊢
  rw [h2]; exact h1
def SSl (w : World) (v : Value) (L : List Str) : Prop := ∃ (ao : Option Addr) (cap : Nat), v = .slice ao L.length cap ∧ L.length ≤ maxLen ∧ (L ≠ [] → ∃ b off, ao = some ⟨b, off, none⟩ ∧ ∀ i (h : i < L.length), w.cell? ⟨b, off + i, none⟩ = some (str L[i]))
theorem SSl.keep {w w' : World} {v : Value} {L : List Str} (h : SSl w v L) (hB : Below w.heap.size w w') : SSl w' v L := by
 obtain ⟨ao, cap, rfl, hl, hr⟩ := h
 refine ⟨ao, cap, rfl, hl, fun hne => ?_⟩
 obtain ⟨b, off, e, hc⟩ := hr hne
 exact ⟨b, off, e, fun i hi => keep_cell hB (hc i hi)⟩
def OwnS (w : World) (B : Nat) (v : Value) (L : List Str) : Prop := w.ownsRow B 9 1 v L.length (L.map str)
theorem OwnS.keep {w w' : World} {B : Nat} {v : Value} {L : List Str} (h : OwnS w B v L) (hb : Below w.heap.size w w') : OwnS w' B v L := owns_block h fun k hk => hb.block k (h.lt k hk).2
theorem OwnS.nil (w : World) (B : Nat) : OwnS w B (.slice none 0 0) [] := World.ownsRow_nil _ _ _ _
end Bk
end Go.Proofs.YtkiipaaaakhhfaaGreatDoor
end
