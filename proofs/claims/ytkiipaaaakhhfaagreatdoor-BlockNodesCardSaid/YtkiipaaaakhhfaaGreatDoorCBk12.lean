import Derived.Test.YtkiipaaaakhhfaaGreatDoorCBkE1
import Derived.Test.YtkiipaaaakhhfaaGreatDoorCBk11
import Derived.Test.YtkiipaaaakhhfaaGreatDoorCBkL1
import Derived.Deep.AppendLies
section
namespace Go.Proofs.YtkiipaaaakhhfaaGreatDoor
open Go Go.RowKit
namespace Bk
set_option maxRecDepth 100000
set_option linter.unusedVariables false
set_option linter.unusedSimpArgs false
theorem Only.then {X Y Z : Nat → Prop} {a b c : World} (h : Only X a b) (k : Only Y b c) (hx : ∀ g, g < a.heap.size → X g → Z g) (hy : ∀ g, g < a.heap.size → Y g → Z g) : Only Z a c :=
 ⟨k.os.trans h.os, k.tape.trans h.tape, k.output.trans h.output, Nat.le_trans h.size k.size, fun i hi hz =>
  (k.block i (Nat.lt_of_lt_of_le hi h.size) (fun e => hz (hy i hi e))).trans (h.block i hi (fun e => hz (hx i hi e)))⟩
theorem Only.low {X : Nat → Prop} {w0 a b : World} (h : Below w0.heap.size w0 a) (k : Only X a b) (hx : ∀ g, g < a.heap.size → X g → w0.heap.size ≤ g) : Below w0.heap.size w0 b :=
 h.trans ((k.mono (Y := fun g => w0.heap.size ≤ g) hx).below (fun _ h => h) h.size)
def Turn (H : Hp) (lo hi E : Nat) (fv : Value) (g : Nat) : Prop := (lo ≤ g ∧ g < hi ∧ (H g).isSome = true) ∨ g = E ∨ fv.ownBlock = some g
structure Lot (w0 : World) (tag : Tag) (H : Hp) (E : Nat) : Prop where
 own : ∀ x p, H x = some p → tag x = (x, 0) ∧ w0.heap.size ≤ x ∧ x < E
 new : ∀ g, E ≤ g → (tag g).1 = g
structure Fd (w0 w : World) (E : Nat) (fv : Value) (R : List Rf.Rb) : Prop where
 low : Below w0.heap.size w0 w
 base : w0.heap.size ≤ E
 box : Hb w E #[fv] 61
 own : Rf.Own w (E + 1) fv R
def Pts (w0 w : World) (tag : Tag) (H : Hp) (lo hi N : Nat) : Prop := ∀ x p, lo ≤ x → x < hi → H x = some p → PtAt w0 w tag x p ∧ PtFew N p
def Agree (tag : Tag) (lo hi : Nat) (w W : World) : Prop := ∀ g, g < w.heap.size → lo ≤ (tag g).1 → (tag g).1 < hi → W.heap[g]? = w.heap[g]?
section
variable {w0 w w' W : World} {tag : Tag} {H : Hp} {E N lo hi lo' hi' : Nat} {fv fv' : Value} {R : List Rf.Rb} {X : Scan Rf.Rb}
theorem Fd.lt (h : Fd w0 w E fv R) : E < w.heap.size := h.box.lt
theorem Fd.gt (h : Fd w0 w E fv R) : ∀ g, fv.ownBlock = some g → E < g ∧ g < w.heap.size := fun g hg => ⟨(h.own.lt g hg).1, (h.own.lt g hg).2⟩
theorem Fd.keep {Z : Nat → Prop} (h : Fd w0 w E fv R) (ho : Only Z w w') (hz : ∀ g, g < w.heap.size → Z g → w0.heap.size ≤ g ∧ g ≠ E ∧ fv.ownBlock ≠ some g) : Fd w0 w' E fv R :=
 ⟨Only.low h.low ho fun g h1 h2 => (hz g h1 h2).1, h.base, h.box.keep (ho.block E h.lt fun e => (hz E h.lt e).2.1 rfl), Rf.owns_block h.own fun k hk => ho.block k (h.gt k hk).2 fun e => (hz k (h.gt k hk).2 e).2.2 hk⟩
theorem Fd.below (h : Fd w0 w E fv R) (hb : Below w.heap.size w w') : Fd w0 w' E fv R := h.keep (Z := fun _ => False) (Only.of_below hb) fun _ _ h => h.elim
theorem turn_tag (hL : Lot w0 tag H E) (hf : Fd w0 w E fv R) {g : Nat} (h : Turn H lo hi E fv g) : w0.heap.size ≤ g ∧ (tag g).1 = g ∧ (lo ≤ g ∧ g < hi ∧ g < E ∧ tag g = (g, 0) ∨ E ≤ g) := by
 rcases h with ⟨h1, h2, h3⟩ | h | h
 ·obtain ⟨p, hp⟩ := Option.isSome_iff_exists.1 h3
  obtain ⟨a, b, c⟩ := hL.own g p hp
  exact ⟨b, by rw [a], .inl ⟨h1, h2, c, a⟩⟩
 ·subst h
  exact ⟨hf.base, hL.new _ (Nat.le_refl _), .inr (Nat.le_refl _)⟩
 ·have := hf.gt g h
  exact ⟨by have := hf.base; omega, hL.new _ (by omega), .inr (by omega)⟩
theorem Pts.keep (h : Pts w0 w tag H lo hi N) (hL : Lot w0 tag H E) (hf : Fd w0 w E fv R) (ho : Only (Turn H lo' hi' E fv) w w') (hd : hi' ≤ lo ∨ hi ≤ lo') : Pts w0 w' tag H lo hi N := fun x p h1 h2 hp => by
 obtain ⟨k1, k2⟩ := h x p h1 h2 hp
 refine ⟨k1.keep fun g hg ht => ho.block g hg fun e => ?_, k2⟩
 obtain ⟨e1, e2, e3⟩ := turn_tag hL hf e
 have := (hL.own x p hp).2.2
 omega
theorem Pts.sub (h : Pts w0 w tag H lo hi N) (h1 : lo ≤ lo') (h2 : hi' ≤ hi) : Pts w0 w tag H lo' hi' N := fun x p k1 k2 hp => h x p (by omega) (by omega) hp
theorem Agree.turn (hL : Lot w0 tag H E) (hf : Fd w0 w E fv R) (ho : Only (Turn H lo' hi' E fv) w w') (hd : hi' ≤ lo ∨ hi ≤ lo') (hE : hi ≤ E) : Agree tag lo hi w w' := fun g h1 h2 h3 => ho.block g h1 fun e => by
 obtain ⟨e1, e2, e3⟩ := turn_tag hL hf e
 omega
theorem Agree.then {w2 : World} (h : Agree tag lo hi w w') (k : Agree tag lo' hi' w' w2) (hs : w.heap.size ≤ w'.heap.size) (h1 : lo' ≤ lo) (h2 : hi ≤ hi') : Agree tag lo hi w w2 := fun g a b c => (k g (by omega) (by omega) (by omega)).trans (h g a b c)
structure KD (W : World) (c : Nat) (b : B) : Prop where
 first : W.cell? ⟨c, 6, none⟩ = some (.int .i64 (b.a : Nat))
 last : W.cell? ⟨c, 7, none⟩ = some (.int .i64 (zI b))
 row : ∃ (qv : Value) (bv : List Nat), W.cell? ⟨c, 9, none⟩ = some qv ∧ RowW W 48 qv (bv.map ptr) ∧ Ends W bv (b.kids.map fun x => (x.a, zI x)) ∧ bv.length ≤ 1000000
 fit : b.a ≤ 1000 ∧ -1 ≤ zI b ∧ zI b ≤ 1000
def KDs (W : World) (av : List Nat) (l : List B) : Prop := av.length = l.length ∧ ∀ (j c : Nat) (b : B), av[j]? = some c → l[j]? = some b → KD W c b
theorem KDs.ends {av : List Nat} {l : List B} (h : KDs W av l) : Ends W av (l.map fun x => (x.a, zI x)) := by
 refine ⟨by rw [List.length_map]; exact h.1, fun j a x h1 h2 => ?_⟩
 rw [List.getElem?_map] at h2
 obtain ⟨b, hb, rfl⟩ := Option.map_eq_some_iff.1 h2
 have k := h.2 j a b h1 hb
 exact ⟨k.first, k.last, k.fit.1, k.fit.2.1, k.fit.2.2⟩
theorem KDs.kidEnds {av : List Nat} {l : List B} (h : KDs W av l) : KidEnds W av (l.map fun b => b.kids.map fun x => (x.a, zI x)) := by
 refine ⟨by rw [List.length_map]; exact h.1, fun j a x h1 h2 => ?_⟩
 rw [List.getElem?_map] at h2
 obtain ⟨b, hb, rfl⟩ := Option.map_eq_some_iff.1 h2
 exact (h.2 j a b h1 hb).row
theorem KDs.nil (W : World) : KDs W [] [] := ⟨rfl, fun j c b h => by cases h⟩
theorem KDs.snoc {av : List Nat} {l : List B} {c : Nat} {b : B} (h : KDs W av l) (k : KD W c b) : KDs W (av ++ [c]) (l ++ [b]) := by
 have hl := h.1
 refine ⟨by simp [hl], fun j x y h1 h2 => ?_⟩
 by_cases hj : j < av.length
 ·rw [List.getElem?_append_left hj] at h1
  rw [List.getElem?_append_left (by omega)] at h2
  exact h.2 j x y h1 h2
 ·rw [List.getElem?_append_right (by omega)] at h1 h2
  rw [hl] at h1
  obtain ⟨k0, hk0⟩ : ∃ i, j - l.length = i := ⟨_, rfl⟩
  rw [hk0] at h1 h2
  cases k0 with
  | zero =>
   simp at h1 h2
   subst h1 h2
   exact k
  | succ k0 => simp at h1
def _root_.Go.Proofs.YtkiipaaaakhhfaaGreatDoor.Bk.B.o (X : Scan Rf.Rb) : B → Ow
 | .mk k s t n m fen stx ls a z kids => ⟨k, sOf X k s fen stx ls, t, n, m, k == 3 && tight kids, a, zL kids z⟩
structure H9 (w : World) (a : Nat) (o : Ow) (z : Int) (u : Value) : Prop where
 c0 : w.cell? ⟨a, 0, none⟩ = some (.int .i64 (o.k : Nat))
 c1 : w.cell? ⟨a, 1, none⟩ = some (str o.s)
 c2 : w.cell? ⟨a, 2, none⟩ = some (str o.t)
 c3 : w.cell? ⟨a, 3, none⟩ = some (.int .i64 (o.n : Nat))
 c4 : w.cell? ⟨a, 4, none⟩ = some (.int .i64 (o.m : Nat))
 c5 : w.cell? ⟨a, 5, none⟩ = some (.bool o.f)
 c6 : w.cell? ⟨a, 6, none⟩ = some (.int .i64 (o.a : Nat))
 c7 : w.cell? ⟨a, 7, none⟩ = some (.int .i64 z)
 c8 : w.cell? ⟨a, 8, none⟩ = some u
def goneO (o : Ow) : Bool := o.k == 7 && o.s.isEmpty
theorem out_o (X : Scan Rf.Rb) (b : B) : out X b = if goneO (b.o X) = true then [] else [.mk (b.o X).k (b.o X).s (b.o X).t (b.o X).n (b.o X).m (b.o X).f (b.o X).a (b.o X).z (outL X b.kids)] := by
 cases b with
 | mk k s t n m fen stx ls a z kids =>
  rw [out]
  have : goneB X k ls = goneO ((B.mk k s t n m fen stx ls a z kids).o X) := by
   unfold goneB goneO B.o sOf
   show _ = (k == 7 && _)
   by_cases hk : k = 7
   ·subst hk; rfl
   ·rw [beq_eq_false_iff_ne.2 hk]; rfl
  rw [this]
  rfl
theorem zI_told (hn : X.defs [] = ([], [])) {b : B} {a n p : Nat} (h : wOne b a n p) (hg : goneO (b.o X) = false) : zI b = ((b.o X).z : Nat) := by
 cases b with
 | mk k s t m1 m2 fen stx ls a0 z kids =>
  rw [wOne_mk] at h
  obtain ⟨h1, h2, h3, h4, h5, h6⟩ := h
  rw [zI_mk]
  unfold zOf
  by_cases hw : white k ls = true
  ·exfalso
   have hk := white_k hw
   subst hk
   unfold white at hw
   rw [Bool.and_eq_true] at hw
   have hb := body_white hw.2
   unfold goneO B.o sOf at hg
   simp [hb, hn] at hg
  ·rw [if_neg hw]
   exact (zL_zK h6 z).1.symm
theorem ended_mu : ∀ ls : List Str, (ended ls).length = muS ls
 | [] => rfl
 | s :: ls => by
  have := ended_mu ls
  unfold muS at this ⊢
  simp [ended, this]; omega
theorem rgt_len (s : Str) : (Cl.rgt s).length ≤ s.length := by
 unfold Cl.rgt
 rw [List.length_reverse]
 exact Nat.le_trans (List.dropWhile_suffix _).sublist.length_le (by rw [List.length_reverse]; exact Nat.le_refl _)
mutual
theorem defs_mu (hd : ∀ s, (X.defs s).1.length ≤ s.length) : ∀ b : B, (defsO X b).length ≤ muB 0 b
 | .mk k s t n m fen stx ls a z kids => by
  rw [defsO, List.length_append, muB_mk]
  have h1 := defsL_mu hd kids
  have h2 : (defsB X k stx ls).length ≤ muS ls := by
   unfold defsB
   split
   ·refine Nat.le_trans (hd _) (Nat.le_trans (rgt_len _) (lines_mu ls))
   ·exact Nat.zero_le _
  omega
theorem defsL_mu (hd : ∀ s, (X.defs s).1.length ≤ s.length) : ∀ l : List B, (defsL X l).length ≤ muL 0 l
 | [] => by rw [defsL]; exact Nat.zero_le _
 | b :: l => by
  rw [defsL, List.length_append, muL_cons]
  have h1 := defs_mu hd b
  have h2 := defsL_mu hd l
  omega
end
structure OwnF (w : World) (base : Nat) (v fv : Value) (l : List (Blk × Value)) : Prop where
 row : w.ownsRow base 41 9 v l.length (rowC l)
 kids : ∀ x ∈ l, InB w (fun g => base ≤ g ∧ v.ownBlock ≠ some g ∧ fv.ownBlock ≠ some g) x.1 x.2
 ne : ∀ g, v.ownBlock = some g → fv.ownBlock ≠ some g
variable {v : Value} {l : List (Blk × Value)} {base : Nat}
theorem OwnF.nil (w : World) (base : Nat) (fv : Value) : OwnF w base (.slice none 0 0) fv [] := ⟨World.ownsRow_nil _ _ _ _, fun x hx => (by cases hx), fun g hg => (by cases hg)⟩
theorem OwnF.form (h : OwnF w base v fv l) : ∃ a c, v = .slice a l.length c := by
 rcases h.row.2 with ⟨rfl, e⟩ | ⟨g, cap, cur, rfl, _⟩
 ·exact ⟨none, 0, by rw [e]⟩
 ·exact ⟨_, _, rfl⟩
theorem OwnF.roomy (h : OwnF w base v fv l) : ∃ a n c, v = .slice a n c ∧ n ≤ c ∧ c ≤ maxLen := by
 rcases h.row.2 with ⟨rfl, e⟩ | ⟨g, cap, cur, rfl, _, _, hle, hm, _⟩
 ·exact ⟨none, 0, 0, rfl, Nat.le_refl _, by decide⟩
 ·exact ⟨_, _, _, rfl, hle, hm⟩
theorem OwnF.keep {Z : Nat → Prop} (h : OwnF w base v fv l) (ho : Only Z w w') (hz : ∀ g, g < w.heap.size → Z g → g < base ∨ fv.ownBlock = some g) (hf : ∀ g, fv'.ownBlock = some g → fv.ownBlock = some g ∨ w.heap.size ≤ g) : OwnF w' base v fv' l := by
 have h1 : ∀ (b off : Nat) (y : Value), (base ≤ b ∧ v.ownBlock ≠ some b ∧ fv.ownBlock ≠ some b) → w.cell? ⟨b, off, none⟩ = some y → base ≤ b ∧ v.ownBlock ≠ some b ∧ fv'.ownBlock ≠ some b := fun b off y hb hc => by
  refine ⟨hb.1, hb.2.1, fun e => ?_⟩
  rcases hf b e with e | e
  ·exact hb.2.2 e
  ·have : b < w.heap.size := World.block_lt_of_cell? w _ hc
   omega
 have h2 : ∀ (b off : Nat) (y : Value), (base ≤ b ∧ v.ownBlock ≠ some b ∧ fv.ownBlock ≠ some b) → w.cell? ⟨b, off, none⟩ = some y → w'.cell? ⟨b, off, none⟩ = some y := fun b off y hb hc => by
  have hlt : b < w.heap.size := World.block_lt_of_cell? w _ hc
  have h2 := ho.block b hlt fun e => by
   rcases hz b hlt e with e | e
   ·have := hb.1; omega
   ·exact hb.2.2 e
  unfold World.cell? at hc ⊢
  rw [h2]; exact hc
 refine ⟨owns_block h.row fun k hk => ho.block k (h.row.lt k hk).2 fun e => ?_, fun x hx => (h.kids x hx).carry h1 h2, fun g hg e => ?_⟩
 ·rcases hz k (h.row.lt k hk).2 e with e | e
  ·have := (h.row.lt k hk).1; omega
  ·exact h.ne k hk e
 ·rcases hf g e with e | e
  ·exact h.ne g hg e
  ·have := (h.row.lt g hg).2; omega
theorem OwnF.inS (h : OwnF w base v fv l) : InS w (fun g => base ≤ g ∧ fv.ownBlock ≠ some g) (l.map Prod.fst) v := by
 have hrow := h.row
 have hc := fun g => hrow.cells (g := g)
 have hne := h.ne
 rcases hrow.2 with ⟨rfl, h0⟩ | ⟨g, cap, cur, rfl, hgb, _, hle, hm, _⟩
 ·have : l = [] := List.length_eq_zero_iff.1 h0
  subst this
  exact InS.nil w _
 ·refine ⟨some ⟨g, 0, none⟩, cap, by rw [List.length_map], by rw [List.length_map]; exact Nat.le_trans hle hm, .inr ⟨g, 0, rfl, ⟨hgb, hne g rfl⟩, InK.mk fun i b hb => ?_⟩⟩
  rw [List.getElem?_map] at hb
  obtain ⟨x, hx, rfl⟩ := Option.map_eq_some_iff.1 hb
  have := fun j v hj => hc g rfl _ _ (rowC_get hx j v hj)
  refine ⟨x.2, ?_, (h.kids x (List.mem_of_getElem? hx)).carry (fun _ _ _ h _ => ⟨h.1, h.2.2⟩) fun _ _ _ _ h => h⟩
  rw [Nat.zero_add]
  refine ⟨?_, ?_, ?_, ?_, ?_, ?_, ?_, ?_, ?_⟩
  ·have := this 0 _ rfl; rwa [add_off, Nat.zero_add, Nat.add_zero] at this
  all_goals first
   | (have := this 1 _ rfl; rwa [add_off, Nat.zero_add] at this; done)
   | (have := this 2 _ rfl; rwa [add_off, Nat.zero_add] at this; done)
   | (have := this 3 _ rfl; rwa [add_off, Nat.zero_add] at this; done)
   | (have := this 4 _ rfl; rwa [add_off, Nat.zero_add] at this; done)
   | (have := this 5 _ rfl; rwa [add_off, Nat.zero_add] at this; done)
   | (have := this 6 _ rfl; rwa [add_off, Nat.zero_add] at this; done)
   | (have := this 7 _ rfl; rwa [add_off, Nat.zero_add] at this; done)
   | (have := this 8 _ rfl; rwa [add_off, Nat.zero_add] at this; done)
theorem OwnF.more {w1 w2 : World} {x : Blk × Value} {u v' : Value} {o : Obj} (hown : OwnF w1 base u fv l) (hx : InS w1 (fun g => base ≤ g ∧ u.ownBlock ≠ some g ∧ fv.ownBlock ≠ some g) x.1.kids x.2)
  (hown' : w2.ownsRow base 41 9 v' (l.length + 1) (rowC l ++ cells9 x.1.ow x.2)) (hgrow : (w1.alloc o).grownBy w2 u.ownBlock) (hnew : ∀ k, v'.ownBlock = some k → u.ownBlock = some k ∨ w1.heap.size ≤ k) (hfv : ∀ g, fv.ownBlock = some g → g < w1.heap.size) : OwnF w2 base v' fv (l ++ [x]) := by
 have k1 : ∀ (b off : Nat) (y : Value), (base ≤ b ∧ u.ownBlock ≠ some b ∧ fv.ownBlock ≠ some b) → w1.cell? ⟨b, off, none⟩ = some y → base ≤ b ∧ v'.ownBlock ≠ some b ∧ fv.ownBlock ≠ some b := fun b off y hb hc => by
  refine ⟨hb.1, fun e => ?_, hb.2.2⟩
  rcases hnew b e with h | h
  ·exact hb.2.1 h
  ·have : b < w1.heap.size := World.block_lt_of_cell? w1 _ hc
   omega
 have k2 : ∀ (b off : Nat) (y : Value), (base ≤ b ∧ u.ownBlock ≠ some b ∧ fv.ownBlock ≠ some b) → w1.cell? ⟨b, off, none⟩ = some y → w2.cell? ⟨b, off, none⟩ = some y := fun b off y hb hc => by
  have hlt : b < w1.heap.size := World.block_lt_of_cell? w1 _ hc
  have h1 := keep_cell ((Below.refl _ w1).alloc (Nat.le_refl _) o) hc
  have h2 : w2.heap[b]? = (w1.alloc o).heap[b]? := hgrow.block b (by rw [World.size_alloc]; omega) (fun e => hb.2.1 e.symm)
  unfold World.cell? at h1 ⊢
  rw [h2]; exact h1
 refine ⟨by rw [rowC_app]; simpa [rowC] using hown', fun y hy => ?_, fun g hg e => ?_⟩
 ·have hy1 : InB w1 (fun g => base ≤ g ∧ u.ownBlock ≠ some g ∧ fv.ownBlock ≠ some g) y.1 y.2 := by
   rcases List.mem_append.1 hy with h | h
   ·exact hown.kids y h
   ·rw [List.mem_singleton.1 h]; exact InB.of hx
  exact hy1.carry k1 k2
 ·rcases hnew g hg with h | h
  ·exact hown.ne g h e
  ·have := hfv g e; omega
end
def EndPost (X : Scan Rf.Rb) (w0 w w' : World) (tag : Tag) (H : Hp) (E : Nat) (fv : Value) (R : List Rf.Rb) (a hi : Nat) (b : B) : Prop :=
 ∃ u fv', Fd w0 w' E fv' (R ++ defsO X b) ∧ Only (Turn H a hi E fv) w w' ∧ (∀ g, fv'.ownBlock = some g → fv.ownBlock = some g ∨ w.heap.size ≤ g) ∧ InS w' (fun g => w.heap.size ≤ g ∧ fv'.ownBlock ≠ some g) (outL X b.kids) u ∧ H9 w' a (b.o X) (zI b) u ∧ ∀ W, Agree tag a hi w' W → KD W a b
def EndOk (X : Scan Rf.Rb) (b : B) : Prop := ∀ (w0 w : World) (tag : Tag) (H : Hp) (E : Nat) (fv : Value) (R : List Rf.Rb) (a hi N n at' p : Nat),
 Low w0 X → (∀ s, (X.defs s).1.length ≤ s.length) → Lot w0 tag H E → TreeAt H b a hi → hi ≤ E → wOne b at' n p → n ≤ 1000 → Pts w0 w tag H a hi N → N ≤ 1000000 → Fd w0 w E fv R → R.length + muB 0 b ≤ 90000 →
 Calls Tryz.prog 42 #[ptr E, ptr a] w fun e w' => e = .returned (.tuple #[]) ∧ EndPost X w0 w w' tag H E fv R a hi b
def BlksPost (X : Scan Rf.Rb) (w0 w w' : World) (tag : Tag) (H : Hp) (E : Nat) (fv : Value) (R : List Rf.Rb) (av : List Nat) (lo hi : Nat) (l : List B) (u : Value) : Prop :=
 ∃ fv', Fd w0 w' E fv' (R ++ defsL X l) ∧ Only (Turn H lo hi E fv) w w' ∧ (∀ g, fv'.ownBlock = some g → fv.ownBlock = some g ∨ w.heap.size ≤ g) ∧ InS w' (fun g => w.heap.size ≤ g ∧ fv'.ownBlock ≠ some g) (outL X l) u ∧ (∀ W, Agree tag lo hi w' W → KDs W av l) ∧ (∃ a n c, u = .slice a n c ∧ n ≤ c ∧ c ≤ maxLen)
def BlksOk (X : Scan Rf.Rb) (l : List B) : Prop := ∀ (w0 w : World) (tag : Tag) (H : Hp) (E : Nat) (fv : Value) (R : List Rf.Rb) (av : List Nat) (pv : Value) (lo hi N n at' p : Nat),
 Low w0 X → (∀ s, (X.defs s).1.length ≤ s.length) → Lot w0 tag H E → KidsAt H l av lo hi → hi ≤ E → wAll l at' n p → n ≤ 1000 → Pts w0 w tag H lo hi N → N ≤ 1000000 → Fd w0 w E fv R → R.length + muL 0 l ≤ 90000 → RowW w 48 pv (av.map ptr) → av.length ≤ 1000000 → (∀ g, pv.ownBlock = some g → (tag g).1 < lo ∧ g < E) →
 Calls Tryz.prog 26 #[ptr E, pv] w fun e w' => ∃ u, e = .returned u ∧ BlksPost X w0 w w' tag H E fv R av lo hi l u
end Bk
end Go.Proofs.YtkiipaaaakhhfaaGreatDoor
end
section
namespace Go.Proofs.YtkiipaaaakhhfaaGreatDoor
open Go Go.RowKit
namespace Bk
set_option maxRecDepth 100000
set_option linter.unusedVariables false
set_option linter.unusedSimpArgs false
structure BI (X : Scan Rf.Rb) (w0 w wr : World) (tag : Tag) (H : Hp) (E : Nat) (fv fi : Value) (R : List Rf.Rb) (av : List Nat) (lo hi m N : Nat) (l : List B) (n p i : Nat) : Prop where
 fd : Fd w0 wr E fi (R ++ defsL X (l.take i))
 on : Only (Turn H lo m E fv) w wr
 fi : ∀ g, fi.ownBlock = some g → fv.ownBlock = some g ∨ w.heap.size ≤ g
 kids : KidsAt H (l.drop i) (av.drop i) m hi
 lom : lo ≤ m
 pts : Pts w0 wr tag H m hi N
 wal : ∃ a', wAll (l.drop i) a' n p
 kd : ∀ W, Agree tag lo m wr W → KDs W (av.take i) (l.take i)
section
variable {X : Scan Rf.Rb} {w0 w wr w2 : World} {tag : Tag} {H : Hp} {E N lo hi m n p i : Nat} {fv fi : Value} {R : List Rf.Rb} {av : List Nat} {l : List B} {b : B}
theorem bi_start (hf : Fd w0 w E fv R) (hk : KidsAt H l av lo hi) (hp : Pts w0 w tag H lo hi N) {a' : Nat} (hw : wAll l a' n p) : BI X w0 w w tag H E fv fv R av lo hi lo N l n p 0 :=
 ⟨by rw [List.take_zero, defsL, List.append_nil]; exact hf, Only.refl _ _, fun g h => .inl h, hk, Nat.le_refl _, hp, ⟨a', hw⟩, fun W _ => KDs.nil W⟩
theorem Turn.wide {lo' hi' : Nat} {g : Nat} (h : Turn H lo hi E fv g) (h1 : lo' ≤ lo) (h2 : hi ≤ hi') : Turn H lo' hi' E fv g := h.imp (fun ⟨a, b, c⟩ => ⟨by omega, by omega, c⟩) id
theorem BI.turn {Z : Nat → Prop} (h : BI X w0 w wr tag H E fv fi R av lo hi m N l n p i) (hL : Lot w0 tag H E) (hE : hi ≤ E) (hEw : E < w.heap.size) (ho : Only Z wr w2) (hz : ∀ g, g < wr.heap.size → Z g → w.heap.size ≤ g ∧ fi.ownBlock ≠ some g) : BI X w0 w w2 tag H E fv fi R av lo hi m N l n p i := by
 have hm := h.kids.le
 refine ⟨h.fd.keep ho fun g h1 h2 => ?_, h.on.then ho (fun g _ k => k) (fun g h1 h2 => ?_), h.fi, h.kids, h.lom, fun x q h1 h2 hp => ?_, h.wal, fun W hW => h.kd W fun g h1 h2 h3 => ?_⟩
 ·obtain ⟨a, b⟩ := hz g h1 h2
  exact ⟨by have := h.fd.base; omega, by omega, b⟩
 ·have := (hz g (Nat.lt_of_lt_of_le h1 h.on.size) h2).1
  omega
 ·obtain ⟨k1, k2⟩ := h.pts x q h1 h2 hp
  refine ⟨k1.keep fun g hg ht => ho.block g hg fun e => ?_, k2⟩
  have h3 := (hz g hg e).1
  have h4 := hL.new g (by omega)
  have := (hL.own x q hp).2.2
  omega
 ·have hb : w2.heap[g]? = wr.heap[g]? := ho.block g h1 fun e => by
   have h4 := (hz g h1 e).1
   have h5 := hL.new g (by omega)
   omega
  rw [← hb]
  exact hW g (by have := ho.size; omega) h2 h3
theorem bi_step (h : BI X w0 w wr tag H E fv fi R av lo hi m N l n p i) (hL : Lot w0 tag H E) (hE : hi ≤ E) (hEw : E < w.heap.size) (hb : l[i]? = some b) :
  ∃ c mid at2, av[i]? = some c ∧ TreeAt H b c mid ∧ mid ≤ hi ∧ wOne b at2 n p ∧ Pts w0 wr tag H c mid N ∧ ∀ w2, EndPost X w0 wr w2 tag H E fi (R ++ defsL X (l.take i)) c mid b →
   ∃ u fi', BI X w0 w w2 tag H E fv fi' R av lo hi mid N l n p (i + 1) ∧ InS w2 (fun g => wr.heap.size ≤ g ∧ fi'.ownBlock ≠ some g) (outL X b.kids) u ∧ H9 w2 c (b.o X) (zI b) u ∧ ∀ rv o, OwnF wr w.heap.size rv fi o → OwnF w2 w.heap.size rv fi' o := by
 have hil : i < l.length := (List.getElem?_eq_some_iff.1 hb).1
 have hlb : l[i] = b := by rw [List.getElem?_eq_getElem hil] at hb; injection hb
 have hdl : l.drop i = b :: l.drop (i + 1) := by rw [List.drop_eq_getElem_cons hil, hlb]
 have htl : l.take (i + 1) = l.take i ++ [b] := by rw [List.take_add_one, hb]; rfl
 have hk := h.kids
 rw [hdl, KidsAt_cons] at hk
 obtain ⟨c, as', mid, ea, k1, k2, k3⟩ := hk
 have hav : i < av.length := by
  rcases Nat.lt_or_ge i av.length with h | h
  ·exact h
  ·rw [List.drop_of_length_le h] at ea; cases ea
 have hda : av.drop i = av[i] :: av.drop (i + 1) := List.drop_eq_getElem_cons hav
 rw [hda] at ea
 injection ea with e1 e2
 have hc : av[i]? = some c := by rw [List.getElem?_eq_getElem hav, e1]
 have hta : av.take (i + 1) = av.take i ++ [c] := by rw [List.take_add_one, hc]; rfl
 obtain ⟨at2, hwa⟩ := h.wal
 rw [hdl, wAll_cons] at hwa
 have hmid := k3.le
 have hcm := k2.le
 have hlm := h.lom
 refine ⟨c, mid, at2, hc, k2, hmid, hwa.1, h.pts.sub k1 hmid, ?_⟩
 rintro w2 ⟨u, fi', p1, p2, p3, p4, p5, p6⟩
 refine ⟨u, fi', ⟨?_, ?_, ?_, by rw [← e2] at k3; exact k3, by omega, ?_, ⟨_, hwa.2⟩, ?_⟩, p4, p5, fun rv o ho => ?_⟩
 ·rw [htl, defsL_app, show defsL X [b] = defsO X b by rw [defsL, defsL, List.append_nil], ← List.append_assoc]; exact p1
 ·refine h.on.then p2 (fun g h1 h2 => h2.wide (Nat.le_refl _) (by omega)) (fun g h1 h2 => ?_)
  rcases h2 with ⟨a, b, c⟩ | e | e
  ·exact .inl ⟨by omega, b, c⟩
  ·exact .inr (.inl e)
  ·rcases h.fi g e with e | e
   ·exact .inr (.inr e)
   ·omega
 ·intro g hg
  rcases p3 g hg with e | e
  ·exact h.fi g e
  ·exact .inr (Nat.le_trans h.on.size e)
 ·exact (h.pts.sub (lo' := mid) (hi' := hi) (by omega) (Nat.le_refl _)).keep hL h.fd p2 (.inl (Nat.le_refl _))
 ·intro W hW
  rw [hta, htl]
  refine (h.kd W ?_).snoc (p6 W fun g h1 h2 h3 => hW g h1 (by omega) h3)
  have a1 : Agree tag lo m wr w2 := Agree.turn hL h.fd p2 (.inr k1) (by omega)
  exact a1.then (fun g h1 h2 h3 => hW g h1 (by omega) (by omega)) p2.size (Nat.le_refl _) (Nat.le_refl _)
 ·refine ho.keep p2 (fun g h1 h2 => ?_) p3
  rcases h2 with ⟨a, b, c⟩ | e | e
  ·exact .inl (by omega)
  ·exact .inl (by omega)
  ·exact .inr e
theorem bi_end (h : BI X w0 w wr tag H E fv fi R av lo hi m N l n p l.length) (hal : av.length = l.length) : Fd w0 wr E fi (R ++ defsL X l) ∧ Only (Turn H lo hi E fv) w wr ∧ ∀ W, Agree tag lo hi wr W → KDs W av l := by
 have hm := h.kids.le
 refine ⟨?_, h.on.mono fun g _ k => k.wide (Nat.le_refl _) hm, fun W hW => ?_⟩
 ·have := h.fd
  rw [List.take_length] at this
  exact this
 ·have := h.kd W fun g h1 h2 h3 => hW g h1 h2 (by omega)
  rw [List.take_length, ← hal, List.take_length] at this
  exact this
theorem bi_row {pv : Value} (h : BI X w0 w wr tag H E fv fi R av lo hi m N l n p i) (hL : Lot w0 tag H E) (hf : Fd w0 w E fv R) (hr : RowW w 48 pv (av.map ptr)) (hg : ∀ g, pv.ownBlock = some g → (tag g).1 < lo ∧ g < E) : RowW wr 48 pv (av.map ptr) :=
 hr.keep fun g e => h.on.block g (hr.lt g e) fun k => by
  have h1 := hg g e
  obtain ⟨e1, e2, e3⟩ := turn_tag hL hf k
  omega
end
end Bk
end Go.Proofs.YtkiipaaaakhhfaaGreatDoor
end
section
namespace Go.Proofs.YtkiipaaaakhhfaaGreatDoor
open Go Go.RowKit
namespace Bk
set_option maxRecDepth 100000
set_option linter.unusedVariables false
set_option linter.unusedSimpArgs false
theorem blkInfoB : (Tryz.prog.info? 41).map (fun i => (i.zero, i.size, i.bytes)) = some (some (.agg (ar9 ⟨0, [], [], 0, 0, false, 0, 0⟩ (.slice none 0 0))), 9, 104) := by kernel_rfl
theorem wpList_append_blk {w : World} {ops : Array Oper} {rest : List Oper} {o : Oper} {a : Act} {Q : Exit → Act → World → Prop} (hgd : o.guard = none) (s x : Operand)
  (ho : o.op = .call { callee := .builtin .append, args := #[s, x], argTypes := #[25, 25] }) (B : Nat) (v : Value) (n : Nat) (xs : List Value) (hs : a.eval s = v)
  (hown : w.ownsRow B 41 9 v n xs) (F : Nat) (cs : Array Value) (hF : Hb w F cs 41) (hx : a.eval x = .slice (some ⟨F, 0, none⟩) 1 1) (hcs : cs.size = 9) (h1 : ∀ u ∈ cs.toList, u.oneCell' = true) (hn : n ≤ 1000000) (hB : B ≤ w.heap.size)
  (h : ∀ g cap w', w'.ownsRow B 41 9 (.slice (some ⟨g, 0, none⟩) (n + 1) cap) (n + 1) (xs ++ cs.toList) → w.grownBy w' v.ownBlock → (v.ownBlock = some g ∨ g = w.heap.size) → wpList Tryz.prog ops Q rest (a.put o.dst (.slice (some ⟨g, 0, none⟩) (n + 1) cap)) w') : wpList Tryz.prog ops Q (o :: rest) a w := by
 obtain ⟨iN, hi, hz0, hz1, hz2⟩ := info_parts blkInfoB
 refine wpList_plain hgd fun _ hK => ?_
 refine wp_append_lies w s x 25 ho B 41 iN _ 9 104 Tryz.underlying25 hi hz0 hz1 hz2 rfl (by decide) v n xs hs hown ⟨F, 0, none⟩ 1 1 cs.toList hx (by rw [Array.length_toList, hcs]) ?_ h1 (by decide) (by unfold maxLen; omega) (by omega) hB w.heap.size rfl ?_
 ·intro j u hu
  rw [add_off, Nat.zero_add]
  refine hF.cell j ?_
  rw [← hu, Array.getElem?_toList]
 ·intro g cap w' k1 k2 k3 k4
  exact hK _ _ (h g cap w' k1 k2 k3)
theorem cells9_oneB (o : Ow) (a : Option Addr) (n c : Nat) : ∀ u ∈ (#[.int .i64 (o.k : Nat), .string ⟨o.s.toArray⟩, .string ⟨o.t.toArray⟩, .int .i64 (o.n : Nat), .int .i64 (o.m : Nat), .bool o.f, .int .i64 (o.a : Nat), .int .i64 (o.z : Nat), .slice a n c] : Array Value).toList, u.oneCell' = true := by
 intro u hu
 simp at hu
 rcases hu with rfl | rfl | rfl | rfl | rfl | rfl | rfl | rfl | rfl <;> rfl
theorem ptr_cell {w : World} {pv : Value} {av : List Nat} {i c : Nat} (h : RowW w 48 pv (av.map ptr)) (hc : av[i]? = some c) : ∃ g cap, pv = .slice (some ⟨g, 0, none⟩) av.length cap ∧ w.cell? ⟨g, i, none⟩ = some (.pointer (some ⟨c, 0, none⟩)) := by
 obtain ⟨g, cap, e1, _, _, hcc⟩ := h.at (fun e => by rw [List.map_eq_nil_iff] at e; rw [e] at hc; cases hc)
 rw [List.length_map] at e1
 exact ⟨g, cap, e1, hcc i (ptr c) (by rw [List.getElem?_map, hc]; rfl)⟩
section
variable {X : Scan Rf.Rb}
set_option maxHeartbeats 16000000 in
theorem blks_of (hnil : X.defs [] = ([], [])) {l : List B} (he : ∀ b ∈ l, EndOk X b) : BlksOk X l := by
 intro w0 w tag H E fv R av pv lo hi N n at' p hLow hd hL hk hE hw hn hp hN hf hR hrow hav hpg
 have hal := hk.len
 obtain ⟨la, lc, hpv, h1, h2⟩ := hrow.form
 have HRW := Lib.hid (fun (i m : Nat) (fi : Value) (wr : World) (h : BI X w0 w wr tag H E fv fi R av lo hi m N l n p i) => bi_row h hL hf hrow hpg)
 have HST := Lib.hid (bi_start (X := X) hf hk hp hw)
 have HEw := Lib.hid hf.lt
 have HSTEP := Lib.hid (fun (i m : Nat) (fi : Value) (wr : World) (b : B) (h : BI X w0 w wr tag H E fv fi R av lo hi m N l n p i) (hb : l[i]? = some b) => bi_step h hL hE HEw.out hb)
 have HTURN := Lib.hid (fun (i m : Nat) (fi : Value) (wr w2 : World) (Z : Nat → Prop) (h : BI X w0 w wr tag H E fv fi R av lo hi m N l n p i) (ho : Only Z wr w2) (hz : ∀ g, g < wr.heap.size → Z g → w.heap.size ≤ g ∧ fi.ownBlock ≠ some g) => h.turn hL hE HEw.out ho hz)
 have HAL := Lib.hid hal
 have HEND := Lib.hid (fun (i : Nat) (b : B) (fi : Value) (wr : World) (c mid at2 : Nat) (hb : l[i]? = some b) (k2 : TreeAt H b c mid) (hm : mid ≤ hi) (hwo : wOne b at2 n p) (hpt : Pts w0 wr tag H c mid N) (hfd : Fd w0 wr E fi (R ++ defsL X (l.take i))) => by
  have hil : i < l.length := (List.getElem?_eq_some_iff.1 hb).1
  have hlb : l[i] = b := by rw [List.getElem?_eq_getElem hil] at hb; injection hb
  have hsp : l = l.take i ++ b :: l.drop (i + 1) := by
   conv => lhs; rw [← List.take_append_drop i l, List.drop_eq_getElem_cons hil, hlb]
  have hmu : muL 0 l = muL 0 (l.take i) + (muB 0 b + muL 0 (l.drop (i + 1))) := by
   conv => lhs; rw [hsp]
   rw [muL_app, muL_cons]
  have hdl := defsL_mu hd (l.take i)
  exact (he b (List.mem_of_getElem? hb) w0 wr tag H E fi (R ++ defsL X (l.take i)) c mid N n at2 p hLow hd hL k2 (by omega) hwo hn hpt hN hfd (by rw [List.length_append]; omega) : Calls _ _ _ _ _))
 have HOUT := Lib.hid (fun (i : Nat) (b : B) (hb : l[i]? = some b) => (by rw [List.take_add_one, hb, outL_app]; show outL X (l.take i) ++ outL X [b] = _; rw [outL, outL, List.append_nil] : outL X (l.take (i + 1)) = outL X (l.take i) ++ out X b))
 have HWO := Lib.hid (fun (b : B) (a' n' p' : Nat) (h : wOne b a' n' p') (hg : goneO (b.o X) = false) => zI_told (X := X) hnil h hg)
 have HFINI := Lib.hid (fun (m : Nat) (fi : Value) (wr : World) (h : BI X w0 w wr tag H E fv fi R av lo hi m N l n p l.length) => bi_end h HAL.out)
 clear hrow hpg hk hp hw hd hR hLow he hL hE hn hf
 rw [List.length_map] at hpv h1
 subst hpv
 obtain ⟨M, hM⟩ : ∃ M, av.length = M := ⟨_, rfl⟩
 have HM := Lib.hid hM
 rw [hM] at h1 hav HRW ⊢
 unfold maxLen at h2
 clear hM hal
 unfold ptr at *
 go_enter Tryz.func26, Tryz.ntmps26
 go_wp2_with fail
 go_loopg [5, 10] M (fun G s5 s10 wr => ∃ (i m : Nat) (fi : Value) (o : List (Blk × Value)), i + G = M ∧ s10 = .int .i64 (i : Int) ∧ Hid (BI X w0 w wr tag H E fv fi R av lo hi m N l n p i) ∧ Hid (OwnF wr w.heap.size s5 fi o) ∧ Hid (o.map Prod.fst = outL X (l.take i)) ∧ o.length ≤ i)
 case atStart => exact ⟨0, lo, fv, [], by omega, rfl, HST, Lib.hid (OwnF.nil _ _ _), Lib.hid (by rw [List.take_zero, outL]; rfl), Nat.le_refl _⟩
 case round =>
  obtain ⟨i, m, fi, o, hig, rfl, HBI, HO, HMP, hoi⟩ := hrel
  obtain ⟨a3, c3, e3⟩ := HO.out.form
  subst e3
  cases gk with
  | zero =>
   have hlt : ¬ (i : Int) < (M : Int) := by omega
   have HI : Hid (i = l.length) := Lib.hid (by rw [← HAL.out, HM.out]; omega)
   go_wp2
   go_ret
   have hi2 := HI.out
   subst hi2
   obtain ⟨f1, f2, f3⟩ := HFINI.out m fi wr HBI.out
   have h5 := HO.out.inS
   rw [HMP.out, List.take_length] at h5
   exact ⟨_, rfl, fi, f1, f2, HBI.out.fi, h5, f3, HO.out.roomy⟩
  | succ G =>
   have hlt : (i : Int) < (M : Int) := by omega
   obtain ⟨b, hb⟩ : ∃ b, l[i]? = some b := ⟨_, List.getElem?_eq_getElem (by have := HAL.out; have := HM.out; omega)⟩
   obtain ⟨c, mid, at2, q1, q2, q3, q4, q5, q6⟩ := HSTEP.out i m fi wr b HBI.out hb
   have HC := Lib.hid (HEND.out i b fi wr c mid at2 hb q2 q3 q4 q5 HBI.out.fd)
   obtain ⟨g, cap, e1, hcell⟩ := ptr_cell (HRW.out i m fi wr HBI.out) q1
   injection e1 with e1 e2 e3
   clear e2 e3
   subst e1
   have s5 : IntKind.i64.wrap ((i : Int) + 1) = ((i + 1 : Nat) : Int) := by rw [IntWalk.i64_in _ (by omega)]; omega
   have s4 : (0 : Int) ≤ (i : Int) := by omega
   have HB := Lib.hid hb
   have HQ6 := Lib.hid q6
   have HQ4 := Lib.hid q4
   clear q1 q2 q3 q4 q5 q6 hb
   go_wp2_with fail
   refine HC.out.mono ?_
   rintro e w2 ⟨rfl, hpo⟩
   obtain ⟨u, fi', p1, p2, p3, p4⟩ := HQ6.out w2 hpo
   obtain ⟨ua, uc, e5, -⟩ := p2.form
   subst e5
   have HP1 := Lib.hid p1
   have HP2 := Lib.hid p2
   have HP4 := Lib.hid (p4 _ _ HO.out)
   obtain ⟨c0, c1, c2, c3', c4, c5, c6, c7, c8⟩ := p3
   have HZ := Lib.hid (HWO.out b at2 n p HQ4.out)
   have HOT := Lib.hid (HOUT.out i b HB.out)
   rw [out_o] at HOT
   obtain ⟨ob, hob⟩ : ∃ ob, b.o X = ob := ⟨_, rfl⟩
   rw [hob] at c0 c1 c2 c3' c4 c5 c6 HZ HOT
   obtain ⟨kl, hkl⟩ : ∃ kl, (outL X b.kids).length = kl := ⟨_, rfl⟩
   have HKL := Lib.hid hkl
   rw [hkl] at c8 HP2
   obtain ⟨zv, hzv⟩ : ∃ zv, zI b = zv := ⟨_, rfl⟩
   rw [hzv] at c7 HZ
   have HIG := Lib.hid hig
   have HOI := Lib.hid hoi
   clear p1 p2 p4 hpo hcell hob hkl hzv hig
   unfold str at c1 c2
   have HC2 : Hid (Hid (goneO ob = true) ∧ ob.k = 7 ∧ ob.s = [] ∨ Hid (goneO ob = false) ∧ (ob.k ≠ 7 ∨ ob.k = 7 ∧ ob.s ≠ [])) := Lib.hid (by
    by_cases hk : ob.k = 7
    ·by_cases hs : ob.s = []
     ·exact .inl ⟨Lib.hid (by unfold goneO; rw [hk, hs]; rfl), hk, hs⟩
     ·exact .inr ⟨Lib.hid (by unfold goneO; rw [hk]; cases h : ob.s with | nil => exact absurd h hs | cons _ _ => rfl), .inr ⟨hk, hs⟩⟩
    ·exact .inr ⟨Lib.hid (by unfold goneO; rw [beq_eq_false_iff_ne.2 hk]; rfl), .inl hk⟩)
   rcases HC2.out with ⟨HG, hk, hs⟩ | ⟨HG, hks⟩
   ·rw [hk] at c0
    rw [hs] at c1
    clear HC2
    have HV : Hid (o.map Prod.fst = outL X (l.take (i + 1))) := Lib.hid (by rw [HMP.out, HOT.out, if_pos HG.out, List.append_nil])
    go_wp2
    go_roundg G
    case rel => exact ⟨i + 1, mid, fi', o, by have := HIG.out; omega, rfl, HP1, HP4, HV, by have := HOI.out; omega⟩
    case measure => omega
   ·have HB1 := (HO.out.row).lt
    have HV : Hid (o.map Prod.fst ++ [.mk ob.k ob.s ob.t ob.n ob.m ob.f ob.a ob.z (outL X b.kids)] = outL X (l.take (i + 1))) := Lib.hid (by rw [HMP.out, HOT.out, HG.out]; rfl)
    have hz := HZ.out HG.out
    subst hz
    have hX := Hb.new w2 #[.int .i64 (ob.k : Nat), .string ⟨ob.s.toArray⟩, .string ⟨ob.t.toArray⟩, .int .i64 (ob.n : Nat), .int .i64 (ob.m : Nat), .bool ob.f, .int .i64 (ob.a : Nat), .int .i64 (ob.z : Nat), .slice ua kl uc] 41
    have HR4 := Lib.hid (HP4.out.keep (w' := w2.alloc (.cells #[.int .i64 (ob.k : Nat), .string ⟨ob.s.toArray⟩, .string ⟨ob.t.toArray⟩, .int .i64 (ob.n : Nat), .int .i64 (ob.m : Nat), .bool ob.f, .int .i64 (ob.a : Nat), .int .i64 (ob.z : Nat), .slice ua kl uc] 41)) (fv' := fi') (Z := fun _ => False) (Only.of_below ((Below.refl _ _).alloc (Nat.le_refl _) _)) (fun _ _ h => h.elim) (fun g h => .inl h)).row
    have HXX := Lib.hid hX
    have HSZ : Hid (w.heap.size ≤ (w2.alloc (.cells #[.int .i64 (ob.k : Nat), .string ⟨ob.s.toArray⟩, .string ⟨ob.t.toArray⟩, .int .i64 (ob.n : Nat), .int .i64 (ob.m : Nat), .bool ob.f, .int .i64 (ob.a : Nat), .int .i64 (ob.z : Nat), .slice ua kl uc] 41)).heap.size) := Lib.hid (by rw [World.size_alloc]; have := HP1.out.on.size; omega)
    have HN : Hid (o.length ≤ 1000000) := Lib.hid (by have := HOI.out; have := HIG.out; omega)
    have HON : Hid (∀ u ∈ (#[.int .i64 (ob.k : Nat), .string ⟨ob.s.toArray⟩, .string ⟨ob.t.toArray⟩, .int .i64 (ob.n : Nat), .int .i64 (ob.m : Nat), .bool ob.f, .int .i64 (ob.a : Nat), .int .i64 (ob.z : Nat), .slice ua kl uc] : Array Value).toList, u.oneCell' = true) := Lib.hid (cells9_oneB ob ua kl uc)
    clear hX HB1 HZ HC2
    rcases hks with hk | ⟨hk, hs⟩
    ·have k1 : ¬ (ob.k : Int) = 7 := by omega
     have k2 : ((ob.k : Int) != 7) = true := bne_iff_ne.2 k1
     have k3 : ((ob.k : Int) == 7) = false := beq_eq_false_iff_ne.2 k1
     go_upto_region 7 with fail
     clear k1 k2 k3 hk
     go_wp2_with (at_builtin; refine wpList_append_blk rfl _ _ rfl w.heap.size _ o.length (rowC o) rfl HR4.out w2.heap.size _ HXX.out rfl rfl HON.out HN.out HSZ.out ?_; intro g4 cap4 w4 k1 k2 k3; have HK1 := Lib.hid k1; have HK2 := Lib.hid k2; have HK3 := Lib.hid k3; clear k1 k2 k3)
     have hown : OwnF w4 w.heap.size (.slice (some ⟨g4, 0, none⟩) (o.length + 1) cap4) fi' (o ++ [(.mk ob.k ob.s ob.t ob.n ob.m ob.f ob.a ob.z (outL X b.kids), .slice ua kl uc)]) :=
      HP4.out.more (x := (.mk ob.k ob.s ob.t ob.n ob.m ob.f ob.a ob.z (outL X b.kids), .slice ua kl uc)) (HP2.out.carry (fun b off v hb hc => ⟨Nat.le_trans HBI.out.on.size hb.1, fun e => by have := (HO.out.row.lt b e).2; have := hb.1; omega, hb.2⟩) (fun b off v hb hc => hc)) HK1.out HK2.out (fun k hk => by injection hk with hk; subst hk; exact HK3.out.imp id fun e => by rw [e, World.size_alloc]; exact Nat.le_succ _) (fun g hg => (HP1.out.fd.gt g hg).2)
     have hon : Only (fun k => some k = (Value.slice a3 o.length c3).ownBlock) w2 w4 := (Only.refl _ w2).alloc _ |>.trans (Only.of_grown HK2.out)
     have HBI4 := Lib.hid (HTURN.out (i + 1) mid fi' w2 w4 _ HP1.out hon (fun g _ hg => ⟨(HP4.out.row.lt g hg.symm).1, HP4.out.ne g hg.symm⟩))
     have HO4 := Lib.hid hown
     have HM4 : Hid ((o ++ [((.mk ob.k ob.s ob.t ob.n ob.m ob.f ob.a ob.z (outL X b.kids) : Blk), Value.slice ua kl uc)]).map Prod.fst = outL X (l.take (i + 1))) := Lib.hid (by rw [List.map_append]; exact HV.out)
     clear hown hon
     go_wp2
     go_roundg G
     case rel => exact ⟨i + 1, mid, fi', _, by have := HIG.out; omega, rfl, HBI4, HO4, HM4, by have := HOI.out; simp only [List.length_append, List.length_singleton]; omega⟩
     case measure => omega
    ·have k2 : ((ob.k : Int) != 7) = false := by rw [hk]; rfl
     have k3 : ((ob.k : Int) == 7) = true := by rw [hk]; rfl
     have k4 : ob.s.isEmpty = false := by cases h : ob.s with | nil => exact absurd h hs | cons _ _ => rfl
     have k5 : (ob.s == []) = false := by cases h : ob.s with | nil => exact absurd h hs | cons _ _ => rfl
     clear hk hs
     go_upto_region 7 with fail
     clear k2 k3 k4 k5
     go_wp2_with (at_builtin; refine wpList_append_blk rfl _ _ rfl w.heap.size _ o.length (rowC o) rfl HR4.out w2.heap.size _ HXX.out rfl rfl HON.out HN.out HSZ.out ?_; intro g4 cap4 w4 k1 k2 k3; have HK1 := Lib.hid k1; have HK2 := Lib.hid k2; have HK3 := Lib.hid k3; clear k1 k2 k3)
     have hown : OwnF w4 w.heap.size (.slice (some ⟨g4, 0, none⟩) (o.length + 1) cap4) fi' (o ++ [(.mk ob.k ob.s ob.t ob.n ob.m ob.f ob.a ob.z (outL X b.kids), .slice ua kl uc)]) :=
      HP4.out.more (x := (.mk ob.k ob.s ob.t ob.n ob.m ob.f ob.a ob.z (outL X b.kids), .slice ua kl uc)) (HP2.out.carry (fun b off v hb hc => ⟨Nat.le_trans HBI.out.on.size hb.1, fun e => by have := (HO.out.row.lt b e).2; have := hb.1; omega, hb.2⟩) (fun b off v hb hc => hc)) HK1.out HK2.out (fun k hk => by injection hk with hk; subst hk; exact HK3.out.imp id fun e => by rw [e, World.size_alloc]; exact Nat.le_succ _) (fun g hg => (HP1.out.fd.gt g hg).2)
     have hon : Only (fun k => some k = (Value.slice a3 o.length c3).ownBlock) w2 w4 := (Only.refl _ w2).alloc _ |>.trans (Only.of_grown HK2.out)
     have HBI4 := Lib.hid (HTURN.out (i + 1) mid fi' w2 w4 _ HP1.out hon (fun g _ hg => ⟨(HP4.out.row.lt g hg.symm).1, HP4.out.ne g hg.symm⟩))
     have HO4 := Lib.hid hown
     have HM4 : Hid ((o ++ [((.mk ob.k ob.s ob.t ob.n ob.m ob.f ob.a ob.z (outL X b.kids) : Blk), Value.slice ua kl uc)]).map Prod.fst = outL X (l.take (i + 1))) := Lib.hid (by rw [List.map_append]; exact HV.out)
     clear hown hon
     go_wp2
     go_roundg G
     case rel => exact ⟨i + 1, mid, fi', _, by have := HIG.out; omega, rfl, HBI4, HO4, HM4, by have := HOI.out; simp only [List.length_append, List.length_singleton]; omega⟩
     case measure => omega
end
end Bk
end Go.Proofs.YtkiipaaaakhhfaaGreatDoor
end
section
namespace Go.Proofs.YtkiipaaaakhhfaaGreatDoor
open Go Go.RowKit
namespace Bk
set_option maxRecDepth 100000
set_option linter.unusedVariables false
set_option linter.unusedSimpArgs false
def endC (p : Pt) (S : Str) (f : Bool) (z : Int) (u pv lv : Value) : Array Value := #[.int .i64 (p.k : Nat), str S, str p.t, .int .i64 (p.n : Nat), .int .i64 (p.m : Nat), .bool f, .int .i64 (p.a : Nat), .int .i64 z, u, pv, lv, .int .i64 (p.need : Nat), .int .u8 (p.c.toNat : Nat), .int .i64 (p.cnt : Nat), .int .i64 (p.ind : Nat)]
structure EM (X : Scan Rf.Rb) (w0 w w1 : World) (tag : Tag) (H : Hp) (E : Nat) (fv fv1 : Value) (R : List Rf.Rb) (adr hi : Nat) (p : Pt) (pv lv u : Value) (kids : List B) : Prop where
 fd : Fd w0 w1 E fv1 (R ++ defsL X kids)
 on : Only (Turn H (adr + 1) hi E fv) w w1
 fo : ∀ g, fv1.ownBlock = some g → fv.ownBlock = some g ∨ w.heap.size ≤ g
 ins : InS w1 (fun g => w.heap.size ≤ g ∧ fv1.ownBlock ≠ some g) (outL X kids) u
 kd : ∀ W, Agree tag (adr + 1) hi w1 W → KDs W p.kids kids
 blk : Hb w1 adr (endC p p.s false p.z (.slice none 0 0) pv lv) 53
 row : RowW w1 48 pv (p.kids.map ptr)
 lines : RowW w1 9 lv (p.ls.map str)
 own : tag adr = (adr, 0)
 lt : adr < hi
 hE : hi ≤ E
 lot : Lot w0 tag H E
 hp : H adr = some p
 pvt : ∀ g, pv.ownBlock = some g → tag g = (adr, 1)
 lvt : ∀ g, lv.ownBlock = some g → tag g = (adr, 2)
 few : p.kids.length ≤ 1000000 ∧ p.ls.length ≤ 1000000 ∧ ∀ s ∈ p.ls, s.length ≤ 4000
 hEw : E < w.heap.size
section
variable {X : Scan Rf.Rb} {w0 w w1 W : World} {tag : Tag} {H : Hp} {E adr hi N : Nat} {fv fv1 : Value} {R : List Rf.Rb} {p : Pt} {pv lv u : Value} {kids : List B}
theorem em_of (hL : Lot w0 tag H E) (hp : H adr = some p) (hE : hi ≤ E) (hlt : adr < hi) (hpt : PtAt w0 w tag adr p) (hfew : PtFew N p) (hN : N ≤ 1000000) (hf : Fd w0 w E fv R) (hpv : w.cell? ⟨adr, 9, none⟩ = some pv) (hlv : w.cell? ⟨adr, 10, none⟩ = some lv)
  (hb : BlksPost X w0 w w1 tag H E fv R p.kids (adr + 1) hi kids u) : ∃ fv1, EM X w0 w w1 tag H E fv fv1 R adr hi p pv lv u kids := by
 obtain ⟨fv1, b1, b2, b3, b4, b5, -⟩ := hb
 obtain ⟨pv', lv', c, e1, g1, g2⟩ := hpt.cells
 have h9 := c.c9
 rw [hpv] at h9
 injection h9 with h9
 have h10 := c.c10
 rw [hlv] at h10
 injection h10 with h10
 subst h9 h10
 have hown := hpt.own
 have hno : ∀ g, (tag g).1 = adr → ¬ Turn H (adr + 1) hi E fv g := fun g hg ht => by
  obtain ⟨k1, k2, k3⟩ := turn_tag hL hf ht
  omega
 refine ⟨fv1, b1, b2, b3, b4, b5, c.blk.keep (b2.block adr c.blk.lt (hno adr (by rw [hown]))), c.row.keep fun g hg => b2.block g (c.row.lt g hg) (hno g (by rw [(g1 g hg).1])), c.lines.keep fun g hg => b2.block g (c.lines.lt g hg) (hno g (by rw [(g2 g hg).1])), hown, hlt, hE, hL, hp, fun g hg => (g1 g hg).1, fun g hg => (g2 g hg).1, ⟨Nat.le_trans hfew.kids hN, Nat.le_trans hfew.ls hN, hfew.len⟩, hf.lt⟩
theorem em_row (h : EM X w0 w w1 tag H E fv fv1 R adr hi p pv lv u kids) (ho : Only (fun g => g = adr) w1 W) : RowW W 48 pv (p.kids.map ptr) ∧ RowW W 9 lv (p.ls.map str) ∧ KDs W p.kids kids ∧ Fd w0 W E fv1 (R ++ defsL X kids) := by
 refine ⟨h.row.keep fun g hg => ho.block g (h.row.lt g hg) fun e => ?_, h.lines.keep fun g hg => ho.block g (h.lines.lt g hg) fun e => ?_, h.kd W fun g h1 h2 h3 => ho.block g h1 fun e => ?_, h.fd.keep ho fun g h1 h2 => ?_⟩
 ·have e : g = adr := e
  subst e; have := h.pvt g hg; rw [h.own] at this; cases this
 ·have e : g = adr := e
  subst e; have := h.lvt g hg; rw [h.own] at this; cases this
 ·have e : g = adr := e
  rw [e, h.own] at h2
  exact absurd h2 (Nat.not_succ_le_self adr)
 ·have h2 : g = adr := h2
  have h3 := h.lot.own adr p h.hp
  have h4 := h.lt
  have h5 := h.hE
  subst h2
  refine ⟨h3.2.1, by omega, fun e => ?_⟩
  have := (h.fd.gt g e).1
  omega
theorem Only.one {adr : Nat} (h : Only (fun g => g = adr) w1 W) (j : Nat) (v : Value) : Only (fun g => g = adr) w1 (W.setCell ⟨adr, j, none⟩ v) := h.setCell (p := ⟨adr, j, none⟩) rfl v
theorem em_end (h : EM X w0 w w1 tag H E fv fv1 R adr hi p pv lv u kids) {b : B} {n a' q : Nat} (hb : TreeAt H b adr hi) (hkb : b.kids = kids) (hw : wOne b a' n q) (hn : n ≤ 1000) {fv' : Value} {S : Str} {f : Bool} (hbl : Hb W adr (endC p S f (zI b) u pv lv) 53)
  (hf : Fd w0 W E fv' (R ++ defsO X b)) (ho : Only (fun g => g = adr ∨ g = E ∨ fv1.ownBlock = some g) w1 W) (hfo : ∀ g, fv'.ownBlock = some g → fv1.ownBlock = some g ∨ w1.heap.size ≤ g) (hS : S = (b.o X).s) (hfl : f = (b.o X).f) : EndPost X w0 w W tag H E fv R adr hi b := by
 have hlo := h.lot.own adr p h.hp
 have hlt := h.lt
 have hE := h.hE
 have hlow := h.fd.base
 have hEw := h.hEw
 have hsz := h.on.size
 have hz := (zB_zI hw 0).2
 subst hkb
 have hno : ∀ g, (tag g).1 < E → g ≠ adr → g < w1.heap.size → W.heap[g]? = w1.heap[g]? := fun g h1 h2 h3 => ho.block g h3 fun e => by
  rcases e with e | e | e
  ·exact h2 e
  ·subst e
   have := h.lot.new g (Nat.le_refl _)
   omega
  ·have h4 := h.fd.gt g e
   have := h.lot.new g (by omega)
   omega
 have hrow : RowW W 48 pv (p.kids.map ptr) := h.row.keep fun g hg => hno g (by rw [h.pvt g hg]; exact hlo.2.2) (fun e => by subst e; have := h.pvt g hg; rw [h.own] at this; cases this) (h.row.lt g hg)
 refine ⟨u, fv', hf, h.on.then ho (fun g _ k => k.wide (Nat.le_succ _) (Nat.le_refl _)) (fun g hg k => ?_), fun g hg => ?_, ?_, ?_, fun W' hW' => ?_⟩
 ·rcases k with e | e | e
  ·subst e
   exact .inl ⟨Nat.le_refl _, hlt, by rw [h.hp]; rfl⟩
  ·exact .inr (.inl e)
  ·rcases h.fo g e with e | e
   ·exact .inr (.inr e)
   ·omega
 ·rcases hfo g hg with e | e
  ·exact h.fo g e
  ·exact .inr (by omega)
 ·have k1 : ∀ (b off : Nat) (y : Value), (w.heap.size ≤ b ∧ fv1.ownBlock ≠ some b) → w1.cell? ⟨b, off, none⟩ = some y → w.heap.size ≤ b ∧ fv'.ownBlock ≠ some b := fun b off y k1 k2 => ⟨k1.1, fun e => by
   have : b < w1.heap.size := World.block_lt_of_cell? w1 _ k2
   rcases hfo b e with e | e
   ·exact k1.2 e
   ·omega⟩
  have k2 : ∀ (b off : Nat) (y : Value), (w.heap.size ≤ b ∧ fv1.ownBlock ≠ some b) → w1.cell? ⟨b, off, none⟩ = some y → W.cell? ⟨b, off, none⟩ = some y := fun b off y k1 k2 => by
   have hlt2 : b < w1.heap.size := World.block_lt_of_cell? w1 _ k2
   have := ho.block b hlt2 fun e => by
    rcases e with e | e | e
    ·omega
    ·omega
    ·exact k1.2 e
   unfold World.cell? at k2 ⊢
   rw [this]; exact k2
  exact h.ins.carry k1 k2
 ·cases b with
  | mk k s t n1 m fen stx ls a z kids =>
  rw [TreeAt_mk] at hb
  obtain ⟨p', h0, h1, h2, h3, h4, h5, h6, h7, h8, h9, h10, h11, h12, h13⟩ := hb
  rw [h.hp] at h0
  injection h0 with h0
  subst h0
  refine ⟨?_, ?_, ?_, ?_, ?_, ?_, ?_, ?_, ?_⟩
  ·rw [show ((B.mk k s t n1 m fen stx ls a z kids).o X).k = p.k from h2.symm]; exact hbl.cell 0 rfl
  ·rw [← hS]; exact hbl.cell 1 rfl
  ·rw [show ((B.mk k s t n1 m fen stx ls a z kids).o X).t = p.t from h4.symm]; exact hbl.cell 2 rfl
  ·rw [show ((B.mk k s t n1 m fen stx ls a z kids).o X).n = p.n from h5.symm]; exact hbl.cell 3 rfl
  ·rw [show ((B.mk k s t n1 m fen stx ls a z kids).o X).m = p.m from h6.symm]; exact hbl.cell 4 rfl
  ·rw [← hfl]; exact hbl.cell 5 rfl
  ·rw [show ((B.mk k s t n1 m fen stx ls a z kids).o X).a = p.a from h7.symm]; exact hbl.cell 6 rfl
  ·exact hbl.cell 7 rfl
  ·exact hbl.cell 8 rfl
 ·have ha : b.a = p.a := by
   cases b with
   | mk k s t n1 m fen stx ls a z kids =>
   rw [TreeAt_mk] at hb
   obtain ⟨p', h0, h1, h2, h3, h4, h5, h6, h7, h8⟩ := hb
   rw [h.hp] at h0
   injection h0 with h0
   subst h0
   exact h7.symm
  have hba : b.a < n := by
   cases b with
   | mk k s t n1 m fen stx ls a z kids =>
   rw [wOne_mk] at hw
   show a < n
   omega
  have hblk' : Hb W' adr (endC p S f (zI b) u pv lv) 53 := hbl.keep (hW' adr hbl.lt (by rw [h.own]; exact Nat.le_refl _) (by rw [h.own]; exact hlt))
  refine ⟨by rw [ha]; exact hblk'.cell 6 rfl, hblk'.cell 7 rfl, ⟨pv, p.kids, hblk'.cell 9 rfl, hrow.keep fun g hg => hW' g (hrow.lt g hg) (by rw [h.pvt g hg]; exact Nat.le_refl _) (by rw [h.pvt g hg]; exact hlt), (h.kd W' fun g h1 h2 h3 => ?_).ends, h.few.1⟩, by omega, by omega, by omega⟩
  rw [hW' g (Nat.lt_of_lt_of_le h1 ho.size) (by omega) h3]
  exact hno g (by omega) (fun e => by subst e; rw [h.own] at h2; exact absurd h2 (Nat.not_succ_le_self g)) h1
theorem tight_all {l : List B} {a n p : Nat} (h : wAll l a n p) : tight l = (!gapI (l.map fun x => (x.a, zI x)) && (l.map fun b => b.kids.map fun x => (x.a, zI x)).all fun ys => !gapI ys) := by
 unfold tight
 rw [apart_gap h]
 congr 1
 induction l generalizing a with
 | nil => rfl
 | cons b l ih =>
  rw [wAll_cons] at h
  rw [List.all_cons, List.map_cons, List.all_cons, ih h.2]
  congr 1
  cases b with
  | mk k s t n1 m fen stx ls a z kids =>
  have := h.1
  rw [wOne_mk] at this
  rw [apart_gap (l := (B.mk k s t n1 m fen stx ls a z kids).kids) this.2.2.2.2.2]
end
end Bk
end Go.Proofs.YtkiipaaaakhhfaaGreatDoor
end
