/- Layer 13: the program's matcher in memory: its stack of openers, its maps, its pairs. -/
import Derived.Test.YtbdcbeghiglfgaaDoorDlMap
import Derived.Test.YtbdcbeghiglfgaaDoorDlAw
namespace Go.Proofs.YtbdcbeghiglfgaaDoor
open Go Go.RowKit
namespace Dl
set_option maxRecDepth 100000
set_option linter.unusedVariables false
set_option linter.unusedSimpArgs false

def hd : List Opn → Value
  | [] => .pointer none
  | x :: _ => ptr x.b
def opC (x : Opn) (a l : Value) : Array Value := #[.int .i64 (x.p : Int), .int .i64 (x.l : Int), a, l]
def matC (v near : Value) (ml md : Nat) (pv : Value) : Array Value := #[v, near, .map (some ml), .map (some md), pv]
/-- How the openers lie. -/
def Ops (L : List Rn) (W : World) : List Opn → Prop
  | [] => True
  | x :: R => Blk W x.b (opC x (hd R) (hd (ofK L R (kn (rn L x.p))))) 64 ∧ Ops L W R
theorem Ops.only {L : List Rn} {W W' : World} {X : Nat → Prop} (ho : Only X W W') : ∀ {S : List Opn}, Ops L W S → (∀ x ∈ S, ¬ X x.b) → Ops L W' S
  | [], _, _ => trivial
  | x :: R, h, hx => ⟨h.1.only ho (hx x (by simp)), Ops.only ho h.2 (fun y hy => hx y (by simp [hy]))⟩
theorem Ops.lt {L : List Rn} {W : World} : ∀ {S : List Opn}, Ops L W S → ∀ x ∈ S, x.b < W.heap.size
  | [], _, x, hx => by cases hx
  | y :: R, h, x, hx => by
    rcases List.mem_cons.1 hx with rfl | hx
    · exact h.1.lt
    · exact Ops.lt h.2 x hx
theorem Ops.mem {L : List Rn} {W : World} : ∀ {S : List Opn}, Ops L W S → ∀ x ∈ S, ∃ a l, Blk W x.b (opC x a l) 64
  | [], _, x, hx => by cases hx
  | y :: R, h, x, hx => by
    rcases List.mem_cons.1 hx with rfl | hx
    · exact ⟨_, _, h.1⟩
    · exact Ops.mem h.2 x hx
/-- The one behind an opener in the row of its kind. -/
theorem Ops.like {L : List Rn} {W : World} {k : UInt8 × Int} : ∀ {S A R : List Opn} {x : Opn}, Ops L W S → ofK L S k = A ++ x :: R → ∃ a, Blk W x.b (opC x a (hd R)) 64
  | [], A, R, x, _, h => by simp [ofK] at h
  | y :: S, A, R, x, hO, h => by
    rw [ofK_cons] at h
    by_cases hy : kn (rn L y.p) = k
    · rw [if_pos hy] at h
      cases A with
      | nil =>
        simp only [List.nil_append, List.cons.injEq] at h
        obtain ⟨rfl, rfl⟩ := h
        rw [← hy]
        exact ⟨_, hO.1⟩
      | cons z A =>
        simp only [List.cons_append, List.cons.injEq] at h
        exact Ops.like hO.2 h.2
    · rw [if_neg hy] at h
      exact Ops.like hO.2 h
/-- A block that is none of the matcher's stands as it was. -/
structure Frn (z : Nat) (wz : World) (B ml md : Nat) (pv : Value) (S : List Opn) (W : World) : Prop where
  lt : z < wz.heap.size
  le : wz.heap.size ≤ W.heap.size
  eq : W.heap[z]? = wz.heap[z]?
  nB : z ≠ B
  nl : z ≠ ml
  nm : z ≠ md
  nS : ∀ x ∈ S, x.b ≠ z
  np : pv.ownBlock ≠ some z
theorem Frn.only {z : Nat} {wz : World} {B ml md : Nat} {pv pv' : Value} {S S' : List Opn} {W W' : World} (h : Frn z wz B ml md pv S W) {X : Nat → Prop} (ho : Only X W W') (hx : ¬ X z) (hS : ∀ x ∈ S', x.b ≠ z) (hp : pv'.ownBlock ≠ some z) : Frn z wz B ml md pv' S' W' :=
  ⟨h.lt, Nat.le_trans h.le ho.size, (ho.block z (Nat.lt_of_lt_of_le h.lt h.le) hx).trans h.eq, h.nB, h.nl, h.nm, hS, hp⟩
/-- The matcher at block B over the runs L, its openers S, its pairs P. -/
structure MM (w0 : World) (zz : Option (Nat × World)) (L : List Rn) (v : Value) (B ml md : Nat) (pv : Value) (q : Nat) (S : List Opn) (G : UInt8 × Int → Bool → Int → Nat) (P : List Pr) (W : World) : Prop where
  runs : Runs w0 v L
  ok : ∀ r ∈ L, RnOk r
  below : Below w0.heap.size w0 W
  hB : w0.heap.size ≤ B
  hl : w0.heap.size ≤ ml
  hm : w0.heap.size ≤ md
  lm : ml ≠ md
  blk : Blk W B (matC v (hd S) ml md pv) 51
  last : ∃ n, LMap W ml n (fun k => hd (ofK L S k)) ∧ n + S.length ≤ q
  done : ∃ n, DMap W md n G ∧ n ≤ q
  own : OwnG pairE 3 40 W w0.heap.size pv P
  pB : pv.ownBlock ≠ some B
  pS : ∀ x ∈ S, pv.ownBlock ≠ some x.b
  ops : Ops L W S
  sep : S.Pairwise (fun x y => x.b ≠ y.b)
  new : ∀ x ∈ S, w0.heap.size ≤ x.b ∧ x.b ≠ B
  plc : ∀ x ∈ S, x.p < L.length
  frn : ∀ z wz, zz = some (z, wz) → Frn z wz B ml md pv S W
section
variable {w0 : World} {zz : Option (Nat × World)} {L : List Rn} {v : Value} {B ml md : Nat} {pv : Value} {q : Nat} {S : List Opn} {G : UInt8 × Int → Bool → Int → Nat} {P : List Pr} {W W' : World}
theorem MM.mono (h : MM w0 zz L v B ml md pv q S G P W) {q' : Nat} (hq : q ≤ q') : MM w0 zz L v B ml md pv q' S G P W := by
  obtain ⟨n1, h1, h2⟩ := h.last
  obtain ⟨n2, h3, h4⟩ := h.done
  exact ⟨h.runs, h.ok, h.below, h.hB, h.hl, h.hm, h.lm, h.blk, ⟨n1, h1, by omega⟩, ⟨n2, h3, by omega⟩, h.own, h.pB, h.pS, h.ops, h.sep, h.new, h.plc, h.frn⟩
/-- Elsewhere anything may turn. -/
theorem MM.only (h : MM w0 zz L v B ml md pv q S G P W) {X : Nat → Prop} (ho : Only X W W') (hX : ∀ k, X k → W.heap.size ≤ k) : MM w0 zz L v B ml md pv q S G P W' := by
  have hx : ∀ k, k < W.heap.size → ¬ X k := fun k hk hx => by have := hX k hx; omega
  obtain ⟨n1, h1, h2⟩ := h.last
  obtain ⟨n2, h3, h4⟩ := h.done
  refine ⟨h.runs, h.ok, ?_, h.hB, h.hl, h.hm, h.lm, h.blk.only ho (hx _ h.blk.lt), ⟨n1, h1.only ho (hx _ h1.lt), h2⟩, ⟨n2, h3.only ho (hx _ h3.lt), h4⟩, owns_only h.own ho (fun k hk => hx _ (h.own.lt k hk).2), h.pB, h.pS, h.ops.only ho (fun x hm => hx _ (h.ops.lt x hm)), h.sep, h.new, h.plc, fun z wz e => (h.frn z wz e).only ho (hx z (Nat.lt_of_lt_of_le (h.frn z wz e).lt (h.frn z wz e).le)) (h.frn z wz e).nS (h.frn z wz e).np⟩
  exact h.below.trans (ho.below h.below.size (fun k hk => by have := hX k hk; have := h.below.size; omega))
theorem MM.below' (h : MM w0 zz L v B ml md pv q S G P W) (hb : Below W.heap.size W W') : MM w0 zz L v B ml md pv q S G P W' := h.only (X := fun _ => False) (Only.of_below hb) (fun k hk => hk.elim)
theorem MM.wf (h : MM w0 zz L v B ml md pv q S G P W) (i : Nat) (hi : i < L.length) : wfI (kn (rn L i)).2 := by
  have := h.ok (rn L i) (List.mem_of_getElem? (rn_at hi))
  unfold kn
  simp only
  split
  · exact wfI_of this
  · exact wfI_of ⟨by decide, by decide⟩
theorem MM.ne_ml (h : MM w0 zz L v B ml md pv q S G P W) : B ≠ ml := by
  obtain ⟨n, h1, _⟩ := h.last
  obtain ⟨D, h1, _⟩ := h1.own
  exact blk_ne_map h.blk h1
theorem MM.ne_md (h : MM w0 zz L v B ml md pv q S G P W) : B ≠ md := by
  obtain ⟨n, h1, _⟩ := h.done
  obtain ⟨D, h1, _⟩ := h1.own
  exact blk_ne_map h.blk h1
theorem MM.op_ml (h : MM w0 zz L v B ml md pv q S G P W) {x : Opn} (hx : x ∈ S) : x.b ≠ ml := by
  obtain ⟨n, h1, _⟩ := h.last
  obtain ⟨D, h1, _⟩ := h1.own
  obtain ⟨a, l, hb⟩ := h.ops.mem x hx
  exact blk_ne_map hb h1
theorem MM.op_md (h : MM w0 zz L v B ml md pv q S G P W) {x : Opn} (hx : x ∈ S) : x.b ≠ md := by
  obtain ⟨n, h1, _⟩ := h.done
  obtain ⟨D, h1, _⟩ := h1.own
  obtain ⟨a, l, hb⟩ := h.ops.mem x hx
  exact blk_ne_map hb h1
theorem MM.p_ml (h : MM w0 zz L v B ml md pv q S G P W) : pv.ownBlock ≠ some ml := by
  obtain ⟨n, h1, _⟩ := h.last
  obtain ⟨D, h1, _⟩ := h1.own
  exact row_ne_map h.own h1
theorem MM.p_md (h : MM w0 zz L v B ml md pv q S G P W) : pv.ownBlock ≠ some md := by
  obtain ⟨n, h1, _⟩ := h.done
  obtain ⟨D, h1, _⟩ := h1.own
  exact row_ne_map h.own h1
/-- The cells of a run that came in, in any later world. -/
theorem MM.cells (h : MM w0 zz L v B ml md pv q S G P W) : ∃ a cap, v = .slice a L.length cap ∧ L.length ≤ maxLen ∧ (L = [] ∨ ∃ b off, a = some ⟨b, off, none⟩ ∧ b < w0.heap.size ∧ ∀ i, i < L.length → ∀ W', Below w0.heap.size w0 W' → AtG runE W' b (off + i * 4) (rn L i)) := by
  obtain ⟨a, cap, h1, h2, h3⟩ := h.runs
  refine ⟨a, cap, h1, h2, ?_⟩
  by_cases h0 : L = []
  · exact .inl h0
  · obtain ⟨b, off, e, hc⟩ := h3.resolve_left h0
    have hl : 0 < L.length := List.length_pos_iff.2 h0
    have h4 := (hc 0 _ (rn_at hl)) 0 _ rfl
    exact .inr ⟨b, off, e, World.block_lt_of_cell? w0 _ h4, fun i hi W' hb => (hc i _ (rn_at hi)).keep hb⟩
theorem hd_form (S : List Opn) : ∃ o, hd S = .pointer o := by
  cases S with
  | nil => exact ⟨none, rfl⟩
  | cons x S => exact ⟨_, rfl⟩
theorem hd_R (S : List Opn) : ∃ z, ptrR (hd S) = some (z, []) := by
  cases S with
  | nil => exact ⟨_, rfl⟩
  | cons x S => exact ⟨_, rfl⟩
/-- The nearest opener is taken away. -/
theorem MM.dropped {x : Opn} {n : Nat} (h : MM w0 zz L v B ml md pv q (x :: S) G P W) (hb : Blk W' B (matC v (hd S) ml md pv) 51)
    (hl : LMap W' ml n (fun k => if k = kn (rn L x.p) then hd (ofK L S (kn (rn L x.p))) else hd (ofK L (x :: S) k))) (hn : n + S.length ≤ q) (ho : Only (fun g => g = B ∨ g = ml) W W') : MM w0 zz L v B ml md pv q S G P W' := by
  obtain ⟨n2, h3, h4⟩ := h.done
  have hsep := List.pairwise_cons.1 h.sep
  have hne : ∀ y ∈ S, ¬ (y.b = B ∨ y.b = ml) := fun y hy e => by
    rcases e with e | e
    · exact (h.new y (by simp [hy])).2 e
    · exact h.op_ml (x := y) (by simp [hy]) e
  refine ⟨h.runs, h.ok, h.below.trans (ho.below h.below.size (fun k hk => ?_)), h.hB, h.hl, h.hm, h.lm, hb, ⟨n, hl.congr fun k => ?_, hn⟩, ⟨n2, h3.only ho ?_, h4⟩, owns_only h.own ho ?_, h.pB, fun y hy => h.pS y (by simp [hy]), h.ops.2.only ho hne, hsep.2, fun y hy => h.new y (by simp [hy]), fun y hy => h.plc y (by simp [hy]), fun z wz e => (h.frn z wz e).only ho (fun e2 => by rcases e2 with e2 | e2; exact (h.frn z wz e).nB e2; exact (h.frn z wz e).nl e2) (fun y hy => (h.frn z wz e).nS y (by simp [hy])) (h.frn z wz e).np⟩
  · rcases hk with rfl | rfl
    · exact h.hB
    · exact h.hl
  · rw [ofK_cons]
    by_cases e : k = kn (rn L x.p)
    · rw [if_pos e, e]
    · rw [if_neg e, if_neg (fun e2 => e e2.symm)]
  · rintro (e | e)
    · exact h.ne_md e.symm
    · exact h.lm e.symm
  · intro k hk e
    rcases e with e | e
    · exact h.pB (e ▸ hk)
    · exact h.p_ml (e ▸ hk)
/-- A new opener. -/
theorem MM.opened {g i l n : Nat} (h : MM w0 zz L v B ml md pv q S G P W) (hi : i < L.length) (hg : W.heap.size ≤ g) (hx : Blk W' g (opC ⟨g, i, l⟩ (hd S) (hd (ofK L S (kn (rn L i))))) 64)
    (hb : Blk W' B (matC v (ptr g) ml md pv) 51) (hl : LMap W' ml n (fun k => if k = kn (rn L i) then ptr g else hd (ofK L S k))) (hn : n + S.length + 1 ≤ q + 2) (ho : Only (fun k => k = B ∨ k = ml) W W') : MM w0 zz L v B ml md pv (q + 2) (⟨g, i, l⟩ :: S) G P W' := by
  obtain ⟨n2, h3, h4⟩ := h.done
  obtain ⟨n1, h1, _⟩ := h.last
  have hsz := h.below.size
  have hB := h.blk.lt
  have hml := h1.lt
  have hne : ∀ y ∈ S, ¬ (y.b = B ∨ y.b = ml) := fun y hy e => by
    rcases e with e | e
    · exact (h.new y hy).2 e
    · exact h.op_ml hy e
  refine ⟨h.runs, h.ok, h.below.trans (ho.below h.below.size (fun k hk => ?_)), h.hB, h.hl, h.hm, h.lm, hb, ⟨n, hl.congr fun k => ?_, by simp only [List.length_cons]; omega⟩, ⟨n2, h3.only ho ?_, by omega⟩, owns_only h.own ho ?_, h.pB, fun y hy => ?_, ⟨hx, h.ops.only ho hne⟩, List.pairwise_cons.2 ⟨fun y hy => ?_, h.sep⟩, fun y hy => ?_, fun y hy => ?_, fun z wz e => (h.frn z wz e).only ho (fun e2 => by rcases e2 with e2 | e2; exact (h.frn z wz e).nB e2; exact (h.frn z wz e).nl e2) (fun y hy e2 => ?_) (h.frn z wz e).np⟩
  · rcases hk with rfl | rfl
    · exact h.hB
    · exact h.hl
  · rw [ofK_cons]
    by_cases e : k = kn (rn L i)
    · rw [if_pos e, if_pos e.symm]; rfl
    · rw [if_neg e, if_neg (fun e2 => e e2.symm)]
  · rintro (e | e)
    · exact h.ne_md e.symm
    · exact h.lm e.symm
  · intro k hk e
    rcases e with e | e
    · exact h.pB (e ▸ hk)
    · exact h.p_ml (e ▸ hk)
  · rcases List.mem_cons.1 hy with rfl | hy
    · intro e
      have := (h.own.lt _ e).2
      simp only at this
      omega
    · exact h.pS y hy
  · have := h.ops.lt y hy
    show g ≠ y.b
    omega
  · rcases List.mem_cons.1 hy with rfl | hy
    · exact ⟨by show _ ≤ g; omega, by show g ≠ B; omega⟩
    · exact h.new y hy
  · rcases List.mem_cons.1 hy with rfl | hy
    · exact hi
    · exact h.plc y hy
  · rcases List.mem_cons.1 hy with rfl | hy
    · have := (h.frn z wz e).lt
      have := (h.frn z wz e).le
      have e3 : g = z := e2
      omega
    · exact (h.frn z wz e).nS y hy e2
/-- Another block stands beside. -/
theorem MM.refr (h : MM w0 zz L v B ml md pv q S G P W) {z : Nat} (hz : W.heap.size ≤ z) (hz2 : z < W'.heap.size) (hb : Below W.heap.size W W') : MM w0 (some (z, W')) L v B ml md pv q S G P W' := by
  have h' := h.below' hb
  have hB := h.blk.lt
  obtain ⟨n1, h1, _⟩ := h.last
  obtain ⟨n2, h2, _⟩ := h.done
  have hl := h1.lt
  have hd := h2.lt
  refine ⟨h'.runs, h'.ok, h'.below, h'.hB, h'.hl, h'.hm, h'.lm, h'.blk, h'.last, h'.done, h'.own, h'.pB, h'.pS, h'.ops, h'.sep, h'.new, h'.plc, fun z' wz e => ?_⟩
  injection e with e
  injection e with e1 e2
  subst e1; subst e2
  refine ⟨hz2, Nat.le_refl _, rfl, by omega, by omega, by omega, fun x hx => by have := h.ops.lt x hx; omega, fun e => by have := (h.own.lt _ e).2; omega⟩
theorem MM.free (h : MM w0 zz L v B ml md pv q S G P W) : MM w0 none L v B ml md pv q S G P W :=
  ⟨h.runs, h.ok, h.below, h.hB, h.hl, h.hm, h.lm, h.blk, h.last, h.done, h.own, h.pB, h.pS, h.ops, h.sep, h.new, h.plc, fun z wz e => by cases e⟩
end
end Dl
end Go.Proofs.YtbdcbeghiglfgaaDoor
