/- Layer 13: what stands between two steps of the program's close, in plain mathematics and in memory. -/
import Derived.Test.YtbdcbeghiglfgaaDoorDlDrop
import Derived.Test.YtbdcbeghiglfgaaDoorDlOpen
import Derived.Test.YtbdcbeghiglfgaaDoorDlFind
namespace Go.Proofs.YtbdcbeghiglfgaaDoor
open Go Go.RowKit
namespace Dl
set_option maxRecDepth 100000
set_option linter.unusedVariables false
set_option linter.unusedSimpArgs false

/-- Run i looks for openers. -/
structure St (L : List Rn) (i : Nat) (f : Nat → Nat) (S : List Opn) (G : UInt8 × Int → Bool → Int → Nat) (P : List Pr) : Prop where
  stk : Stk L f i S
  til : Til L f
  dn : Dn L S i G
  go : P ++ goF L i f = pairs L
  le : ∀ j, f j ≤ cap (rn L j)
  fut : ∀ j, i < j → f j = cap (rn L j)
/-- Run i has looked. -/
structure Sn (L : List Rn) (i : Nat) (f : Nat → Nat) (S : List Opn) (G : UInt8 × Int → Bool → Int → Nat) (P : List Pr) : Prop where
  stk : Stk L f i S
  til : Til L f
  dn : Dn L S i G
  go : P ++ goF L (i + 1) f = pairs L
  le : ∀ j, f j ≤ cap (rn L j)
  fut : ∀ j, i < j → f j = cap (rn L j)
section
variable {L : List Rn} {i : Nat} {f : Nat → Nat} {S : List Opn} {G : UInt8 × Int → Bool → Int → Nat} {P : List Pr}
theorem St.pass (h : St L i f S G P) (hi : i < L.length) (hp : (rn L i).k = false ∨ f i = 0) : Sn L i f S G P :=
  ⟨h.stk, h.til, h.dn, by rw [← goF_pass hi hp]; exact h.go, h.le, h.fut⟩
def left' (L : List Rn) (i : Nat) (f : Nat → Nat) : Nat → Nat := if (rn L i).o = true then f else upd f i 0
theorem left_le (L : List Rn) (i : Nat) (f : Nat → Nat) (j : Nat) : left' L i f j ≤ f j := by
  unfold left'
  split
  · exact Nat.le_refl _
  · exact upd0_le f i j
theorem left_other (L : List Rn) {i j : Nat} (f : Nat → Nat) (h : j ≠ i) : left' L i f j = f j := by
  unfold left'
  split
  · rfl
  · unfold upd; rw [if_neg h]
theorem left_here {L : List Rn} {i : Nat} (f : Nat → Nat) (h : (rn L i).o = true) : left' L i f i = f i := by
  unfold left'; rw [if_pos h]
theorem St.none (h : St L i f S G P) (hi : i < L.length) (hk : (rn L i).k = true) (h1 : 1 ≤ f i) (hf : fnd L S i = none) : Sn L i (left' L i f) S (putG G (kn (rn L i)) (rn L i).o ((rn L i).n % 3) i) P := by
  have hl := fnd_none h.stk h.til hk h1 hf
  refine ⟨h.stk.congr fun j hj => left_other L f (by omega), ?_, h.dn.put hf, ?_, fun j => Nat.le_trans (left_le L i f j) (h.le j), fun j hj => (left_other L f (by omega)).trans (h.fut j hj)⟩
  · unfold left'
    split
    · exact h.til
    · exact h.til.upd i
  · have := goF_none hi (by rw [hk]; simp; omega) hl
    unfold left'
    rw [← this]; exact h.go
theorem St.pair (h : St L i f S G P) (hi : i < L.length) (hk : (rn L i).k = true) (h1 : 1 ≤ f i) {x : Opn} (hf : fnd L S i = some x) :
    ∃ A B, S = A ++ x :: B ∧ 1 ≤ takes (rn L i).c x.l (f i) ∧ takes (rn L i).c x.l (f i) ≤ x.l ∧ takes (rn L i).c x.l (f i) ≤ f i ∧ x.l ≤ 1073741824 ∧ x.p < i ∧
      St L i (paired f x.p i (takes (rn L i).c x.l (f i))) (rest x (takes (rn L i).c x.l (f i)) B) G (P ++ [(x.p, i, takes (rn L i).c x.l (f i))]) ∧ paired f x.p i (takes (rn L i).c x.l (f i)) i = f i - takes (rn L i).c x.l (f i) := by
  have hl := fnd_some h.stk h.til hk h1 hf
  obtain ⟨A, B, e, hq, hA⟩ := find_split hf
  obtain ⟨m1, m2, m3, m4⟩ := h.stk.mem x (by rw [e]; simp)
  obtain ⟨_, h2, _⟩ := look_some hl
  obtain ⟨a1, a2, a3, _⟩ := amount_le h2
  have eA : amount L f x.p i = takes (rn L i).c x.l (f i) := by rw [amount_takes, m4]
  rw [eA] at a1 a2 a3
  refine ⟨A, B, e, a1, by omega, a3, by have := h.le x.p; have := cap_le (rn L x.p); omega, m1, ⟨?_, ?_, h.dn.sub (by rw [e]; exact rest_sub), ?_, fun j => Nat.le_trans (paired_le f _ _ _ j) (h.le j), fun j hj => ((paired_at m1).2.2.2 j (.inr hj)).trans (h.fut j hj)⟩, (paired_at m1).1⟩
  · exact Stk.pair (A := A) (e ▸ h.stk)
  · rw [← eA]; exact h.til.pair hl
  · have := goF_pair hi (by rw [hk]; simp; omega) hl
    rw [eA] at this
    rw [List.append_assoc, List.singleton_append, ← this]; exact h.go
theorem Sn.skip (h : Sn L i f S G P) (e : (rn L i).o = false ∨ f i = 0) : St L (i + 1) f S G P :=
  ⟨h.stk.skip e, h.til, h.dn.next, h.go, h.le, fun j hj => h.fut j (by omega)⟩
theorem Sn.push (h : Sn L i f S G P) (ho : (rn L i).o = true) (h1 : 1 ≤ f i) (b : Nat) : St L (i + 1) f (⟨b, i, f i⟩ :: S) G P :=
  ⟨h.stk.push ho h1 b, h.til, h.dn.push rfl, h.go, h.le, fun j hj => h.fut j (by omega)⟩
theorem St.start (L : List Rn) : St L 0 (caps L) [] (fun _ _ _ => 0) [] :=
  ⟨Stk.zero L _, Til.caps L, fun k o r => ⟨Nat.le_refl _, fun x hx => by cases hx⟩, rfl, fun j => Nat.le_refl _, fun j hj => rfl⟩
theorem St.len (h : St L i f S G P) : P.length ≤ (pairs L).length := by
  rw [← h.go, List.length_append]; omega
theorem St.end' (h : St L i f S G P) (hi : L.length ≤ i) : P = pairs L := by
  rw [← h.go, goF_end hi, List.append_nil]
end

/-! ### in memory -/
section
variable {w0 : World} {zz : Option (Nat × World)} {L : List Rn} {v : Value} {B ml md : Nat} {pv : Value} {q : Nat} {S : List Opn} {G : UInt8 × Int → Bool → Int → Nat} {P : List Pr} {W W' : World}
/-- The nearest opener gives some of its signs. -/
theorem MM.less {x : Opn} (h : MM w0 zz L v B ml md pv q (x :: S) G P W) (m : Nat) : MM w0 zz L v B ml md pv q (⟨x.b, x.p, m⟩ :: S) G P (W.setCell ⟨x.b, 1, none⟩ (.int .i64 (m : Int))) := by
  obtain ⟨n1, h1, h2⟩ := h.last
  obtain ⟨n2, h3, h4⟩ := h.done
  have hx := h.new x (by simp)
  have hsep := List.pairwise_cons.1 h.sep
  have ho : Only (fun k => k = x.b) W (W.setCell ⟨x.b, 1, none⟩ (.int .i64 (m : Int))) := Only.setCell (X := fun k => k = x.b) (Only.refl _ W) rfl _
  have hhd : hd (⟨x.b, x.p, m⟩ :: S) = hd (x :: S) := rfl
  have hmem : ∀ y, y ∈ (⟨x.b, x.p, m⟩ :: S : List Opn) → ∃ z ∈ x :: S, z.b = y.b ∧ z.p = y.p := fun y hy => by
    rcases List.mem_cons.1 hy with rfl | hy
    · exact ⟨x, by simp, rfl, rfl⟩
    · exact ⟨y, by simp [hy], rfl, rfl⟩
  refine ⟨h.runs, h.ok, h.below.trans (ho.below h.below.size (fun k hk => by rw [hk]; exact hx.1)), h.hB, h.hl, h.hm, h.lm, hhd ▸ h.blk.only ho (fun e => hx.2 e.symm), ⟨n1, (h1.only ho (fun e => h.op_ml (x := x) (by simp) e.symm)).congr fun k => ?_, by simpa using h2⟩, ⟨n2, h3.only ho (fun e => h.op_md (x := x) (by simp) e.symm), h4⟩,
    owns_only h.own ho (fun k hk e => h.pS x (by simp) (by rw [hk, e])), h.pB, fun y hy => ?_, ⟨h.ops.1.set 1 _ rfl, h.ops.2.only ho (fun y hy e => hsep.1 y hy e.symm)⟩, List.pairwise_cons.2 hsep, fun y hy => ?_, fun y hy => ?_, fun z wz e => (h.frn z wz e).only ho (fun e2 => (h.frn z wz e).nS x (by simp) e2.symm) (fun y hy => ?_) (h.frn z wz e).np⟩
  · rw [ofK_cons, ofK_cons]
    show _ = hd (if kn (rn L x.p) = k then _ else _)
    split <;> rfl
  · obtain ⟨z, hz, e1, _⟩ := hmem y hy
    rw [← e1]; exact h.pS z hz
  · obtain ⟨z, hz, e1, _⟩ := hmem y hy
    rw [← e1]; exact h.new z hz
  · obtain ⟨z, hz, _, e2⟩ := hmem y hy
    rw [← e2]; exact h.plc z hz
  · obtain ⟨u, hu, e1, _⟩ := hmem y hy
    rw [← e1]; exact (h.frn z wz e).nS u hu
/-- One pair more. -/
theorem MM.paired {x : Pr} {g' cap' : Nat} {w1 w4 : World} (h : MM w0 zz L v B ml md pv q S G P W) (hb1 : Below W.heap.size W w1) (hg : w1.grownBy w4 pv.ownBlock)
    (hown : w4.ownsRow w0.heap.size 40 3 (.slice (some ⟨g', 0, none⟩) (P.length + 1) cap') (P.length + 1) (rowG pairE P ++ pairE x)) (hat : pv.ownBlock = some g' ∨ W.heap.size ≤ g') :
    MM w0 zz L v B ml md (.slice (some ⟨g', 0, none⟩) (P.length + 1) cap') q S G (P ++ [x]) (w4.setCell ⟨B, 4, none⟩ (.slice (some ⟨g', 0, none⟩) (P.length + 1) cap')) := by
  obtain ⟨n1, h1, h2⟩ := h.last
  obtain ⟨n2, h3, h4⟩ := h.done
  have hsz := h.below.size
  have hBl := h.blk.lt
  have hge : ∀ k, pv.ownBlock = some k → w0.heap.size ≤ k := fun k hk => (h.own.lt k hk).1
  have ho4 : Only (fun k => pv.ownBlock = some k) W w4 := (Only.of_below hb1).trans' (only_grown hg)
  have hgB : g' ≠ B := fun e => by
    rcases hat with e1 | e1
    · exact h.pB (e ▸ e1)
    · omega
  have ho5 : Only (fun k => k = B) w4 (w4.setCell ⟨B, 4, none⟩ (.slice (some ⟨g', 0, none⟩) (P.length + 1) cap')) := Only.setCell (X := fun k => k = B) (Only.refl _ _) rfl _
  have hb4 : Blk w4 B (matC v (hd S) ml md pv) 51 := h.blk.only ho4 h.pB
  have hl4 := h1.only ho4 h.p_ml
  have hd4 := h3.only ho4 h.p_md
  have hob : (Value.slice (some ⟨g', 0, none⟩) (P.length + 1) cap').ownBlock = some g' := rfl
  refine ⟨h.runs, h.ok, h.below.trans ((ho4.below hsz hge).trans (ho5.below (Nat.le_trans hsz ho4.size) (fun k hk => by rw [hk]; exact h.hB))), h.hB, h.hl, h.hm, h.lm, hb4.set 4 _ rfl, ⟨n1, hl4.only ho5 (fun e => h.ne_ml e.symm), h2⟩, ⟨n2, hd4.only ho5 (fun e => h.ne_md e.symm), h4⟩, ?_, ?_, fun y hy => ?_, (h.ops.only ho4 (fun y hy e => h.pS y hy e)).only ho5 (fun y hy e => (h.new y hy).2 e), h.sep, h.new, h.plc, fun z wz e => ((h.frn z wz e).only ho4 (h.frn z wz e).np (h.frn z wz e).nS (h.frn z wz e).np).only ho5 (h.frn z wz e).nB (h.frn z wz e).nS ?_⟩
  · have h6 := owns_only hown ho5 (fun k hk e => by rw [hob] at hk; injection hk with hk; exact hgB (hk.trans e))
    unfold OwnG
    rw [rowG_snoc]
    simpa using h6
  · rw [hob]; intro e; injection e with e; exact hgB e
  · rw [hob]
    intro e; injection e with e
    rcases hat with e1 | e1
    · exact h.pS y hy (e ▸ e1)
    · have := h.ops.lt y hy; omega
  · rw [hob]
    intro e2; injection e2 with e2
    rcases hat with e1 | e1
    · exact (h.frn z wz e).np (e2 ▸ e1)
    · have := (h.frn z wz e).lt
      have := (h.frn z wz e).le
      omega
end
end Dl
end Go.Proofs.YtbdcbeghiglfgaaDoor
