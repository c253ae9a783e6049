/- Layer 6: rows of trees that grow; Get. -/
import Derived.Test.YtlpfffioidbkeaaTreeK2
namespace Go.Proofs.Ytlpfffioidbkeaa
open Go Go.RowKit
namespace Tr
set_option maxRecDepth 100000
set_option linter.unusedVariables false
set_option linter.unusedSimpArgs false

/-- Cells of trees one behind the other. -/
def Rows (w : World) (Q : Nat → Prop) : List Tree → List Value → Prop
  | [], xs => xs = []
  | t :: ts, xs => ∃ L ys, xs = (nodeC t.own L).toList ++ ys ∧ In w Q t L ∧ Rows w Q ts ys
theorem Rows.carry {w w' : World} {Q Q' : Nat → Prop} (hB : ∀ b off v, Q b → w.cell? ⟨b, off, none⟩ = some v → Q' b) (hc : ∀ b off v, Q b → w.cell? ⟨b, off, none⟩ = some v → w'.cell? ⟨b, off, none⟩ = some v) :
    ∀ {ts : List Tree} {xs : List Value}, Rows w Q ts xs → Rows w' Q' ts xs
  | [], xs, h => h
  | t :: ts, xs, ⟨L, ys, h1, h2, h3⟩ => ⟨L, ys, h1, In.carry_all hB hc t h2, Rows.carry hB hc h3⟩
theorem Rows.snoc {w : World} {Q : Nat → Prop} {t : Tree} {L : Value} (h : In w Q t L) : ∀ {ts : List Tree} {xs : List Value}, Rows w Q ts xs → Rows w Q (ts ++ [t]) (xs ++ (nodeC t.own L).toList)
  | [], xs, e => by rw [Rows] at e; subst e; exact ⟨L, [], by simp, h, rfl⟩
  | u :: ts, xs, ⟨L', ys, h1, h2, h3⟩ => ⟨L', ys ++ (nodeC t.own L).toList, by rw [h1, List.append_assoc], h2, Rows.snoc h h3⟩
theorem Rows.inL {w : World} {Q : Nat → Prop} {g : Nat} : ∀ {ts : List Tree} {xs : List Value} {off : Nat}, Rows w Q ts xs → (∀ j v, xs[j]? = some v → w.cell? ⟨g, off + j, none⟩ = some v) → InL w Q ts g off
  | [], xs, off, h, hc => by simp [InL]
  | t :: ts, xs, off, ⟨L, ys, h1, h2, h3⟩, hc => by
    rw [InL]
    subst h1
    refine ⟨⟨L, ⟨hc 0 _ rfl, hc 1 _ rfl, hc 2 _ rfl, hc 3 _ rfl, hc 4 _ rfl, hc 5 _ rfl, hc 6 _ rfl⟩, h2⟩, Rows.inL h3 fun j v hj => ?_⟩
    have := hc (7 + j) v (by rw [List.getElem?_append_right (by simp [nodeC])]; simpa [nodeC] using hj)
    rw [show off + 7 + j = off + (7 + j) by omega]
    exact this
theorem In.of_rows {w : World} {Q : Nat → Prop} {base n : Nat} {v : Value} {xs : List Value} {ts : List Tree} {o : Own} (h : w.ownsRow base 24 7 v n xs) (hr : Rows w Q ts xs) (hn : n = ts.length) (hQ : ∀ b, base ≤ b → Q b) : In w Q (.mk o ts) v := by
  subst hn
  rw [In]
  have hc := fun g => h.cells (g := g)
  rcases h.2 with ⟨rfl, h0⟩ | ⟨g, cap, cur, rfl, hb, _, hle, hm, _⟩
  · have : ts = [] := List.length_eq_zero_iff.1 h0
    subst this
    exact ⟨none, 0, rfl, Nat.le_refl _, by decide, .inl rfl⟩
  · refine ⟨some ⟨g, 0, none⟩, cap, rfl, hle, hm, .inr ⟨g, 0, rfl, hQ g hb, hr.inL fun j u hj => ?_⟩⟩
    have := hc g rfl j u hj
    rwa [add_off] at this
theorem owns_form {w : World} {base n : Nat} {e : TypeId} {size : Nat} {v : Value} {xs : List Value} (h : w.ownsRow base e size v n xs) : ∃ a cap, v = .slice a n cap := by
  rcases h.2 with ⟨rfl, rfl⟩ | ⟨g, cap, cur, rfl, _⟩
  · exact ⟨none, 0, rfl⟩
  · exact ⟨_, _, rfl⟩
theorem owns_keep {w w' : World} {base : Nat} {e : TypeId} {size n : Nat} {v : Value} {xs : List Value} (h : w.ownsRow base e size v n xs) (hb : Below w.heap.size w w') : w'.ownsRow base e size v n xs :=
  h.kept (row := none) ⟨hb.os, hb.tape, hb.output, hb.size, fun k hk _ => hb.block k hk⟩ (by cases hv : v.ownBlock <;> simp)
theorem owns_set {w : World} {base : Nat} {e : TypeId} {size n : Nat} {v : Value} {xs : List Value} (h : w.ownsRow base e size v n xs) {p : Addr} (hp : p.block < base) (u : Value) : (w.setCell p u).ownsRow base e size v n xs :=
  ownsRow_setCell_below h hp u

/-- A node by value is laid over a node's cells. -/
theorem Blk.renode {W : World} {B : Nat} {o0 : Own} {L0 : Value} {t : TypeId} (h : Blk W B (nodeC o0 L0) t) (o : Own) (L : Value) :
    Blk (((((((W.setCell ⟨B, 0, none⟩ (.int .i64 o.kind)).setCell ⟨B, 1, none⟩ (.string o.s)).setCell ⟨B, 2, none⟩ (.string o.t)).setCell ⟨B, 3, none⟩ (.int .i64 o.n)).setCell ⟨B, 4, none⟩ (.int .i64 o.m)).setCell ⟨B, 5, none⟩ (.bool o.flag)).setCell ⟨B, 6, none⟩ L) B (nodeC o L) t := by
  have R0 := Blk.set (cs' := #[.int .i64 o.kind, .string o0.s, .string o0.t, .int .i64 o0.n, .int .i64 o0.m, .bool o0.flag, L0]) h 0 (.int .i64 o.kind) rfl
  have R1 := Blk.set (cs' := #[.int .i64 o.kind, .string o.s, .string o0.t, .int .i64 o0.n, .int .i64 o0.m, .bool o0.flag, L0]) R0 1 (.string o.s) rfl
  have R2 := Blk.set (cs' := #[.int .i64 o.kind, .string o.s, .string o.t, .int .i64 o0.n, .int .i64 o0.m, .bool o0.flag, L0]) R1 2 (.string o.t) rfl
  have R3 := Blk.set (cs' := #[.int .i64 o.kind, .string o.s, .string o.t, .int .i64 o.n, .int .i64 o0.m, .bool o0.flag, L0]) R2 3 (.int .i64 o.n) rfl
  have R4 := Blk.set (cs' := #[.int .i64 o.kind, .string o.s, .string o.t, .int .i64 o.n, .int .i64 o.m, .bool o0.flag, L0]) R3 4 (.int .i64 o.m) rfl
  have R5 := Blk.set (cs' := #[.int .i64 o.kind, .string o.s, .string o.t, .int .i64 o.n, .int .i64 o.m, .bool o.flag, L0]) R4 5 (.bool o.flag) rfl
  have R6 := Blk.set (cs' := #[.int .i64 o.kind, .string o.s, .string o.t, .int .i64 o.n, .int .i64 o.m, .bool o.flag, L]) R5 6 (L) rfl
  exact R6
def Sized (S : Ar) : Prop := ∀ i, i < S.n → (S.o i).s.size ≤ 281474976710656 ∧ (S.o i).t.size ≤ 281474976710656

set_option maxHeartbeats 2000000 in
theorem get_in {w : World} {A g cap : Nat} {S : Ar} (h : AR w A g cap S) {i : Nat} (hi : i < S.n) (hs : Sized S) :
    Calls Try.prog 23 #[ptr A, .int .i64 i] w fun e w' => e = .returned (nodeV (S.o i) (.slice none 0 0)) ∧ Below w.heap.size w w' := by
  have hb0 : Below w.heap.size w (w.alloc (.cells (nodeC nilO (.slice none 0 0)) 24)) := (Below.refl _ w).alloc (Nat.le_refl _) _
  have h0 := h.below hb0
  have HL := Lib.hid (has_any h0 i)
  rw [in_true ⟨by omega, by omega⟩] at HL
  have HS := Lib.hid (fun W => bare_any (S.o i) none 0 0 W (hs i hi).1 (hs i hi).2)
  have HB := Lib.hid (Blk.new w (nodeC nilO (.slice none 0 0)) 24)
  have HB0 := Lib.hid hb0
  have cA := h.cellA
  have hA := h.ltA
  have hg := h.ltg
  have c0 : w.cell? ⟨g, i * 12, none⟩ = _ := h.cellg (j := 0) hi (by omega)
  have c1 : w.cell? ⟨g, i * 12 + 1, none⟩ = _ := h.cellg (j := 1) hi (by omega)
  have c2 : w.cell? ⟨g, i * 12 + 2, none⟩ = _ := h.cellg (j := 2) hi (by omega)
  have c3 : w.cell? ⟨g, i * 12 + 3, none⟩ = _ := h.cellg (j := 3) hi (by omega)
  have c4 : w.cell? ⟨g, i * 12 + 4, none⟩ = _ := h.cellg (j := 4) hi (by omega)
  have c5 : w.cell? ⟨g, i * 12 + 5, none⟩ = _ := h.cellg (j := 5) hi (by omega)
  have c6 : w.cell? ⟨g, i * 12 + 6, none⟩ = _ := h.cellg (j := 6) hi (by omega)
  unfold Ar.cell at c0 c1 c2 c3 c4 c5 c6
  have b1 : (i : Int) < (S.n : Int) := by omega
  clear hb0 h0 hs
  unfold ptr nodeC nilO at HL
  unfold nodeV at HS
  unfold ptr nodeV
  generalize S.o i = o at *
  go_enter Try.func23, Try.ntmps23
  go_wp2_with fail
  refine HL.out.mono ?_
  rintro e w1 ⟨rfl, rfl⟩
  go_wp2_with fail
  refine (HS.out _).mono ?_
  rintro e w2 ⟨rfl, hb2⟩
  have K : Blk w2 w.heap.size _ _ := HB.out.below hb2
  have hbw2 : Below w.heap.size w w2 := below_later HB0.out hb2
  have d0 : w2.cell? ⟨w.heap.size, 0, none⟩ = _ := K.node.c0
  have d1 : w2.cell? ⟨w.heap.size, 1, none⟩ = _ := K.node.c1
  have d2 : w2.cell? ⟨w.heap.size, 2, none⟩ = _ := K.node.c2
  have d3 : w2.cell? ⟨w.heap.size, 3, none⟩ = _ := K.node.c3
  have d4 : w2.cell? ⟨w.heap.size, 4, none⟩ = _ := K.node.c4
  have d5 : w2.cell? ⟨w.heap.size, 5, none⟩ = _ := K.node.c5
  have d6 : w2.cell? ⟨w.heap.size, 6, none⟩ = _ := K.node.c6
  have fk := fun k => K.fr k
  have HK := Lib.hid K
  clear K cA c0 c1 c2 c3 c4 c5 c6
  go_wp2
  refine bodyPost_ret (v := nodeV o (.slice none 0 0)) (results_cell_row rfl _ _ w.heap.size _ (nodeC o (.slice none 0 0)) (0, 0) _ rfl (HK.out.renode o (.slice none 0 0)) Try.underlying24 rfl infoNode) rfl ⟨rfl, ?_⟩
  iterate 7 (refine Below.setCell ?_ (by exact Nat.le_refl _) _)
  exact hbw2

set_option maxHeartbeats 1000000 in
theorem get_zero {w : World} {pv : Value} {id : Int} (HL : Hid (∀ W, Below w.heap.size w W → Calls Try.prog 44 #[pv, .int .i64 id] W fun e w' => e = .returned (.bool false) ∧ W = w')) (hp : ∃ a, pv = .pointer a) :
    Calls Try.prog 23 #[pv, .int .i64 id] w fun e w' => e = .returned (nodeV nilO (.slice none 0 0)) ∧ Below w.heap.size w w' := by
  obtain ⟨a, rfl⟩ := hp
  have hb0 : Below w.heap.size w (w.alloc (.cells (nodeC nilO (.slice none 0 0)) 24)) := (Below.refl _ w).alloc (Nat.le_refl _) _
  have HB := Lib.hid (Blk.new w (nodeC nilO (.slice none 0 0)) 24)
  have HB0 := Lib.hid hb0
  have HL2 := Lib.hid (HL.out _ hb0)
  clear HL hb0
  unfold nodeC nilO at HL2
  unfold nodeV nilO
  go_enter Try.func23, Try.ntmps23
  go_wp2_with fail
  refine HL2.out.mono ?_
  rintro e w1 ⟨rfl, rfl⟩
  go_wp2
  refine bodyPost_ret (v := nodeV nilO (.slice none 0 0)) (results_cell_row rfl _ _ w.heap.size _ (nodeC nilO (.slice none 0 0)) (0, 0) _ rfl HB.out Try.underlying24 rfl infoNode) rfl ⟨rfl, HB0.out⟩
theorem get_out {w : World} {A g cap : Nat} {S : Ar} (h : AR w A g cap S) {id : Int} (hi : ¬ (0 ≤ id ∧ id < (S.n : Int))) :
    Calls Try.prog 23 #[ptr A, .int .i64 id] w fun e w' => e = .returned (nodeV nilO (.slice none 0 0)) ∧ Below w.heap.size w w' :=
  get_zero (Lib.hid fun W hW => by have := has_any (h.below hW) id; rwa [in_false hi] at this) ⟨_, rfl⟩
theorem get_nil (w : World) (id : Int) :
    Calls Try.prog 23 #[.pointer none, .int .i64 id] w fun e w' => e = .returned (nodeV nilO (.slice none 0 0)) ∧ Below w.heap.size w w' :=
  get_zero (Lib.hid fun W hW => has_nil W id) ⟨_, rfl⟩
end Tr
end Go.Proofs.Ytlpfffioidbkeaa
