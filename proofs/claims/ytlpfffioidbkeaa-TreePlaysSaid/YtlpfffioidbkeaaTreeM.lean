/- Layer 6: whole, Tree. -/
import Derived.Test.YtlpfffioidbkeaaTreeL
namespace Go.Proofs.Ytlpfffioidbkeaa
open Go Go.RowKit
namespace Tr
set_option maxRecDepth 100000
set_option linter.unusedVariables false
set_option linter.unusedSimpArgs false

def opt : Option Nat → Int | some x => x | none => -1
/-- Whose children are which, as the numbers beside each node say it. -/
structure Kids (S : Ar) (ch : Nat → List Nat) : Prop where
  lt : ∀ p, p < S.n → ∀ c ∈ ch p, c < S.n
  first : ∀ p, p < S.n → S.first p = opt (ch p)[0]?
  behind : ∀ p, p < S.n → ∀ i c, (ch p)[i]? = some c → S.behind c = opt (ch p)[i + 1]?
  few : ∀ p, p < S.n → (ch p).length ≤ 1000000000
/-- The tree of a node, so many levels of it. -/
def tr (o : Nat → Own) (ch : Nat → List Nat) : Nat → Nat → Tree
  | 0, id => .mk (o id) []
  | f + 1, id => .mk (o id) ((ch id).map (tr o ch f))
theorem tr_own (o : Nat → Own) (ch : Nat → List Nat) (f id : Nat) : (tr o ch f id).own = o id := by cases f <;> rfl

/-- A node of the call's own, whose row grows. -/
def Grow (w : World) (N : Nat) (o : Own) (ts : List Tree) : Prop :=
  ∃ v xs, Blk w N (nodeC o v) 24 ∧ w.ownsRow (N + 1) 24 7 v ts.length xs ∧ Rows w (fun b => N < b ∧ v.ownBlock ≠ some b) ts xs
theorem Grow.keep {w w' : World} {N : Nat} {o : Own} {ts : List Tree} (h : Grow w N o ts) (hb : Below w.heap.size w w') : Grow w' N o ts := by
  obtain ⟨v, xs, h1, h2, h3⟩ := h
  exact ⟨v, xs, h1.below hb, owns_keep h2 hb, h3.carry (fun _ _ _ h _ => h) (fun b off v hq hcell => keep_cell hb hcell)⟩
theorem Grow.start {w : World} {N : Nat} {o : Own} (h : Blk w N (nodeC o (.slice none 0 0)) 24) : Grow w N o [] :=
  ⟨_, [], h, World.ownsRow_nil _ _ _ _, rfl⟩
theorem nodeC_one (o : Own) (a : Option Addr) (n c : Nat) : ∀ u ∈ (nodeC o (.slice a n c)).toList, u.oneCell' = true := by
  intro u hu
  simp [nodeC] at hu
  rcases hu with rfl | rfl | rfl | rfl | rfl | rfl | rfl <;> rfl
theorem nodeInfo : (Try.prog.info? 24).map (fun i => (i.zero, i.size, i.bytes)) = some (some (.agg (nodeC nilO (.slice none 0 0))), 7, 88) := by kernel_rfl

theorem Blk.grown {w w1 w2 : World} {R base n : Nat} {cs : Array Value} {t e : TypeId} {size : Nat} {v : Value} {xs : List Value} (h : Blk w R cs t) (hR : R < base) (hown : w.ownsRow base e size v n xs) (hb : Below w.heap.size w w1) (hg : w1.grownBy w2 v.ownBlock) : Blk w2 R cs t := by
  have hl := h.lt
  have hs := hb.size
  show w2.heap[R]? = _
  rw [hg.block R (by omega) (fun e => by have := (hown.lt _ e.symm).1; omega), hb.block R hl]
  exact h
/-- One more tree behind the others: behind the append, and the store of the new slice. -/
theorem Grow.more {w w1 w2 : World} {N : Nat} {o : Own} {ts : List Tree} {t : Tree} {v : Value} {xs : List Value} {a1 : Option Addr} {n1 c1 g' cap' : Nat}
    (h1 : Blk w N (nodeC o v) 24) (h2 : w.ownsRow (N + 1) 24 7 v ts.length xs) (h3 : Rows w (fun b => N < b ∧ v.ownBlock ≠ some b) ts xs)
    (hb : Below w.heap.size w w1) (ht : In w1 (fun b => w.heap.size ≤ b) t (.slice a1 n1 c1))
    (hown : w2.ownsRow (N + 1) 24 7 (.slice (some ⟨g', 0, none⟩) (ts.length + 1) cap') (ts.length + 1) (xs ++ (nodeC t.own (.slice a1 n1 c1)).toList))
    (hg : w1.grownBy w2 v.ownBlock) (hat : v.ownBlock = some g' ∨ g' = w1.heap.size) :
    Grow (w2.setCell ⟨N, 6, none⟩ (.slice (some ⟨g', 0, none⟩) (ts.length + 1) cap')) N o (ts ++ [t]) := by
  have hN := h1.lt
  have hv := h2.lt
  have hs := hb.size
  have hv1 : ∀ k, v.ownBlock = some k → N + 1 ≤ k ∧ k < w.heap.size := hv
  have hgN : N + 1 ≤ g' := by
    rcases hat with e | e
    · exact (hv1 _ e).1
    · omega
  have hrows : Rows w1 (fun b => N < b ∧ v.ownBlock ≠ some b) (ts ++ [t]) (xs ++ (nodeC t.own (.slice a1 n1 c1)).toList) := by
    refine Rows.snoc (In.carry_all (fun b off u hq _ => ⟨by have : w.heap.size ≤ b := hq; omega, fun e => by have := (hv1 _ e).2; have : w.heap.size ≤ b := hq; omega⟩) (fun b off u hq hc => hc) t ht) ?_
    exact h3.carry (fun _ _ _ h _ => h) (fun b off u hq hc => keep_cell hb hc)
  have hN2 : Blk w2 N (nodeC o v) 24 := by
    show w2.heap[N]? = _
    rw [hg.block N (by omega) (fun e => by have := (hv1 _ e.symm).1; omega), hb.block N hN]
    exact h1
  refine ⟨.slice (some ⟨g', 0, none⟩) (ts.length + 1) cap', xs ++ (nodeC t.own (.slice a1 n1 c1)).toList, hN2.set 6 _ rfl, ?_, ?_⟩
  · rw [show (ts ++ [t]).length = ts.length + 1 by simp]
    exact owns_set hown (by show N < N + 1; omega) _
  · refine hrows.carry ?_ ?_
    · intro b off u hq hcell
      refine ⟨hq.1, fun e => ?_⟩
      simp only [Value.ownBlock] at e
      injection e with e
      rcases hat with e2 | e2
      · exact hq.2 (by rw [e2, e])
      · have := World.block_lt_of_cell? w1 _ hcell
        have : b < w1.heap.size := this
        omega
    · intro b off u hq hcell
      have hlt : b < w1.heap.size := World.block_lt_of_cell? w1 _ hcell
      rw [World.cell?_of_block (w := w2) (heap_setCell_other _ _ _ _ (by show b ≠ N; have := hq.1; omega))]
      rw [World.cell?_of_block (w := w1) (hg.block b hlt (fun e => hq.2 e.symm))]
      exact hcell
theorem Grow.inn {w : World} {N : Nat} {o : Own} {ts : List Tree} {v : Value} {xs : List Value} (h2 : w.ownsRow (N + 1) 24 7 v ts.length xs) (h3 : Rows w (fun b => N < b ∧ v.ownBlock ≠ some b) ts xs) : In w (fun b => N < b) (.mk o ts) v :=
  In.of_rows h2 (h3.carry (fun b off u hq _ => hq.1) (fun b off u hq hc => hc)) rfl (fun b hb => by omega)
/-- A node that is laid over another block leaves a tree as it was. -/
theorem In.renode {w : World} {Q : Nat → Prop} {T : Tree} {v : Value} {R : Nat} (h : In w Q T v) (hR : ∀ b, Q b → b ≠ R) (o : Own) (L : Value) :
    In (((((((w.setCell ⟨R, 0, none⟩ (.int .i64 o.kind)).setCell ⟨R, 1, none⟩ (.string o.s)).setCell ⟨R, 2, none⟩ (.string o.t)).setCell ⟨R, 3, none⟩ (.int .i64 o.n)).setCell ⟨R, 4, none⟩ (.int .i64 o.m)).setCell ⟨R, 5, none⟩ (.bool o.flag)).setCell ⟨R, 6, none⟩ L) Q T v := by
  refine In.carry_all (fun _ _ _ h _ => h) (fun b off u hq hc => ?_) T h
  have hne := hR b hq
  rw [World.cell?_of_block (w := w)]
  · exact hc
  · iterate 7 (rw [heap_setCell_other _ _ _ _ (by exact hne)])
end Tr
end Go.Proofs.Ytlpfffioidbkeaa
