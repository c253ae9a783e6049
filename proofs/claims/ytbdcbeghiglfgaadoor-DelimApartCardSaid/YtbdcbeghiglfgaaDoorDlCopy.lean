/- Layer 13: rows that are copied, and written into. -/
import Derived.Test.YtbdcbeghiglfgaaDoorDlIn
import Derived.Laws.OwnMore
import Derived.Laws.AppendOwnNone
import Derived.Deep.AppendLies
namespace Go.Proofs.YtbdcbeghiglfgaaDoor
open Go Go.RowKit
namespace Dl
set_option maxRecDepth 100000
set_option linter.unusedVariables false
set_option linter.unusedSimpArgs false

theorem infoDRun : (Tryd.prog.info? 28).map (fun i => (i.zero, i.size, i.bytes)) = some (some (.agg (runE ⟨0, 0, false, false⟩).toArray), 4, 24) := by kernel_rfl
theorem grown_refl (w : World) (row : Option Nat) : w.grownBy w row := ⟨rfl, rfl, rfl, Nat.le_refl _, fun _ _ _ => rfl⟩
abbrev OwnR (w : World) (base : Nat) (v : Value) (l : List Rn) : Prop := OwnG runE 4 28 w base v l
theorem own_empty (w : World) {B : Nat} (hB : B ≤ w.heap.size) : OwnR (w.alloc (.cells #[] 28)) B (.slice (some ⟨w.heap.size, 0, none⟩) 0 0) [] :=
  World.ownsRow_lit w #[] 0 hB (Nat.zero_le _) rfl
/-- The cells of a row that lies anywhere, in a row. -/
theorem Runs.flat {w : World} {b off n cap : Nat} {l : List Rn} (hc : ∀ (i : Nat) (h : Rn), l[i]? = some h → AtG runE w b (off + i * 4) h) :
    ∀ j u, (rowG runE l)[j]? = some u → w.cell? ((⟨b, off, none⟩ : Addr).add j) = some u := by
  induction l generalizing off with
  | nil => intro j u h; simp [rowG] at h
  | cons x r ih =>
    intro j u h
    rw [show rowG runE (x :: r) = runE x ++ rowG runE r by simp [rowG]] at h
    by_cases hj : j < 4
    · rw [List.getElem?_append_left (by rw [runE_len]; exact hj)] at h
      have := hc 0 x rfl j u h
      rw [add_off]
      rwa [Nat.zero_mul, Nat.add_zero] at this
    · rw [List.getElem?_append_right (by rw [runE_len]; omega), runE_len] at h
      have := ih (off := off + 4) (fun i y hy => by
        have := hc (i + 1) y hy
        rwa [show off + (i + 1) * 4 = off + 4 + i * 4 by omega] at this) _ _ h
      rw [add_off] at this ⊢
      rwa [show off + 4 + (j - 4) = off + j by omega] at this
/-- append(row of one's own, rows that lie elsewhere...). -/
theorem wp_copy {w : World} {ops : Array Oper} {rest : List Oper} {o : Oper} {a : Act} {Q : Exit → Act → World → Prop} (hgd : o.guard = none) (s x : Operand)
    (ho : o.op = .call { callee := .builtin .append, args := #[s, x], argTypes := #[26, 26] })
    (base : Nat) (u : Value) (xs : List Rn) (hs : a.eval s = u) (hown : OwnR w base u xs) (v : Value) (l : List Rn) (hx : a.eval x = v) (hR : RunsIn w v l) (hlen : xs.length + l.length ≤ 100000) (hbase : base ≤ w.heap.size)
    (h : ∀ u' w', OwnR w' base u' (xs ++ l) → w.grownBy w' u.ownBlock → wpList Tryd.prog ops Q rest (a.put o.dst u') w') : wpList Tryd.prog ops Q (o :: rest) a w := by
  obtain ⟨iN, hi, hz0, hz1, hz2⟩ := info_parts infoDRun
  obtain ⟨⟨ad, cap, rfl, hlm, hk⟩, hnil⟩ := hR
  have fin : ∀ u' w', w'.ownsRow base 28 4 u' (xs.length + l.length) (rowG runE xs ++ rowG runE l) → w.grownBy w' u.ownBlock → wpList Tryd.prog ops Q rest (a.put o.dst u') w' := fun u' w' ho' hg' =>
    h u' w' (by unfold OwnR OwnG; rw [rowG_append, List.length_append]; exact ho') hg'
  rcases hk with rfl | ⟨b, off, rfl, hc⟩
  · cases ad with
    | none =>
      obtain rfl := hnil 0 cap rfl
      refine wpList_append_own_none hgd s x 26 ho base 28 iN 4 Tryd.underlying26 hi u xs.length (rowG runE xs) hs hown hx ?_
      exact fin u w (by unfold OwnR OwnG at hown; simpa [rowG] using hown) (grown_refl _ _)
    | some ad =>
      exact wpList_append_own w hgd s x 26 ho base 28 iN (.agg (runE ⟨0, 0, false, false⟩).toArray) 4 24 Tryd.underlying26 hi hz0 hz1 hz2 rfl (by decide) u xs.length (rowG runE xs) hs hown ad 0 cap [] hx rfl (fun _ _ h => by cases h) (fun _ h => by cases h) (by unfold maxLen; simp at hlen; omega) (by simp at hlen; omega) hbase
        fun v' w' h1 h2 _ => fin v' w' h1 h2
  · exact wpList_append_own w hgd s x 26 ho base 28 iN (.agg (runE ⟨0, 0, false, false⟩).toArray) 4 24 Tryd.underlying26 hi hz0 hz1 hz2 rfl (by decide) u xs.length (rowG runE xs) hs hown ⟨b, off, none⟩ l.length cap (rowG runE l) hx (rowG_len runE_len l) (Runs.flat (n := 0) (cap := 0) hc) (rowG_one runE_one l) (by unfold maxLen; omega) (by omega) hbase
      fun v' w' h1 h2 _ => fin v' w' h1 h2
theorem rowG_set : ∀ {l : List Rn} {i j : Nat} {x x' : Rn} {u : Value}, l[i]? = some x → j < 4 → runE x' = (runE x).set j u → (rowG runE l).set (i * 4 + j) u = rowG runE (l.set i x')
  | [], i, j, x, x', u, h, _, _ => by simp at h
  | y :: r, 0, j, x, x', u, h, hj, he => by
    simp at h; subst h
    rw [show rowG runE (y :: r) = runE y ++ rowG runE r by simp [rowG], Nat.zero_mul, Nat.zero_add, List.set_append_left _ _ (by rw [runE_len]; exact hj), ← he]
    simp [rowG]
  | y :: r, i + 1, j, x, x', u, h, hj, he => by
    rw [show rowG runE (y :: r) = runE y ++ rowG runE r by simp [rowG], List.set_append_right _ _ (by rw [runE_len]; omega), runE_len, show (i + 1) * 4 + j - 4 = i * 4 + j by omega, rowG_set (by simpa using h) hj he]
    simp [rowG]
/-- One field of one run is written. -/
theorem OwnR.put {w : World} {B g cap n : Nat} {l : List Rn} {i : Nat} {x : Rn} (h : OwnR w B (.slice (some ⟨g, 0, none⟩) n cap) l) (hn : l.length = n) (hx : l[i]? = some x) (j : Nat) (hj : j < 4) (u : Value) (x' : Rn) (he : runE x' = (runE x).set j u) :
    OwnR (w.setCell ⟨g, i * 4 + j, none⟩ u) B (.slice (some ⟨g, 0, none⟩) n cap) (l.set i x') := by
  subst hn
  have h1 := (World.ownsRow.stored h (i * 4 + j) u).1
  unfold OwnR OwnG
  rw [List.length_set, ← rowG_set hx hj he]
  exact h1
theorem OwnR.other {w : World} {B : Nat} {v : Value} {l : List Rn} (h : OwnR w B v l) {a : Addr} (ha : a.block < B ∨ v.ownBlock ≠ some a.block) (u : Value) : OwnR (w.setCell a u) B v l := by
  rcases ha with ha | ha
  · exact ownsRow_setCell_below h ha u
  · exact ownsRow_setCell_other h ha u
theorem OwnR.first {w : World} {B n cap : Nat} {a : Option Addr} {l : List Rn} (h : OwnR w B (.slice a n cap) l) (h0 : 0 < l.length) : ∃ g, a = some ⟨g, 0, none⟩ ∧ B ≤ g ∧ g < w.heap.size := by
  obtain ⟨g, c, e, h1, h2⟩ := World.ownsRow.form h h0
  injection e with e1 e2 e3
  exact ⟨g, e1, h1, h2⟩
theorem OwnR.cellsAt {w : World} {B g n cap : Nat} {l : List Rn} {i : Nat} {x : Rn} (h : OwnR w B (.slice (some ⟨g, 0, none⟩) n cap) l) (hx : l[i]? = some x) : w.cell? ⟨g, i * 4, none⟩ = some (.int .u8 (x.c.toNat : Int)) ∧ w.cell? ⟨g, i * 4 + 1, none⟩ = some (.int .i64 x.n) ∧ w.cell? ⟨g, i * 4 + 2, none⟩ = some (.bool x.o) ∧ w.cell? ⟨g, i * 4 + 3, none⟩ = some (.bool x.k) := by
  have hc := World.ownsRow.cells h (g := g) rfl
  have key : ∀ j u, (runE x)[j]? = some u → w.cell? ⟨g, i * 4 + j, none⟩ = some u := fun j u hj => by
    have := hc _ _ (rowG_get runE_len hx j u hj)
    rwa [add_off, Nat.zero_add] at this
  exact ⟨key 0 _ rfl, key 1 _ rfl, key 2 _ rfl, key 3 _ rfl⟩
theorem rn_set {l : List Rn} {i j : Nat} {x : Rn} (hi : i < l.length) : rn (l.set i x) j = if j = i then x else rn l j := by
  unfold rn
  rw [List.getD_eq_getElem?_getD, List.getD_eq_getElem?_getD, List.getElem?_set]
  by_cases h : i = j
  · rw [if_pos h, if_pos h.symm, if_pos hi]; rfl
  · rw [if_neg h, if_neg (fun e => h e.symm)]
end Dl
end Go.Proofs.YtbdcbeghiglfgaaDoor
