/- Layer 6: the reference's Add. -/
import Derived.Test.YtlpfffioidbkeaaTreeLL
namespace Go.Proofs.Ytlpfffioidbkeaa
open Go Go.RowKit
namespace Tr
set_option maxRecDepth 100000
set_option linter.unusedVariables false
set_option linter.unusedSimpArgs false

section
variable {w : World} {R h cap n : Nat} {o : Nat → Own} {kv : Value} {K : List (Nat × Nat)}
theorem RR.owns (H : RR w R h cap n o kv K) :
    ∃ xs, w.ownsRow 0 24 7 (.slice (some ⟨h, 0, none⟩) n cap) n xs ∧ xs.length = n * 7 ∧ ∀ i, i < n → ∀ j, j < 7 → xs[i * 7 + j]? = (nodeC (o i) (.slice none 0 0))[j]? := by
  obtain ⟨cur, hc, hs, hcell⟩ := H.hh
  have hle := H.hle
  have hl : (cur.toList.take (n * 7)).length = n * 7 := by
    have : n * 7 ≤ cap * 7 := Nat.mul_le_mul_right 7 hle
    simp; omega
  refine ⟨cur.toList.take (n * 7), ⟨hl, .inr ⟨h, cap, cur, rfl, Nat.zero_le _, hc, hle, H.hcap, hs, rfl⟩⟩, hl, ?_⟩
  intro i hi j hj
  rw [List.getElem?_take_of_lt (by omega)]
  simpa using hcell i hi j hj
theorem RR.after (H : RR w R h cap n o kv K) {w1 w3 : World} (hb : Below w.heap.size w w1) (hg : w1.grownBy w3 (Value.ownBlock (.slice (some ⟨h, 0, none⟩) n cap))) : Blk w3 R #[.slice (some ⟨h, 0, none⟩) n cap, kv] 39 := by
  have hA := H.ltR
  have hs := hb.size
  show w3.heap[R]? = _
  rw [hg.block R (by omega) (by simp only [Value.ownBlock]; intro e; injection e with e; exact H.ne e), hb.block R hA]
  exact H.hR
theorem RR.grown (H : RR w R h cap n o kv K) {xs : List Value} (hl : xs.length = n * 7) (hx : ∀ i, i < n → ∀ j, j < 7 → xs[i * 7 + j]? = (nodeC (o i) (.slice none 0 0))[j]?) (q : Own) {w1 w3 : World} {g cp : Nat}
    (hb : Below w.heap.size w w1) (hown : w3.ownsRow 0 24 7 (.slice (some ⟨g, 0, none⟩) (n + 1) cp) (n + 1) (xs ++ (nodeC nilO (.slice none 0 0)).toList))
    (hg : w1.grownBy w3 (Value.ownBlock (.slice (some ⟨h, 0, none⟩) n cap))) (hat : Value.ownBlock (.slice (some ⟨h, 0, none⟩) n cap) = some g ∨ g = w1.heap.size) :
    RR ((((((((w3.setCell ⟨g, n * 7, none⟩ (.int .i64 q.kind)).setCell ⟨g, n * 7 + 1, none⟩ (.string q.s)).setCell ⟨g, n * 7 + 2, none⟩ (.string q.t)).setCell ⟨g, n * 7 + 3, none⟩ (.int .i64 q.n)).setCell ⟨g, n * 7 + 4, none⟩ (.int .i64 q.m)).setCell ⟨g, n * 7 + 5, none⟩ (.bool q.flag)).setCell ⟨g, n * 7 + 6, none⟩ (.slice none 0 0)).setCell ⟨R, 0, none⟩ (.slice (some ⟨g, 0, none⟩) (n + 1) cp)) R g cp (n + 1) (upd o n q) kv K ∧ (g = h ∨ w.heap.size ≤ g) ∧
    Only (three R h kv) w ((((((((w3.setCell ⟨g, n * 7, none⟩ (.int .i64 q.kind)).setCell ⟨g, n * 7 + 1, none⟩ (.string q.s)).setCell ⟨g, n * 7 + 2, none⟩ (.string q.t)).setCell ⟨g, n * 7 + 3, none⟩ (.int .i64 q.n)).setCell ⟨g, n * 7 + 4, none⟩ (.int .i64 q.m)).setCell ⟨g, n * 7 + 5, none⟩ (.bool q.flag)).setCell ⟨g, n * 7 + 6, none⟩ (.slice none 0 0)).setCell ⟨R, 0, none⟩ (.slice (some ⟨g, 0, none⟩) (n + 1) cp)) := by
  have hA := H.ltR
  have hh := H.lth
  have hs := hb.size
  have hgg : g = h ∨ w.heap.size ≤ g := by
    rcases hat with e | e
    · simp only [Value.ownBlock] at e; injection e with e; exact .inl e.symm
    · exact .inr (by omega)
  have hne : R ≠ g := by
    rcases hgg with e | e
    · rw [e]; exact H.ne
    · omega
  have hkg : ∀ k, kv.ownBlock = some k → k ≠ g := fun k hk => by
    have := H.ltk hk
    have := (H.neK k hk).2
    rcases hgg with e | e <;> omega
  have o2 : Only (three R h kv) w w3 := (Only.of_below hb).trans' ⟨hg.os, hg.tape, hg.output, hg.size, fun k hk hx => hg.block k hk (by simp only [Value.ownBlock]; intro e; injection e with e; exact hx (.inr (.inl e)))⟩
  have hRb := H.after hb hg
  rcases hown.2 with ⟨h0, _⟩ | ⟨g2, cap2, cur, hv, _, hc, hle, hcm, hsz, ht⟩
  · cases h0
  injection hv with hv1 _ hv3
  injection hv1 with hv1
  injection hv1 with hv1
  subst hv1 hv3
  have hbn : n * 7 + 7 ≤ cur.size := by
    have : (n + 1) * 7 ≤ cp * 7 := Nat.mul_le_mul_right 7 (by omega)
    omega
  refine ⟨⟨hne, ?_, hle, hcm, ⟨_, (heap_setCell_other _ _ _ _ (fun e => hne e.symm)).trans (heap_setCell_same _ g _ _ _ _ (heap_setCell_same _ g _ _ _ _ (heap_setCell_same _ g _ _ _ _ (heap_setCell_same _ g _ _ _ _ (heap_setCell_same _ g _ _ _ _ (heap_setCell_same _ g _ _ _ _ (heap_setCell_same w3 g _ cur _ _ hc))))))), by simpa using hsz, ?_⟩, ?_, fun k hk => ⟨(H.neK k hk).1, hkg k hk⟩⟩, hgg, ?_⟩
  · refine heap_setCell_same _ R 0 #[.slice (some ⟨h, 0, none⟩) n cap, kv] _ _ ?_
    iterate 7 rw [heap_setCell_other _ _ _ _ hne]
    exact hRb
  · skip
    intro i hi j hj
    by_cases e : i = n
    · subst e
      rw [upd_same]
      match j with
      | 0 | 1 | 2 | 3 | 4 | 5 | 6 => simp [Array.getElem?_setIfInBounds, nodeC]; omega
      | j + 7 => omega
    · rw [upd_other _ _ e, ← hx i (by omega) j hj]
      have e2 : cur[i * 7 + j]? = (xs ++ (nodeC nilO (.slice none 0 0)).toList)[i * 7 + j]? := by
        rw [← ht, List.getElem?_take_of_lt (by omega)]; simp
      rw [List.getElem?_append_left (by omega)] at e2
      rw [← e2]
      simp only [Array.getElem?_setIfInBounds]
      iterate 7 rw [if_neg (by omega)]
  · have lt := fun k => H.hk.lt k
    refine owns_other ?_ _ (fun k hk => (H.neK k hk).1)
    iterate 7 refine owns_other ?_ _ (fun k hk => hkg k hk)
    refine ⟨H.hk.1, ?_⟩
    rcases H.hk.2 with e | ⟨b, c2, cu, e1, e2, e3, e4⟩
    · exact .inl e
    · have hob : kv.ownBlock = some b := by rw [e1]; rfl
      have hlt := H.ltk hob
      refine .inr ⟨b, c2, cu, e1, e2, ?_, e4⟩
      rw [hg.block b (by omega) (by simp only [Value.ownBlock]; intro e; injection e with e; exact (H.neK b hob).2 e), hb.block b hlt]
      exact e3
  · have key : ∀ (W : World) (p : Addr) (u : Value), Only (three R h kv) w W → p.block = g → Only (three R h kv) w (W.setCell p u) := fun W p u hW hp => by
      rcases hgg with e | e
      · exact hW.setCell (.inr (.inl (hp.trans e))) u
      · exact ⟨hW.os, hW.tape, hW.output, by simpa using hW.size, fun k hk hx => (Below.heap_setCell _ _ _ _ (by omega)).trans (hW.block k hk hx)⟩
    refine Only.setCell ?_ (.inl rfl) _
    iterate 7 refine key _ _ _ ?_ rfl
    exact o2
theorem new_cells {W : World} {g cp : Nat} {xs : List Value} (hl : xs.length = n * 7) (hown : W.ownsRow 0 24 7 (.slice (some ⟨g, 0, none⟩) (n + 1) cp) (n + 1) (xs ++ (nodeC nilO (.slice none 0 0)).toList)) : CellsAt W g (n * 7) nilO (.slice none 0 0) ∧ ∀ k, W.frozen? ⟨g, k, none⟩ = false := by
  have hc := hown.cells (g := g) rfl
  have key : ∀ j v, (nodeC nilO (.slice none 0 0)).toList[j]? = some v → W.cell? ⟨g, n * 7 + j, none⟩ = some v := fun j v hj => by
    have := hc (n * 7 + j) v (by rw [List.getElem?_append_right (by omega), show n * 7 + j - xs.length = j by omega]; exact hj)
    rwa [add_off, Nat.zero_add] at this
  refine ⟨⟨key 0 _ rfl, key 1 _ rfl, key 2 _ rfl, key 3 _ rfl, key 4 _ rfl, key 5 _ rfl, key 6 _ rfl⟩, fun k => ?_⟩
  rcases hown.2 with ⟨h0, _⟩ | ⟨g2, cap2, cur, hv, _, hcc, _⟩
  · cases h0
  injection hv with hv1 _ _
  injection hv1 with hv1
  injection hv1 with hv1
  subst hv1
  exact frozen_of_row W g k _ _ hcc
theorem radd_out (H : RR w R h cap n o kv K) {id : Int} (hi : ¬ (0 ≤ id ∧ id < (n : Int))) (q : Own) (a : Option Addr) (len cp : Nat) :
    Calls Try.prog 14 #[ptr R, .int .i64 id, nodeV q (.slice a len cp)] w fun e w' => e = .returned (.int .i64 (-1)) ∧ Below w.heap.size w w' := by
  have hb0 : Below w.heap.size w (w.alloc (.cells (nodeC q (.slice a len cp)) 24)) := (Below.refl _ w).alloc (Nat.le_refl _) _
  have HL := Lib.hid (rhas_any (H.below hb0) id)
  rw [in_false hi] at HL
  unfold ptr nodeC at HL
  clear hi hb0
  unfold ptr nodeV
  go_enter Try.func14, Try.ntmps14
  go_wp2_with fail
  refine HL.out.mono ?_
  rintro e w1 ⟨rfl, rfl⟩
  go_wp2
  go_ret
  exact ⟨rfl, (Below.refl _ w).alloc (Nat.le_refl _) _⟩
end
theorem setCell_comm (w : World) (p q : Addr) (u v : Value) (hne : p.block ≠ q.block) : (w.setCell p u).setCell q v = (w.setCell q v).setCell p u := by
  unfold World.setCell
  dsimp only
  congr 1
  apply Array.ext_getElem?
  intro k
  simp only [Array.getElem?_modify]
  by_cases h1 : q.block = k
  · have h2 : ¬ p.block = k := fun e => hne (e.trans h1.symm)
    simp [h1, h2]
  · by_cases h2 : p.block = k
    · simp [h1, h2]
    · simp [h1, h2]
theorem setCell_last (w : World) (p : Addr) (u : Value) (q0 q1 q2 q3 q4 q5 q6 : Addr) (v0 v1 v2 v3 v4 v5 v6 : Value) (h0 : p.block ≠ q0.block) (h1 : p.block ≠ q1.block) (h2 : p.block ≠ q2.block) (h3 : p.block ≠ q3.block) (h4 : p.block ≠ q4.block) (h5 : p.block ≠ q5.block) (h6 : p.block ≠ q6.block) :
    (((((((w.setCell p u).setCell q0 v0).setCell q1 v1).setCell q2 v2).setCell q3 v3).setCell q4 v4).setCell q5 v5).setCell q6 v6 = (((((((w.setCell q0 v0).setCell q1 v1).setCell q2 v2).setCell q3 v3).setCell q4 v4).setCell q5 v5).setCell q6 v6).setCell p u := by
  rw [setCell_comm w p q0 u v0 h0, setCell_comm _ p q1 u v1 h1, setCell_comm _ p q2 u v2 h2, setCell_comm _ p q3 u v3 h3, setCell_comm _ p q4 u v4 h4, setCell_comm _ p q5 u v5 h5, setCell_comm _ p q6 u v6 h6]
end Tr
end Go.Proofs.Ytlpfffioidbkeaa
