/- Layer 6: the reference's arena in memory; Has, Parent. -/
import Derived.Test.YtlpfffioidbkeaaTreeFF
namespace Go.Proofs.Ytlpfffioidbkeaa
open Go Go.RowKit
namespace Tr
set_option maxRecDepth 100000
set_option linter.unusedVariables false
set_option linter.unusedSimpArgs false

/-- Pairs one behind the other. -/
def prs : List (Nat × Nat) → List Value
  | [] => []
  | p :: l => .int .i64 (p.1 : Int) :: .int .i64 (p.2 : Int) :: prs l
theorem prs_len : ∀ l, (prs l).length = l.length * 2
  | [] => rfl
  | p :: l => by simp [prs, prs_len l]; omega
theorem prs_append : ∀ l m, prs (l ++ m) = prs l ++ prs m
  | [], m => rfl
  | p :: l, m => by simp [prs, prs_append l m]
theorem prs_get : ∀ {l : List (Nat × Nat)} {i : Nat} {p : Nat × Nat}, l[i]? = some p → (prs l)[i * 2]? = some (.int .i64 (p.1 : Int)) ∧ (prs l)[i * 2 + 1]? = some (.int .i64 (p.2 : Int))
  | [], i, p, h => by simp at h
  | q :: l, 0, p, h => by simp at h; subst h; exact ⟨rfl, rfl⟩
  | q :: l, i + 1, p, h => by
    have := prs_get (l := l) (i := i) (p := p) (by simpa using h)
    rw [show (i + 1) * 2 = i * 2 + 1 + 1 by omega]
    simpa [prs] using this
/-- How the reference's arena lies: its own block, that of its nodes, and its links. -/
structure RR (w : World) (R h cap : Nat) (n : Nat) (o : Nat → Own) (kv : Value) (K : List (Nat × Nat)) : Prop where
  ne : R ≠ h
  hR : w.heap[R]? = some (.cells #[.slice (some ⟨h, 0, none⟩) n cap, kv] 39 (0, 0))
  hle : n ≤ cap
  hcap : cap ≤ maxLen
  hh : ∃ cur : Array Value, w.heap[h]? = some (.cells cur 24 (0, 0)) ∧ cur.size = cap * 7 ∧ ∀ i, i < n → ∀ j, j < 7 → cur[i * 7 + j]? = (nodeC (o i) (.slice none 0 0))[j]?
  hk : w.ownsRow 0 53 2 kv K.length (prs K)
  neK : ∀ k, kv.ownBlock = some k → k ≠ R ∧ k ≠ h
/-- The blocks of it. -/
def three (R h : Nat) (kv : Value) (k : Nat) : Prop := k = R ∨ k = h ∨ kv.ownBlock = some k
section
variable {w w' : World} {R h cap n : Nat} {o : Nat → Own} {kv : Value} {K : List (Nat × Nat)}
theorem RR.ltR (H : RR w R h cap n o kv K) : R < w.heap.size := (Array.getElem?_eq_some_iff.1 H.hR).1
theorem RR.lth (H : RR w R h cap n o kv K) : h < w.heap.size := by obtain ⟨cur, hc, _⟩ := H.hh; exact (Array.getElem?_eq_some_iff.1 hc).1
theorem RR.ltk (H : RR w R h cap n o kv K) {k : Nat} (hk : kv.ownBlock = some k) : k < w.heap.size := (H.hk.lt k hk).2
theorem RR.keep (H : RR w R h cap n o kv K) (hb : ∀ k, k < w.heap.size → three R h kv k → w'.heap[k]? = w.heap[k]?) : RR w' R h cap n o kv K := by
  refine ⟨H.ne, (hb _ H.ltR (.inl rfl)).trans H.hR, H.hle, H.hcap, ?_, ⟨H.hk.1, ?_⟩, H.neK⟩
  · obtain ⟨cur, hc, r⟩ := H.hh
    exact ⟨cur, (hb _ H.lth (.inr (.inl rfl))).trans hc, r⟩
  · have lt := fun k => H.hk.lt k
    rcases H.hk.2 with e | ⟨g, cp, cur, e1, e2, e3, e4⟩
    · exact .inl e
    · have := (lt g (by rw [e1]; rfl)).2
      exact .inr ⟨g, cp, cur, e1, e2, (hb _ this (.inr (.inr (by rw [e1]; rfl)))).trans e3, e4⟩
theorem RR.below (H : RR w R h cap n o kv K) (hb : Below w.heap.size w w') : RR w' R h cap n o kv K := H.keep fun k hk _ => hb.block k hk
theorem RR.only {X : Nat → Prop} (H : RR w R h cap n o kv K) (hb : Only X w w') (hx : ∀ k, three R h kv k → ¬ X k) : RR w' R h cap n o kv K := H.keep fun k hk ht => hb.block k hk (hx k ht)
theorem RR.cell0 (H : RR w R h cap n o kv K) : w.cell? ⟨R, 0, none⟩ = some (.slice (some ⟨h, 0, none⟩) n cap) := by rw [cell_of_row w R 0 _ _ _ H.hR]; rfl
theorem RR.cell1 (H : RR w R h cap n o kv K) : w.cell? ⟨R, 1, none⟩ = some kv := by rw [cell_of_row w R 1 _ _ _ H.hR]; rfl
theorem RR.fr (H : RR w R h cap n o kv K) (j : Nat) : w.frozen? ⟨R, j, none⟩ = false := frozen_of_row w R j _ _ H.hR
theorem RR.frh (H : RR w R h cap n o kv K) (j : Nat) : w.frozen? ⟨h, j, none⟩ = false := by
  obtain ⟨cur, hc, _⟩ := H.hh
  exact frozen_of_row w h j _ _ hc
theorem RR.node (H : RR w R h cap n o kv K) {i : Nat} (hi : i < n) : CellsAt w h (i * 7) (o i) (.slice none 0 0) := by
  obtain ⟨cur, hc, _, hx⟩ := H.hh
  have key : ∀ j, j < 7 → w.cell? ⟨h, i * 7 + j, none⟩ = (nodeC (o i) (.slice none 0 0))[j]? := fun j hj => by rw [cell_of_row w h _ _ _ _ hc]; exact hx i hi j hj
  exact ⟨key 0 (by omega), key 1 (by omega), key 2 (by omega), key 3 (by omega), key 4 (by omega), key 5 (by omega), key 6 (by omega)⟩
theorem RR.pair (H : RR w R h cap n o kv K) {i : Nat} {p : Nat × Nat} (hi : K[i]? = some p) : ∃ k cp, kv = .slice (some ⟨k, 0, none⟩) K.length cp ∧ w.cell? ⟨k, i * 2, none⟩ = some (.int .i64 (p.1 : Int)) ∧ w.cell? ⟨k, i * 2 + 1, none⟩ = some (.int .i64 (p.2 : Int)) := by
  have hc := fun g => H.hk.cells (g := g)
  rcases H.hk.2 with ⟨_, e⟩ | ⟨g, cp, cur, e1, _⟩
  · have : K = [] := List.length_eq_zero_iff.1 e
    subst this; simp at hi
  · obtain ⟨p1, p2⟩ := prs_get hi
    have q1 := hc g (by rw [e1]; rfl) _ _ p1
    have q2 := hc g (by rw [e1]; rfl) _ _ p2
    rw [add_off] at q1 q2
    rw [Nat.zero_add] at q1 q2
    exact ⟨g, cp, e1, q1, q2⟩
theorem RR.form (H : RR w R h cap n o kv K) : ∃ a cp, kv = .slice a K.length cp := owns_form H.hk
end
section
variable {w : World} {R h cap n : Nat} {o : Nat → Own} {kv : Value} {K : List (Nat × Nat)}
theorem rhas_any (H : RR w R h cap n o kv K) (id : Int) :
    Calls Try.prog 18 #[ptr R, .int .i64 id] w fun e w' => e = .returned (.bool (decide (0 ≤ id) && decide (id < (n : Int)))) ∧ w = w' := by
  have c0 := H.cell0
  clear H
  unfold ptr
  by_cases h0 : 0 ≤ id
  · have h0' : decide (0 ≤ id) = true := by simpa using h0
    rw [h0', Bool.true_and]
    have h1 : decide (id ≥ 0) = true := by simpa using h0
    go_enter Try.func18, Try.ntmps18
    go_wp2
    go_ret
    exact ⟨rfl, rfl⟩
  · have h0' : decide (0 ≤ id) = false := by simpa using h0
    rw [h0', Bool.false_and]
    have h1 : decide (id ≥ 0) = false := by simpa using h0
    go_enter Try.func18, Try.ntmps18
    go_wp2
    go_ret
    exact ⟨rfl, rfl⟩
theorem ret_num {a b : Int} (h : a = b) : Ending.returned (.int .i64 a) = .returned (.int .i64 b) := by rw [h]
/-- Who stands above a number, by the links. -/
def above (K : List (Nat × Nat)) (id : Int) : Int := match K.find? (fun p => (p.2 : Int) == id) with
  | some p => p.1
  | none => -1
set_option maxHeartbeats 4000000 in
theorem rparent_any (H : RR w R h cap n o kv K) (hfew : K.length ≤ 1000000000) (id : Int) :
    Calls Try.prog 25 #[ptr R, .int .i64 id] w fun e w' => e = .returned (.int .i64 (above K id)) ∧ w = w' := by
  have c1 := H.cell1
  have HP := Lib.hid (fun i p hi => H.pair (i := i) (p := p) hi)
  obtain ⟨a, cp, hf⟩ := H.form
  rw [hf] at c1
  obtain ⟨m, hm⟩ : ∃ m, K.length = m := ⟨_, rfl⟩
  rw [hm] at c1 hfew
  have HF := Lib.hid hf
  have HM := Lib.hid hm
  clear H hf hm
  unfold ptr
  go_enter Try.func25, Try.ntmps25
  go_wp2
  go_loopg [5] m (fun G s5 wr => ∃ i : Nat, i + G = m ∧ s5 = .int .i64 i ∧ Hid (above K id = above (K.drop i) id) ∧ w = wr)
  case atStart => exact ⟨0, by omega, rfl, Lib.hid rfl, rfl⟩
  case round =>
    obtain ⟨i, hig, rfl, HT, rfl⟩ := hrel
    cases gk with
    | zero =>
      have hlt : ¬ (i : Int) < (m : Int) := by omega
      have HE : Hid (above K id = -1) := Lib.hid (by rw [HT.out, List.drop_of_length_le (by have := HM.out; omega)]; rfl)
      go_wp2
      go_ret
      exact ⟨ret_num HE.out.symm, rfl⟩
    | succ G =>
      have hlt : (i : Int) < (m : Int) := by omega
      obtain ⟨p, hp⟩ : ∃ p, K[i]? = some p := ⟨_, List.getElem?_eq_getElem (by have := HM.out; omega)⟩
      obtain ⟨k, cp', e1, q1, q2⟩ := HP.out i p hp
      have hd : K.drop i = p :: K.drop (i + 1) := by
        rw [List.getElem?_eq_some_iff] at hp
        obtain ⟨hl, rfl⟩ := hp
        exact List.drop_eq_getElem_cons hl
      have e2 : a = some ⟨k, 0, none⟩ := by
        rw [HF.out] at e1; injection e1
      subst e2
      by_cases hc : (p.2 : Int) = id
      · have hT2 : Hid (above K id = (p.1 : Int)) := Lib.hid (by
          rw [HT.out, hd]; unfold above; rw [List.find?_cons_of_pos (by simpa using hc)])
        have hc1 : ((p.2 : Int) == id) = true := by simpa using hc
        clear hd hp e1
        go_wp2
        go_ret
        exact ⟨ret_num hT2.out.symm, rfl⟩
      · have hT2 : Hid (above K id = above (K.drop (i + 1)) id) := Lib.hid (by
          rw [HT.out, hd]; unfold above; rw [List.find?_cons_of_neg (by simpa using hc)])
        have hc1 : ((p.2 : Int) == id) = false := by simpa using hc
        clear hd hp e1
        go_wp2
        go_roundg G
        case rel => exact ⟨i + 1, by omega, by go_num, hT2, rfl⟩
        case measure => omega
end
end Tr
end Go.Proofs.Ytlpfffioidbkeaa
