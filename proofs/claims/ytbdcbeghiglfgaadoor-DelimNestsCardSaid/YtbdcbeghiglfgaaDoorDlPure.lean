/- Plain mathematics of layer 13 (which signs belong together): no program in it. -/
set_option linter.unusedVariables false
set_option linter.unusedSimpArgs false
set_option maxRecDepth 100000
namespace Go.Proofs.YtbdcbeghiglfgaaDoor
namespace Dl

/-- A run: its sign, how many, whether it may open, and close. -/
structure Rn where
  c : UInt8
  n : Int
  o : Bool
  k : Bool
def Rn.none : Rn := ⟨0, 0, false, false⟩
def rn (L : List Rn) (i : Nat) : Rn := L.getD i Rn.none
/-- How many signs a run has left at first. -/
def cap (r : Rn) : Nat := if 1 ≤ r.n ∧ r.n ≤ 1073741824 then r.n.toNat else 0
/-- The rule of three: may a not belong to b? -/
def three (a b : Rn) : Bool := ((a.o && a.k) || (b.o && b.k)) && decide ((a.n + b.n) % 3 = 0) && (decide (a.n % 3 ≠ 0) || decide (b.n % 3 ≠ 0))
def fit (a b : Rn) (m n : Nat) : Bool := decide (a.c = b.c) && a.o && decide (1 ≤ m) && decide (1 ≤ n) && (if a.c = 126 then decide (m = n) else !three a b)
/-- The nearest run ahead of i, and below the last number, that fits. -/
def look (L : List Rn) (f : Nat → Nat) (i : Nat) : Nat → Option Nat
  | 0 => none
  | k + 1 => if fit (rn L k) (rn L i) (f k) (f i) = true then some k else look L f i k
def amount (L : List Rn) (f : Nat → Nat) (k i : Nat) : Nat := if (rn L i).c = 126 then f i else if 2 ≤ f k ∧ 2 ≤ f i then 2 else 1
def upd (f : Nat → Nat) (i v : Nat) : Nat → Nat := fun j => if j = i then v else f j
def wipe (f : Nat → Nat) (a b : Nat) : Nat → Nat := fun j => if a < j ∧ j < b then 0 else f j
def paired (f : Nat → Nat) (k i n : Nat) : Nat → Nat := wipe (upd (upd f k (f k - n)) i (f i - n)) k i
abbrev Pr := Nat × Nat × Nat
def go (L : List Rn) : Nat → Nat → (Nat → Nat) → List Pr
  | 0, _, _ => []
  | m + 1, i, f => if i < L.length then
      (if (rn L i).k = false ∨ f i = 0 then go L m (i + 1) f
      else match look L f i i with
        | none => go L m (i + 1) (if (rn L i).o = true then f else upd f i 0)
        | some k => (k, i, amount L f k i) :: go L m i (paired f k i (amount L f k i)))
    else []
def caps (L : List Rn) : Nat → Nat := fun i => cap (rn L i)

/-! ### sums -/
def sumf (f : Nat → Nat) : Nat → Nat
  | 0 => 0
  | n + 1 => sumf f n + f n
theorem sum_le {f g : Nat → Nat} : ∀ n, (∀ j, j < n → g j ≤ f j) → sumf g n ≤ sumf f n
  | 0, _ => Nat.le_refl _
  | n + 1, h => Nat.add_le_add (sum_le n (fun j hj => h j (by omega))) (h n (by omega))
theorem sum_lt {f g : Nat → Nat} : ∀ n, (∀ j, j < n → g j ≤ f j) → (∃ j, j < n ∧ g j < f j) → sumf g n < sumf f n
  | 0, _, ⟨j, hj, _⟩ => by omega
  | n + 1, h, ⟨j, hj, hl⟩ => by
    have h1 := sum_le n (fun j hj => h j (by omega))
    have h2 := h n (by omega)
    show sumf g n + g n < sumf f n + f n
    by_cases hjn : j = n
    · subst hjn; omega
    · have := sum_lt n (fun j hj => h j (by omega)) ⟨j, by omega, hl⟩
      omega

theorem look_some {L : List Rn} {f : Nat → Nat} {i : Nat} : ∀ {k m : Nat}, look L f i m = some k → k < m ∧ fit (rn L k) (rn L i) (f k) (f i) = true ∧ ∀ j, k < j → j < m → fit (rn L j) (rn L i) (f j) (f i) = false
  | k, 0, h => by cases h
  | k, m + 1, h => by
    unfold look at h
    split at h
    · rename_i hf
      cases h
      exact ⟨by omega, hf, fun j h1 h2 => by omega⟩
    · rename_i hf
      obtain ⟨h1, h2, h3⟩ := look_some h
      refine ⟨by omega, h2, fun j g1 g2 => ?_⟩
      by_cases hj : j = m
      · subst hj; simpa using hf
      · exact h3 j g1 (by omega)
theorem look_none {L : List Rn} {f : Nat → Nat} {i : Nat} : ∀ {m : Nat}, look L f i m = none → ∀ j, j < m → fit (rn L j) (rn L i) (f j) (f i) = false
  | 0, h, j, hj => by omega
  | m + 1, h, j, hj => by
    unfold look at h
    split at h
    · cases h
    · rename_i hf
      by_cases hjm : j = m
      · subst hjm; simpa using hf
      · exact look_none h j (by omega)
theorem look_is {L : List Rn} {f : Nat → Nat} {i : Nat} : ∀ {m : Nat} (k : Nat), k < m → fit (rn L k) (rn L i) (f k) (f i) = true → (∀ j, k < j → j < m → fit (rn L j) (rn L i) (f j) (f i) = false) → look L f i m = some k
  | 0, k, h, _, _ => by omega
  | m + 1, k, h, hf, hn => by
    unfold look
    by_cases hk : k = m
    · subst hk; rw [if_pos hf]
    · rw [if_neg (by rw [hn m (by omega) (by omega)]; simp)]
      exact look_is k (by omega) hf (fun j g1 g2 => hn j g1 (by omega))
theorem look_no {L : List Rn} {f : Nat → Nat} {i : Nat} : ∀ {m : Nat}, (∀ j, j < m → fit (rn L j) (rn L i) (f j) (f i) = false) → look L f i m = none
  | 0, _ => rfl
  | m + 1, h => by
    unfold look
    rw [if_neg (by rw [h m (by omega)]; simp)]
    exact look_no (fun j hj => h j (by omega))
theorem fit_parts {a b : Rn} {m n : Nat} (h : fit a b m n = true) : a.c = b.c ∧ a.o = true ∧ 1 ≤ m ∧ 1 ≤ n ∧ (a.c = 126 → m = n) := by
  unfold fit at h
  simp only [Bool.and_eq_true, decide_eq_true_eq] at h
  obtain ⟨⟨⟨⟨h1, h2⟩, h3⟩, h4⟩, h5⟩ := h
  refine ⟨h1, h2, h3, h4, fun hc => ?_⟩
  rw [if_pos hc] at h5
  exact of_decide_eq_true h5
theorem amount_le {L : List Rn} {f : Nat → Nat} {k i : Nat} (h : fit (rn L k) (rn L i) (f k) (f i) = true) : 1 ≤ amount L f k i ∧ amount L f k i ≤ f k ∧ amount L f k i ≤ f i ∧ ((rn L i).c ≠ 126 → amount L f k i ≤ 2) := by
  obtain ⟨h1, h2, h3, h4, h5⟩ := fit_parts h
  unfold amount
  by_cases hc : (rn L i).c = 126
  · rw [if_pos hc]
    have := h5 (h1.trans hc)
    exact ⟨h4, by omega, Nat.le_refl _, fun hn => absurd hc hn⟩
  · rw [if_neg hc]
    split
    · rename_i h2
      exact ⟨by omega, h2.1, h2.2, fun _ => Nat.le_refl _⟩
    · exact ⟨Nat.le_refl _, h3, h4, fun _ => by omega⟩
theorem paired_le (f : Nat → Nat) (k i n : Nat) : ∀ j, paired f k i n j ≤ f j := by
  intro j
  unfold paired wipe upd
  split
  · exact Nat.zero_le _
  · split
    · subst_vars; exact Nat.sub_le ..
    · split
      · subst_vars; exact Nat.sub_le ..
      · exact Nat.le_refl _
theorem paired_at {f : Nat → Nat} {k i n : Nat} (hk : k < i) : paired f k i n i = f i - n ∧ paired f k i n k = f k - n ∧ (∀ j, k < j → j < i → paired f k i n j = 0) ∧ ∀ j, j < k ∨ i < j → paired f k i n j = f j := by
  unfold paired wipe upd
  refine ⟨?_, ?_, fun j h1 h2 => ?_, fun j h => ?_⟩
  · rw [if_neg (by omega), if_pos rfl]
  · rw [if_neg (by omega), if_neg (by omega), if_pos rfl]
  · rw [if_pos ⟨h1, h2⟩]
  · rw [if_neg (by omega), if_neg (by omega), if_neg (by omega)]

/-! ### the fuel says nothing -/
def mu (L : List Rn) (i : Nat) (f : Nat → Nat) : Nat := (L.length - i) + sumf f L.length
theorem mu_next {L : List Rn} {i : Nat} {f g : Nat → Nat} (hi : i < L.length) (h : ∀ j, g j ≤ f j) : mu L (i + 1) g < mu L i f := by
  have := sum_le (f := f) (g := g) L.length (fun j _ => h j)
  unfold mu; omega
theorem mu_pair {L : List Rn} {i k : Nat} {f : Nat → Nat} (hi : i < L.length) (hl : look L f i i = some k) : mu L i (paired f k i (amount L f k i)) < mu L i f := by
  obtain ⟨h1, h2, _⟩ := look_some hl
  obtain ⟨a1, a2, _⟩ := amount_le h2
  have := sum_lt (f := f) (g := paired f k i (amount L f k i)) L.length (fun j _ => paired_le f k i _ j) ⟨k, by omega, by rw [(paired_at h1).2.1]; omega⟩
  unfold mu; omega
theorem upd0_le (f : Nat → Nat) (i : Nat) : ∀ j, upd f i 0 j ≤ f j := by
  intro j
  unfold upd
  split
  · exact Nat.zero_le _
  · exact Nat.le_refl _
theorem go_fuel (L : List Rn) : ∀ (m n i : Nat) (f : Nat → Nat), mu L i f < m → mu L i f < n → go L m i f = go L n i f
  | 0, n, i, f, h, _ => by omega
  | m + 1, 0, i, f, _, h => by omega
  | m + 1, n + 1, i, f, h1, h2 => by
    unfold go
    by_cases hi : i < L.length
    · rw [if_pos hi, if_pos hi]
      by_cases hc : (rn L i).k = false ∨ f i = 0
      · rw [if_pos hc, if_pos hc]
        have := mu_next hi (fun j => Nat.le_refl (f j))
        exact go_fuel L m n _ _ (by omega) (by omega)
      · rw [if_neg hc, if_neg hc]
        cases hl : look L f i i with
        | none =>
          simp only
          have hle : ∀ j, (if (rn L i).o = true then f else upd f i 0) j ≤ f j := by
            intro j
            split
            · exact Nat.le_refl _
            · exact upd0_le f i j
          have := mu_next hi hle
          exact go_fuel L m n _ _ (by omega) (by omega)
        | some k =>
          simp only
          have := mu_pair hi hl
          rw [go_fuel L m n i _ (by omega) (by omega)]
    · rw [if_neg hi, if_neg hi]
/-- The pairs from run i on, where so many signs are left. -/
def goF (L : List Rn) (i : Nat) (f : Nat → Nat) : List Pr := go L (mu L i f + 1) i f
def pairs (L : List Rn) : List Pr := goF L 0 (caps L)
theorem goF_end {L : List Rn} {i : Nat} {f : Nat → Nat} (h : L.length ≤ i) : goF L i f = [] := by
  unfold goF go
  rw [if_neg (by omega)]
theorem goF_pass {L : List Rn} {i : Nat} {f : Nat → Nat} (hi : i < L.length) (h : (rn L i).k = false ∨ f i = 0) : goF L i f = goF L (i + 1) f := by
  unfold goF
  conv => lhs; unfold go
  rw [if_pos hi, if_pos h]
  have := mu_next hi (fun j => Nat.le_refl (f j))
  exact go_fuel L _ _ _ _ (by omega) (by omega)
theorem goF_none {L : List Rn} {i : Nat} {f : Nat → Nat} (hi : i < L.length) (h : ¬ ((rn L i).k = false ∨ f i = 0)) (hl : look L f i i = none) : goF L i f = goF L (i + 1) (if (rn L i).o = true then f else upd f i 0) := by
  unfold goF
  conv => lhs; unfold go
  rw [if_pos hi, if_neg h, hl]
  simp only
  have hle : ∀ j, (if (rn L i).o = true then f else upd f i 0) j ≤ f j := by
    intro j
    split
    · exact Nat.le_refl _
    · exact upd0_le f i j
  have := mu_next hi hle
  exact go_fuel L _ _ _ _ (by omega) (by omega)
theorem goF_pair {L : List Rn} {i k : Nat} {f : Nat → Nat} (hi : i < L.length) (h : ¬ ((rn L i).k = false ∨ f i = 0)) (hl : look L f i i = some k) : goF L i f = (k, i, amount L f k i) :: goF L i (paired f k i (amount L f k i)) := by
  unfold goF
  conv => lhs; unfold go
  rw [if_pos hi, if_neg h, hl]
  simp only
  have := mu_pair hi hl
  rw [go_fuel L _ (mu L i (paired f k i (amount L f k i)) + 1) _ _ (by omega) (by omega)]
/-- An induction along the pairs. -/
theorem goF_ind {L : List Rn} {P : Nat → (Nat → Nat) → Prop} (hend : ∀ i f, L.length ≤ i → P i f)
    (hpass : ∀ i f, i < L.length → ((rn L i).k = false ∨ f i = 0) → P (i + 1) f → P i f)
    (hnone : ∀ i f, i < L.length → ¬ ((rn L i).k = false ∨ f i = 0) → look L f i i = none → P (i + 1) (if (rn L i).o = true then f else upd f i 0) → P i f)
    (hpair : ∀ i f k, i < L.length → ¬ ((rn L i).k = false ∨ f i = 0) → look L f i i = some k → P i (paired f k i (amount L f k i)) → P i f) :
    ∀ i f, P i f := by
  have key : ∀ m i f, mu L i f < m → P i f := by
    intro m
    induction m with
    | zero => intro i f h; omega
    | succ m ih =>
      intro i f h
      by_cases hi : i < L.length
      · by_cases hc : (rn L i).k = false ∨ f i = 0
        · have := mu_next hi (fun j => Nat.le_refl (f j))
          exact hpass i f hi hc (ih _ _ (by omega))
        · cases hl : look L f i i with
          | none =>
            have hle : ∀ j, (if (rn L i).o = true then f else upd f i 0) j ≤ f j := by
              intro j
              split
              · exact Nat.le_refl _
              · exact upd0_le f i j
            have := mu_next hi hle
            exact hnone i f hi hc hl (ih _ _ (by omega))
          | some k =>
            have := mu_pair hi hl
            exact hpair i f k hi hc hl (ih _ _ (by omega))
      · exact hend i f (by omega)
  exact fun i f => key _ i f (Nat.lt_succ_self _)

/-! ### what is never there -/
theorem none_close {L : List Rn} (h : ∀ j, (rn L j).k = false) : ∀ i f, goF L i f = [] := by
  refine goF_ind (fun i f hi => goF_end hi) (fun i f hi hc ih => by rw [goF_pass hi hc, ih]) (fun i f hi hc hl ih => absurd (.inl (h i)) hc) (fun i f k hi hc hl ih => absurd (.inl (h i)) hc)
theorem none_fit {L : List Rn} (h : ∀ j i m n, j < i → i < L.length → fit (rn L j) (rn L i) m n = false) : ∀ i f, goF L i f = [] := by
  refine goF_ind (fun i f hi => goF_end hi) (fun i f hi hc ih => by rw [goF_pass hi hc, ih]) (fun i f hi hc hl ih => by rw [goF_none hi hc hl, ih]) (fun i f k hi hc hl ih => ?_)
  obtain ⟨h1, h2, _⟩ := look_some hl
  rw [h k i _ _ h1 hi] at h2; cases h2

/-! ### pairs do not cross -/
/-- What holds of pairs that were found, and of what is left. -/
structure Done (L : List Rn) (i : Nat) (f : Nat → Nat) (p : List Pr) : Prop where
  ends : ∀ a ∈ p, a.1 < a.2.1 ∧ a.2.1 ≤ i ∧ a.2.1 < L.length
  good : ∀ a ∈ p, 1 ≤ a.2.2 ∧ (rn L a.1).c = (rn L a.2.1).c ∧ (rn L a.1).o = true ∧ (rn L a.2.1).k = true ∧ ((rn L a.1).c ≠ 126 → a.2.2 ≤ 2)
  gone : ∀ a ∈ p, ∀ j, a.1 < j → j < a.2.1 → f j = 0
/-- Of two pairs neither crosses the other. -/
def Apart (a b : Pr) : Prop := ¬ (b.1 < a.1 ∧ a.1 < b.2.1 ∧ b.2.1 < a.2.1) ∧ ¬ (a.1 < b.1 ∧ b.1 < a.2.1 ∧ a.2.1 < b.2.1)
def used (p : List Pr) (j : Nat) : Nat := match p with
  | [] => 0
  | a :: t => (if a.1 = j then a.2.2 else 0) + (if a.2.1 = j then a.2.2 else 0) + used t j
theorem Done.mono {L : List Rn} {i i' : Nat} {f g : Nat → Nat} {p : List Pr} (h : Done L i f p) (hi : i ≤ i') (hg : ∀ j, g j ≤ f j) : Done L i' g p :=
  ⟨fun a ha => ⟨(h.ends a ha).1, Nat.le_trans (h.ends a ha).2.1 hi, (h.ends a ha).2.2⟩, h.good, fun a ha j h1 h2 => by have := h.gone a ha j h1 h2; have := hg j; omega⟩
theorem used_le (L : List Rn) (i : Nat) (f : Nat → Nat) : ∀ j, used (goF L i f) j ≤ f j := by
  revert i f
  refine goF_ind (L := L) ?_ ?_ ?_ ?_
  · intro i f hi j; rw [goF_end hi]; exact Nat.zero_le _
  · intro i f hi hc ih j; rw [goF_pass hi hc]; exact ih j
  · intro i f hi hc hl ih j
    rw [goF_none hi hc hl]
    refine Nat.le_trans (ih j) ?_
    split
    · exact Nat.le_refl _
    · exact upd0_le f i j
  · intro i f k hi hc hl ih j
    rw [goF_pair hi hc hl]
    have h1 := (look_some hl).1
    obtain ⟨a1, a2, a3, _⟩ := amount_le (look_some hl).2.1
    have h2 := ih j
    generalize amount L f k i = n at *
    obtain ⟨p1, p2, p3, p4⟩ := paired_at (f := f) (n := n) h1
    show (if k = j then n else 0) + (if i = j then n else 0) + used _ j ≤ f j
    by_cases hj : k = j
    · subst hj
      rw [if_pos rfl, if_neg (by omega)]
      rw [p2] at h2; omega
    · rw [if_neg hj]
      by_cases hj2 : i = j
      · subst hj2
        rw [if_pos rfl]
        rw [p1] at h2; omega
      · rw [if_neg hj2]
        have := paired_le f k i n j
        omega
theorem nests (L : List Rn) (i : Nat) (f : Nat → Nat) : ∀ (p : List Pr), Done L i f p → (∀ a ∈ goF L i f, a.1 < a.2.1 ∧ a.2.1 < L.length ∧ 1 ≤ a.2.2 ∧ (rn L a.1).c = (rn L a.2.1).c ∧ (rn L a.1).o = true ∧ (rn L a.2.1).k = true ∧ ((rn L a.1).c ≠ 126 → a.2.2 ≤ 2)) ∧ (∀ a ∈ goF L i f, ∀ b ∈ p, Apart a b) ∧ (goF L i f).Pairwise (fun b a => Apart a b) := by
  revert i f
  refine goF_ind (L := L) ?_ ?_ ?_ ?_
  · intro i f hi p h
    rw [goF_end hi]
    exact ⟨fun a ha => (by cases ha), fun a ha => (by cases ha), List.Pairwise.nil⟩
  · intro i f hi hc ih p h
    rw [goF_pass hi hc]
    exact ih p (h.mono (by omega) (fun j => Nat.le_refl _))
  · intro i f hi hc hl ih p h
    rw [goF_none hi hc hl]
    refine ih p (h.mono (by omega) (fun j => ?_))
    split
    · exact Nat.le_refl _
    · exact upd0_le f i j
  · intro i f k hi hc hl ih p h
    rw [goF_pair hi hc hl]
    obtain ⟨h1, h2, h3⟩ := look_some hl
    obtain ⟨g1, g2, g3, g4, g5⟩ := fit_parts h2
    obtain ⟨a1, a2, a3, a4⟩ := amount_le h2
    have hck : (rn L i).k = true := by
      cases hk : (rn L i).k with
      | true => rfl
      | false => exact absurd (.inl hk) hc
    have hle := paired_le f k i (amount L f k i)
    have hpa := (paired_at (f := f) (n := amount L f k i) h1).2.2.1
    generalize amount L f k i = n at *
    have hnew : Done L i (paired f k i n) (p ++ [(k, i, n)]) := by
      have hm := h.mono (Nat.le_refl i) hle
      refine ⟨fun a ha => ?_, fun a ha => ?_, fun a ha j j1 j2 => ?_⟩
      · rcases List.mem_append.1 ha with ha | ha
        · exact hm.ends a ha
        · rw [List.mem_singleton.1 ha]; exact ⟨h1, Nat.le_refl _, hi⟩
      · rcases List.mem_append.1 ha with ha | ha
        · exact hm.good a ha
        · rw [List.mem_singleton.1 ha]; exact ⟨a1, g1, g2, hck, fun hc => a4 (by rw [← g1]; exact hc)⟩
      · rcases List.mem_append.1 ha with ha | ha
        · exact hm.gone a ha j j1 j2
        · rw [List.mem_singleton.1 ha] at j1 j2; exact hpa j j1 j2
    obtain ⟨q1, q2, q3⟩ := ih _ hnew
    have hap : ∀ b ∈ p, Apart (k, i, n) b := by
      intro b hb
      obtain ⟨e1, e2, e3⟩ := h.ends b hb
      refine ⟨fun ⟨x1, x2, x3⟩ => ?_, fun ⟨x1, x2, x3⟩ => ?_⟩
      · have := h.gone b hb k x1 x2
        omega
      · simp only at x3; omega
    refine ⟨fun a ha => ?_, fun a ha b hb => ?_, ?_⟩
    · rcases List.mem_cons.1 ha with rfl | ha
      · exact ⟨h1, hi, a1, g1, g2, hck, fun hc => a4 (by rw [← g1]; exact hc)⟩
      · exact q1 a ha
    · rcases List.mem_cons.1 ha with rfl | ha
      · exact hap b hb
      · exact q2 a ha b (List.mem_append_left _ hb)
    · exact List.pairwise_cons.2 ⟨fun a ha => q2 a ha _ (List.mem_append_right _ (List.mem_singleton.2 rfl)), q3⟩

/-! ### first one sign, then the other -/
theorem rn_left (X Y : List Rn) {j : Nat} (h : j < X.length) : rn (X ++ Y) j = rn X j := by
  unfold rn
  rw [List.getD_eq_getElem?_getD, List.getD_eq_getElem?_getD, List.getElem?_append_left h]
theorem rn_right (X Y : List Rn) (j : Nat) : rn (X ++ Y) (X.length + j) = rn Y j := by
  unfold rn
  rw [List.getD_eq_getElem?_getD, List.getD_eq_getElem?_getD, List.getElem?_append_right (by omega), Nat.add_sub_cancel_left]
theorem look_left {X Y : List Rn} {f g : Nat → Nat} {i : Nat} (hi : i < X.length) (hfg : ∀ j, j < X.length → f j = g j) : ∀ m, m ≤ i → look (X ++ Y) f i m = look X g i m
  | 0, _ => rfl
  | m + 1, h => by
    unfold look
    rw [rn_left X Y (by omega), rn_left X Y hi, hfg m (by omega), hfg i hi, look_left hi hfg m (by omega)]
/-- The pairs of the first part, then those of the second, from what is left there. -/
theorem apart_left (X Y : List Rn) (i : Nat) (g : Nat → Nat) : ∀ (f : Nat → Nat), i ≤ X.length → (∀ j, j < X.length → f j = g j) → ∃ f', goF (X ++ Y) i f = goF X i g ++ goF (X ++ Y) X.length f' ∧ ∀ j, X.length ≤ j → f' j = f j := by
  revert i g
  refine goF_ind (L := X) ?_ ?_ ?_ ?_
  · intro i g hi f hle hfg
    obtain rfl : i = X.length := by omega
    exact ⟨f, by rw [goF_end (Nat.le_refl _)]; rfl, fun j _ => rfl⟩
  · intro i g hi hc ih f hle hfg
    obtain ⟨f', h1, h2⟩ := ih f (by omega) hfg
    refine ⟨f', ?_, h2⟩
    rw [goF_pass (L := X ++ Y) (by rw [List.length_append]; omega) (by rw [rn_left X Y hi, hfg i hi]; exact hc), goF_pass hi hc, h1]
  · intro i g hi hc hl ih f hle hfg
    have hl2 : look (X ++ Y) f i i = none := by rw [look_left hi hfg i (Nat.le_refl _)]; exact hl
    have hc2 : ¬ ((rn (X ++ Y) i).k = false ∨ f i = 0) := by rw [rn_left X Y hi, hfg i hi]; exact hc
    rw [goF_none hi hc hl, goF_none (L := X ++ Y) (by rw [List.length_append]; omega) hc2 hl2, rn_left X Y hi]
    obtain ⟨f', h1, h2⟩ := ih (if (rn X i).o = true then f else upd f i 0) (by omega) (fun j hj => by
      split
      · exact hfg j hj
      · unfold upd; split
        · rfl
        · exact hfg j hj)
    refine ⟨f', h1, fun j hj => (h2 j hj).trans ?_⟩
    split
    · rfl
    · unfold upd; rw [if_neg (by omega)]
  · intro i g k hi hc hl ih f hle hfg
    have h1k := (look_some hl).1
    have hl2 : look (X ++ Y) f i i = some k := by rw [look_left hi hfg i (Nat.le_refl _)]; exact hl
    have hc2 : ¬ ((rn (X ++ Y) i).k = false ∨ f i = 0) := by rw [rn_left X Y hi, hfg i hi]; exact hc
    have ha : amount (X ++ Y) f k i = amount X g k i := by unfold amount; rw [rn_left X Y hi, hfg i hi, hfg k (by omega)]
    rw [goF_pair hi hc hl, goF_pair (L := X ++ Y) (by rw [List.length_append]; omega) hc2 hl2, ha]
    generalize amount X g k i = n at *
    obtain ⟨f', h1, h2⟩ := ih (paired f k i n) hle (fun j hj => by
      unfold paired wipe upd
      rw [hfg k (by omega), hfg i hi, hfg j hj])
    refine ⟨f', by rw [h1]; rfl, fun j hj => (h2 j hj).trans ((paired_at h1k).2.2.2 j (by omega))⟩
def shiftP (n : Nat) (a : Pr) : Pr := (a.1 + n, a.2.1 + n, a.2.2)
theorem look_right {X Y : List Rn} {f g : Nat → Nat} {i : Nat} (hx : ∀ j, j < X.length → (rn X j).c ≠ (rn Y i).c) (hfg : ∀ j, f (X.length + j) = g j) : ∀ m, look (X ++ Y) f (X.length + i) (X.length + m) = (look Y g i m).map (· + X.length)
  | 0 => by
    rw [Nat.add_zero]
    show _ = none
    refine look_no (fun j hj => ?_)
    rw [rn_left X Y hj, rn_right]
    unfold fit
    rw [decide_eq_false (hx j hj)]; rfl
  | m + 1 => by
    show look (X ++ Y) f (X.length + i) ((X.length + m) + 1) = _
    unfold look
    rw [rn_right, rn_right, hfg, hfg, look_right hx hfg m]
    by_cases hf : fit (rn Y m) (rn Y i) (g m) (g i) = true
    · rw [if_pos hf, if_pos hf]; simp; omega
    · rw [if_neg hf, if_neg hf]
theorem apart_right (X Y : List Rn) (i : Nat) (g : Nat → Nat) : ∀ (f : Nat → Nat), (∀ j l, j < X.length → l < Y.length → (rn X j).c ≠ (rn Y l).c) → (∀ j, f (X.length + j) = g j) → goF (X ++ Y) (X.length + i) f = (goF Y i g).map (shiftP X.length) := by
  revert i g
  refine goF_ind (L := Y) ?_ ?_ ?_ ?_
  · intro i g hi f hx hfg
    rw [goF_end hi, goF_end (by rw [List.length_append]; omega)]; rfl
  · intro i g hi hc ih f hx hfg
    rw [goF_pass (L := X ++ Y) (by rw [List.length_append]; omega) (by rw [rn_right, hfg]; exact hc), goF_pass hi hc]
    exact ih f hx hfg
  · intro i g hi hc hl ih f hx hfg
    have hl2 : look (X ++ Y) f (X.length + i) (X.length + i) = none := by rw [look_right (fun j hj => hx j i hj hi) hfg, hl]; rfl
    rw [goF_none (L := X ++ Y) (by rw [List.length_append]; omega) (by rw [rn_right, hfg]; exact hc) hl2, goF_none hi hc hl, rn_right]
    refine ih _ hx (fun j => ?_)
    split
    · exact hfg j
    · unfold upd
      by_cases hj : j = i
      · rw [if_pos (by omega), if_pos hj]
      · rw [if_neg (by omega), if_neg hj]; exact hfg j
  · intro i g k hi hc hl ih f hx hfg
    have h1k := (look_some hl).1
    have hl2 : look (X ++ Y) f (X.length + i) (X.length + i) = some (k + X.length) := by rw [look_right (fun j hj => hx j i hj hi) hfg, hl]; rfl
    have ha : amount (X ++ Y) f (k + X.length) (X.length + i) = amount Y g k i := by
      unfold amount
      rw [rn_right, hfg, show k + X.length = X.length + k by omega, hfg]
    rw [goF_pair (L := X ++ Y) (by rw [List.length_append]; omega) (by rw [rn_right, hfg]; exact hc) hl2, goF_pair hi hc hl, ha]
    generalize amount Y g k i = n at *
    rw [List.map_cons, ih (paired f (k + X.length) (X.length + i) n) hx (fun j => by
      unfold paired wipe upd
      rw [hfg i, show k + X.length = X.length + k by omega, hfg k, hfg j]
      by_cases c1 : k < j ∧ j < i
      · rw [if_pos c1, if_pos (by omega)]
      · rw [if_neg c1, if_neg (by omega)]
        by_cases c2 : j = i
        · rw [if_pos c2, if_pos (by omega)]
        · rw [if_neg c2, if_neg (by omega)]
          by_cases c3 : j = k
          · rw [if_pos c3, if_pos (by omega)]
          · rw [if_neg c3, if_neg (by omega)])]
    unfold shiftP
    simp only [List.cons.injEq, and_true, Prod.mk.injEq, true_and]
    omega
theorem caps_left (X Y : List Rn) {j : Nat} (h : j < X.length) : caps (X ++ Y) j = caps X j := by unfold caps; rw [rn_left X Y h]
theorem caps_right (X Y : List Rn) (j : Nat) : caps (X ++ Y) (X.length + j) = caps Y j := by unfold caps; rw [rn_right]
/-- P13.2, for runs of two signs. -/
theorem apart {X Y : List Rn} (hx : ∀ j l, j < X.length → l < Y.length → (rn X j).c ≠ (rn Y l).c) : pairs (X ++ Y) = pairs X ++ (pairs Y).map (shiftP X.length) := by
  unfold pairs
  obtain ⟨f', h1, h2⟩ := apart_left X Y 0 (caps X) (caps (X ++ Y)) (Nat.zero_le _) (fun j hj => caps_left X Y hj)
  rw [h1]
  have := apart_right X Y 0 (caps Y) f' hx (fun j => by rw [h2 _ (by omega)]; exact caps_right X Y j)
  rw [Nat.add_zero] at this
  rw [this]
end Dl
end Go.Proofs.YtbdcbeghiglfgaaDoor
