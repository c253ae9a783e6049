/- Layer 6: what holds of an arena: whose children are which. -/
import Derived.Test.YtlpfffioidbkeaaTreeM
import Derived.Test.YtlpfffioidbkeaaTreeJ
namespace Go.Proofs.Ytlpfffioidbkeaa
open Go Go.RowKit
namespace Tr
set_option linter.unusedVariables false
set_option linter.unusedSimpArgs false

theorem nodup_len : ∀ (n : Nat) (l : List Nat), l.Nodup → (∀ x ∈ l, x < n) → l.length ≤ n
  | 0, l, _, h => by
    cases l with
    | nil => simp
    | cons a l => exact absurd (h a (by simp)) (by omega)
  | n + 1, l, hn, h => by
    have h1 := nodup_len n (l.filter (· ≠ n)) (hn.filter _) (by
      intro x hx
      rw [List.mem_filter] at hx
      have := h x hx.1
      have : x ≠ n := by simpa using hx.2
      omega)
    have h2 : l.length ≤ (l.filter (· ≠ n)).length + 1 := by
      clear h h1
      induction l with
      | nil => simp
      | cons a l ih =>
        rw [List.nodup_cons] at hn
        by_cases ha : a = n
        · subst ha
          have : (a :: l).filter (· ≠ a) = l := by
            rw [List.filter_cons_of_neg (by simp), List.filter_eq_self]
            intro x hx
            have : x ≠ a := fun e => hn.1 (e ▸ hx)
            simpa using this
          rw [this]; simp
        · rw [List.filter_cons_of_pos (by simpa using ha)]
          have := ih hn.2
          simp only [List.length_cons]; omega
    omega
theorem filter_erase : ∀ {l : List Nat} {k x : Nat}, l.Nodup → l[k]? = some x → l.filter (· ≠ x) = l.eraseIdx k
  | [], k, x, _, h => by simp at h
  | a :: l, 0, x, hn, h => by
    simp at h; subst h
    rw [List.nodup_cons] at hn
    rw [List.filter_cons_of_neg (by simp), List.eraseIdx_cons_zero, List.filter_eq_self]
    intro y hy
    have : y ≠ a := fun e => hn.1 (e ▸ hy)
    simpa using this
  | a :: l, k + 1, x, hn, h => by
    simp at h
    rw [List.nodup_cons] at hn
    have ha : a ≠ x := fun e => hn.1 (e ▸ List.mem_of_getElem? h)
    rw [List.filter_cons_of_pos (by simpa using ha), List.eraseIdx_cons_succ, filter_erase hn.2 h]
theorem idx_inj {l : List Nat} (hn : l.Nodup) {i j x : Nat} (hi : l[i]? = some x) (hj : l[j]? = some x) : i = j := by
  obtain ⟨h1, e1⟩ := List.getElem?_eq_some_iff.1 hi
  obtain ⟨h2, e2⟩ := List.getElem?_eq_some_iff.1 hj
  exact (List.getElem_inj hn).1 (e1.trans e2.symm)

structure Inv (S : Ar) (ch : Nat → List Nat) : Prop where
  pos : 0 < S.n
  lt : ∀ p, p < S.n → ∀ c ∈ ch p, c < S.n
  nodup : ∀ p, p < S.n → (ch p).Nodup
  first : ∀ p, p < S.n → S.first p = opt (ch p)[0]?
  last : ∀ p, p < S.n → S.last p = opt (ch p)[(ch p).length - 1]?
  behind : ∀ p, p < S.n → ∀ i c, (ch p)[i]? = some c → S.behind c = opt (ch p)[i + 1]?
  before : ∀ p, p < S.n → ∀ i c, (ch p)[i]? = some c → S.before c = if i = 0 then -1 else opt (ch p)[i - 1]?
  par : ∀ p, p < S.n → ∀ c ∈ ch p, S.par c = (p : Int)
  alone : ∀ c, c < S.n → (∀ p, p < S.n → c ∉ ch p) → S.par c = -1 ∧ S.behind c = -1 ∧ S.before c = -1
  out : ∀ p, S.n ≤ p → ch p = []
theorem opt_nat {l : List Nat} {i : Nat} : opt l[i]? = -1 ∨ ∃ x : Nat, opt l[i]? = (x : Int) ∧ l[i]? = some x := by
  cases h : l[i]? with
  | none => exact .inl rfl
  | some x => exact .inr ⟨x, rfl, rfl⟩
section
variable {S : Ar} {ch : Nat → List Nat}
theorem Inv.kids (h : Inv S ch) (hn : S.n ≤ 1000000000) : Kids S ch :=
  ⟨h.lt, h.first, h.behind, fun p hp => Nat.le_trans (nodup_len S.n _ (h.nodup p hp) (h.lt p hp)) hn⟩
theorem Inv.lastOk (h : Inv S ch) {p : Nat} (hp : p < S.n) : S.last p = -1 ∨ ∃ l : Nat, S.last p = (l : Int) ∧ l < S.n := by
  rw [h.last p hp]
  rcases opt_nat (l := ch p) (i := (ch p).length - 1) with e | ⟨x, e, ex⟩
  · exact .inl e
  · exact .inr ⟨x, e, h.lt p hp x (List.mem_of_getElem? ex)⟩
theorem Inv.uniq (h : Inv S ch) {p q c : Nat} (hp : p < S.n) (hq : q < S.n) (h1 : c ∈ ch p) (h2 : c ∈ ch q) : p = q := by
  have e1 := h.par p hp c h1
  have e2 := h.par q hq c h2
  rw [e1] at e2
  omega
theorem Inv.one (o : Own) : Inv (Ar.one o) (fun _ => []) := by
  refine ⟨Nat.zero_lt_one, ?_, ?_, ?_, ?_, ?_, ?_, ?_, ?_, ?_⟩
  · intro p _ c hc; cases hc
  · intro p _; exact List.nodup_nil
  · intro p _; rfl
  · intro p _; rfl
  · intro p _ i c hc; simp at hc
  · intro p _ i c hc; simp at hc
  · intro p _ c hc; cases hc
  · intro c _ _; exact ⟨rfl, rfl, rfl⟩
  · intro p _; rfl
theorem Inv.push (h : Inv S ch) (o : Own) : Inv (S.push o) ch := by
  have hn : ∀ p, p < S.n → p ≠ S.n := fun p hp => by omega
  have hnil := h.out S.n (Nat.le_refl _)
  have old : ∀ {p : Nat}, p < S.n + 1 → p < S.n ∨ p = S.n := fun hp => by omega
  refine ⟨Nat.succ_pos _, ?_, ?_, ?_, ?_, ?_, ?_, ?_, ?_, ?_⟩
  · intro p hp c hc
    rcases old hp with hp | rfl
    · exact Nat.lt_succ_of_lt (h.lt p hp c hc)
    · rw [hnil] at hc; cases hc
  · intro p hp
    rcases old hp with hp | rfl
    · exact h.nodup p hp
    · rw [hnil]; exact List.nodup_nil
  · intro p hp
    rcases old hp with hp | rfl
    · exact (upd_other _ _ (hn p hp)).trans (h.first p hp)
    · rw [hnil]; exact upd_same _ _ _
  · intro p hp
    rcases old hp with hp | rfl
    · exact (upd_other _ _ (hn p hp)).trans (h.last p hp)
    · rw [hnil]; exact upd_same _ _ _
  · intro p hp i c hc
    rcases old hp with hp | rfl
    · exact (upd_other _ _ (hn c (h.lt p hp c (List.mem_of_getElem? hc)))).trans (h.behind p hp i c hc)
    · rw [hnil] at hc; simp at hc
  · intro p hp i c hc
    rcases old hp with hp | rfl
    · exact (upd_other _ _ (hn c (h.lt p hp c (List.mem_of_getElem? hc)))).trans (h.before p hp i c hc)
    · rw [hnil] at hc; simp at hc
  · intro p hp c hc
    rcases old hp with hp | rfl
    · exact (upd_other _ _ (hn c (h.lt p hp c hc))).trans (h.par p hp c hc)
    · rw [hnil] at hc; cases hc
  · intro c hc hno
    rcases old hc with hc | rfl
    · obtain ⟨e1, e2, e3⟩ := h.alone c hc (fun p hp => hno p (Nat.lt_succ_of_lt hp))
      exact ⟨(upd_other _ _ (hn c hc)).trans e1, (upd_other _ _ (hn c hc)).trans e2, (upd_other _ _ (hn c hc)).trans e3⟩
    · exact ⟨upd_same _ _ _, upd_same _ _ _, upd_same _ _ _⟩
  · intro p hp
    exact h.out p (by have : S.n + 1 ≤ p := hp; omega)

theorem hang_n (S : Ar) (id p : Nat) : (S.hang id p).n = S.n := by unfold Ar.hang; dsimp only; split <;> rfl
theorem hang_o (S : Ar) (id p : Nat) : (S.hang id p).o = S.o := by unfold Ar.hang; dsimp only; split <;> rfl
theorem hang_par (S : Ar) (id p : Nat) : (S.hang id p).par = upd S.par id p := by unfold Ar.hang; dsimp only; split <;> rfl
theorem hang_before (S : Ar) (id p : Nat) : (S.hang id p).before = upd S.before id (S.last p) := by unfold Ar.hang; dsimp only; split <;> rfl
theorem hang_last (S : Ar) (id p : Nat) : (S.hang id p).last = upd S.last p id := by unfold Ar.hang; dsimp only; split <;> rfl
theorem hang_first (S : Ar) (id p : Nat) : (S.hang id p).first = if S.last p = -1 then upd S.first p id else S.first := by unfold Ar.hang; dsimp only; split <;> rfl
theorem hang_behind (S : Ar) (id p : Nat) : (S.hang id p).behind = if S.last p = -1 then S.behind else upd S.behind (S.last p).toNat id := by unfold Ar.hang; dsimp only; split <;> rfl

theorem Inv.hang (h : Inv S ch) {id p : Nat} (hid : id < S.n) (hp : p < S.n) (hal : ∀ q, q < S.n → id ∉ ch q) : Inv (S.hang id p) (upd ch p (ch p ++ [id])) := by
  have hlen : (ch p)[(ch p).length]? = none := List.getElem?_eq_none (Nat.le_refl _)
  obtain ⟨a1, a2, a3⟩ := h.alone id hid hal
  -- the last child, or none
  have hlast : (ch p = [] ∧ S.last p = -1) ∨ ∃ l : Nat, ch p ≠ [] ∧ S.last p = (l : Int) ∧ (ch p)[(ch p).length - 1]? = some l := by
    rw [h.last p hp]
    cases e : ch p with
    | nil => exact .inl ⟨rfl, rfl⟩
    | cons a r =>
      rcases opt_nat (l := a :: r) (i := (a :: r).length - 1) with e1 | ⟨x, e1, e2⟩
      · rw [List.getElem?_eq_getElem (by simp)] at e1
        have : (0 : Int) ≤ opt (some (a :: r)[(a :: r).length - 1]) := by show (0 : Int) ≤ ((a :: r)[(a :: r).length - 1] : Nat); omega
        omega
      · exact .inr ⟨x, by simp, e1, e2⟩
  refine ⟨by rw [hang_n]; exact h.pos, ?_, ?_, ?_, ?_, ?_, ?_, ?_, ?_, ?_⟩
  · rw [hang_n]; intro q hq c hc
    by_cases e : q = p
    · subst e; rw [upd_same, List.mem_append] at hc
      rcases hc with hc | hc
      · exact h.lt q hq c hc
      · simp at hc; omega
    · rw [upd_other _ _ e] at hc; exact h.lt q hq c hc
  · rw [hang_n]; intro q hq
    by_cases e : q = p
    · subst e; rw [upd_same, List.nodup_append]
      refine ⟨h.nodup q hq, by simp, ?_⟩
      intro a ha b hb
      simp at hb
      exact fun e => hal q hq (by rw [← hb, ← e]; exact ha)
    · rw [upd_other _ _ e]; exact h.nodup q hq
  · rw [hang_n, hang_first]; intro q hq
    by_cases e : q = p
    · subst e
      rw [upd_same]
      rcases hlast with ⟨e1, e2⟩ | ⟨l, e1, e2, e3⟩
      · rw [if_pos e2, upd_same, e1]; rfl
      · rw [if_neg (by omega), h.first q hq, List.getElem?_append_left (List.length_pos_iff.2 e1)]
    · rw [upd_other _ _ e]
      split
      · rw [upd_other _ _ e]; exact h.first q hq
      · exact h.first q hq
  · rw [hang_n, hang_last]; intro q hq
    by_cases e : q = p
    · subst e; rw [upd_same, upd_same]; simp [opt]
    · rw [upd_other _ _ e, upd_other _ _ e]; exact h.last q hq
  · rw [hang_n, hang_behind]; intro q hq i c hc
    by_cases e : q = p
    · subst e
      rw [upd_same] at hc ⊢
      rcases Nat.lt_or_ge i (ch q).length with hi | hi
      · rw [List.getElem?_append_left hi] at hc
        rcases hlast with ⟨e1, _⟩ | ⟨l, e1, e2, e3⟩
        · rw [e1] at hi; simp at hi
        · rw [if_neg (by omega), e2, Int.toNat_natCast]
          by_cases hil : i = (ch q).length - 1
          · rw [hil] at hc
            have : l = c := Option.some.inj (e3.symm.trans hc)
            subst this
            rw [upd_same, List.getElem?_append_right (by omega), show i + 1 - (ch q).length = 0 by omega]
            rfl
          · have hcl : c ≠ l := fun e4 => hil (idx_inj (h.nodup q hq) hc (e4 ▸ e3))
            rw [upd_other _ _ hcl, List.getElem?_append_left (by omega)]
            exact h.behind q hq i c hc
      · rw [List.getElem?_append_right hi] at hc
        have hi0 : i = (ch q).length := by
          have := (List.getElem?_eq_some_iff.1 hc).1
          simp at this; omega
        subst hi0
        simp at hc
        subst hc
        rw [List.getElem?_eq_none (by simp)]
        split
        · exact a2
        · rename_i hne
          rcases hlast with ⟨_, e2⟩ | ⟨l, e1, e2, e3⟩
          · exact absurd e2 hne
          · rw [e2, Int.toNat_natCast, upd_other _ _ (fun e4 => hal q hq (by rw [e4]; exact List.mem_of_getElem? e3))]
            exact a2
    · rw [upd_other _ _ e] at hc ⊢
      split
      · exact h.behind q hq i c hc
      · rename_i hne
        rcases hlast with ⟨_, e2⟩ | ⟨l, e1, e2, e3⟩
        · exact absurd e2 hne
        · rw [e2, Int.toNat_natCast, upd_other _ _ (fun e4 => e (h.uniq hq hp (List.mem_of_getElem? hc) (by rw [e4]; exact List.mem_of_getElem? e3)))]
          exact h.behind q hq i c hc
  · rw [hang_n, hang_before]; intro q hq i c hc
    by_cases e : q = p
    · subst e
      rw [upd_same] at hc ⊢
      rcases Nat.lt_or_ge i (ch q).length with hi | hi
      · rw [List.getElem?_append_left hi] at hc
        rw [upd_other _ _ (fun e4 => hal q hq (by rw [← e4]; exact List.mem_of_getElem? hc)), List.getElem?_append_left (by omega)]
        exact h.before q hq i c hc
      · rw [List.getElem?_append_right hi] at hc
        have hi0 : i = (ch q).length := by
          have := (List.getElem?_eq_some_iff.1 hc).1
          simp at this; omega
        subst hi0
        simp at hc
        subst hc
        rw [upd_same, h.last q hq]
        split
        · rename_i h0
          have : ch q = [] := List.length_eq_zero_iff.1 h0
          rw [this]; rfl
        · rw [List.getElem?_append_left (by omega)]
    · rw [upd_other _ _ e] at hc ⊢
      rw [upd_other _ _ (fun e4 => hal q hq (by rw [← e4]; exact List.mem_of_getElem? hc))]
      exact h.before q hq i c hc
  · rw [hang_n, hang_par]; intro q hq c hc
    by_cases e : q = p
    · subst e
      rw [upd_same, List.mem_append] at hc
      rcases hc with hc | hc
      · rw [upd_other _ _ (fun e4 => hal q hq (by rw [← e4]; exact hc))]; exact h.par q hq c hc
      · simp at hc; subst hc; rw [upd_same]
    · rw [upd_other _ _ e] at hc
      rw [upd_other _ _ (fun e4 => hal q hq (by rw [← e4]; exact hc))]; exact h.par q hq c hc
  · rw [hang_n, hang_par, hang_behind, hang_before]; intro c hc hno
    have hcid : c ≠ id := fun e => hno p hp (by rw [upd_same, e]; simp)
    have hno2 : ∀ q, q < S.n → c ∉ ch q := fun q hq hmem => hno q hq (by
      by_cases e : q = p
      · subst e; rw [upd_same]; exact List.mem_append_left _ hmem
      · rw [upd_other _ _ e]; exact hmem)
    obtain ⟨b1, b2, b3⟩ := h.alone c hc hno2
    refine ⟨(upd_other _ _ hcid).trans b1, ?_, (upd_other _ _ hcid).trans b3⟩
    split
    · exact b2
    · rename_i hne
      rcases hlast with ⟨_, e2⟩ | ⟨l, e1, e2, e3⟩
      · exact absurd e2 hne
      · rw [e2, Int.toNat_natCast, upd_other _ _ (fun e4 => hno2 p hp (by rw [e4]; exact List.mem_of_getElem? e3))]
        exact b2
  · rw [hang_n]; intro q hq
    rw [upd_other _ _ (by omega)]; exact h.out q hq
end
end Tr
end Go.Proofs.Ytlpfffioidbkeaa
