/- Layer 6: a tree that is laid node by node. -/
import Derived.Test.YtlpfffioidbkeaaTreeT
import Derived.Test.YtlpfffioidbkeaaTreeF
import Derived.Test.YtlpfffioidbkeaaTreeK2
namespace Go.Proofs.Ytlpfffioidbkeaa
open Go Go.RowKit
namespace Tr
set_option maxRecDepth 100000
set_option linter.unusedVariables false
set_option linter.unusedSimpArgs false

mutual
/-- The tree stands at a number, all of it at numbers from lo on and below hi. -/
def At (o : Nat → Own) (ch : Nat → List Nat) (lo hi : Nat) : Nat → Tree → Prop
  | id, .mk ow kids => lo ≤ id ∧ id < hi ∧ o id = ow ∧ AtL o ch lo hi (ch id) kids
def AtL (o : Nat → Own) (ch : Nat → List Nat) (lo hi : Nat) : List Nat → List Tree → Prop
  | ids, [] => ids = []
  | ids, t :: ts => ∃ i r, ids = i :: r ∧ At o ch lo hi i t ∧ AtL o ch lo hi r ts
end
theorem At.carry {o o' : Nat → Own} {ch ch' : Nat → List Nat} {lo hi lo' hi' : Nat} (hl : lo' ≤ lo) (hh : hi ≤ hi') (h : ∀ x, lo ≤ x → x < hi → o' x = o x ∧ ch' x = ch x) (T : Tree) : ∀ {id}, At o ch lo hi id T → At o' ch' lo' hi' id T := by
  induction T using Tree.ind with
  | h ow kids ih =>
    intro id hat
    rw [At] at hat ⊢
    obtain ⟨h1, h2, h3, h4⟩ := hat
    obtain ⟨e1, e2⟩ := h id h1 h2
    refine ⟨by omega, by omega, e1.trans h3, ?_⟩
    rw [e2]
    clear h1 h2 h3 e1 e2
    generalize ch id = ids at h4
    induction kids generalizing ids with
    | nil => rw [AtL] at h4 ⊢; exact h4
    | cons t ts ih2 =>
      rw [AtL] at h4 ⊢
      obtain ⟨i, r, g1, g2, g3⟩ := h4
      exact ⟨i, r, g1, ih t (by simp) g2, ih2 (fun t ht => ih t (by simp [ht])) r g3⟩
theorem AtL.carry {o o' : Nat → Own} {ch ch' : Nat → List Nat} {lo hi lo' hi' : Nat} (hl : lo' ≤ lo) (hh : hi ≤ hi') (h : ∀ x, lo ≤ x → x < hi → o' x = o x ∧ ch' x = ch x) : ∀ {kids : List Tree} {ids : List Nat}, AtL o ch lo hi ids kids → AtL o' ch' lo' hi' ids kids
  | [], ids, hat => by rw [AtL] at hat ⊢; exact hat
  | t :: ts, ids, hat => by
    rw [AtL] at hat ⊢
    obtain ⟨i, r, g1, g2, g3⟩ := hat
    exact ⟨i, r, g1, At.carry hl hh h t g2, AtL.carry hl hh h g3⟩
theorem AtL.snoc {o : Nat → Own} {ch : Nat → List Nat} {lo hi i : Nat} {t : Tree} (ht : At o ch lo hi i t) : ∀ {kids : List Tree} {ids : List Nat}, AtL o ch lo hi ids kids → AtL o ch lo hi (ids ++ [i]) (kids ++ [t])
  | [], ids, hat => by
    rw [AtL] at hat; subst hat
    show AtL o ch lo hi [i] [t]
    rw [AtL]; exact ⟨i, [], rfl, ht, by rw [AtL]⟩
  | u :: ts, ids, hat => by
    rw [AtL] at hat
    obtain ⟨j, r, g1, g2, g3⟩ := hat
    subst g1
    show AtL o ch lo hi (j :: (r ++ [i])) (u :: (ts ++ [t]))
    rw [AtL]; exact ⟨j, r ++ [i], rfl, g2, AtL.snoc ht g3⟩
theorem At.tr {o : Nat → Own} {ch : Nat → List Nat} {lo hi : Nat} (T : Tree) : ∀ {id f : Nat}, At o ch lo hi id T → T.dep ≤ f → tr o ch f id = T := by
  induction T using Tree.ind with
  | h ow kids ih =>
    intro id f hat hf
    rw [At] at hat
    obtain ⟨_, _, h3, h4⟩ := hat
    rw [Tree.dep] at hf
    cases f with
    | zero => omega
    | succ f =>
      rw [Tr.tr, h3]
      congr 1
      have hd : depL kids ≤ f := by omega
      clear hf h3
      generalize ch id = ids at h4
      induction kids generalizing ids with
      | nil => rw [AtL] at h4; subst h4; rfl
      | cons t ts ih2 =>
        rw [AtL] at h4
        rw [depL] at hd
        obtain ⟨i, r, g1, g2, g3⟩ := h4
        subst g1
        rw [List.map_cons, ih t (by simp) g2 (by omega), ih2 (fun t ht => ih t (by simp [ht])) (by omega) r g3]

def Up (S : Ar) (ch : Nat → List Nat) : Prop := ∀ p, p < S.n → ∀ c ∈ ch p, p < c
/-- Trees were laid below a node. -/
structure Laid (S : Ar) (ch : Nat → List Nat) (p : Nat) (kids : List Tree) (S' : Ar) (ch' : Nat → List Nat) (ids : List Nat) : Prop where
  n : S'.n = S.n + cntL kids
  o : ∀ x, x < S.n → S'.o x = S.o x
  chq : ∀ q, q < S.n → q ≠ p → ch' q = ch q
  chp : ch' p = ch p ++ ids
  at' : AtL S'.o ch' S.n S'.n ids kids
theorem Laid.nil (S : Ar) (ch : Nat → List Nat) (p : Nat) : Laid S ch p [] S ch [] := ⟨by rw [cntL]; rfl, fun _ _ => rfl, fun _ _ _ => rfl, by simp, by rw [AtL]⟩
theorem cntL_app : ∀ (a b : List Tree), cntL (a ++ b) = cntL a + cntL b
  | [], b => by rw [List.nil_append, cntL]; omega
  | t :: a, b => by rw [List.cons_append, cntL, cntL, cntL_app a b]; omega
theorem push_hang_o (S : Ar) (o : Own) (p : Nat) : ((S.push o).hang S.n p).o = upd S.o S.n o := by rw [hang_o]; rfl
theorem push_hang_n (S : Ar) (o : Own) (p : Nat) : ((S.push o).hang S.n p).n = S.n + 1 := by rw [hang_n]; rfl
theorem Laid.step {S : Ar} {ch : Nat → List Nat} {p : Nat} {kids : List Tree} {S1 : Ar} {ch1 : Nat → List Nat} {ids : List Nat} {t : Tree} {S2 : Ar} {ch2 : Nat → List Nat} {ids2 : List Nat} (hp : p < S.n) (hout : ch1 S1.n = [])
    (h : Laid S ch p kids S1 ch1 ids) (h2 : Laid ((S1.push t.own).hang S1.n p) (upd ch1 p (ch1 p ++ [S1.n])) S1.n t.kids S2 ch2 ids2) : Laid S ch p (kids ++ [t]) S2 ch2 (ids ++ [S1.n]) := by
  have hn := h.n
  have hn2 := h2.n
  rw [push_hang_n] at hn2
  have hpn : p ≠ S1.n := by omega
  have htn : t.cnt = 1 + cntL t.kids := by cases t with | mk o k => rw [Tree.cnt]; rfl
  have ho2 : ∀ x, x < S1.n → S2.o x = S1.o x := fun x hx => by
    rw [h2.o x (by rw [push_hang_n]; omega), push_hang_o, upd_other _ _ (by omega)]
  have hc2 : ∀ x, x < S1.n → x ≠ p → ch2 x = ch1 x := fun x hx hxp => by
    rw [h2.chq x (by rw [push_hang_n]; omega) (by omega), upd_other _ _ hxp]
  have hcp : ch2 p = ch1 p ++ [S1.n] := by rw [h2.chq p (by rw [push_hang_n]; omega) hpn, upd_same]
  refine ⟨?_, ?_, ?_, ?_, ?_⟩
  · rw [cntL_app, cntL, cntL]; omega
  · intro x hx; rw [ho2 x (by omega)]; exact h.o x hx
  · intro q hq hqp; rw [hc2 q (by omega) hqp]; exact h.chq q hq hqp
  · rw [hcp, h.chp, List.append_assoc]
  · refine AtL.snoc ?_ (h.at'.carry (Nat.le_refl _) (by omega) (fun x h1 h2 => ⟨ho2 x h2, hc2 x h2 (by omega)⟩))
    cases t with
    | mk ow k =>
      rw [At]
      refine ⟨by omega, by omega, ?_, ?_⟩
      · rw [h2.o S1.n (by rw [push_hang_n]; omega), push_hang_o, upd_same]; rfl
      · rw [h2.chp, upd_other _ _ (fun e => hpn e.symm), hout, List.nil_append]
        exact h2.at'.carry (by rw [push_hang_n]; omega) (Nat.le_refl _) (fun x _ _ => ⟨rfl, rfl⟩)
theorem Up.hang {S : Ar} {ch : Nat → List Nat} (h : Up S ch) (hI : Inv S ch) {p : Nat} (hp : p < S.n) (o : Own) : Up ((S.push o).hang S.n p) (upd ch p (ch p ++ [S.n])) := by
  intro q hq c hc
  rw [push_hang_n] at hq
  by_cases e : q = p
  · subst e
    rw [upd_same, List.mem_append] at hc
    rcases hc with hc | hc
    · exact h q hp c hc
    · simp at hc; omega
  · rw [upd_other _ _ e] at hc
    rcases Nat.lt_or_ge q S.n with hq2 | hq2
    · exact h q hq2 c hc
    · rw [hI.out q hq2] at hc; cases hc
theorem Inv.added {S : Ar} {ch : Nat → List Nat} (h : Inv S ch) {p : Nat} (hp : p < S.n) (o : Own) : Inv ((S.push o).hang S.n p) (upd ch p (ch p ++ [S.n])) :=
  (h.push o).hang (show S.n < S.n + 1 by omega) (show p < S.n + 1 by omega) (fun q hq hmem => by
    have hq : q < S.n + 1 := hq
    rcases Nat.lt_or_ge q S.n with hq2 | hq2
    · exact absurd (h.lt q hq2 _ hmem) (by omega)
    · rw [h.out q hq2] at hmem; cases hmem)
end Tr
end Go.Proofs.Ytlpfffioidbkeaa
