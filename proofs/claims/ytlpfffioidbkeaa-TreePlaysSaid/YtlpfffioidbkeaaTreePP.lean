/- Layer 6: links and arena, step by step. -/
import Derived.Test.YtlpfffioidbkeaaTreeOO
namespace Go.Proofs.Ytlpfffioidbkeaa
open Go Go.RowKit
namespace Tr
set_option linter.unusedVariables false
set_option linter.unusedSimpArgs false

theorem under_append (K L : List (Nat × Nat)) (p : Int) : under (K ++ L) p = under K p ++ under L p := by
  unfold under; rw [List.filter_append, List.map_append]
theorem under_pair (a b p : Nat) : under [(a, b)] p = if p = a then [b] else [] := by
  unfold under
  by_cases e : p = a
  · subst e; simp
  · have : ¬ ((a : Int) = (p : Int)) := by omega
    simp [this, e]
theorem under_without (id p : Nat) : ∀ K : List (Nat × Nat), under (without K id) p = (under K p).filter (· ≠ id)
  | [] => rfl
  | (a, b) :: K => by
    have ih := under_without id p K
    unfold under without at *
    by_cases h1 : b = id
    · subst h1
      by_cases h2 : (a : Int) = (p : Int)
      · simp only [List.filter_cons, h2, beq_self_eq_true, Bool.not_true, if_true, List.map_cons, ne_eq, not_true_eq_false, decide_false]
        simpa using ih
      · have h2' : ((a : Int) == (p : Int)) = false := by simpa using h2
        simp only [List.filter_cons, h2', beq_self_eq_true, Bool.not_true]
        simpa using ih
    · have h1' : ((b : Int) == (id : Int)) = false := by simp; omega
      by_cases h2 : (a : Int) = (p : Int)
      · have h2' : ((a : Int) == (p : Int)) = true := by simpa using h2
        simp only [List.filter_cons, h1', h2', Bool.not_false, if_true, List.map_cons]
        rw [ih]
        simp [h1]
      · have h2' : ((a : Int) == (p : Int)) = false := by simpa using h2
        simp only [List.filter_cons, h1', h2', Bool.not_false, if_true]
        simpa using ih
section
variable {S S' : Ar} {ch : Nat → List Nat} {K : List (Nat × Nat)}
theorem Lk.one (o : Own) : Lk (Ar.one o) (fun _ => []) [] := ⟨fun p _ => rfl, fun q h => by cases h⟩
theorem Lk.add (hI : Inv S ch) (HL : Lk S ch K) {p : Nat} (hp : p < S.n) (hn : S'.n = S.n + 1) : Lk S' (upd ch p (ch p ++ [S.n])) (K ++ [(p, S.n)]) := by
  constructor
  · intro q hq
    rw [under_append, under_pair]
    have hk : under K q = ch q := by
      rcases Nat.lt_or_ge q S.n with h | h
      · exact HL.kids q h
      · rw [hI.out q h, HL.under_out (by omega)]
    rw [hk]
    by_cases e : q = p
    · subst e; rw [if_pos rfl, upd_same]
    · rw [if_neg e, upd_other _ _ e, List.append_nil]
  · intro q hq
    rcases List.mem_append.1 hq with h | h
    · have := HL.lt q h; omega
    · simp at h; subst h; show p < S'.n; omega
theorem Lk.cut (HL : Lk S ch K) (id : Nat) (hn : S'.n = S.n) : Lk S' (Tr.cut ch id) (without K id) := by
  constructor
  · intro q hq
    rw [under_without, HL.kids q (by omega)]; rfl
  · intro q hq
    have := HL.lt q (List.mem_filter.1 hq).1
    omega
theorem Lk.move (HL : Lk S ch K) {id p : Nat} (hp : p < S.n) (hn : S'.n = S.n) : Lk S' (moved ch id p) (without K id ++ [(p, id)]) := by
  constructor
  · intro q hq
    rw [under_append, under_pair, under_without, HL.kids q (by omega)]
    unfold moved
    by_cases e : q = p
    · subst e; rw [if_pos rfl, upd_same]; rfl
    · rw [if_neg e, upd_other _ _ e, List.append_nil]; rfl
  · intro q hq
    rcases List.mem_append.1 hq with h | h
    · have := HL.lt q (List.mem_filter.1 h).1; omega
    · simp at h; subst h; show p < S'.n; omega
end
end Tr
end Go.Proofs.Ytlpfffioidbkeaa
