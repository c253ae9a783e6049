/- Plain mathematics of layer 8, the fourth part: what a line's first sign excludes. -/
import Derived.Test.YtnpaagglnfocpaaGreatDoorScV
namespace Go.Proofs.YtnpaagglnfocpaaGreatDoor
open Go Go.RowKit
namespace Sc
set_option maxRecDepth 100000
set_option linter.unusedVariables false
set_option linter.unusedSimpArgs false

theorem app_data (a b : ByteArray) : (a ++ b).data.toList = a.data.toList ++ b.data.toList := by rw [ByteArray.data_append, Array.toList_append]
theorem not_in3 {c a b d : UInt8} (h1 : c ≠ a) (h2 : c ≠ b) (h3 : c ≠ d) : ([a, b, d] : List UInt8).contains c = false := by
  rw [← Bool.not_eq_true, List.contains_iff_mem]
  intro h
  simp only [List.mem_cons, List.not_mem_nil, or_false] at h
  rcases h with h | h | h
  · exact h1 h
  · exact h2 h
  · exact h3 h
theorem atx0 {c : UInt8} (t : List UInt8) (h : c ≠ 35) : atxP (c :: t) = (0, []) := by
  unfold atxP
  rw [runN_miss t h, if_neg (by omega)]
theorem fen0 {c : UInt8} (t : List UInt8) (h1 : c ≠ 96) (h2 : c ≠ 126) : fenceP (c :: t) = (0, 0, []) := by
  rw [fen_cons, if_neg (fun e => e.1.elim h1 h2)]
theorem ord0 {c : UInt8} (t : List UInt8) (h : digU c = false) : ordP (c :: t) = (0, 0, 0) := ord_zero (digN_miss t h)
theorem rul0 {c : UInt8} (t : List UInt8) (h : ([42, 45, 95] : List UInt8).contains c = false) : ruleP (c :: t) = false := by rw [ruleP_cons, h, Bool.false_and]
theorem htm0 {c : UInt8} (t : List UInt8) (h : c ≠ 60) : htmlS (c :: t) = 0 := htmlS_none (sgn_no t h)
theorem tag0 {c : UInt8} (t : List UInt8) (h : c ≠ 60) : tagN (c :: t) = 0 := tagN_none (by unfold tagD; rw [sgn_no t h])
theorem bul0 {c : UInt8} (t : List UInt8) (h : ([45, 43, 42] : List UInt8).contains c = false) : bulP (c :: t) = 0 := by
  show (if ([45, 43, 42] : List UInt8).contains c = true ∧ atE t = true then 1 else 0) = 0
  rw [if_neg (fun e => by rw [h] at e; cases e.1)]
theorem clo0 {c d : UInt8} (t : List UInt8) (h : c ≠ d) : closesP (c :: t) d 1 = false := by
  unfold closesP
  rw [runN_miss t h]
  rfl
theorem set0 {c : UInt8} (t : List UInt8) (h1 : c ≠ 61) (h2 : c ≠ 45) : setP (c :: t) = 0 := by
  unfold setP
  rw [clo0 t h1, clo0 t h2]
  rfl
theorem set1 {c : UInt8} (t : List UInt8) (h1 : c ≠ 61) : setP (c :: t) ≠ 1 := by
  unfold setP
  rw [clo0 t h1]
  split
  · rename_i h; cases h
  · split <;> simp

/-- None of all things. -/
structure Zeros (l : List UInt8) : Prop where
  atx : atxP l = (0, [])
  fence : fenceP l = (0, 0, [])
  ord : ordP l = (0, 0, 0)
  rule : ruleP l = false
  html : htmlS l = 0
  tag : tagN l = 0
  bul : bulP l = 0
  set : setP l = 0
theorem zeros_nil : Zeros [] := ⟨rfl, rfl, rfl, rfl, by decide +kernel, rfl, rfl, by decide +kernel⟩
theorem zeros_of {c : UInt8} (t : List UInt8) (h35 : c ≠ 35) (h96 : c ≠ 96) (h126 : c ≠ 126) (hd : digU c = false) (hr : ([42, 45, 95] : List UInt8).contains c = false) (h60 : c ≠ 60) (hb : ([45, 43, 42] : List UInt8).contains c = false) (h61 : c ≠ 61) (h45 : c ≠ 45) : Zeros (c :: t) :=
  ⟨atx0 t h35, fen0 t h96 h126, ord0 t hd, rul0 t hr, htm0 t h60, tag0 t h60, bul0 t hb, set0 t h61 h45⟩
theorem zeros_32 (t : List UInt8) : Zeros (32 :: t) := zeros_of t (by decide) (by decide) (by decide) (by decide) (by decide) (by decide) (by decide) (by decide) (by decide)
theorem zeros_9 (t : List UInt8) : Zeros (9 :: t) := zeros_of t (by decide) (by decide) (by decide) (by decide) (by decide) (by decide) (by decide) (by decide) (by decide)
theorem zeros_x (t : List UInt8) : Zeros (120 :: t) := zeros_of t (by decide) (by decide) (by decide) (by decide) (by decide) (by decide) (by decide) (by decide) (by decide)

/-- P8.1 to P8.4, P8.6: no line is two things. -/
theorem one_of_all (l : List UInt8) :
    ((atxP l).1 = 0 ∧ (fenceP l).2.1 = 0 ∧ (ordP l).2.2 = 0 ∧ ruleP l = false ∧ htmlS l = 0) ∨
    (0 < (atxP l).1 ∧ (fenceP l).2.1 = 0 ∧ (ordP l).2.2 = 0 ∧ ruleP l = false ∧ htmlS l = 0 ∧ bulP l = 0 ∧ setP l ≠ 1) ∨
    ((atxP l).1 = 0 ∧ 0 < (fenceP l).2.1 ∧ (ordP l).2.2 = 0 ∧ ruleP l = false ∧ htmlS l = 0 ∧ bulP l = 0 ∧ setP l ≠ 1) ∨
    ((atxP l).1 = 0 ∧ (fenceP l).2.1 = 0 ∧ 0 < (ordP l).2.2 ∧ ruleP l = false ∧ htmlS l = 0 ∧ bulP l = 0 ∧ setP l ≠ 1) ∨
    ((atxP l).1 = 0 ∧ (fenceP l).2.1 = 0 ∧ (ordP l).2.2 = 0 ∧ ruleP l = true ∧ htmlS l = 0 ∧ setP l ≠ 1) ∨
    ((atxP l).1 = 0 ∧ (fenceP l).2.1 = 0 ∧ (ordP l).2.2 = 0 ∧ ruleP l = false ∧ 0 < htmlS l ∧ bulP l = 0 ∧ setP l ≠ 1) := by
  cases l with
  | nil => left; decide +kernel
  | cons c t =>
    by_cases h35 : c = 35
    · subst h35
      have e2 := fen0 (c := 35) t (by decide) (by decide)
      have e3 := ord0 (c := 35) t (by decide)
      have e4 := rul0 (c := 35) t (by decide)
      have e5 := htm0 (c := 35) t (by decide)
      have e6 := bul0 (c := 35) t (by decide)
      have e7 := set1 (c := 35) t (by decide)
      rw [e2, e3, e4, e5, e6]
      rcases Nat.eq_zero_or_pos (atxP (35 :: t)).1 with h | h
      · exact .inl ⟨h, rfl, rfl, rfl, rfl⟩
      · exact .inr (.inl ⟨h, rfl, rfl, rfl, rfl, rfl, e7⟩)
    rw [atx0 t h35]
    by_cases hf : c = 96 ∨ c = 126
    · have e3 : ordP (c :: t) = (0, 0, 0) := ord0 t (by rcases hf with rfl | rfl <;> decide)
      have e4 : ruleP (c :: t) = false := rul0 t (by rcases hf with rfl | rfl <;> decide)
      have e5 : htmlS (c :: t) = 0 := htm0 t (by rcases hf with rfl | rfl <;> decide)
      have e6 : bulP (c :: t) = 0 := bul0 t (by rcases hf with rfl | rfl <;> decide)
      have e7 : setP (c :: t) ≠ 1 := set1 t (by rcases hf with rfl | rfl <;> decide)
      rw [e3, e4, e5, e6]
      rcases Nat.eq_zero_or_pos (fenceP (c :: t)).2.1 with h | h
      · exact .inl ⟨rfl, h, rfl, rfl, rfl⟩
      · exact .inr (.inr (.inl ⟨rfl, h, rfl, rfl, rfl, rfl, e7⟩))
    have h96 : c ≠ 96 := fun e => hf (.inl e)
    have h126 : c ≠ 126 := fun e => hf (.inr e)
    rw [fen0 t h96 h126]
    by_cases hd : digU c = true
    · have hr := dig_range hd
      have ne : ∀ n : Nat, n < 48 ∨ 57 < n → n < 256 → c ≠ UInt8.ofNat n := fun n hn h256 e => by
        have : c.toNat = n := by rw [e]; simp only [UInt8.toNat_ofNat']; omega
        omega
      have e4 : ruleP (c :: t) = false := rul0 t (by
        have h1 := ne 42 (by omega) (by omega); have h2 := ne 45 (by omega) (by omega); have h3 := ne 95 (by omega) (by omega)
        exact not_in3 h1 h2 h3)
      have e5 : htmlS (c :: t) = 0 := htm0 t (ne 60 (by omega) (by omega))
      have e6 : bulP (c :: t) = 0 := bul0 t (by
        have h1 := ne 45 (by omega) (by omega); have h2 := ne 43 (by omega) (by omega); have h3 := ne 42 (by omega) (by omega)
        exact not_in3 h1 h2 h3)
      have e7 : setP (c :: t) ≠ 1 := set1 t (ne 61 (by omega) (by omega))
      rw [e4, e5, e6]
      rcases Nat.eq_zero_or_pos (ordP (c :: t)).2.2 with h | h
      · exact .inl ⟨rfl, rfl, h, rfl, rfl⟩
      · exact .inr (.inr (.inr (.inl ⟨rfl, rfl, h, rfl, rfl, rfl, e7⟩)))
    have hdf : digU c = false := by simpa using hd
    rw [ord0 t hdf]
    cases hru : ruleP (c :: t) with
    | true =>
      have hc : ([42, 45, 95] : List UInt8).contains c = true := by
        rw [ruleP_cons, Bool.and_eq_true] at hru
        exact hru.1
      have hc2 : c = 42 ∨ c = 45 ∨ c = 95 := by simpa using hc
      have e5 : htmlS (c :: t) = 0 := htm0 t (by rcases hc2 with rfl | rfl | rfl <;> decide)
      have e7 : setP (c :: t) ≠ 1 := set1 t (by rcases hc2 with rfl | rfl | rfl <;> decide)
      rw [e5]
      exact .inr (.inr (.inr (.inr (.inl ⟨rfl, rfl, rfl, rfl, rfl, e7⟩))))
    | false =>
      by_cases h60 : c = 60
      · subst h60
        have e6 := bul0 (c := 60) t (by decide)
        have e7 := set1 (c := 60) t (by decide)
        rw [e6]
        rcases Nat.eq_zero_or_pos (htmlS (60 :: t)) with h | h
        · exact .inl ⟨rfl, rfl, rfl, rfl, h⟩
        · exact .inr (.inr (.inr (.inr (.inr ⟨rfl, rfl, rfl, rfl, h, rfl, e7⟩))))
      · rw [htm0 t h60]
        exact .inl ⟨rfl, rfl, rfl, rfl, rfl⟩
end Sc
end Go.Proofs.YtnpaagglnfocpaaGreatDoor
