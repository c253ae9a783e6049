/- Plain mathematics of layer 1: a text's lines. No program in it. -/
import Derived.Test.YtopaohficfdhhaaDoorTextPure
import Derived.Lib.SlTrimSet
set_option linter.unusedVariables false
set_option linter.unusedSimpArgs false
namespace Go.Proofs.YtopaohficfdhhaaDoor
namespace Tx

def isEnd (c : UInt8) : Bool := c == 10 || c == 13
def lineOf (l : List UInt8) : List UInt8 := l.takeWhile (fun c => !isEnd c)
def cutEnd : List UInt8 → List UInt8
  | [] => []
  | 13 :: 10 :: t => t
  | _ :: t => t
def restOf (l : List UInt8) : List UInt8 := cutEnd (l.dropWhile (fun c => !isEnd c))

theorem cutEnd_le (l : List UInt8) : (cutEnd l).length ≤ l.length - 1 := by
  unfold cutEnd; split <;> simp <;> omega
theorem dropWhile_le (p : UInt8 → Bool) (l : List UInt8) : (l.dropWhile p).length ≤ l.length := by
  induction l with
  | nil => simp
  | cons a t ih => rw [List.dropWhile_cons]; split <;> simp <;> omega
theorem restOf_lt (b : UInt8) (l : List UInt8) : (restOf (b :: l)).length < (b :: l).length := by
  unfold restOf
  have h1 := cutEnd_le ((b :: l).dropWhile (fun c => !isEnd c))
  have h2 := dropWhile_le (fun c => !isEnd c) (b :: l)
  simp at *; omega

def lines : List UInt8 → List (List UInt8)
  | [] => []
  | b :: l => lineOf (b :: l) :: lines (restOf (b :: l))
termination_by l => l.length
decreasing_by exact restOf_lt b l

theorem lines_nil : lines [] = [] := by rw [lines]
theorem lines_cons (b : UInt8) (l : List UInt8) : lines (b :: l) = lineOf (b :: l) :: lines (restOf (b :: l)) := by rw [lines]
theorem lines_ne (l : List UInt8) (h : l ≠ []) : lines l = lineOf l :: lines (restOf l) := by
  cases l with
  | nil => exact absurd rfl h
  | cons b t => exact lines_cons b t

def join (L : List (List UInt8)) : List UInt8 := (L.map (· ++ [10])).flatten

def NoEnd (l : List UInt8) : Prop := ∀ c ∈ l, isEnd c = false

theorem lineOf_noEnd (l : List UInt8) : NoEnd (lineOf l) := by
  unfold lineOf
  induction l with
  | nil => intro c hc; cases hc
  | cons a t ih =>
    rw [List.takeWhile_cons]
    by_cases h : (!isEnd a) = true
    · rw [if_pos h]; intro c hc
      rcases List.mem_cons.1 hc with rfl | hc
      · simpa using h
      · exact ih c hc
    · rw [if_neg h]; intro c hc; cases hc

theorem lines_noEnd (l : List UInt8) : ∀ x ∈ lines l, NoEnd x := by
  induction l using lines.induct with
  | case1 => rw [lines_nil]; intro x hx; cases hx
  | case2 b l ih =>
    rw [lines_cons]; intro x hx
    rcases List.mem_cons.1 hx with rfl | hx
    · exact lineOf_noEnd _
    · exact ih x hx

theorem takeWhile_none (p : UInt8 → Bool) (l m : List UInt8) (x : UInt8) (h : ∀ c ∈ l, p c = true) (hx : p x = false) : (l ++ x :: m).takeWhile p = l ∧ (l ++ x :: m).dropWhile p = x :: m := by
  induction l with
  | nil => simp [List.takeWhile_cons, List.dropWhile_cons, hx]
  | cons a t ih =>
    have ha := h a (by simp)
    have := ih (fun c hc => h c (by simp [hc]))
    simp [List.takeWhile_cons, List.dropWhile_cons, ha, this]

theorem tw_all (p : UInt8 → Bool) (l : List UInt8) (h : ∀ c ∈ l, p c = true) : l.takeWhile p = l ∧ l.dropWhile p = [] := by
  induction l with
  | nil => exact ⟨rfl, rfl⟩
  | cons a t ih =>
    have ha := h a (by simp)
    have := ih (fun c hc => h c (by simp [hc]))
    simp [List.takeWhile_cons, List.dropWhile_cons, ha, this]

theorem noEnd_p {l : List UInt8} (h : NoEnd l) : ∀ c ∈ l, (fun c => !isEnd c) c = true := fun c hc => by simp [h c hc]

theorem line_lf (l m : List UInt8) (h : NoEnd l) : lineOf (l ++ 10 :: m) = l ∧ restOf (l ++ 10 :: m) = m := by
  have := takeWhile_none (fun c => !isEnd c) l m 10 (noEnd_p h) (by decide)
  refine ⟨this.1, ?_⟩
  unfold restOf; rw [this.2]; rfl

theorem lines_lf (l m : List UInt8) (h : NoEnd l) : lines (l ++ 10 :: m) = l :: lines m := by
  have := line_lf l m h
  rw [lines_ne _ (by simp), this.1, this.2]

theorem lines_join (L : List (List UInt8)) (h : ∀ x ∈ L, NoEnd x) : lines (join L) = L := by
  induction L with
  | nil => exact lines_nil
  | cons x L ih =>
    have : join (x :: L) = x ++ 10 :: join L := by simp [join]
    rw [this, lines_lf _ _ (h x (by simp)), ih (fun y hy => h y (by simp [hy]))]

theorem lines_length (l : List UInt8) : (lines l).length ≤ l.length := by
  induction l using lines.induct with
  | case1 => simp [lines_nil]
  | case2 b l ih =>
    rw [lines_cons]
    have := restOf_lt b l
    simp at *; omega

/-- An LF behind the first part: the parts' lines one behind the other. -/
theorem lines_parts : ∀ (n : Nat) (x y : List UInt8), x.length ≤ n → lines (x ++ 10 :: y) = lines (x ++ [10]) ++ lines y := by
  intro n
  induction n with
  | zero =>
    intro x y h
    have : x = [] := List.length_eq_zero_iff.1 (by omega)
    subst this
    have h1 := lines_lf [] y (by intro c hc; cases hc)
    have h2 := lines_lf [] [] (by intro c hc; cases hc)
    simp [lines_nil] at h1 h2
    simp [h1, h2]
  | succ n ih =>
    intro x y h
    by_cases hx : NoEnd x
    · rw [lines_lf x y hx, lines_lf x [] hx]; simp [lines_nil]
    · -- x = p ++ e :: q
      obtain ⟨p, e, q, rfl, hp, he⟩ : ∃ p e q, x = p ++ e :: q ∧ NoEnd p ∧ isEnd e = true := by
        clear h ih
        induction x with
        | nil => exact absurd (fun c hc => by cases hc) hx
        | cons a t iht =>
          by_cases ha : isEnd a = true
          · refine ⟨[], a, t, rfl, ?_, ha⟩
            intro c hc; cases hc
          · have ht : ¬ NoEnd t := fun ht => hx (fun c hc => by
              rcases List.mem_cons.1 hc with rfl | hc
              · simpa using ha
              · exact ht c hc)
            obtain ⟨p, e, q, rfl, hp, he⟩ := iht ht
            refine ⟨a :: p, e, q, rfl, ?_, he⟩
            intro c hc
            rcases List.mem_cons.1 hc with rfl | hc
            · simpa using ha
            · exact hp c hc
      have tw : ∀ m, lineOf (p ++ e :: m) = p ∧ restOf (p ++ e :: m) = cutEnd (e :: m) := fun m => by
        have := takeWhile_none (fun c => !isEnd c) p m e (noEnd_p hp) (by simp [he])
        exact ⟨this.1, by unfold restOf; rw [this.2]⟩
      have step : ∀ m, lines (p ++ e :: m) = p :: lines (cutEnd (e :: m)) := fun m => by
        rw [lines_ne _ (by simp), (tw m).1, (tw m).2]
      have e1 : (p ++ e :: q) ++ 10 :: y = p ++ e :: (q ++ 10 :: y) := by simp
      have e2 : (p ++ e :: q) ++ [10] = p ++ e :: (q ++ [10]) := by simp
      rw [e1, e2, step, step]
      have hq : q.length ≤ n := by simp at h; omega
      by_cases h13 : e = 13
      · subst h13
        cases q with
        | nil => simp [cutEnd, lines_nil]
        | cons a t =>
          by_cases ha : a = 10
          · subst ha
            have := ih t y (by simp at hq; omega)
            simpa [cutEnd] using congrArg (p :: ·) this
          · have c1 : ∀ m, cutEnd (13 :: a :: m) = a :: m := fun m => by
              unfold cutEnd; split
              · simp at *
              · rename_i heq; simp at heq; exact absurd heq.1 ha
              · rename_i heq; simp at heq; exact heq.2.symm
            have := ih (a :: t) y hq
            simp only [List.cons_append] at this ⊢
            rw [c1, c1, this]
      · have c1 : ∀ m, cutEnd (e :: m) = m := fun m => by
          unfold cutEnd; split
          · simp at *
          · rename_i heq; simp at heq; exact absurd heq.1 h13
          · rename_i heq; simp at heq; exact heq.2.symm
        rw [c1, c1, ih q y hq]; simp

def blank (l : List UInt8) : Bool := l.all (fun c => c == 32 || c == 9)

theorem blank_append (a b : List UInt8) : blank (a ++ b) = (blank a && blank b) := by simp [blank]

theorem trim_nil (l : List UInt8) : (Lib.trimS l [32, 9] = []) ↔ blank l = true := by
  have hk : ∀ c : UInt8, ([32, 9] : List UInt8).contains c = (c == 32 || c == 9) := fun c => by simp [List.contains_cons, Bool.beq_eq_decide_eq]
  have hall : ∀ m : List UInt8, m.dropWhile (fun c => ([32, 9] : List UInt8).contains c) = [] ↔ blank m = true := fun m => by
    simp only [hk, blank]
    induction m with
    | nil => simp
    | cons a t ih => rw [List.dropWhile_cons]; by_cases h : (a == 32 || a == 9) = true <;> simp_all
  unfold Lib.trimS Lib.trimLeftS
  rw [hall]
  unfold Lib.trimRightS
  have hsplit : ∀ m : List UInt8, blank (m.dropWhile (fun c => ([32, 9] : List UInt8).contains c)) = true ↔ blank m = true := fun m => by
    simp only [hk, blank]
    induction m with
    | nil => simp
    | cons a t ih => rw [List.dropWhile_cons]; by_cases h : (a == 32 || a == 9) = true <;> simp_all
  have hrev : ∀ m : List UInt8, blank m.reverse = blank m := fun m => by simp [blank]
  rw [hrev, hsplit, hrev]

theorem blank_line (l : List UInt8) (h : blank l = true) (hne : l ≠ []) : lines l = [l] := by
  have hn : ∀ c ∈ l, (fun c => !isEnd c) c = true := by
    intro c hc
    have := List.all_eq_true.1 h c hc
    simp only [Bool.or_eq_true, beq_iff_eq] at this
    rcases this with rfl | rfl <;> decide
  have h1 : lineOf l = l := by
    unfold lineOf; exact (tw_all _ l hn).1
  have h2 : restOf l = [] := by
    unfold restOf
    rw [(tw_all _ l hn).2]; rfl
  rw [lines_ne l hne, h1, h2, lines_nil]
end Tx
end Go.Proofs.YtopaohficfdhhaaDoor
