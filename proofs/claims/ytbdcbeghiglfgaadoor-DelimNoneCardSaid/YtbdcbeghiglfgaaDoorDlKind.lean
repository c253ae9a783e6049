/- Plain mathematics of layer 13: kinds of characters (from layer 3), how a run leans. -/
set_option linter.unusedVariables false
set_option linter.unusedSimpArgs false
namespace Go.Proofs.YtbdcbeghiglfgaaDoor
namespace Dl
/-! ### kinds of characters -/
/-- A table of ranges: first, last, and what belongs to it. -/
abbrev Tab := List (Int × Int × Int)
def kinds : Tab := [(9, 10, 1), (12, 13, 1), (32, 32, 1), (33, 47, 2), (58, 64, 2), (91, 96, 2), (123, 126, 2), (160, 160, 1), (161, 169, 2), (171, 172, 2), (174, 177, 2), (180, 180, 2), (182, 184, 2), (187, 187, 2), (191, 191, 2), (215, 215, 2), (247, 247, 2), (5760, 5760, 1), (8192, 8202, 1), (8208, 8231, 2), (8239, 8239, 1), (8240, 8286, 2), (8287, 8287, 1), (8352, 8384, 2), (12288, 12288, 1), (12289, 12291, 2), (12296, 12319, 2), (65281, 65295, 2)]
def kdF : Tab → Int → Int
  | [], _ => 0
  | (a, b, k) :: t, r => if r ≤ b then (if r < a then 0 else k) else kdF t r
def kd (r : Int) : Int := kdF kinds r

/-- Is a number in one of some ranges? -/
def amg (l : List (Int × Int)) (r : Int) : Bool := l.any fun p => decide (p.1 ≤ r) && decide (r ≤ p.2)
def ascF : Int → Tab → Bool
  | _, [] => true
  | lo, (a, b, _) :: t => decide (lo < a) && decide (a ≤ b) && ascF b t
def only (k : Int) (t : Tab) : List (Int × Int) := (t.filter fun x => x.2.2 == k).map fun x => (x.1, x.2.1)

theorem only_cons (k a b j : Int) (t : Tab) : only k ((a, b, j) :: t) = if j = k then (a, b) :: only k t else only k t := by
  unfold only
  by_cases h : j = k <;> simp [h]
theorem amg_nil (r : Int) : amg [] r = false := rfl
theorem amg_cons (a b r : Int) (l : List (Int × Int)) : amg ((a, b) :: l) r = (decide (a ≤ r) && decide (r ≤ b) || amg l r) := by simp [amg]

theorem amg_below (k : Int) : ∀ (t : Tab) (lo r : Int), ascF lo t = true → r ≤ lo → amg (only k t) r = false
  | [], _, _, _, _ => rfl
  | (a, b, j) :: t, lo, r, h, hr => by
    simp only [ascF, Bool.and_eq_true, decide_eq_true_eq] at h
    have ih := amg_below k t b r h.2 (by omega)
    rw [only_cons]
    split
    · rw [amg_cons, ih, decide_eq_false (by omega : ¬ a ≤ r)]; rfl
    · exact ih
theorem kdF_only (k : Int) (hk : k ≠ 0) : ∀ (t : Tab) (lo r : Int), ascF lo t = true → (kdF t r = k ↔ amg (only k t) r = true)
  | [], _, r, _ => by
    rw [show amg (only k []) r = false from rfl]
    exact ⟨fun e => absurd e.symm hk, fun h => by cases h⟩
  | (a, b, j) :: t, lo, r, h => by
    simp only [ascF, Bool.and_eq_true, decide_eq_true_eq] at h
    rw [only_cons]
    show (if r ≤ b then (if r < a then 0 else j) else kdF t r) = k ↔ _
    by_cases hb : r ≤ b
    · have hB := amg_below k t b r h.2 hb
      rw [if_pos hb]
      by_cases ha : r < a
      · rw [if_pos ha]
        split
        · rw [amg_cons, hB, decide_eq_false (by omega : ¬ a ≤ r)]
          exact ⟨fun e => absurd e.symm hk, fun h => by cases h⟩
        · rw [hB]
          exact ⟨fun e => absurd e.symm hk, fun h => by cases h⟩
      · rw [if_neg ha]
        by_cases hj : j = k
        · rw [if_pos hj, amg_cons, decide_eq_true (by omega : a ≤ r), decide_eq_true hb]
          exact ⟨fun _ => rfl, fun _ => hj⟩
        · rw [if_neg hj, hB]
          exact ⟨fun e => absurd e hj, fun h => by cases h⟩
    · rw [if_neg hb]
      have ih := kdF_only k hk t b r h.2
      rw [ih]
      split
      · rw [amg_cons, decide_eq_false hb, Bool.and_false, Bool.false_or]
      · exact Iff.rfl
theorem dec_amg {a k : Int} {b : Bool} (h : a = k ↔ b = true) : decide (a = k) = b := by
  rw [Bool.eq_iff_iff, decide_eq_true_iff]; exact h
def whites : List (Int × Int) := [(9, 10), (12, 13), (32, 32), (160, 160), (5760, 5760), (8192, 8202), (8239, 8239), (8287, 8287), (12288, 12288)]
def signs : List (Int × Int) := [(33, 47), (58, 64), (91, 96), (123, 126), (161, 169), (171, 172), (174, 177), (180, 180), (182, 184), (187, 187), (191, 191), (215, 215), (247, 247), (8208, 8231), (8240, 8286), (8352, 8384), (12289, 12291), (12296, 12319), (65281, 65295)]
theorem white_amg (r : Int) : decide (kd r = 1) = amg whites r := by
  exact dec_amg (kdF_only 1 (by decide) kinds 0 r (by decide))
theorem sign_amg (r : Int) : decide (kd r = 2) = amg signs r := by
  exact dec_amg (kdF_only 2 (by decide) kinds 0 r (by decide))

/-! ### how a run leans -/
def isW (r : Int) : Bool := r == 0 || amg whites r
def isS (r : Int) : Bool := amg signs r
def leans (from_ to : Int) : Bool := !isW to && (!isS to || isW from_ || isS from_)
/-- May a run of c between two characters open, and close? -/
def flankP (b a : Int) (c : UInt8) : Bool × Bool :=
  if c = 95 then (leans b a && (!leans a b || isS b), leans a b && (!leans b a || isS a)) else (leans b a, leans a b)
theorem flank_turn (b a : Int) (c : UInt8) : flankP a b c = ((flankP b a c).2, (flankP b a c).1) := by
  unfold flankP
  split <;> rfl
end Dl
end Go.Proofs.YtbdcbeghiglfgaaDoor
