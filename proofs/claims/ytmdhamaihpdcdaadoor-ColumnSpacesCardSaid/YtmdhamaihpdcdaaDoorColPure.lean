/- Plain mathematics of layer 2 (blanks and tabs at the beginning of a line): no program in it. -/
import GoSem.Core.Utf8
import Derived.Lib.SlTrimSet
set_option linter.unusedVariables false
set_option linter.unusedSimpArgs false
namespace Go.Proofs.YtmdhamaihpdcdaaDoor
namespace Cl

/-- How wide a byte is at a column; 0: it is no blank. -/
def wd (c : UInt8) (col : Nat) : Nat := if c = 32 then 1 else if c = 9 then 4 - col % 4 else 0

theorem wd_le (c : UInt8) (col : Nat) : wd c col ≤ 4 := by
  unfold wd
  split
  · omega
  · split <;> omega
theorem wd_zero (c : UInt8) (col col' : Nat) : wd c col = 0 → wd c col' = 0 := by
  unfold wd; split; · omega
  split <;> omega
theorem wd_blank (col : Nat) : wd 32 col = 1 := rfl
theorem wd_tab (col : Nat) : wd 9 col = 4 - col % 4 := rfl

/-- How many columns, and bytes, the blanks ahead are. -/
def indC : List UInt8 → Nat → Nat
  | [], _ => 0
  | c :: t, col => if wd c col = 0 then 0 else wd c col + indC t (col + wd c col)
def indB : List UInt8 → Nat → Nat
  | [], _ => 0
  | c :: t, col => if wd c col = 0 then 0 else 1 + indB t (col + wd c col)

/-- Without some columns: what is left, and its column. -/
def skp : List UInt8 → Nat → Nat → List UInt8 × Nat
  | l, col, 0 => (l, col)
  | [], col, _ + 1 => ([], col)
  | c :: t, col, n + 1 => if wd c col = 0 then (c :: t, col) else if n + 1 ≤ wd c col then (List.replicate (wd c col - (n + 1)) 32 ++ t, col + (n + 1)) else skp t (col + wd c col) (n + 1 - wd c col)

theorem indC_z (c : UInt8) (t : List UInt8) (col : Nat) (h : wd c col = 0) : indC (c :: t) col = 0 := by simp [indC, h]
theorem indB_z (c : UInt8) (t : List UInt8) (col : Nat) (h : wd c col = 0) : indB (c :: t) col = 0 := by simp [indB, h]
theorem indC_s (c : UInt8) (t : List UInt8) (col w : Nat) (h : wd c col = w) (h0 : w ≠ 0) : indC (c :: t) col = w + indC t (col + w) := by
  subst h; simp [indC, h0]
theorem indB_s (c : UInt8) (t : List UInt8) (col w : Nat) (h : wd c col = w) (h0 : w ≠ 0) : indB (c :: t) col = 1 + indB t (col + w) := by
  subst h; simp [indB, h0]

def norm (l : List UInt8) (col : Nat) : List UInt8 := List.replicate (indC l col) 32 ++ l.drop (indB l col)

theorem indB_le (l : List UInt8) (col : Nat) : indB l col ≤ l.length := by
  induction l generalizing col with
  | nil => simp [indB]
  | cons c t ih => simp only [indB]; split; · simp
                   have := ih (col + wd c col); simp; omega
theorem indC_le (l : List UInt8) (col : Nat) : indC l col ≤ 4 * l.length := by
  induction l generalizing col with
  | nil => simp [indC]
  | cons c t ih => simp only [indC]; split; · simp
                   have := ih (col + wd c col); have := wd_le c col; simp; omega

theorem indC_rep (k : Nat) (t : List UInt8) (col : Nat) : indC (List.replicate k 32 ++ t) col = k + indC t (col + k) := by
  induction k generalizing col with
  | zero => simp
  | succ k ih =>
    rw [List.replicate_succ, List.cons_append]
    rw [indC_s 32 _ col 1 rfl (by decide), ih, show col + 1 + k = col + (k + 1) from by omega]; omega
theorem indB_rep (k : Nat) (t : List UInt8) (col : Nat) : indB (List.replicate k 32 ++ t) col = k + indB t (col + k) := by
  induction k generalizing col with
  | zero => simp
  | succ k ih =>
    rw [List.replicate_succ, List.cons_append]
    rw [indB_s 32 _ col 1 rfl (by decide), ih, show col + 1 + k = col + (k + 1) from by omega]; omega

/-- What stands behind the blanks begins with none. -/
theorem behind_zero (l : List UInt8) (col col' : Nat) : indC (l.drop (indB l col)) col' = 0 ∧ indB (l.drop (indB l col)) col' = 0 := by
  induction l generalizing col with
  | nil => simp [indB, indC]
  | cons c t ih =>
    simp only [indB]
    split
    · rename_i h
      have := wd_zero c col col' h
      simp [indB, indC, this]
    · rw [Nat.add_comm 1, List.drop_succ_cons]; exact ih _

theorem skp_nil (col n : Nat) : skp [] col n = ([], col) := by cases n <;> simp [skp]

theorem skp_spec (l : List UInt8) (col n : Nat) : indC (skp l col n).1 (skp l col n).2 = indC l col - n ∧ (skp l col n).2 = col + min (indC l col) n ∧
    (skp l col n).1.drop (indB (skp l col n).1 (skp l col n).2) = l.drop (indB l col) := by
  induction l generalizing col n with
  | nil => rw [skp_nil]; simp [indC]
  | cons c t ih =>
    cases n with
    | zero => simp [skp]
    | succ n =>
      simp only [skp]
      by_cases h0 : wd c col = 0
      · rw [if_pos h0]; simp [indC, indB, h0]
      · rw [if_neg h0]
        by_cases hn : n + 1 ≤ wd c col
        · rw [if_pos hn]
          have e : col + (n + 1) + (wd c col - (n + 1)) = col + wd c col := by omega
          refine ⟨?_, ?_, ?_⟩
          · show indC (List.replicate (wd c col - (n + 1)) 32 ++ t) (col + (n + 1)) = _
            rw [indC_rep, e]; simp only [indC]; rw [if_neg h0]; omega
          · show col + (n + 1) = _
            simp only [indC]; rw [if_neg h0]; omega
          · show (List.replicate (wd c col - (n + 1)) 32 ++ t).drop (indB (List.replicate (wd c col - (n + 1)) 32 ++ t) (col + (n + 1))) = _
            rw [indB_rep, e]
            simp only [indB]; rw [if_neg h0, Nat.add_comm 1, List.drop_succ_cons]
            rw [List.drop_append]
            simp
        · rw [if_neg hn]
          obtain ⟨h1, h2, h3⟩ := ih (col + wd c col) (n + 1 - wd c col)
          refine ⟨?_, ?_, ?_⟩
          · rw [h1]; simp only [indC]; rw [if_neg h0]; omega
          · rw [h2]; simp only [indC]; rw [if_neg h0]; omega
          · rw [h3]; simp only [indB]; rw [if_neg h0, Nat.add_comm 1, List.drop_succ_cons]

theorem skp_len (l : List UInt8) (col n : Nat) : (skp l col n).1.length ≤ 4 * l.length := by
  induction l generalizing col n with
  | nil => rw [skp_nil]; simp
  | cons c t ih =>
    cases n with
    | zero => simp [skp]; omega
    | succ n =>
      simp only [skp]
      have := wd_le c col
      split
      · simp; omega
      · split
        · simp; omega
        · have := ih (col + wd c col) (n + 1 - wd c col); simp; omega
theorem skp_col (l : List UInt8) (col n : Nat) : (skp l col n).2 ≤ col + n := by rw [(skp_spec l col n).2.1]; omega

theorem norm_len (l : List UInt8) (col : Nat) : (norm l col).length ≤ 5 * l.length := by
  unfold norm; have := indC_le l col; simp; omega

/-- P2.4: some columns, and then more. -/
theorem skp_skp (l : List UInt8) (col n m : Nat) : (skp (skp l col n).1 (skp l col n).2 m).2 = (skp l col (n + m)).2 ∧
    norm (skp (skp l col n).1 (skp l col n).2 m).1 (skp (skp l col n).1 (skp l col n).2 m).2 = norm (skp l col (n + m)).1 (skp l col (n + m)).2 := by
  obtain ⟨a1, a2, a3⟩ := skp_spec l col n
  obtain ⟨b1, b2, b3⟩ := skp_spec (skp l col n).1 (skp l col n).2 m
  obtain ⟨c1, c2, c3⟩ := skp_spec l col (n + m)
  refine ⟨by rw [b2, c2, a1, a2]; omega, ?_⟩
  unfold norm
  rw [b1, b3, c1, c3, a1, a3]
  congr 2; omega

/-- P2.3: blanks for tabs. -/
theorem norm_spec (l : List UInt8) (col : Nat) : indC (norm l col) col = indC l col ∧ indB (norm l col) col = indC l col ∧ (norm l col).drop (indC l col) = l.drop (indB l col) ∧ norm (norm l col) 0 = norm l col := by
  have h := fun c => behind_zero l col c
  have e1 : ∀ c, indC (norm l col) c = indC l col := fun c => by unfold norm; rw [indC_rep, (h _).1]; rfl
  have e2 : ∀ c, indB (norm l col) c = indC l col := fun c => by unfold norm; rw [indB_rep, (h _).2]; rfl
  have e3 : (norm l col).drop (indC l col) = l.drop (indB l col) := by unfold norm; rw [List.drop_append]; simp
  refine ⟨e1 _, e2 _, e3, ?_⟩
  have e4 : norm (norm l col) 0 = List.replicate (indC (norm l col) 0) 32 ++ (norm l col).drop (indB (norm l col) 0) := rfl
  rw [e4, e1, e2, e3]; rfl

/-- P2.1: so many tabs. -/
theorem tabs_spec (k : Nat) (t : List UInt8) (col : Nat) (ht : ∀ c, indC t c = 0 ∧ indB t c = 0) :
    indC (List.replicate k 9 ++ t) col = (if k = 0 then 0 else 4 * k - col % 4) ∧ indB (List.replicate k 9 ++ t) col = k := by
  induction k generalizing col with
  | zero => simpa using ht col
  | succ k ih =>
    rw [List.replicate_succ, List.cons_append]
    obtain ⟨h1, h2⟩ := ih (col + (4 - col % 4))
    rw [indC_s 9 _ col (4 - col % 4) rfl (by omega), indB_s 9 _ col (4 - col % 4) rfl (by omega), h1, h2]
    refine ⟨?_, by omega⟩
    split
    · rename_i e; subst e; simp
    · simp; omega

/-! White space at the ends. -/
def wht (c : UInt8) : Bool := c == 32 || (decide (9 ≤ c.toNat) && decide (c.toNat ≤ 13))
def lft (l : List UInt8) : List UInt8 := l.dropWhile wht
def rgt (l : List UInt8) : List UInt8 := (l.reverse.dropWhile wht).reverse
def trm (l : List UInt8) : List UInt8 := lft (rgt l)

def cutset : List UInt8 := [9, 10, 11, 12, 13, 32]
theorem cutset_wht : (fun c => cutset.contains c) = wht := by
  funext c
  have : ∀ n : Fin 256, cutset.contains (UInt8.ofNat n.val) = wht (UInt8.ofNat n.val) := by decide +kernel
  have h := this ⟨c.toNat, UInt8.toNat_lt c⟩
  simpa using h

theorem lib_left (l : List UInt8) : Lib.trimLeftS l cutset = lft l := by unfold Lib.trimLeftS lft; rw [cutset_wht]
theorem lib_right (l : List UInt8) : Lib.trimRightS l cutset = rgt l := by unfold Lib.trimRightS rgt; rw [cutset_wht]
theorem lib_trim (l : List UInt8) : Lib.trimS l cutset = trm l := by unfold Lib.trimS trm; rw [lib_left, lib_right]

theorem lft_nil : lft [] = [] := rfl
theorem lft_cons (c : UInt8) (t : List UInt8) : lft (c :: t) = if wht c then lft t else c :: t := by simp [lft, List.dropWhile_cons]
theorem rgt_nil : rgt [] = [] := rfl
theorem rgt_snoc (t : List UInt8) (c : UInt8) : rgt (t ++ [c]) = if wht c then rgt t else t ++ [c] := by
  unfold rgt; simp [List.dropWhile_cons]; split <;> simp
theorem rgt_cons (c : UInt8) (t : List UInt8) : rgt (c :: t) = if rgt t = [] then (if wht c then [] else [c]) else c :: rgt t := by
  unfold rgt
  rw [List.reverse_cons, List.dropWhile_append]
  by_cases h : (List.dropWhile wht t.reverse) = []
  · rw [h]; simp [List.dropWhile_cons]; split <;> simp
  · simp [h]
theorem lft_rgt_comm (l : List UInt8) : lft (rgt l) = rgt (lft l) := by
  induction l with
  | nil => rfl
  | cons c t ih =>
    rw [rgt_cons, lft_cons]
    by_cases hw : wht c
    · simp only [hw, if_true]
      rw [← ih]
      split
      · rename_i e; rw [e]
      · rw [lft_cons]; simp [hw]
    · simp only [hw]
      rw [show (if (false = true) then lft t else c :: t) = c :: t from rfl, rgt_cons]
      split
      · simp [hw, lft_cons, lft_nil]
      · simp [hw, lft_cons]
theorem lft_lft (l : List UInt8) : lft (lft l) = lft l := by
  induction l with
  | nil => rfl
  | cons c t ih => rw [lft_cons]; split; · exact ih
                   rename_i h; rw [lft_cons]; simp [h]
theorem rgt_rgt (l : List UInt8) : rgt (rgt l) = rgt l := by
  have h := lft_lft l.reverse
  unfold lft at h; unfold rgt; rw [List.reverse_reverse, h]
theorem trm_trm (l : List UInt8) : trm (trm l) = trm l := by
  unfold trm; rw [← lft_rgt_comm (rgt l), rgt_rgt, lft_lft]
theorem lft_len (l : List UInt8) : (lft l).length ≤ l.length := by
  induction l with
  | nil => simp [lft]
  | cons c t ih => rw [lft_cons]; split <;> simp; omega
theorem rgt_len (l : List UInt8) : (rgt l).length ≤ l.length := by
  have := lft_len l.reverse; unfold lft at this; unfold rgt; simpa using this
theorem trm_len (l : List UInt8) : (trm l).length ≤ l.length := Nat.le_trans (lft_len _) (rgt_len _)
theorem lft_white (w l : List UInt8) (h : ∀ c ∈ w, wht c = true) : lft (w ++ l) = lft l := by
  induction w with
  | nil => rfl
  | cons c t ih => rw [List.cons_append, lft_cons, if_pos (h c (by simp)), ih (fun x hx => h x (by simp [hx]))]
theorem rgt_white (w l : List UInt8) (h : ∀ c ∈ w, wht c = true) : rgt (l ++ w) = rgt l := by
  have := lft_white w.reverse l.reverse (fun c hc => h c (by simpa using hc))
  unfold lft at this; unfold rgt; rw [List.reverse_append, this]
theorem trm_white (v l w : List UInt8) (hv : ∀ c ∈ v, wht c = true) (hw : ∀ c ∈ w, wht c = true) : trm (v ++ l ++ w) = trm l := by
  unfold trm; rw [rgt_white _ _ hw, lft_rgt_comm, lft_white _ _ hv, ← lft_rgt_comm]
end Cl
end Go.Proofs.YtmdhamaihpdcdaaDoor
