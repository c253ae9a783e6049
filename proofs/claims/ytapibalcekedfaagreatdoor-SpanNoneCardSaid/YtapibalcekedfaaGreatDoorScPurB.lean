/- Plain mathematics of layer 8, the second part: rules, headings, fences, items. -/
import Derived.Test.YtapibalcekedfaaGreatDoorScPure
import Derived.Lib.SlTrimSet
set_option linter.unusedVariables false
set_option linter.unusedSimpArgs false
set_option maxRecDepth 100000
namespace Go.Proofs.YtapibalcekedfaaGreatDoor
namespace Sc

/-! ### blanks at the ends -/
def trimL (l : List UInt8) : List UInt8 := l.dropWhile blk
def trimR (l : List UInt8) : List UInt8 := (l.reverse.dropWhile blk).reverse
def trimB (l : List UInt8) : List UInt8 := trimL (trimR l)
theorem cut_blk : (fun c : UInt8 => ([32, 9] : List UInt8).contains c) = blk := by
  funext c
  simp [blk, List.contains, List.elem]
  cases (c == 32) <;> cases (c == 9) <;> rfl
theorem lib_trimB (l : List UInt8) : Lib.trimS l [32, 9] = trimB l := by
  unfold Lib.trimS Lib.trimLeftS Lib.trimRightS trimB trimL trimR
  rw [cut_blk]
theorem lib_trimR (l : List UInt8) : Lib.trimRightS l [32, 9] = trimR l := by
  unfold Lib.trimRightS trimR
  rw [cut_blk]
theorem trimR_nil : trimR [] = [] := rfl
theorem trimR_snoc (t : List UInt8) (c : UInt8) : trimR (t ++ [c]) = if blk c = true then trimR t else t ++ [c] := by
  unfold trimR
  rw [List.reverse_append]
  simp only [List.reverse_cons, List.reverse_nil, List.nil_append, List.cons_append, List.dropWhile]
  cases blk c with
  | true => simp
  | false => simp
theorem dropWhile_app (p : UInt8 → Bool) (a b : List UInt8) : (a ++ b).dropWhile p = if a.dropWhile p = [] then b.dropWhile p else a.dropWhile p ++ b := by
  induction a with
  | nil => simp
  | cons c t ih =>
    rw [List.cons_append]
    by_cases h : p c = true
    · rw [List.dropWhile_cons_of_pos h, List.dropWhile_cons_of_pos h]; exact ih
    · rw [List.dropWhile_cons_of_neg h, List.dropWhile_cons_of_neg h, if_neg (by simp)]; rfl
theorem takeWhile_all (p : UInt8 → Bool) (l : List UInt8) : ∀ b ∈ l.takeWhile p, p b = true := by
  induction l with
  | nil => intro b hb; cases hb
  | cons c t ih =>
    intro b hb
    by_cases h : p c = true
    · rw [List.takeWhile_cons_of_pos h] at hb
      rcases List.mem_cons.1 hb with e | e
      · rw [e]; exact h
      · exact ih b e
    · rw [List.takeWhile_cons_of_neg h] at hb; cases hb
theorem trimR_cons (c : UInt8) (t : List UInt8) : trimR (c :: t) = if trimR t = [] ∧ blk c = true then [] else c :: trimR t := by
  unfold trimR
  rw [List.reverse_cons, dropWhile_app]
  by_cases h : t.reverse.dropWhile blk = []
  · rw [if_pos h, h]
    simp only [List.dropWhile, List.reverse_nil]
    cases hb : blk c with
    | true => simp
    | false => simp
  · rw [if_neg h]
    have : ¬ (t.reverse.dropWhile blk).reverse = [] := by simpa using h
    rw [if_neg (fun e => this e.1)]
    simp
theorem trim_comm (l : List UInt8) : trimR (trimL l) = trimB l := by
  unfold trimB
  induction l with
  | nil => rfl
  | cons c t ih =>
    rw [trimR_cons]
    cases hb : blk c with
    | true =>
      have e1 : trimL (c :: t) = trimL t := by simp [trimL, List.dropWhile, hb]
      rw [e1, ih]
      by_cases h : trimR t = []
      · rw [if_pos ⟨h, rfl⟩, h]
      · rw [if_neg (fun e => h e.1)]
        simp [trimL, List.dropWhile, hb]
    | false =>
      have e1 : ∀ x, trimL (c :: x) = c :: x := fun x => by simp [trimL, List.dropWhile, hb]
      rw [if_neg (by simp), e1, e1, trimR_cons, hb, if_neg (by simp)]
theorem trimL_nil_iff (l : List UInt8) : trimL l = [] ↔ l.all blk = true := by
  unfold trimL
  induction l with
  | nil => simp
  | cons c t ih =>
    simp only [List.dropWhile, List.all_cons]
    cases blk c with
    | true => simpa using ih
    | false => simp
theorem trimR_nil_iff (l : List UInt8) : trimR l = [] ↔ l.all blk = true := by
  induction l with
  | nil => simp [trimR]
  | cons c t ih =>
    rw [trimR_cons]
    simp only [List.all_cons, Bool.and_eq_true]
    rw [← ih]
    constructor
    · intro h
      split at h
      · rename_i h2; exact ⟨h2.2, h2.1⟩
      · cases h
    · rintro ⟨h1, h2⟩
      rw [if_pos ⟨h2, h1⟩]
theorem trimB_nil_iff (l : List UInt8) : trimB l = [] ↔ l.all blk = true := by
  rw [← trim_comm, trimR_nil_iff, ← trimR_nil_iff, trim_comm]
  unfold trimB
  rw [trimL_nil_iff]
  constructor
  · intro h
    rw [← trimL_nil_iff] at h
    have h2 := trim_comm l
    unfold trimB at h2
    rw [h] at h2
    rw [← trimR_nil_iff]
    cases l with
    | nil => rfl
    | cons c t =>
      rw [trimR_nil_iff] at h2 ⊢
      simp only [List.all_cons]
      unfold trimL at h2
      simp only [List.dropWhile] at h2
      cases hb : blk c with
      | true =>
        rw [hb] at h2
        simp only at h2
        rw [Bool.true_and]
        have : (t.dropWhile blk).all blk = true := h2
        cases hd : t.dropWhile blk with
        | nil =>
          have := (trimL_nil_iff t).1 hd
          exact this
        | cons x y =>
          rw [hd] at this
          have hx := dropWhile_head blk t x y hd
          simp [hx] at this
      | false => rw [hb] at h2; simp [hb] at h2
  · intro h
    rw [(trimR_nil_iff l).2 h]
    rfl
theorem trim_empty (l : List UInt8) : (trimB l).isEmpty = l.all blk := by
  rw [Bool.eq_iff_iff, List.isEmpty_iff, trimB_nil_iff]
theorem trimR_last {l t : List UInt8} {c : UInt8} (h : trimR l = t ++ [c]) : blk c = false := by
  have := dropWhile_head blk l.reverse c t.reverse (by
    unfold trimR at h
    have := congrArg List.reverse h
    simpa using this)
  exact this
theorem trimL_len (l : List UInt8) : (trimL l).length ≤ l.length := dropWhile_len _ _
theorem trimR_len (l : List UInt8) : (trimR l).length ≤ l.length := by
  unfold trimR
  rw [List.length_reverse]
  have := dropWhile_len blk l.reverse
  rwa [List.length_reverse] at this
theorem trimB_len (l : List UInt8) : (trimB l).length ≤ l.length := Nat.le_trans (trimL_len _) (trimR_len _)
theorem trimB_head {l t : List UInt8} {c : UInt8} (h : trimB l = c :: t) : blk c = false := dropWhile_head blk (trimR l) c t h
theorem trimB_last {l t : List UInt8} {c : UInt8} (h : trimB l = t ++ [c]) : blk c = false := by
  rw [← trim_comm] at h
  exact trimR_last h

/-! ### how many of a sign -/
def runN (c : UInt8) (l : List UInt8) : Nat := (l.takeWhile (· == c)).length
theorem runN_nil (c : UInt8) : runN c [] = 0 := rfl
theorem runN_hit (c : UInt8) (t : List UInt8) : runN c (c :: t) = runN c t + 1 := by simp [runN, List.takeWhile]
theorem runN_miss {c x : UInt8} (t : List UInt8) (h : x ≠ c) : runN c (x :: t) = 0 := by
  have : (x == c) = false := by simpa using h
  simp [runN, List.takeWhile, this]
theorem runN_le (c : UInt8) (l : List UInt8) : runN c l ≤ l.length := by
  induction l with
  | nil => simp [runN]
  | cons x t ih =>
    by_cases h : x = c
    · subst h; rw [runN_hit]; simp; omega
    · rw [runN_miss t h]; omega

/-! ### lines -/
def ruleP (l : List UInt8) : Bool := match l with
  | [] => false
  | c :: t => ([42, 45, 95] : List UInt8).contains c && (c :: t).all (fun x => x == c || blk x) && decide (3 ≤ (c :: t).count c)
def closesP (l : List UInt8) (c : UInt8) (n : Int) : Bool := decide (max n 1 ≤ (runN c l : Int)) && (l.drop (runN c l)).all blk
def setP (l : List UInt8) : Nat := if closesP l 61 1 = true then 1 else if closesP l 45 1 = true then 2 else 0
/-- Without a last run of signs. -/
def ahead (t : List UInt8) : List UInt8 := (t.reverse.dropWhile (· == 35)).reverse
def woP (t : List UInt8) : List UInt8 := match (ahead t).getLast? with
  | none => []
  | some c => if blk c = true then trimR (ahead t) else t
def atxP (l : List UInt8) : Nat × List UInt8 := if 1 ≤ runN 35 l ∧ runN 35 l ≤ 6 ∧ atE (l.drop (runN 35 l)) = true then (runN 35 l, woP (trimB (l.drop (runN 35 l)))) else (0, [])
def fenceP (l : List UInt8) : UInt8 × Nat × List UInt8 := match l with
  | [] => (0, 0, [])
  | c :: t => if (c = 96 ∨ c = 126) ∧ 3 ≤ runN c (c :: t) ∧ ¬ (c = 96 ∧ 96 ∈ (c :: t).drop (runN c (c :: t))) then (c, runN c (c :: t), trimB ((c :: t).drop (runN c (c :: t)))) else (0, 0, [])
def bulP (l : List UInt8) : Nat := match l with
  | [] => 0
  | c :: t => if ([45, 43, 42] : List UInt8).contains c = true ∧ atE t = true then 1 else 0
def valN (l : List UInt8) : Nat := l.foldl (fun v c => v * 10 + (c.toNat - 48)) 0
def digN (l : List UInt8) : Nat := (l.takeWhile digU).length
def ordP (l : List UInt8) : Nat × UInt8 × Nat := match l.drop (digN l) with
  | [] => (0, 0, 0)
  | x :: t => if 1 ≤ digN l ∧ digN l ≤ 9 ∧ (x = 46 ∨ x = 41) ∧ atE t = true then (valN (l.take (digN l)), x, digN l + 1) else (0, 0, 0)

theorem ahead_cut (t : List UInt8) : ∃ k, ahead t ++ List.replicate k 35 = t := by
  refine ⟨(t.reverse.takeWhile (· == 35)).length, ?_⟩
  have h := List.takeWhile_append_dropWhile (p := fun x : UInt8 => x == 35) (l := t.reverse)
  have h2 : t.reverse.takeWhile (· == 35) = List.replicate (t.reverse.takeWhile (· == 35)).length 35 := by
    rw [List.eq_replicate_iff]
    refine ⟨rfl, fun b hb => ?_⟩
    have := takeWhile_all _ _ b hb
    simpa using this
  have h3 := congrArg List.reverse h
  rw [List.reverse_append, List.reverse_reverse] at h3
  unfold ahead
  conv => rhs; rw [← h3]
  congr 1
  conv => rhs; rw [h2]
  rw [List.reverse_replicate]
theorem ahead_nil : ahead [] = [] := rfl
theorem ahead_snoc (t : List UInt8) (c : UInt8) : ahead (t ++ [c]) = if c = 35 then ahead t else t ++ [c] := by
  unfold ahead
  rw [List.reverse_append]
  simp only [List.reverse_cons, List.reverse_nil, List.nil_append, List.cons_append, List.dropWhile]
  by_cases h : c = 35
  · subst h; simp
  · have : (c == 35) = false := by simpa using h
    rw [this, if_neg h]; simp
theorem getLast_snoc (t : List UInt8) (c : UInt8) : (t ++ [c]).getLast? = some c := by simp
/-- The reference's way. -/
theorem woP_ref {t : List UInt8} (ht : trimB t = t) : woP t = match (ahead t).getLast? with
    | none => trimB (ahead t)
    | some c => if (ahead t).length < t.length ∧ blk c = true then trimB (ahead t) else t := by
  unfold woP
  cases hl : (ahead t).getLast? with
  | none =>
    have : ahead t = [] := List.getLast?_eq_none_iff.1 hl
    rw [this]; rfl
  | some c =>
    simp only
    obtain ⟨a, ha⟩ : ∃ a, ahead t = a ++ [c] := by
      have hne : ahead t ≠ [] := by intro e; rw [e] at hl; cases hl
      refine ⟨(ahead t).dropLast, ?_⟩
      rw [List.getLast?_eq_some_getLast hne] at hl
      rw [← Option.some.inj hl]; exact (List.dropLast_concat_getLast hne).symm
    obtain ⟨k, hk⟩ := ahead_cut t
    by_cases hb : blk c = true
    · have hlt : (ahead t).length < t.length := by
        rcases Nat.eq_zero_or_pos k with h0 | h0
        · subst h0
          simp only [List.replicate_zero, List.append_nil] at hk
          have h2 : trimB t = a ++ [c] := by rw [ht, ← hk, ha]
          have h1 := trimB_last h2
          rw [h1] at hb; cases hb
        · have := congrArg List.length hk
          rw [List.length_append, List.length_replicate] at this
          omega
      rw [if_pos hb, if_pos ⟨hlt, hb⟩]
      -- what stands ahead begins with no blank
      cases hal : ahead t with
      | nil => rfl
      | cons x y =>
        have hx : blk x = false := by
          rw [hal] at hk
          have := trimB_head (l := t) (t := y ++ List.replicate k 35) (c := x) (by rw [ht, ← hk]; rfl)
          exact this
        have e : trimR (x :: y) = x :: trimR y := by rw [trimR_cons, hx, if_neg (by simp)]
        show trimR (x :: y) = trimL (trimR (x :: y))
        rw [e]
        simp [trimL, List.dropWhile, hx]
    · rw [if_neg hb, if_neg (fun e => hb e.2)]
end Sc
end Go.Proofs.YtapibalcekedfaaGreatDoor
