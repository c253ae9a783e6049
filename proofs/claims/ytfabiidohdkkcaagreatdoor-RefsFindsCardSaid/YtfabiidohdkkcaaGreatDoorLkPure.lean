/- Plain mathematics of layer 9 (labels, addresses, titles): no program in it. -/
import Derived.Test.YtfabiidohdkkcaaGreatDoorEscPure
set_option linter.unusedVariables false
set_option linter.unusedSimpArgs false
set_option maxRecDepth 100000
namespace Go.Proofs.YtfabiidohdkkcaaGreatDoor
namespace Lk
open Es

/-! ### white, escaped bytes -/
def whB (c : UInt8) : Bool := c == 32 || c == 9 || c == 10
def whN (l : List UInt8) : Nat := (l.takeWhile whB).length
theorem whN_hit {c : UInt8} (t : List UInt8) (h : whB c = true) : whN (c :: t) = whN t + 1 := by simp [whN, List.takeWhile, h]
theorem whN_miss {c : UInt8} (t : List UInt8) (h : whB c = false) : whN (c :: t) = 0 := by simp [whN, List.takeWhile, h]
theorem whN_nil : whN [] = 0 := rfl
theorem whN_le (l : List UInt8) : whN l ≤ l.length := by
  induction l with
  | nil => exact Nat.le_refl _
  | cons c t ih =>
    cases h : whB c with
    | true => rw [whN_hit t h]; simp only [List.length_cons]; omega
    | false => rw [whN_miss t h]; omega
/-- Does a text begin with a sign? -/
def hs : List UInt8 → Bool
  | [] => false
  | d :: _ => sg d
/-- Is the byte behind one escaped? (f: is the one itself?) -/
def nf (f : Bool) (c : UInt8) (t : List UInt8) : Bool := !f && (c == 92 && hs t)
theorem nf_other (f : Bool) {c : UInt8} (t : List UInt8) (h : c ≠ 92) : nf f c t = false := by
  have : (c == 92) = false := by simpa using h
  simp [nf, this]
theorem nf_true (c : UInt8) (t : List UInt8) : nf true c t = false := rfl
/-- Is byte i escaped? -/
def fl : Bool → List UInt8 → Nat → Bool
  | f, _, 0 => f
  | f, [], _ + 1 => f
  | f, c :: t, i + 1 => fl (nf f c t) t i
theorem fl_zero (f : Bool) (l : List UInt8) : fl f l 0 = f := by cases l <;> rfl
theorem fl_succ : ∀ (i : Nat) (f : Bool) (l : List UInt8) {c : UInt8} {t : List UInt8}, l.drop i = c :: t → fl f l (i + 1) = nf (fl f l i) c t
  | 0, f, l, c, t, h => by
    rw [List.drop_zero] at h
    subst h
    rw [fl_zero]
    exact fl_zero _ _
  | i + 1, f, [], c, t, h => by simp at h
  | i + 1, f, d :: u, c, t, h => fl_succ i (nf f d u) u (by simpa using h)

/-! ### the first byte that ends something -/
def find (hard bad stop : UInt8 → Bool) : Bool → List UInt8 → Option Nat
  | _, [] => none
  | f, c :: t => if hard c = true ∨ (f = false ∧ bad c = true) then none else if f = false ∧ stop c = true then some 0 else (find hard bad stop (nf f c t) t).map (· + 1)
section
variable {H B S : UInt8 → Bool}
theorem find_nil (f : Bool) : find H B S f [] = none := by cases f <;> rfl
theorem find_cons (f : Bool) (c : UInt8) (t : List UInt8) : find H B S f (c :: t) = if H c = true ∨ (f = false ∧ B c = true) then none else if f = false ∧ S c = true then some 0 else (find H B S (nf f c t) t).map (· + 1) := rfl
theorem find_lt : ∀ (l : List UInt8) (f : Bool) (i : Nat), find H B S f l = some i → i < l.length
  | [], f, i, h => by rw [find_nil] at h; cases h
  | c :: t, f, i, h => by
    rw [find_cons] at h
    split at h
    · cases h
    · split at h
      · cases h; simp
      · obtain ⟨j, hj, rfl⟩ := Option.map_eq_some_iff.1 h
        have := find_lt t _ j hj
        simp only [List.length_cons]; omega
theorem hs_app {t : List UInt8} (h : t ≠ []) (m : List UInt8) : hs (t ++ m) = hs t := by
  cases t with
  | nil => exact absurd rfl h
  | cons _ _ => rfl
theorem hs_take {t : List UInt8} (j : Nat) : hs (t.take (j + 1)) = hs t := by
  cases t <;> rfl
/-- What stands behind says nothing. -/
theorem find_take (m : List UInt8) : ∀ (l : List UInt8) (f : Bool) (i : Nat), find H B S f l = some i → find H B S f (l.take (i + 1) ++ m) = some i
  | [], f, i, h => by rw [find_nil] at h; cases h
  | c :: t, f, i, h => by
    rw [find_cons] at h
    rw [List.take_succ_cons, List.cons_append, find_cons]
    split at h
    · cases h
    · rename_i h1
      rw [if_neg h1]
      split at h
      · rename_i h2
        rw [if_pos h2]; exact h
      · rename_i h2
        obtain ⟨j, hj, rfl⟩ := Option.map_eq_some_iff.1 h
        have hlt := find_lt t _ j hj
        have e : nf f c (t.take (j + 1) ++ m) = nf f c t := by
          unfold nf
          rw [hs_app (by intro e; have := congrArg List.length e; rw [List.length_take, List.length_nil] at this; omega), hs_take]
        rw [if_neg h2, e, find_take m t _ j hj]
        rfl
/-- Without its last sign it is not there. -/
theorem find_cut : ∀ (l : List UInt8) (f : Bool) (i : Nat), find H B S f l = some i → find H B S f (l.take i) = none
  | [], f, i, h => by rw [find_nil] at h; cases h
  | c :: t, f, i, h => by
    rw [find_cons] at h
    split at h
    · cases h
    · rename_i h1
      split at h
      · cases h; exact find_nil _
      · rename_i h2
        obtain ⟨j, hj, rfl⟩ := Option.map_eq_some_iff.1 h
        rw [List.take_succ_cons, find_cons, if_neg h1, if_neg h2]
        cases j with
        | zero => rw [List.take_zero, find_nil]; rfl
        | succ k =>
          have e : nf f c (t.take (k + 1)) = nf f c t := by unfold nf; rw [hs_take]
          rw [e, find_cut t _ (k + 1) hj]
          rfl
theorem find_plain (l : List UInt8) : ∀ (a : List UInt8), (∀ c ∈ a, c ≠ 92 ∧ H c = false ∧ B c = false ∧ S c = false) → find H B S false (a ++ l) = (find H B S false l).map (· + a.length)
  | [], _ => by
    rw [List.nil_append]
    cases find H B S false l <;> rfl
  | c :: t, h => by
    obtain ⟨h1, h2, h3, h4⟩ := h c List.mem_cons_self
    rw [List.cons_append, find_cons, if_neg (by rw [h2, h3]; simp), if_neg (by rw [h4]; simp), nf_other _ _ h1, find_plain l t (fun d hd => h d (List.mem_cons_of_mem _ hd))]
    cases find H B S false l with
    | none => rfl
    | some i => simp only [Option.map_some, List.length_cons, Option.some.injEq]; omega
end

/-! ### labels -/
def no (_ : UInt8) : Bool := false
def labF (f : Bool) (t : List UInt8) : Option Nat := find no (· == 91) (· == 93) f t
def labP (l : List UInt8) : List UInt8 × Nat := match l with
  | [] => ([], 0)
  | c :: t => if c = 91 then match labF false t with
    | none => ([], 0)
    | some i => if 999 < i ∨ whN (t.take i) = i then ([], 0) else (t.take i, i + 2)
    else ([], 0)

/-! ### addresses -/
def angF (f : Bool) (t : List UInt8) : Option Nat := find (· == 10) (· == 60) (· == 62) f t
def dst : Nat → Bool → List UInt8 → Option Nat
  | o, _, [] => if o = 0 then some 0 else none
  | o, f, c :: t => if c.toNat ≤ 32 ∨ c = 127 then (if o = 0 then some 0 else none)
    else if f = false ∧ c = 40 then (if 32 ≤ o then none else (dst (o + 1) (nf f c t) t).map (· + 1))
    else if f = false ∧ c = 41 then (if o = 0 then some 0 else (dst (o - 1) (nf f c t) t).map (· + 1))
    else (dst o (nf f c t) t).map (· + 1)
theorem dst_nil (o : Nat) (f : Bool) : dst o f [] = if o = 0 then some 0 else none := by cases f <;> rfl
theorem dst_cons (o : Nat) (f : Bool) (c : UInt8) (t : List UInt8) : dst o f (c :: t) = if c.toNat ≤ 32 ∨ c = 127 then (if o = 0 then some 0 else none)
    else if f = false ∧ c = 40 then (if 32 ≤ o then none else (dst (o + 1) (nf f c t) t).map (· + 1))
    else if f = false ∧ c = 41 then (if o = 0 then some 0 else (dst (o - 1) (nf f c t) t).map (· + 1))
    else (dst o (nf f c t) t).map (· + 1) := rfl
/-- What an address without brackets is, and what stands behind it. -/
theorem dst_ok : ∀ (l : List UInt8) (o : Nat) (f : Bool) (n : Nat), dst o f l = some n → n ≤ l.length ∧ (∀ c ∈ l.take n, 32 < c.toNat ∧ c ≠ 127) ∧ ∀ c ∈ (l.drop n).head?, c.toNat ≤ 32 ∨ c = 127 ∨ c = 41
  | [], o, f, n, h => by
    rw [dst_nil] at h
    split at h
    · cases h; exact ⟨Nat.le_refl _, fun c hc => by simp at hc, fun c hc => by simp at hc⟩
    · cases h
  | c :: t, o, f, n, h => by
    have step : ∀ o', ¬ (c.toNat ≤ 32 ∨ c = 127) → (dst o' (nf f c t) t).map (· + 1) = some n → n ≤ (c :: t).length ∧ (∀ d ∈ (c :: t).take n, 32 < d.toNat ∧ d ≠ 127) ∧ ∀ d ∈ ((c :: t).drop n).head?, d.toNat ≤ 32 ∨ d = 127 ∨ d = 41 := by
      intro o' h0 hm
      obtain ⟨j, hj, rfl⟩ := Option.map_eq_some_iff.1 hm
      obtain ⟨i1, i2, i3⟩ := dst_ok t _ _ j hj
      refine ⟨by simp only [List.length_cons]; omega, fun d hd => ?_, by rw [List.drop_succ_cons]; exact i3⟩
      rw [List.take_succ_cons, List.mem_cons] at hd
      rcases hd with rfl | hd
      · exact ⟨by omega, fun e => h0 (.inr e)⟩
      · exact i2 d hd
    rw [dst_cons] at h
    split at h
    · rename_i h0
      split at h
      · cases h
        refine ⟨Nat.zero_le _, fun d hd => by simp at hd, fun d hd => ?_⟩
        simp only [List.drop_zero, List.head?_cons, Option.mem_def, Option.some.injEq] at hd
        subst hd
        exact h0.elim .inl fun e => .inr (.inl e)
      · cases h
    · rename_i h0
      split at h
      · split at h
        · cases h
        · exact step _ h0 h
      · split at h
        · rename_i h2
          split at h
          · cases h
            refine ⟨Nat.zero_le _, fun d hd => by simp at hd, fun d hd => ?_⟩
            simp only [List.drop_zero, List.head?_cons, Option.mem_def, Option.some.injEq] at hd
            subst hd
            exact .inr (.inr h2.2)
          · exact step _ h0 h
        · exact step _ h0 h
def destP (l : List UInt8) : List UInt8 × Nat × Bool := match l with
  | [] => ([], 0, false)
  | c :: t => if c = 60 then match angF false t with
      | none => ([], 0, false)
      | some i => (une (t.take i), i + 2, true)
    else match dst 0 false (c :: t) with
      | none => ([], 0, false)
      | some n => if n = 0 then ([], 0, false) else (une ((c :: t).take n), n, true)

/-! ### titles -/
def bl (c : UInt8) : Bool := c == 32 || c == 9
/-- Do blanks alone stand up to the line's end? -/
def bare : List UInt8 → Bool
  | [] => false
  | c :: t => if bl c = true then bare t else c == 10
def gapP : List UInt8 → Bool
  | [] => false
  | c :: t => (c == 10 && bare t) || gapP t
def endB (c : UInt8) : UInt8 := if c = 40 then 41 else c
def titF (c : UInt8) (f : Bool) (t : List UInt8) : Option Nat := find no (fun d => c == 40 && d == 40) (· == endB c) f t
def titP (l : List UInt8) : List UInt8 × Nat := match l with
  | [] => ([], 0)
  | c :: t => if c = 34 ∨ c = 39 ∨ c = 40 then match titF c false t with
      | none => ([], 0)
      | some i => if gapP (t.take i) = true then ([], 0) else (une (t.take i), i + 2)
    else ([], 0)

/-! ### tails -/
/-- Behind the address: the title and where it ends. -/
def behind (l : List UInt8) (n at1 : Nat) : List UInt8 × Nat :=
  let g := whN (l.drop at1)
  let T := titP (l.drop (at1 + g))
  if 0 < n ∧ 0 < g ∧ 0 < T.2 then (T.1, at1 + g + T.2) else ([], at1)
def tailP (l : List UInt8) : List UInt8 × List UInt8 × Nat := match l with
  | [] => ([], [], 0)
  | c :: t => if c = 40 then
      let a := whN t
      let d := destP (t.drop a)
      let b := behind t d.2.1 (a + d.2.1)
      let e := b.2 + whN (t.drop b.2)
      if (t.drop e).head? = some 41 then (d.1, b.1, e + 2) else ([], [], 0)
    else ([], [], 0)

/-! ### the chapter's examples -/
theorem ex_label : labP [91, 97, 93, 98] = ([97], 3) := by decide +kernel
theorem ex_dest : destP [60, 97, 32, 98, 62] = ([97, 32, 98], 5, true) := by decide +kernel
theorem ex_title : titP [39, 120, 39, 32, 121] = ([120], 3) := by decide +kernel
theorem ex_tail : tailP [40, 47, 117, 32, 34, 116, 34, 41] = ([47, 117], [116], 8) := by decide +kernel
theorem ex_white : whN [32, 10, 120] = 2 := by decide +kernel

/-! ### P9.5: what stands behind -/
theorem lab_take {l x : List UInt8} {n : Nat} (m : List UInt8) (h : labP l = (x, n)) (h0 : 0 < n) : labP (l.take n ++ m) = (x, n) ∧ labP (l.take (n - 1)) = ([], 0) ∧ x.length = n - 2 ∧ 2 ≤ n ∧ n ≤ l.length := by
  cases l with
  | nil => cases h; omega
  | cons c t =>
    unfold labP at h
    simp only at h
    split at h
    · rename_i hc
      subst hc
      split at h
      · cases h; omega
      · rename_i i hi
        split at h
        · cases h; omega
        · rename_i hb
          cases h
          have hlt : i < t.length := find_lt t false i hi
          have e1 : labF false (t.take (i + 1) ++ m) = some i := find_take m t false i hi
          have e2 : labF false (t.take i) = none := find_cut t false i hi
          have e3 : (t.take (i + 1) ++ m).take i = t.take i := by
            rw [List.take_append_of_le_length (by rw [List.length_take]; omega), List.take_take]
            congr 1
            omega
          refine ⟨?_, ?_, by rw [List.length_take]; omega, by omega, by simp only [List.length_cons]; omega⟩
          · rw [List.take_succ_cons, List.cons_append]
            unfold labP
            simp only [if_true, e1, e3, if_neg hb]
          · rw [show i + 2 - 1 = i + 1 from rfl, List.take_succ_cons]
            unfold labP
            simp only [if_true, e2]
    · cases h; omega
theorem tit_take {l x : List UInt8} {n : Nat} (m : List UInt8) (h : titP l = (x, n)) (h0 : 0 < n) : titP (l.take n ++ m) = (x, n) ∧ titP (l.take (n - 1)) = ([], 0) ∧ 2 ≤ n ∧ n ≤ l.length := by
  cases l with
  | nil => cases h; omega
  | cons c t =>
    unfold titP at h
    simp only at h
    split at h
    · rename_i hc
      split at h
      · cases h; omega
      · rename_i i hi
        split at h
        · cases h; omega
        · rename_i hb
          cases h
          have hlt : i < t.length := find_lt t false i hi
          have e1 : titF c false (t.take (i + 1) ++ m) = some i := find_take m t false i hi
          have e2 : titF c false (t.take i) = none := find_cut t false i hi
          have e3 : (t.take (i + 1) ++ m).take i = t.take i := by
            rw [List.take_append_of_le_length (by rw [List.length_take]; omega), List.take_take]
            congr 1
            omega
          refine ⟨?_, ?_, by omega, by simp only [List.length_cons]; omega⟩
          · rw [List.take_succ_cons, List.cons_append]
            unfold titP
            simp only [if_pos hc, e1, e3, if_neg hb]
          · rw [show i + 2 - 1 = i + 1 from rfl, List.take_succ_cons]
            unfold titP
            simp only [if_pos hc, e2]
    · cases h; omega

/-! ### none of their signs; letters -/
theorem lab_none {c : UInt8} (t : List UInt8) (h : c ≠ 91) : labP (c :: t) = ([], 0) := if_neg h
theorem tit_none {c : UInt8} (t : List UInt8) (h1 : c ≠ 34) (h2 : c ≠ 39) (h3 : c ≠ 40) : titP (c :: t) = ([], 0) := if_neg (fun h => h.elim h1 fun h => h.elim h2 h3)
theorem tail_none {c : UInt8} (t : List UInt8) (h : c ≠ 40) : tailP (c :: t) = ([], [], 0) := if_neg h
/-- A text without brackets and backslashes is a label. -/
theorem lab_plain {a : List UInt8} (m : List UInt8) (h : ∀ c ∈ a, c ≠ 92 ∧ c ≠ 91 ∧ c ≠ 93) : labP (91 :: (a ++ 93 :: m)) = if 999 < a.length ∨ whN a = a.length then ([], 0) else (a, a.length + 2) := by
  have e : labF false (a ++ 93 :: m) = some a.length := by
    have := find_plain (H := no) (B := (· == 91)) (S := (· == 93)) (93 :: m) a (fun c hc => ⟨(h c hc).1, rfl, by simpa using (h c hc).2.1, by simpa using (h c hc).2.2⟩)
    unfold labF
    rw [this, find_cons]
    simp [no]
  unfold labP
  simp only [if_true, e, List.take_left']
/-- A bracket in it that is not escaped ends that. -/
theorem lab_open {a : List UInt8} (m : List UInt8) (h : ∀ c ∈ a, c ≠ 92 ∧ c ≠ 91 ∧ c ≠ 93) : labP (91 :: (a ++ 91 :: m)) = ([], 0) := by
  have e : labF false (a ++ 91 :: m) = none := by
    have := find_plain (H := no) (B := (· == 91)) (S := (· == 93)) (91 :: m) a (fun c hc => ⟨(h c hc).1, rfl, by simpa using (h c hc).2.1, by simpa using (h c hc).2.2⟩)
    unfold labF
    rw [this, find_cons]
    simp [no]
  unfold labP
  simp only [if_true, e]
end Lk
end Go.Proofs.YtfabiidohdkkcaaGreatDoor
