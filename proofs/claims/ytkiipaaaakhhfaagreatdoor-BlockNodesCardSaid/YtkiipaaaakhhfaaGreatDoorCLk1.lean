import Derived.Test.YtkiipaaaakhhfaaGreatDoorCEsc1
import Derived.Test.YtkiipaaaakhhfaaGreatDoorProg
import Derived.WalkKit
import Derived.BigCall
import Derived.BigQuiet
import Derived.Deep.QuietTactic
import Derived.Deep.LoopGhost
import Derived.Lib.Hide
import Derived.Deep.DeepCutAuto
import Derived.OneCell
import Derived.RegionTactic
import Derived.Below
import Derived.Laws.DeepStrings4
section
set_option linter.unusedVariables false
set_option linter.unusedSimpArgs false
set_option maxRecDepth 100000
namespace Go.Proofs.YtkiipaaaakhhfaaGreatDoor
namespace Lk
open Es
def whB (c : UInt8) : Bool := c == 32 || c == 9 || c == 10
def whN (l : List UInt8) : Nat := (l.takeWhile whB).length
theorem whN_hit {c : UInt8} (t : List UInt8) (h : whB c = true) : whN (c :: t) = whN t + 1 := by simp [whN, List.takeWhile, h]
theorem whN_miss {c : UInt8} (t : List UInt8) (h : whB c = false) : whN (c :: t) = 0 := by simp [whN, List.takeWhile, h]
theorem whN_nil : whN [] = 0 := rfl
theorem whN_le (l : List UInt8) : whN l ≤ l.length := by
 induction l with
 | nil => exact Nat.le_refl _
 | cons c t ih =>
  cases h : whB c with
  | true => rw [whN_hit t h]; simp only [List.length_cons]; omega
  | false => rw [whN_miss t h]; omega
def hs : List UInt8 → Bool
 | [] => false
 | d :: _ => sg d
def nf (f : Bool) (c : UInt8) (t : List UInt8) : Bool := !f && (c == 92 && hs t)
def fl : Bool → List UInt8 → Nat → Bool
 | f, _, 0 => f
 | f, [], _ + 1 => f
 | f, c :: t, i + 1 => fl (nf f c t) t i
def find (hard bad stop : UInt8 → Bool) : Bool → List UInt8 → Option Nat
 | _, [] => none
 | f, c :: t => if hard c = true ∨ (f = false ∧ bad c = true) then none else if f = false ∧ stop c = true then some 0 else (find hard bad stop (nf f c t) t).map (· + 1)
section
variable {H B S : UInt8 → Bool}
theorem find_nil (f : Bool) : find H B S f [] = none := by cases f <;> rfl
theorem find_cons (f : Bool) (c : UInt8) (t : List UInt8) : find H B S f (c :: t) = if H c = true ∨ (f = false ∧ B c = true) then none else if f = false ∧ S c = true then some 0 else (find H B S (nf f c t) t).map (· + 1) := rfl
theorem find_lt : ∀ (l : List UInt8) (f : Bool) (i : Nat), find H B S f l = some i → i < l.length
 | [], f, i, h => by rw [find_nil] at h; cases h
 | c :: t, f, i, h => by
  rw [find_cons] at h
  split at h
  ·cases h
  ·split at h
   ·cases h; simp
   ·obtain ⟨j, hj, rfl⟩ := Option.map_eq_some_iff.1 h
    have := find_lt t _ j hj
    simp only [List.length_cons]; omega
theorem hs_app {t : List UInt8} (h : t ≠ []) (m : List UInt8) : hs (t ++ m) = hs t := by
 cases t with
 | nil => exact absurd rfl h
 | cons _ _ => rfl
theorem hs_take {t : List UInt8} (j : Nat) : hs (t.take (j + 1)) = hs t := by
 cases t <;> rfl
theorem find_take (m : List UInt8) : ∀ (l : List UInt8) (f : Bool) (i : Nat), find H B S f l = some i → find H B S f (l.take (i + 1) ++ m) = some i
 | [], f, i, h => by rw [find_nil] at h; cases h
 | c :: t, f, i, h => by
  rw [find_cons] at h
  rw [List.take_succ_cons, List.cons_append, find_cons]
  split at h
  ·cases h
  ·rename_i h1
   rw [if_neg h1]
   split at h
   ·rename_i h2
    rw [if_pos h2]; exact h
   ·rename_i h2
    obtain ⟨j, hj, rfl⟩ := Option.map_eq_some_iff.1 h
    have hlt := find_lt t _ j hj
    have e : nf f c (t.take (j + 1) ++ m) = nf f c t := by
     unfold nf
     rw [hs_app (by intro e; have := congrArg List.length e; rw [List.length_take, List.length_nil] at this; omega), hs_take]
    rw [if_neg h2, e, find_take m t _ j hj]
    rfl
theorem find_cut : ∀ (l : List UInt8) (f : Bool) (i : Nat), find H B S f l = some i → find H B S f (l.take i) = none
 | [], f, i, h => by rw [find_nil] at h; cases h
 | c :: t, f, i, h => by
  rw [find_cons] at h
  split at h
  ·cases h
  ·rename_i h1
   split at h
   ·cases h; exact find_nil _
   ·rename_i h2
    obtain ⟨j, hj, rfl⟩ := Option.map_eq_some_iff.1 h
    rw [List.take_succ_cons, find_cons, if_neg h1, if_neg h2]
    cases j with
    | zero => rw [List.take_zero, find_nil]; rfl
    | succ k =>
     have e : nf f c (t.take (k + 1)) = nf f c t := by unfold nf; rw [hs_take]
     rw [e, find_cut t _ (k + 1) hj]
     rfl
end
def no (_ : UInt8) : Bool := false
def labF (f : Bool) (t : List UInt8) : Option Nat := find no (· == 91) (· == 93) f t
def labP (l : List UInt8) : List UInt8 × Nat := match l with
 | [] => ([], 0)
 | c :: t => if c = 91 then match labF false t with
  | none => ([], 0)
  | some i => if 999 < i ∨ whN (t.take i) = i then ([], 0) else (t.take i, i + 2)
  else ([], 0)
def angF (f : Bool) (t : List UInt8) : Option Nat := find (· == 10) (· == 60) (· == 62) f t
def dst : Nat → Bool → List UInt8 → Option Nat
 | o, _, [] => if o = 0 then some 0 else none
 | o, f, c :: t => if c.toNat ≤ 32 ∨ c = 127 then (if o = 0 then some 0 else none)
  else if f = false ∧ c = 40 then (if 32 ≤ o then none else (dst (o + 1) (nf f c t) t).map (· + 1))
  else if f = false ∧ c = 41 then (if o = 0 then some 0 else (dst (o - 1) (nf f c t) t).map (· + 1))
  else (dst o (nf f c t) t).map (· + 1)
theorem dst_nil (o : Nat) (f : Bool) : dst o f [] = if o = 0 then some 0 else none := by cases f <;> rfl
theorem dst_cons (o : Nat) (f : Bool) (c : UInt8) (t : List UInt8) : dst o f (c :: t) = if c.toNat ≤ 32 ∨ c = 127 then (if o = 0 then some 0 else none)
  else if f = false ∧ c = 40 then (if 32 ≤ o then none else (dst (o + 1) (nf f c t) t).map (· + 1))
  else if f = false ∧ c = 41 then (if o = 0 then some 0 else (dst (o - 1) (nf f c t) t).map (· + 1))
  else (dst o (nf f c t) t).map (· + 1) := rfl
theorem dst_ok : ∀ (l : List UInt8) (o : Nat) (f : Bool) (n : Nat), dst o f l = some n → n ≤ l.length ∧ (∀ c ∈ l.take n, 32 < c.toNat ∧ c ≠ 127) ∧ ∀ c ∈ (l.drop n).head?, c.toNat ≤ 32 ∨ c = 127 ∨ c = 41
 | [], o, f, n, h => by
  rw [dst_nil] at h
  split at h
  ·cases h; exact ⟨Nat.le_refl _, fun c hc => by simp at hc, fun c hc => by simp at hc⟩
  ·cases h
 | c :: t, o, f, n, h => by
  have step : ∀ o', ¬ (c.toNat ≤ 32 ∨ c = 127) → (dst o' (nf f c t) t).map (· + 1) = some n → n ≤ (c :: t).length ∧ (∀ d ∈ (c :: t).take n, 32 < d.toNat ∧ d ≠ 127) ∧ ∀ d ∈ ((c :: t).drop n).head?, d.toNat ≤ 32 ∨ d = 127 ∨ d = 41 := by
   intro o' h0 hm
   obtain ⟨j, hj, rfl⟩ := Option.map_eq_some_iff.1 hm
   obtain ⟨i1, i2, i3⟩ := dst_ok t _ _ j hj
   refine ⟨by simp only [List.length_cons]; omega, fun d hd => ?_, by rw [List.drop_succ_cons]; exact i3⟩
   rw [List.take_succ_cons, List.mem_cons] at hd
   rcases hd with rfl | hd
   ·exact ⟨by omega, fun e => h0 (.inr e)⟩
   ·exact i2 d hd
  rw [dst_cons] at h
  split at h
  ·rename_i h0
   split at h
   ·cases h
    refine ⟨Nat.zero_le _, fun d hd => by simp at hd, fun d hd => ?_⟩
    simp only [List.drop_zero, List.head?_cons, Option.mem_def, Option.some.injEq] at hd
    subst hd
    exact h0.elim .inl fun e => .inr (.inl e)
   ·cases h
  ·rename_i h0
   split at h
   ·split at h
    ·cases h
    ·exact step _ h0 h
   ·split at h
    ·rename_i h2
     split at h
     ·cases h
      refine ⟨Nat.zero_le _, fun d hd => by simp at hd, fun d hd => ?_⟩
      simp only [List.drop_zero, List.head?_cons, Option.mem_def, Option.some.injEq] at hd
      subst hd
      exact .inr (.inr h2.2)
     ·exact step _ h0 h
    ·exact step _ h0 h
def destP (l : List UInt8) : List UInt8 × Nat × Bool := match l with
 | [] => ([], 0, false)
 | c :: t => if c = 60 then match angF false t with
   | none => ([], 0, false)
   | some i => (une (t.take i), i + 2, true)
  else match dst 0 false (c :: t) with
   | none => ([], 0, false)
   | some n => if n = 0 then ([], 0, false) else (une ((c :: t).take n), n, true)
def bl (c : UInt8) : Bool := c == 32 || c == 9
def bare : List UInt8 → Bool
 | [] => false
 | c :: t => if bl c = true then bare t else c == 10
def gapP : List UInt8 → Bool
 | [] => false
 | c :: t => (c == 10 && bare t) || gapP t
def endB (c : UInt8) : UInt8 := if c = 40 then 41 else c
def titF (c : UInt8) (f : Bool) (t : List UInt8) : Option Nat := find no (fun d => c == 40 && d == 40) (· == endB c) f t
def titP (l : List UInt8) : List UInt8 × Nat := match l with
 | [] => ([], 0)
 | c :: t => if c = 34 ∨ c = 39 ∨ c = 40 then match titF c false t with
   | none => ([], 0)
   | some i => if gapP (t.take i) = true then ([], 0) else (une (t.take i), i + 2)
  else ([], 0)
def behind (l : List UInt8) (n at1 : Nat) : List UInt8 × Nat :=
 let g := whN (l.drop at1)
 let T := titP (l.drop (at1 + g))
 if 0 < n ∧ 0 < g ∧ 0 < T.2 then (T.1, at1 + g + T.2) else ([], at1)
def tailP (l : List UInt8) : List UInt8 × List UInt8 × Nat := match l with
 | [] => ([], [], 0)
 | c :: t => if c = 40 then
   let a := whN t
   let d := destP (t.drop a)
   let b := behind t d.2.1 (a + d.2.1)
   let e := b.2 + whN (t.drop b.2)
   if (t.drop e).head? = some 41 then (d.1, b.1, e + 2) else ([], [], 0)
  else ([], [], 0)
theorem lab_take {l x : List UInt8} {n : Nat} (m : List UInt8) (h : labP l = (x, n)) (h0 : 0 < n) : labP (l.take n ++ m) = (x, n) ∧ labP (l.take (n - 1)) = ([], 0) ∧ x.length = n - 2 ∧ 2 ≤ n ∧ n ≤ l.length := by
 cases l with
 | nil => cases h; omega
 | cons c t =>
  unfold labP at h
  simp only at h
  split at h
  ·rename_i hc
   subst hc
   split at h
   ·cases h; omega
   ·rename_i i hi
    split at h
    ·cases h; omega
    ·rename_i hb
     cases h
     have hlt : i < t.length := find_lt t false i hi
     have e1 : labF false (t.take (i + 1) ++ m) = some i := find_take m t false i hi
     have e2 : labF false (t.take i) = none := find_cut t false i hi
     have e3 : (t.take (i + 1) ++ m).take i = t.take i := by
      rw [List.take_append_of_le_length (by rw [List.length_take]; omega), List.take_take]
      congr 1
      omega
     refine ⟨?_, ?_, by rw [List.length_take]; omega, by omega, by simp only [List.length_cons]; omega⟩
     ·rw [List.take_succ_cons, List.cons_append]
      unfold labP
      simp only [if_true, e1, e3, if_neg hb]
     ·rw [show i + 2 - 1 = i + 1 from rfl, List.take_succ_cons]
      unfold labP
      simp only [if_true, e2]
  ·cases h; omega
theorem tit_take {l x : List UInt8} {n : Nat} (m : List UInt8) (h : titP l = (x, n)) (h0 : 0 < n) : titP (l.take n ++ m) = (x, n) ∧ titP (l.take (n - 1)) = ([], 0) ∧ 2 ≤ n ∧ n ≤ l.length := by
 cases l with
 | nil => cases h; omega
 | cons c t =>
  unfold titP at h
  simp only at h
  split at h
  ·rename_i hc
   split at h
   ·cases h; omega
   ·rename_i i hi
    split at h
    ·cases h; omega
    ·rename_i hb
     cases h
     have hlt : i < t.length := find_lt t false i hi
     have e1 : titF c false (t.take (i + 1) ++ m) = some i := find_take m t false i hi
     have e2 : titF c false (t.take i) = none := find_cut t false i hi
     have e3 : (t.take (i + 1) ++ m).take i = t.take i := by
      rw [List.take_append_of_le_length (by rw [List.length_take]; omega), List.take_take]
      congr 1
      omega
     refine ⟨?_, ?_, by omega, by simp only [List.length_cons]; omega⟩
     ·rw [List.take_succ_cons, List.cons_append]
      unfold titP
      simp only [if_pos hc, e1, e3, if_neg hb]
     ·rw [show i + 2 - 1 = i + 1 from rfl, List.take_succ_cons]
      unfold titP
      simp only [if_pos hc, e2]
  ·cases h; omega
theorem lab_none {c : UInt8} (t : List UInt8) (h : c ≠ 91) : labP (c :: t) = ([], 0) := if_neg h
theorem tit_none {c : UInt8} (t : List UInt8) (h1 : c ≠ 34) (h2 : c ≠ 39) (h3 : c ≠ 40) : titP (c :: t) = ([], 0) := if_neg (fun h => h.elim h1 fun h => h.elim h2 h3)
end Lk
end Go.Proofs.YtkiipaaaakhhfaaGreatDoor
end
section
set_option linter.unusedVariables false
set_option linter.unusedSimpArgs false
set_option maxRecDepth 100000
namespace Go.Proofs.YtkiipaaaakhhfaaGreatDoor
namespace Lk
open Es
theorem tit_more {l x : List UInt8} {p : Nat} (m : List UInt8) {j : Nat} (h : titP l = (x, p)) (h0 : 0 < p) (hj : p ≤ j) : titP (l.take j ++ m) = (x, p) := by
 have := (tit_take ((l.drop p).take (j - p) ++ m) h h0).1
 rw [← List.append_assoc, show l.take p ++ (l.drop p).take (j - p) = l.take j by rw [← List.take_add]; congr 1; omega] at this
 exact this
theorem head_cons {l : List UInt8} {c : UInt8} (h : l.head? = some c) : ∃ t, l = c :: t := by
 cases l with
 | nil => cases h
 | cons d t => cases h; exact ⟨t, rfl⟩
end Lk
end Go.Proofs.YtkiipaaaakhhfaaGreatDoor
end
section
set_option linter.unusedVariables false
set_option linter.unusedSimpArgs false
set_option maxRecDepth 100000
namespace Go.Proofs.YtkiipaaaakhhfaaGreatDoor
namespace Lk
open Es
def ad (c : UInt8) : Prop := (97 ≤ c.toNat ∧ c.toNat ≤ 122) ∨ (48 ≤ c.toNat ∧ c.toNat ≤ 57)
theorem find_stop {H B S : UInt8 → Bool} : ∀ (l : List UInt8) (f : Bool) (i : Nat), find H B S f l = some i → ∀ c ∈ (l.drop i).head?, S c = true
 | [], f, i, h => by rw [find_nil] at h; cases h
 | c :: t, f, i, h => by
  rw [find_cons] at h
  split at h
  ·cases h
  ·split at h
   ·rename_i h2
    cases h
    intro d hd
    simp only [List.drop_zero, List.head?_cons, Option.mem_def, Option.some.injEq] at hd
    rw [← hd]; exact h2.2
   ·obtain ⟨j, hj, rfl⟩ := Option.map_eq_some_iff.1 h
    rw [List.drop_succ_cons]
    exact find_stop t _ j hj
theorem dest_true {l x : List UInt8} {n : Nat} (h : destP l = (x, n, true)) : 1 ≤ n ∧ n ≤ l.length ∧ ((l.head? = some 60 ∧ (l.drop (n - 1)).head? = some 62) ∨ (l.head? ≠ some 60 ∧ (∀ c ∈ l.take n, 32 < c.toNat ∧ c ≠ 127) ∧ ∀ c ∈ (l.drop n).head?, c.toNat ≤ 32 ∨ c = 127 ∨ c = 41)) := by
 cases l with
 | nil => cases h
 | cons c t =>
  unfold destP at h
  simp only at h
  split at h
  ·rename_i hc
   split at h
   ·cases h
   ·rename_i i hi
    cases h
    have hlt : i < t.length := find_lt t false i hi
    refine ⟨by omega, by simp only [List.length_cons]; omega, .inl ⟨by rw [hc]; rfl, ?_⟩⟩
    rw [show i + 2 - 1 = i + 1 from rfl, List.drop_succ_cons, List.head?_drop, List.getElem?_eq_getElem hlt]
    have := find_stop t false i hi t[i] (by rw [List.head?_drop, List.getElem?_eq_getElem hlt]; rfl)
    rw [eq_of_beq this]
  ·rename_i hc
   split at h
   ·cases h
   ·rename_i k hk
    split at h
    ·cases h
    ·cases h
     obtain ⟨i1, i2, i3⟩ := dst_ok _ _ _ _ hk
     exact ⟨by omega, i1, .inr ⟨fun e => hc (Option.some.inj e), i2, i3⟩⟩
section
variable {H B S : UInt8 → Bool}
end
end Lk
end Go.Proofs.YtkiipaaaakhhfaaGreatDoor
end
section
set_option linter.unusedVariables false
set_option linter.unusedSimpArgs false
set_option maxRecDepth 100000
namespace Go.Proofs.YtkiipaaaakhhfaaGreatDoor
namespace Lk
open Es
def fnd {σ : Type} (step : σ → UInt8 → Bool × σ) : σ → Bool → List UInt8 → Nat × σ
 | q, _, [] => (0, q)
 | q, f, c :: t => if f = true then ((fnd step q (nf f c t) t).1 + 1, (fnd step q (nf f c t) t).2)
  else if (step q c).1 = true then (0, (step q c).2) else ((fnd step (step q c).2 (nf f c t) t).1 + 1, (fnd step (step q c).2 (nf f c t) t).2)
section
variable {σ : Type} {step : σ → UInt8 → Bool × σ}
theorem fnd_nil (q : σ) (f : Bool) : fnd step q f [] = (0, q) := by cases f <;> rfl
theorem fnd_esc (q : σ) (c : UInt8) (t : List UInt8) : fnd step q true (c :: t) = ((fnd step q (nf true c t) t).1 + 1, (fnd step q (nf true c t) t).2) := rfl
theorem fnd_hit {q q1 : σ} {c : UInt8} (t : List UInt8) (h : step q c = (true, q1)) : fnd step q false (c :: t) = (0, q1) := by
 simp [fnd, h]
theorem fnd_miss {q q1 : σ} {c : UInt8} (t : List UInt8) (h : step q c = (false, q1)) : fnd step q false (c :: t) = ((fnd step q1 (nf false c t) t).1 + 1, (fnd step q1 (nf false c t) t).2) := by
 simp [fnd, h]
theorem fnd_le : ∀ (l : List UInt8) (q : σ) (f : Bool), (fnd step q f l).1 ≤ l.length
 | [], q, f => by rw [fnd_nil]; exact Nat.le_refl _
 | c :: t, q, f => by
  cases f with
  | true => rw [fnd_esc]; have := fnd_le t q (nf true c t); simp only [List.length_cons]; omega
  | false =>
   rcases h : step q c with ⟨b, q1⟩
   cases b with
   | true => rw [fnd_hit t h]; exact Nat.zero_le _
   | false => rw [fnd_miss t h]; have := fnd_le t q1 (nf false c t); simp only [List.length_cons]; omega
end
theorem nf_hs {f : Bool} {c : UInt8} {t : List UInt8} (h : nf f c t = true) : hs t = true := by
 unfold nf at h
 simp only [Bool.and_eq_true] at h
 exact h.2.2
def bk (bb : Bool) (c : UInt8) : Bool := c == 92 && !(bb && sg c)
theorem bk_nf (bb : Bool) (c : UInt8) (t : List UInt8) : (bk bb c && hs t) = nf (bb && hs (c :: t)) c t := by
 unfold bk nf
 rw [show hs (c :: t) = sg c from rfl]
 cases bb <;> cases sg c <;> cases (c == 92) <;> cases hs t <;> rfl
def upS (e : UInt8) (bars : List UInt8) : Unit → UInt8 → Bool × Unit := fun _ c => (c == e || bars.contains c, ())
def upP (e : UInt8) (bars l : List UInt8) : Option Nat := if (l.drop (fnd (upS e bars) () false l).1).head? = some e then some (fnd (upS e bars) () false l).1 else none
theorem up_find {H B S : UInt8 → Bool} {e : UInt8} {bars : List UInt8} (h0 : ∀ c, (H c || B c) = (bars.contains c && !(c == e))) (h1 : ∀ c, S c = (c == e)) (h2 : ∀ c, H c = true → sg c = false) :
  ∀ (l : List UInt8) (f : Bool), (f = true → hs l = true) → find H B S f l = if (l.drop (fnd (upS e bars) () f l).1).head? = some e then some (fnd (upS e bars) () f l).1 else none
 | [], f, _ => by rw [find_nil]; simp
 | c :: t, true, hf => by
  have hh : H c = false := by
   cases hc : H c with
   | false => rfl
   | true => have := h2 c hc; rw [show hs (c :: t) = sg c from rfl] at hf; rw [hf rfl] at this; cases this
  rw [find_cons, if_neg (by rw [hh]; simp), if_neg (by simp), fnd_esc, List.drop_succ_cons, up_find h0 h1 h2 t (nf true c t) nf_hs]
  split <;> simp
 | c :: t, false, _ => by
  have hb := h0 c
  by_cases hc : c = e
  ·subst hc
   have hst : upS c bars () c = (true, ()) := by simp [upS]
   have hno : H c = false ∧ B c = false := by
    rw [beq_self_eq_true, Bool.not_true, Bool.and_false, Bool.or_eq_false_iff] at hb
    exact hb
   rw [fnd_hit t hst, find_cons, if_neg (by rw [hno.1, hno.2]; simp), if_pos ⟨rfl, by rw [h1]; simp⟩]
   simp
  ·have hce : (c == e) = false := by simpa using hc
   rw [hce, Bool.not_false, Bool.and_true] at hb
   cases hk : bars.contains c with
   | true =>
    have hst : upS e bars () c = (true, ()) := by unfold upS; rw [hk, Bool.or_true]
    rw [hk] at hb
    rw [fnd_hit t hst, find_cons, if_pos (by
     rcases Bool.or_eq_true_iff.1 hb with h | h
     ·exact .inl h
     ·exact .inr ⟨rfl, h⟩)]
    simp [hc]
   | false =>
    have hst : upS e bars () c = (false, ()) := by unfold upS; rw [hk, hce]; rfl
    rw [hk, Bool.or_eq_false_iff] at hb
    rw [fnd_miss t hst, find_cons, if_neg (by rw [hb.1, hb.2]; simp), if_neg (by rw [h1, hce]; simp), List.drop_succ_cons, up_find h0 h1 h2 t (nf false c t) nf_hs]
    split <;> simp
theorem one_of (x c : UInt8) : ([x].contains c) = (c == x) := by rw [List.contains_cons, List.contains_nil, Bool.or_false]
theorem up_lab (t : List UInt8) : labF false t = upP 93 [91] t := up_find (fun c => by
 rw [one_of]
 show (false || c == 91) = _
 by_cases h : c = 91
 ·subst h; rfl
 ·have : (c == 91) = false := by simpa using h
  rw [this]; rfl) (fun _ => rfl) (fun c h => by cases h) t false (fun h => by cases h)
theorem two_of (x y c : UInt8) : ([x, y].contains c) = (c == x || c == y) := by rw [List.contains_cons, one_of]
theorem up_ang (t : List UInt8) : angF false t = upP 62 [60, 10] t := up_find (fun c => by
 rw [two_of]
 show (c == 10 || c == 60) = _
 by_cases h : c = 62
 ·subst h; rfl
 ·have : (c == 62) = false := by simpa using h
  rw [this, Bool.not_false, Bool.and_true, Bool.or_comm]) (fun _ => rfl) (fun c h => by rw [eq_of_beq h]; decide +kernel) t false (fun h => by cases h)
def bars (c : UInt8) : List UInt8 := if c = 40 then [40] else []
theorem up_tit {c : UInt8} (hc : c = 34 ∨ c = 39 ∨ c = 40) (t : List UInt8) : titF c false t = upP (endB c) (bars c) t := by
 rcases hc with rfl | rfl | rfl
 ·exact up_find (fun c => by
   show (false || ((34 : UInt8) == 40 && c == 40)) = (([] : List UInt8).contains c && !(c == 34))
   rfl) (fun _ => rfl) (fun c h => by cases h) t false (fun h => by cases h)
 ·exact up_find (fun c => by
   show (false || ((39 : UInt8) == 40 && c == 40)) = (([] : List UInt8).contains c && !(c == 39))
   rfl) (fun _ => rfl) (fun c h => by cases h) t false (fun h => by cases h)
 ·exact up_find (fun c => by
   show (false || ((40 : UInt8) == 40 && c == 40)) = (([40] : List UInt8).contains c && !(c == 41))
   rw [one_of]
   by_cases h : c = 40
   ·subst h; rfl
   ·have : (c == 40) = false := by simpa using h
    rw [this]; rfl) (fun _ => rfl) (fun c h => by cases h) t false (fun h => by cases h)
def opS (o : Nat) (c : UInt8) : Bool × Nat := if c = 40 then (decide (32 < o + 1), o + 1) else if c = 41 then (if o = 0 then (true, 0) else (false, o - 1)) else (decide (c.toNat ≤ 32 ∨ c = 127), o)
theorem op_dst : ∀ (l : List UInt8) (o : Nat) (f : Bool), (f = true → hs l = true) → o ≤ 32 → dst o f l = if 0 < (fnd opS o f l).2 then none else some (fnd opS o f l).1
 | [], o, f, _, _ => by
  rw [dst_nil, fnd_nil]
  simp only
  by_cases h : o = 0
  ·rw [if_pos h, if_neg (by omega)]
  ·rw [if_neg h, if_pos (by omega)]
 | c :: t, o, true, hf, ho => by
  have hsg : sg c = true := hf rfl
  have h0 : ¬ (c.toNat ≤ 32 ∨ c = 127) := by
   intro h
   rcases h with h | h
   ·unfold sg sgI at hsg
    simp at hsg
    omega
   ·subst h; revert hsg; decide +kernel
  rw [dst_cons, if_neg h0, if_neg (by simp), if_neg (by simp), fnd_esc, op_dst t o (nf true c t) nf_hs ho]
  simp only
  split <;> simp
 | c :: t, o, false, _, ho => by
  rw [dst_cons]
  by_cases h0 : c.toNat ≤ 32 ∨ c = 127
  ·have h40 : c ≠ 40 := by rintro rfl; revert h0; decide
   have h41 : c ≠ 41 := by rintro rfl; revert h0; decide
   have hst : opS o c = (true, o) := by unfold opS; rw [if_neg h40, if_neg h41, decide_eq_true h0]
   rw [if_pos h0, fnd_hit t hst]
   simp only
   by_cases h : o = 0
   ·rw [if_pos h, if_neg (by omega)]
   ·rw [if_neg h, if_pos (by omega)]
  ·rw [if_neg h0]
   by_cases h40 : c = 40
   ·rw [if_pos ⟨rfl, h40⟩]
    by_cases ho2 : 32 ≤ o
    ·have hst : opS o c = (true, o + 1) := by unfold opS; rw [if_pos h40, decide_eq_true (by omega)]
     rw [if_pos ho2, fnd_hit t hst, if_pos (Nat.succ_pos _)]
    ·have hst : opS o c = (false, o + 1) := by unfold opS; rw [if_pos h40, decide_eq_false (by omega)]
     rw [if_neg ho2, fnd_miss t hst, op_dst t (o + 1) (nf false c t) nf_hs (by omega)]
     simp only
     split <;> simp
   ·rw [if_neg (fun h => h40 h.2)]
    by_cases h41 : c = 41
    ·rw [if_pos ⟨rfl, h41⟩]
     by_cases ho2 : o = 0
     ·have hst : opS o c = (true, 0) := by unfold opS; rw [if_neg h40, if_pos h41, if_pos ho2]
      rw [if_pos ho2, fnd_hit t hst, if_neg (Nat.lt_irrefl _)]
     ·have hst : opS o c = (false, o - 1) := by unfold opS; rw [if_neg h40, if_pos h41, if_neg ho2]
      rw [if_neg ho2, fnd_miss t hst, op_dst t (o - 1) (nf false c t) nf_hs (by omega)]
      simp only
      split <;> simp
    ·have hst : opS o c = (false, o) := by unfold opS; rw [if_neg h40, if_neg h41, decide_eq_false h0]
     rw [if_neg (fun h => h41 h.2), fnd_miss t hst, op_dst t o (nf false c t) nf_hs ho]
     simp only
     split <;> simp
def blankL (r : List UInt8) : Bool := bare r || gapP r
theorem bare_none : ∀ (a : List UInt8), (∀ c ∈ a, c ≠ 10) → bare a = false
 | [], _ => rfl
 | c :: t, h => by
  show (if bl c = true then bare t else c == 10) = false
  rw [bare_none t (fun d hd => h d (List.mem_cons_of_mem _ hd)), beq_eq_false_iff_ne.2 (h c List.mem_cons_self)]
  split <;> rfl
theorem gap_no : ∀ (a : List UInt8), (∀ c ∈ a, c ≠ 10) → gapP a = false
 | [], _ => rfl
 | c :: t, h => by
  show (c == 10 && bare t || gapP t) = false
  rw [gap_no t (fun d hd => h d (List.mem_cons_of_mem _ hd)), beq_eq_false_iff_ne.2 (h c List.mem_cons_self)]
  rfl
theorem bare_app (r : List UInt8) : ∀ (a : List UInt8), (∀ c ∈ a, c ≠ 10) → bare (a ++ 10 :: r) = a.all bl
 | [], _ => rfl
 | c :: t, h => by
  show (if bl c = true then bare (t ++ 10 :: r) else c == 10) = (bl c && t.all bl)
  rw [bare_app r t (fun d hd => h d (List.mem_cons_of_mem _ hd)), beq_eq_false_iff_ne.2 (h c List.mem_cons_self)]
  cases bl c <;> simp
theorem gap_app (r : List UInt8) : ∀ (a : List UInt8), (∀ c ∈ a, c ≠ 10) → gapP (a ++ 10 :: r) = blankL r
 | [], _ => by
  show ((10 : UInt8) == 10 && bare r || gapP r) = blankL r
  rfl
 | c :: t, h => by
  show (c == 10 && bare (t ++ 10 :: r) || gapP (t ++ 10 :: r)) = blankL r
  rw [gap_app r t (fun d hd => h d (List.mem_cons_of_mem _ hd)), beq_eq_false_iff_ne.2 (h c List.mem_cons_self)]
  rfl
theorem blankL_none {a : List UInt8} (h : ∀ c ∈ a, c ≠ 10) : blankL a = false := by
 unfold blankL
 rw [bare_none a h, gap_no a h]
 rfl
theorem blankL_app {a : List UInt8} (r : List UInt8) (h : ∀ c ∈ a, c ≠ 10) : blankL (a ++ 10 :: r) = (a.all bl || blankL r) := by
 unfold blankL
 rw [bare_app r a h, gap_app r a h]
 rfl
end Lk
end Go.Proofs.YtkiipaaaakhhfaaGreatDoor
end
section
namespace Go.Proofs.YtkiipaaaakhhfaaGreatDoor
open Go Go.RowKit
namespace Lk
open Es
set_option maxRecDepth 100000
set_option linter.unusedVariables false
set_option linter.unusedSimpArgs false
theorem retB {a b : Bool} (h : a = b) : Ending.returned (.bool a) = .returned (.bool b) := by rw [h]
theorem retI {k : IntKind} {a b : Int} (h : a = b) : Ending.returned (.int k a) = .returned (.int k b) := by rw [h]
theorem szL (s : ByteArray) : s.data.toList.length = s.size := by rw [Array.length_toList]; rfl
theorem consAt {s : ByteArray} {k : Nat} (h : k < s.size) : ∃ c t, s.data.toList.drop k = c :: t ∧ s[k] = c ∧ s.data.toList.drop (k + 1) = t := by
 cases hd : s.data.toList.drop k with
 | nil => have := congrArg List.length hd; rw [List.length_drop, szL] at this; simp at this; omega
 | cons x t =>
  refine ⟨x, t, rfl, ?_, ?_⟩
  ·have := congrArg (fun l => l[0]?) hd
   simp at this
   rw [Array.getElem?_eq_getElem (show k < s.data.size from h)] at this
   exact Option.some.inj this
  ·rw [← List.drop_drop, hd]; rfl
theorem eqU (c : UInt8) (n : Nat) (hn : n < 256) : ((c.toNat : Int) == (n : Int)) = (c == UInt8.ofNat n) := by
 rw [Bool.eq_iff_iff, beq_iff_eq, beq_iff_eq]
 constructor
 ·intro e
  have e2 : c.toNat = n := Int.ofNat.inj e
  rw [← e2, UInt8.ofNat_toNat]
 ·intro e
  rw [e]; simp only [UInt8.toNat_ofNat']; omega
abbrev Gr (B : Nat) (w w' : World) : Prop := w.grownBy w' (some B)
theorem Gr.refl (B : Nat) (w : World) : Gr B w w := ⟨rfl, rfl, rfl, Nat.le_refl _, fun _ _ _ => rfl⟩
theorem Gr.trans {B : Nat} {a b c : World} (h : Gr B a b) (k : Gr B b c) : Gr B a c :=
 ⟨k.os.trans h.os, k.tape.trans h.tape, k.output.trans h.output, Nat.le_trans h.size k.size, fun i hi hn => (k.block i (Nat.lt_of_lt_of_le hi h.size) hn).trans (h.block i hi hn)⟩
theorem Gr.set {B o : Nat} {a w : World} (h : Gr B a w) (u : Value) : Gr B a (w.setCell ⟨B, o, none⟩ u) :=
 Gr.trans h ⟨rfl, rfl, rfl, by simp [World.setCell], fun k hk hn => Below.heap_setCell _ _ _ _ (fun e => hn (by rw [e]))⟩
theorem Gr.of_below {B : Nat} {w w' : World} (h : Below w.heap.size w w') : Gr B w w' := ⟨h.os, h.tape, h.output, h.size, fun k hk _ => h.block k hk⟩
theorem Gr.below {B : Nat} {w w' : World} (h : Gr B w w') {B0 : Nat} (h0 : B0 ≤ B) (h1 : B0 ≤ w.heap.size) : Below B0 w w' :=
 ⟨h.os, h.tape, h.output, h.size, fun k hk => h.block k (by omega) (fun e => by have := Option.some.inj e; omega)⟩
theorem Gr.behind {B g : Nat} {a b c : World} (h : Gr B a b) (k : Gr g b c) (hg : a.heap.size ≤ g) : Gr B a c :=
 ⟨k.os.trans h.os, k.tape.trans h.tape, k.output.trans h.output, Nat.le_trans h.size k.size, fun i hi hn => (k.block i (Nat.lt_of_lt_of_le hi h.size) (fun e => by have := Option.some.inj e; omega)).trans (h.block i hi hn)⟩
def BVar (w : World) (g : Nat) (b : Bool) : Prop := w.heap[g]? = some (.cells #[.bool b] 4 (0, 0))
theorem BVar.lt {w : World} {g : Nat} {b : Bool} (h : BVar w g b) : g < w.heap.size := lt_of_block h
theorem BVar.gr {w w' : World} {g B : Nat} {b : Bool} (h : BVar w g b) (hG : Gr B w w') (hne : g ≠ B) : BVar w' g b := (hG.block g h.lt (fun e => hne (Option.some.inj e))).trans h
theorem escapes_any (w : World) :
  Calls Tryz.prog 231 #[] w fun e w' => e = .returned (.func (.func 237) #[] #[.pointer (some ⟨w.heap.size, 0, none⟩)]) ∧ BVar w' w.heap.size false ∧ Below w.heap.size w w' := by
 go_enter Tryz.func231, Tryz.ntmps231
 go_wp2
 go_ret
 exact ⟨rfl, heap_alloc_new w _, (Below.refl _ w).alloc (Nat.le_refl _) _⟩
theorem esc_any (c : UInt8) (bb : Bool) (g : Nat) (w : World) (hv : BVar w g bb) (hS : Calls Tryz.prog 153 #[.int .u8 (c.toNat : Int)] w fun e w' => e = .returned (.bool (sg c)) ∧ w = w') :
  Calls Tryz.prog 237 #[.int .u8 (c.toNat : Int), .pointer (some ⟨g, 0, none⟩)] w fun e w' => e = .returned (.bool (bb && sg c)) ∧ BVar w' g (bk bb c) ∧ Gr g w w' := by
 have hcell := cell_of_one hv
 have hfree := free_of_one hv
 have Hset := Lib.hid (fun u => one_setCell (u := u) hv)
 have HS := Lib.hid hS
 have h92 : ((c.toNat : Int) == 92) = (c == 92) := eqU c 92 (by decide)
 have HB : Hid (bk bb c = (c == 92 && !(bb && sg c))) := Lib.hid rfl
 clear hv hS
 cases bb with
 | false =>
  rw [Bool.false_and] at HB ⊢
  generalize bk false c = z at *
  generalize (c == 92) = x at *
  cases x <;>
  ·go_enter Tryz.func237, Tryz.ntmps237
   go_wp2
   go_ret
   rw [HB.out]
   exact ⟨rfl, Hset.out _, (Gr.refl g w).set _⟩
 | true =>
  rw [Bool.true_and] at HB ⊢
  generalize bk true c = z at *
  generalize (c == 92) = x at *
  generalize sg c = y at *
  cases x <;> cases y <;>
  ·go_enter Tryz.func237, Tryz.ntmps237
   go_wp2_with fail
   refine HS.out.mono ?_
   rintro e w1 ⟨rfl, rfl⟩
   go_wp2
   go_ret
   rw [HB.out]
   exact ⟨rfl, Hset.out _, (Gr.refl g w).set _⟩
def Ent (f : FuncId) : Prop := ∀ (args : Array Value) (W : World), (callFunc f args).run Tryz.prog W = .ok (.enter f args) W
def Stops {σ : Type} (step : σ → UInt8 → Bool × σ) (ok : σ → Prop) (I : σ → World → Prop) (b : Nat) (w : World) (fn : FuncId) (caps : Array Value) : Prop :=
 Ent fn ∧ (∀ (q : σ) (c : UInt8), ok q → (step q c).1 = false → ok (step q c).2) ∧ (∀ (q : σ) (c : UInt8) (W : World), ok q → I q W → Gr b w W → Calls Tryz.prog fn (#[.int .u8 (c.toNat : Int)] ++ caps) W fun e W' => e = .returned (.bool (step q c).1) ∧ I (step q c).2 W' ∧ Gr b W W')
 ∧ (∀ (q : σ) (g : Nat) (W W' : World), w.heap.size ≤ g → w.heap.size ≤ W.heap.size → I q W → Gr g W W' → I q W')
def SignOk (b : Nat) (w : World) : Prop := ∀ (c : UInt8) (W : World), Gr b w W → Calls Tryz.prog 153 #[.int .u8 (c.toNat : Int)] W fun e w' => e = .returned (.bool (sg c)) ∧ W = w'
set_option maxHeartbeats 2000000 in
theorem find_any {σ : Type} {step : σ → UInt8 → Bool × σ} {ok : σ → Prop} {I : σ → World → Prop} {b : Nat} {fn : FuncId} {caps : Array Value} (s : ByteArray) (w : World) (q0 : σ) (hz : s.size ≤ 1000000)
  (hS : SignOk b w) (hst : Stops step ok I b w fn caps) (h0 : ok q0) (hI : I q0 w) (hb : b < w.heap.size) :
  Calls Tryz.prog 218 #[.string s, .func (.func fn) #[] caps] w fun e w' => e = .returned (.int .i64 ((fnd step q0 false s.data.toList).1 : Nat)) ∧ I (fnd step q0 false s.data.toList).2 w' ∧ Gr b w w' := by
 have hdl := Lib.hid (szL s)
 have HS := Lib.hid hS
 have eb := hst.1
 unfold Ent at eb
 have HO := Lib.hid hst.2.1
 have HC := Lib.hid hst.2.2.1
 have HK := Lib.hid hst.2.2.2
 have HI0 := Lib.hid hI
 have HQ0 := Lib.hid h0
 clear hS hst hI h0
 go_enter Tryz.func218, Tryz.ntmps218
 go_wp2_with (go_at_call 231; refine (escapes_any w).mono ?_; rintro e w1 ⟨rfl, hv, hb1⟩)
 have HV1 := Lib.hid hv
 have HB1 := Lib.hid (Gr.of_below (B := b) hb1)
 have HI1 := Lib.hid (HK.out q0 w.heap.size w w1 (Nat.le_refl _) (Nat.le_refl _) HI0.out (Gr.of_below hb1))
 clear hv hb1
 go_loopg [10] s.size (fun g s10 wr => ∃ (k : Nat) (q : σ) (bb : Bool), k + g = s.size ∧ s10 = .int .i64 (k : Int) ∧ Hid (BVar wr w.heap.size bb) ∧ Hid (I q wr) ∧ Hid (ok q) ∧ Hid (Gr b w wr) ∧ Hid (fnd step q0 false s.data.toList = ((fnd step q (bb && hs (s.data.toList.drop k)) (s.data.toList.drop k)).1 + k, (fnd step q (bb && hs (s.data.toList.drop k)) (s.data.toList.drop k)).2)))
 case atStart => exact ⟨0, q0, false, by omega, rfl, HV1, HI1, HQ0, HB1, Lib.hid rfl⟩
 case round =>
  obtain ⟨k, q, bb, hkg, rfl, HV, HI, HQ, HG, HF⟩ := hrel
  clear HV1 HI1 HB1
  cases gk with
  | zero =>
   have hkl : ¬ ((k : Int) < (s.size : Int)) := by omega
   have HX : Hid (fnd step q0 false s.data.toList = (s.size, q)) := Lib.hid (by
    rw [HF.out, List.drop_eq_nil_of_le (by rw [hdl.out]; omega), fnd_nil]
    simp only [Prod.mk.injEq, and_true]; omega)
   go_wp2
   go_ret
   rw [HX.out]
   exact ⟨rfl, HI.out, HG.out⟩
  | succ g =>
   have hkl : (k : Int) < (s.size : Int) := by omega
   have hk2 : k < s.size := by omega
   obtain ⟨c, t, hd, hck, ht⟩ := consAt hk2
   have HE := Lib.hid (esc_any c bb w.heap.size wr HV.out (HS.out c wr HG.out))
   have HN : Hid ((bk bb c && hs t) = nf (bb && sg c) c t) := Lib.hid (bk_nf bb c t)
   have HF2 : Hid (fnd step q0 false s.data.toList = ((fnd step q (bb && sg c) (c :: t)).1 + k, (fnd step q (bb && sg c) (c :: t)).2)) := Lib.hid (by
    have := HF.out
    rw [hd] at this; exact this)
   have HT := Lib.hid ht
   clear hd ht
   obtain ⟨x, hx⟩ : ∃ x, x = (bb && sg c) := ⟨_, rfl⟩
   rw [← hx] at HE HF2 HN
   clear hx
   cases x with
   | true =>
    have HX : Hid (fnd step q0 false s.data.toList = ((fnd step q (bk bb c && hs (s.data.toList.drop (k + 1))) (s.data.toList.drop (k + 1))).1 + (k + 1), (fnd step q (bk bb c && hs (s.data.toList.drop (k + 1))) (s.data.toList.drop (k + 1))).2)) := Lib.hid (by
     rw [HF2.out, fnd_esc, HT.out, HN.out]
     simp only [Prod.mk.injEq, and_true]; omega)
    go_wp2_with fail
    refine HE.out.mono ?_
    rintro e w2 ⟨rfl, hv2, hg2⟩
    have HI2 := Lib.hid (HK.out q _ _ _ (Nat.le_refl _) HG.out.size HI.out hg2)
    have HG2 := Lib.hid (HG.out.behind hg2 (Nat.le_refl _))
    have HV2 := Lib.hid hv2
    clear hv2 hg2
    go_wp2
    go_roundg g
    case rel => exact ⟨k + 1, q, bk bb c, by omega, by go_num, HV2, HI2, HQ, HG2, HX⟩
    case measure => omega
   | false =>
    rcases hst : step q c with ⟨y, q1⟩
    have Hst := Lib.hid hst
    have HCq := Lib.hid (fun W => HC.out q c W HQ.out)
    have HOq := Lib.hid (HO.out q c HQ.out)
    rw [hst] at HCq HOq
    clear hst
    cases y with
    | true =>
     have HX : Hid (fnd step q0 false s.data.toList = (k, q1)) := Lib.hid (by
      rw [HF2.out, fnd_hit t Hst.out]
      simp only [Prod.mk.injEq, and_true]; omega)
     go_wp2_with fail
     refine HE.out.mono ?_
     rintro e w2 ⟨rfl, hv2, hg2⟩
     have HI2 := Lib.hid (HK.out q _ _ _ (Nat.le_refl _) HG.out.size HI.out hg2)
     have HG2 := Lib.hid (HG.out.behind hg2 (Nat.le_refl _))
     clear hv2 hg2
     go_wp2_with fail
     refine (HCq.out w2 HI2.out HG2.out).mono ?_
     rintro e w3 ⟨rfl, hi3, hg3⟩
     have HI3 := Lib.hid hi3
     have HG3 := Lib.hid (HG2.out.trans hg3)
     clear hi3 hg3
     go_wp2
     go_ret
     rw [HX.out]
     exact ⟨rfl, HI3.out, HG3.out⟩
    | false =>
     have HX : Hid (fnd step q0 false s.data.toList = ((fnd step q1 (bk bb c && hs (s.data.toList.drop (k + 1))) (s.data.toList.drop (k + 1))).1 + (k + 1), (fnd step q1 (bk bb c && hs (s.data.toList.drop (k + 1))) (s.data.toList.drop (k + 1))).2)) := Lib.hid (by
      rw [HF2.out, fnd_miss t Hst.out, HT.out, HN.out]
      simp only [Prod.mk.injEq, and_true]; omega)
     go_wp2_with fail
     refine HE.out.mono ?_
     rintro e w2 ⟨rfl, hv2, hg2⟩
     have HI2 := Lib.hid (HK.out q _ _ _ (Nat.le_refl _) HG.out.size HI.out hg2)
     have HG2 := Lib.hid (HG.out.behind hg2 (Nat.le_refl _))
     have HV2 := Lib.hid hv2
     clear hv2 hg2
     go_wp2_with fail
     refine (HCq.out w2 HI2.out HG2.out).mono ?_
     rintro e w3 ⟨rfl, hi3, hg3⟩
     have HI3 := Lib.hid hi3
     have HQ3 := Lib.hid (HOq.out (by first | rfl | trivial))
     have HV3 := Lib.hid (HV2.out.gr hg3 (by omega))
     have HG3 := Lib.hid (HG2.out.trans hg3)
     clear hi3 hg3
     go_wp2
     go_roundg g
     case rel => exact ⟨k + 1, q1, bk bb c, by omega, by go_num, HV3, HI3, HQ3, HG3, HX⟩
     case measure => omega
end Lk
end Go.Proofs.YtkiipaaaakhhfaaGreatDoor
end
section
namespace Go.Proofs.YtkiipaaaakhhfaaGreatDoor
open Go Go.RowKit
namespace Lk
open Es
set_option maxRecDepth 100000
set_option linter.unusedVariables false
set_option linter.unusedSimpArgs false
theorem sign_ok {w0 w : World} {b : Nat} (hL : LaidK w0) (hb : w0.heap.size ≤ b) (hw : Below w0.heap.size w0 w) : SignOk b w := by
 intro c W hG
 have h1 : Below w0.heap.size w0 W := hw.trans (hG.below hb hw.size)
 exact Es.sign_any (c.toNat : Int) W (by omega) (by have := c.toNat_lt; omega) (hL.below h1)
def CVar (w : World) (g : Nat) (e : UInt8) : Prop := w.heap[g]? = some (.cells #[.int .u8 (e.toNat : Int)] 5 (0, 0))
def SVar (w : World) (g : Nat) (s : ByteArray) : Prop := w.heap[g]? = some (.cells #[.string s] 9 (0, 0))
def NVar (w : World) (g : Nat) (n : Nat) : Prop := w.heap[g]? = some (.cells #[.int .i64 (n : Int)] 3 (0, 0))
theorem natOf (c : UInt8) : ((c.toNat : Int).toNat.toUInt8) = c := by rw [Int.toNat_natCast]; exact UInt8.ofNat_toNat
theorem below_drewN {B : Nat} {a w : World} (h : Below B a w) (n : Nat) : Below B a (w.drewN n) := ⟨h.os, h.tape, h.output, h.size, h.block⟩
theorem two_new (w : World) (a b : Obj) : ((w.alloc a).alloc b).heap[w.heap.size]? = some a ∧ ((w.alloc a).alloc b).heap[w.heap.size + 1]? = some b := by
 refine ⟨(Below.heap_alloc (w.alloc a) b w.heap.size (by simp)).trans (heap_alloc_new w a), ?_⟩
 have := heap_alloc_new (w.alloc a) b
 rwa [World.size_alloc] at this
set_option maxHeartbeats 1000000 in
theorem upc_any (e : UInt8) (bars : List UInt8) (c : UInt8) (g1 g2 : Nat) (w : World) (h1 : CVar w g1 e) (h2 : SVar w g2 ⟨bars.toArray⟩) :
  Calls Tryz.prog 219 #[.int .u8 (c.toNat : Int), .pointer (some ⟨g1, 0, none⟩), .pointer (some ⟨g2, 0, none⟩)] w fun e' w' => e' = .returned (.bool (c == e || bars.contains c)) ∧ w = w' := by
 have c1 := cell_of_one h1
 have c2 := cell_of_one h2
 have hce : ((c.toNat : Int) == (e.toNat : Int)) = (c == e) := by
  rw [Bool.eq_iff_iff, beq_iff_eq, beq_iff_eq]
  exact ⟨fun h => UInt8.toNat_inj.1 (Int.ofNat.inj h), fun h => by rw [h]⟩
 have HX : Hid (∀ (w : World), Calls Tryz.prog 83 #[.string ⟨bars.toArray⟩, .int .u8 (c.toNat : Int)] w fun e w' => e = .returned (.int .i64 (Lib.indexByte bars c)) ∧ w' = w) := Lib.hid (fun w => by
  have := Tryz.strings_IndexByte ⟨bars.toArray⟩ (c.toNat : Int) w
  rw [natOf] at this
  exact this)
 have HM := Lib.hid (idx_mem bars c)
 clear h1 h2
 generalize bars.contains c = y at *
 generalize Lib.indexByte bars c = z at *
 generalize (c == e) = x at *
 cases x with
 | true =>
  go_enter Tryz.func219, Tryz.ntmps219
  go_wp2
  go_ret
  exact ⟨rfl, rfl⟩
 | false =>
  go_enter Tryz.func219, Tryz.ntmps219
  go_wp2_with fail
  refine (HX.out w).mono ?_
  rintro e w1 ⟨rfl, rfl⟩
  go_wp2
  go_ret
  exact ⟨retB (by rw [HM.out]; rfl), rfl⟩
def upV (s : ByteArray) : Option Nat → Value
 | none => .tuple #[.string ⟨#[]⟩, .bool false]
 | some i => .tuple #[.string (s.extract 0 i), .bool true]
set_option maxHeartbeats 2000000 in
theorem upTo_any (s : ByteArray) (e : UInt8) (bars : List UInt8) (w : World) (hz : s.size ≤ 1000000) (hL : LaidK w) :
  Calls Tryz.prog 199 #[.string s, .int .u8 (e.toNat : Int), .string ⟨bars.toArray⟩] w fun e' w' => e' = .returned (upV s (upP e bars s.data.toList)) ∧ Below w.heap.size w w' := by
 have HF : Hid (∀ W, Below w.heap.size w W → CVar W w.heap.size e → SVar W (w.heap.size + 1) ⟨bars.toArray⟩ → Calls Tryz.prog 218 #[.string s, .func (.func 219) #[] #[.pointer (some ⟨w.heap.size, 0, none⟩), .pointer (some ⟨w.heap.size + 1, 0, none⟩)]] W fun e' w' => e' = .returned (.int .i64 ((fnd (upS e bars) () false s.data.toList).1 : Nat)) ∧ CVar w' w.heap.size e ∧ Below w.heap.size w w') := Lib.hid (fun W hW hc hs => by
  have hl1 := lt_of_block hc
  have hl2 := lt_of_block hs
  have hsz := hW.size
  have hst : Stops (upS e bars) (fun _ => True) (fun _ W' => CVar W' w.heap.size e ∧ SVar W' (w.heap.size + 1) ⟨bars.toArray⟩) w.heap.size W 219 #[.pointer (some ⟨w.heap.size, 0, none⟩), .pointer (some ⟨w.heap.size + 1, 0, none⟩)] := by
   refine ⟨fun _ _ => by kernel_rfl, fun _ _ _ _ => trivial, fun q c W1 _ hI hG => ?_, fun q g W1 W2 hg hs1 hI hG => ?_⟩
   ·exact (upc_any e bars c _ _ W1 hI.1 hI.2).mono fun e' w' ⟨h1, h2⟩ => ⟨h1, h2 ▸ hI, h2 ▸ Gr.refl _ _⟩
   ·exact ⟨(hG.block _ (by omega) (fun e => by have := Option.some.inj e; omega)).trans hI.1, (hG.block _ (by omega) (fun e => by have := Option.some.inj e; omega)).trans hI.2⟩
  exact (find_any s W () hz (sign_ok hL (Nat.le_refl _) hW) hst trivial ⟨hc, hs⟩ hl1).mono fun e' w' ⟨h1, h2, h3⟩ => ⟨h1, h2.1, hW.trans (h3.below (Nat.le_refl _) hsz)⟩)
 have hle := fnd_le (step := upS e bars) s.data.toList () false
 rw [szL] at hle
 have HP : Hid (upP e bars s.data.toList = if (s.data.toList.drop (fnd (upS e bars) () false s.data.toList).1).head? = some e then some (fnd (upS e bars) () false s.data.toList).1 else none) := Lib.hid rfl
 have H1 : Hid (CVar ((w.alloc (.cells #[.int .u8 (e.toNat : Int)] 5)).alloc (.cells #[.string ⟨bars.toArray⟩] 9)) w.heap.size e) := Lib.hid (two_new w _ _).1
 have H2 : Hid (SVar ((w.alloc (.cells #[.int .u8 (e.toNat : Int)] 5)).alloc (.cells #[.string ⟨bars.toArray⟩] 9)) (w.heap.size + 1) ⟨bars.toArray⟩) := Lib.hid (two_new w _ _).2
 have H0 : Hid (Below w.heap.size w ((w.alloc (.cells #[.int .u8 (e.toNat : Int)] 5)).alloc (.cells #[.string ⟨bars.toArray⟩] 9))) := Lib.hid (((Below.refl _ w).alloc (Nat.le_refl _) _).alloc (by simp) _)
 clear hL
 generalize upP e bars s.data.toList = r at *
 generalize (fnd (upS e bars) () false s.data.toList).1 = n at *
 by_cases hn : n < s.size
 ·obtain ⟨c, t, hd, hck, _⟩ := consAt hn
  have hn0 : ((n : Int) == (s.size : Int)) = false := by simp; omega
  by_cases hc : c = e
  ·subst hc
   have HV : Hid (r = some n) := Lib.hid (by rw [HP.out, hd]; simp)
   have hne : ((c.toNat : Int) != (c.toNat : Int)) = false := by simp
   clear hd HP
   go_enter Tryz.func199, Tryz.ntmps199
   go_wp2_with fail
   refine (HF.out _ H0.out H1.out H2.out).mono ?_
   rintro e w1 ⟨rfl, hc1, hb1⟩
   have c1 := cell_of_one hc1
   clear hc1
   go_wp2_with fail
   go_big_quiet (fail)
   go_wp2
   go_ret2
   rw [HV.out]
   exact ⟨rfl, below_drewN hb1 nq⟩
  ·have HV : Hid (r = none) := Lib.hid (by rw [HP.out, hd, if_neg]; simpa using hc)
   have hne : ((c.toNat : Int) != (e.toNat : Int)) = true := by
    simp only [bne_iff_ne, ne_eq]
    intro h
    exact hc (UInt8.toNat_inj.1 (Int.ofNat.inj h))
   clear hd HP hc
   go_enter Tryz.func199, Tryz.ntmps199
   go_wp2_with fail
   refine (HF.out _ H0.out H1.out H2.out).mono ?_
   rintro e w1 ⟨rfl, hc1, hb1⟩
   have c1 := cell_of_one hc1
   clear hc1
   go_wp2_with fail
   go_big_quiet (fail)
   go_wp2
   go_ret2
   rw [HV.out]
   exact ⟨rfl, below_drewN hb1 nq⟩
 ·have hn0 : ((n : Int) == (s.size : Int)) = true := by simp; omega
  have HV : Hid (r = none) := Lib.hid (by rw [HP.out, List.drop_eq_nil_of_le (by rw [szL]; omega)]; rfl)
  clear HP
  go_enter Tryz.func199, Tryz.ntmps199
  go_wp2_with fail
  refine (HF.out _ H0.out H1.out H2.out).mono ?_
  rintro e w1 ⟨rfl, hc1, hb1⟩
  have c1 := cell_of_one hc1
  clear hc1
  go_wp2_with fail
  go_big_quiet (fail)
  go_wp2
  go_ret2
  rw [HV.out]
  exact ⟨rfl, below_drewN hb1 nq⟩
theorem bc_any (o : Nat) (c : UInt8) (g : Nat) (w : World) (hv : NVar w g o) (ho : o ≤ 32) :
  Calls Tryz.prog 222 #[.int .u8 (c.toNat : Int), .pointer (some ⟨g, 0, none⟩)] w fun e w' => e = .returned (.bool (opS o c).1) ∧ NVar w' g (opS o c).2 ∧ Gr g w w' := by
 have hcell := cell_of_one hv
 have hfree := free_of_one hv
 have Hset := Lib.hid (fun u => one_setCell (u := u) hv)
 have HG : Hid (∀ u, Gr g w (w.setCell ⟨g, 0, none⟩ u)) := Lib.hid (fun u => (Gr.refl g w).set u)
 have HR : Hid (NVar w g o ∧ Gr g w w) := Lib.hid ⟨hv, Gr.refl g w⟩
 have e40 : ((c.toNat : Int) == 40) = (c == 40) := eqU c 40 (by decide)
 have e41 : ((c.toNat : Int) == 41) = (c == 41) := eqU c 41 (by decide)
 have e127 : ((c.toNat : Int) == 127) = (c == 127) := eqU c 127 (by decide)
 clear hv
 by_cases h40 : c = 40
 ·subst h40
  have HV : Hid (opS o 40 = (decide (32 < o + 1), o + 1)) := Lib.hid (by unfold opS; rw [if_pos rfl])
  have HW : Hid (decide ((32 : Int) < (o : Int) + 1) = decide (32 < o + 1)) := Lib.hid (by rw [decide_eq_decide]; omega)
  go_enter Tryz.func222, Tryz.ntmps222
  go_wp2
  go_ret
  rw [HV.out]
  exact ⟨retB HW.out, by have := Hset.out (.int .i64 ((o : Int) + 1)); exact this, HG.out _⟩
 ·have f40 : (c == 40) = false := by simpa using h40
  rw [f40] at e40
  by_cases h41 : c = 41
  ·subst h41
   by_cases ho0 : o = 0
   ·subst ho0
    have HV : Hid (opS 0 41 = (true, 0)) := Lib.hid (by decide)
    go_enter Tryz.func222, Tryz.ntmps222
    go_wp2
    go_ret
    rw [HV.out]
    exact ⟨rfl, HR.out⟩
   ·have h0 : ((o : Int) == 0) = false := by simp; omega
    have HV : Hid (opS o 41 = (false, o - 1)) := Lib.hid (by unfold opS; rw [if_neg h40, if_pos rfl, if_neg ho0])
    have HN : Hid ((o : Int) - 1 = ((o - 1 : Nat) : Int)) := Lib.hid (by omega)
    go_enter Tryz.func222, Tryz.ntmps222
    go_wp2
    go_ret
    rw [HV.out]
    exact ⟨rfl, by have := Hset.out (.int .i64 ((o : Int) - 1)); rw [HN.out] at this ⊢; exact this, HG.out _⟩
  ·have f41 : (c == 41) = false := by simpa using h41
   rw [f41] at e41
   have HV : Hid (opS o c = (decide (c.toNat ≤ 32 ∨ c = 127), o)) := Lib.hid (by unfold opS; rw [if_neg h40, if_neg h41])
   by_cases h32 : c.toNat ≤ 32
   ·have h32' : (c.toNat : Int) ≤ 32 := by omega
    have HW : Hid (decide (c.toNat ≤ 32 ∨ c = 127) = true) := Lib.hid (decide_eq_true (.inl h32))
    clear h40 h41 h32
    go_enter Tryz.func222, Tryz.ntmps222
    go_wp2
    go_ret
    rw [HV.out, HW.out]
    exact ⟨rfl, HR.out⟩
   ·have h32' : ¬ (c.toNat : Int) ≤ 32 := by omega
    have HW : Hid (decide (c.toNat ≤ 32 ∨ c = 127) = (c == 127)) := Lib.hid (by
     rw [Bool.eq_iff_iff, decide_eq_true_iff, beq_iff_eq]
     exact ⟨fun h => h.resolve_left h32, .inr⟩)
    clear h40 h41 h32
    generalize (c == 127) = y at *
    go_enter Tryz.func222, Tryz.ntmps222
    go_wp2
    go_ret
    rw [HV.out, HW.out]
    exact ⟨rfl, HR.out⟩
def bareN (l : List UInt8) : Nat := if 0 < (fnd opS 0 false l).2 then 0 else (fnd opS 0 false l).1
theorem bareN_dst (l : List UInt8) : dst 0 false l = if 0 < (fnd opS 0 false l).2 then none else some (fnd opS 0 false l).1 := op_dst l 0 false (fun h => by cases h) (by omega)
set_option maxHeartbeats 1000000 in
theorem bare_any (s : ByteArray) (w : World) (hz : s.size ≤ 1000000) (hL : LaidK w) :
  Calls Tryz.prog 202 #[.string s] w fun e w' => e = .returned (.int .i64 (bareN s.data.toList : Nat)) ∧ Below w.heap.size w w' := by
 have HF : Hid (∀ W, Below w.heap.size w W → NVar W w.heap.size 0 → Calls Tryz.prog 218 #[.string s, .func (.func 222) #[] #[.pointer (some ⟨w.heap.size, 0, none⟩)]] W fun e' w' => e' = .returned (.int .i64 ((fnd opS 0 false s.data.toList).1 : Nat)) ∧ NVar w' w.heap.size (fnd opS 0 false s.data.toList).2 ∧ Below w.heap.size w w') := Lib.hid (fun W hW hc => by
  have hl1 := lt_of_block hc
  have hsz := hW.size
  have hst : Stops opS (fun o => o ≤ 32) (fun o W' => NVar W' w.heap.size o) w.heap.size W 222 #[.pointer (some ⟨w.heap.size, 0, none⟩)] := by
   refine ⟨fun _ _ => by kernel_rfl, fun o c ho h => ?_, fun o c W1 ho hI hG => ?_, fun o g W1 W2 hg hs1 hI hG => ?_⟩
   ·unfold opS at h ⊢
    split
    ·rename_i h1
     rw [if_pos h1] at h
     simp only [decide_eq_false_iff_not] at h
     simp only; omega
    ·split
     ·split
      ·simp
      ·simp only; omega
     ·exact ho
   ·exact bc_any o c _ W1 hI ho
   ·exact (hG.block _ (by omega) (fun e => by have := Option.some.inj e; omega)).trans hI
  exact (find_any s W 0 hz (sign_ok hL (Nat.le_refl _) hW) hst (by simp) hc hl1).mono fun e' w' ⟨h1, h2, h3⟩ => ⟨h1, h2, hW.trans (h3.below (Nat.le_refl _) hsz)⟩)
 have HN : Hid (bareN s.data.toList = if 0 < (fnd opS 0 false s.data.toList).2 then 0 else (fnd opS 0 false s.data.toList).1) := Lib.hid rfl
 have H0 : Hid (Below w.heap.size w ((w.alloc (.cells #[.int .i64 0] 3)))) := Lib.hid ((Below.refl _ w).alloc (Nat.le_refl _) _)
 have H1 : Hid (NVar (w.alloc (.cells #[.int .i64 0] 3)) w.heap.size 0) := Lib.hid (heap_alloc_new w _)
 clear hL
 generalize bareN s.data.toList = r at *
 generalize (fnd opS 0 false s.data.toList).1 = n at *
 generalize (fnd opS 0 false s.data.toList).2 = o at *
 by_cases ho : 0 < o
 ·have ho' : (0 : Int) < (o : Int) := by omega
  have HV : Hid (r = 0) := Lib.hid (by rw [HN.out, if_pos ho])
  clear HN
  go_enter Tryz.func202, Tryz.ntmps202
  go_wp2_with fail
  refine (HF.out _ H0.out H1.out).mono ?_
  rintro e w1 ⟨rfl, hc1, hb1⟩
  have c1 := cell_of_one hc1
  clear hc1
  go_wp2
  go_ret
  rw [HV.out]
  exact ⟨rfl, hb1⟩
 ·have ho' : ¬ (0 : Int) < (o : Int) := by omega
  have HV : Hid (r = n) := Lib.hid (by rw [HN.out, if_neg ho])
  clear HN
  go_enter Tryz.func202, Tryz.ntmps202
  go_wp2_with fail
  refine (HF.out _ H0.out H1.out).mono ?_
  rintro e w1 ⟨rfl, hc1, hb1⟩
  have c1 := cell_of_one hc1
  clear hc1
  go_wp2
  go_ret
  rw [HV.out]
  exact ⟨rfl, hb1⟩
end Lk
end Go.Proofs.YtkiipaaaakhhfaaGreatDoor
end
