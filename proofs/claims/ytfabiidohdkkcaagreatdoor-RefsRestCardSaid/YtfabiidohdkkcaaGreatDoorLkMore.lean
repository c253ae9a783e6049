/- Plain mathematics of layer 9, the third part: labels, addresses and titles written as they are. -/
import Derived.Test.YtfabiidohdkkcaaGreatDoorLkTail
set_option linter.unusedVariables false
set_option linter.unusedSimpArgs false
set_option maxRecDepth 100000
namespace Go.Proofs.YtfabiidohdkkcaaGreatDoor
namespace Lk
open Es

/-- A letter or a digit. -/
def ad (c : UInt8) : Prop := (97 ≤ c.toNat ∧ c.toNat ≤ 122) ∨ (48 ≤ c.toNat ∧ c.toNat ≤ 57)
theorem ad_ne {c d : UInt8} (h : ad c) (hd : ¬ ((97 ≤ d.toNat ∧ d.toNat ≤ 122) ∨ (48 ≤ d.toNat ∧ d.toNat ≤ 57))) : c ≠ d := by
  rintro rfl
  exact hd h
theorem ad_wh {c : UInt8} (h : ad c) : whB c = false := by
  unfold whB
  rw [beq_eq_false_iff_ne.2 (ad_ne h (by decide)), beq_eq_false_iff_ne.2 (ad_ne h (by decide)), beq_eq_false_iff_ne.2 (ad_ne h (by decide))]
  rfl
theorem ad_une {a : List UInt8} (h : ∀ c ∈ a, ad c) : une a = a := une_self fun c hc => ⟨ad_ne (h c hc) (by decide), ad_ne (h c hc) (by decide)⟩
theorem ad_find {H B S : UInt8 → Bool} {a : List UInt8} {d : UInt8} (m : List UInt8) (h : ∀ c ∈ a, ad c) (hp : ∀ c, ad c → H c = false ∧ B c = false ∧ S c = false) (h1 : H d = false) (h2 : B d = false) (h3 : S d = true) : find H B S false (a ++ d :: m) = some a.length := by
  rw [find_plain (d :: m) a (fun c hc => ⟨ad_ne (h c hc) (by decide), hp c (h c hc)⟩), find_cons, if_neg (by rw [h1, h2]; simp), if_pos ⟨rfl, h3⟩]
  simp
theorem take_app (a b : List UInt8) : (a ++ b).take a.length = a := List.take_left' rfl
theorem ad_ang {a : List UInt8} (m : List UInt8) (h : ∀ c ∈ a, ad c) : destP (60 :: (a ++ 62 :: m)) = (a, a.length + 2, true) := by
  have e : angF false (a ++ 62 :: m) = some a.length := ad_find m h (fun c hc => ⟨by simpa using ad_ne hc (by decide), by simpa using ad_ne hc (by decide), by simpa using ad_ne hc (by decide)⟩) rfl rfl rfl
  unfold destP
  simp only [if_true, e, take_app, ad_une h]
theorem ad_dst (m : List UInt8) : ∀ (a : List UInt8), (∀ c ∈ a, ad c) → dst 0 false (a ++ 32 :: m) = some a.length
  | [], _ => rfl
  | c :: t, h => by
    have hc := h c List.mem_cons_self
    have h1 : ¬ (c.toNat ≤ 32 ∨ c = 127) := fun e => e.elim (fun e => by unfold ad at hc; omega) (fun e => ad_ne hc (by decide) e)
    have h2 : ¬ (false = false ∧ c = 40) := fun e => ad_ne hc (by decide) e.2
    have h3 : ¬ (false = false ∧ c = 41) := fun e => ad_ne hc (by decide) e.2
    rw [List.cons_append, dst_cons, if_neg h1, if_neg h2, if_neg h3, nf_other _ _ (ad_ne hc (by decide)), ad_dst m t (fun d hd => h d (List.mem_cons_of_mem _ hd))]
    rfl
theorem ad_dest {a : List UInt8} (m : List UInt8) (h : ∀ c ∈ a, ad c) (hne : a ≠ []) : destP (a ++ 32 :: m) = (a, a.length, true) := by
  cases a with
  | nil => exact absurd rfl hne
  | cons c t =>
    have e := ad_dst m (c :: t) h
    have hz : ¬ (c :: t).length = 0 := by simp
    unfold destP
    rw [List.cons_append] at e ⊢
    simp only
    rw [if_neg (ad_ne (h c List.mem_cons_self) (by decide)), e]
    simp only [if_neg hz]
    rw [show c :: (t ++ 32 :: m) = (c :: t) ++ 32 :: m from rfl, take_app, ad_une h]
theorem gap_none {a : List UInt8} (h : ∀ c ∈ a, ad c) : gapP a = false := by
  induction a with
  | nil => rfl
  | cons c t ih =>
    show (c == 10 && bare t || gapP t) = false
    rw [ih (fun d hd => h d (List.mem_cons_of_mem _ hd)), beq_eq_false_iff_ne.2 (ad_ne (h c List.mem_cons_self) (by decide))]
    rfl
theorem ad_tit {a : List UInt8} {c : UInt8} (m : List UInt8) (h : ∀ c ∈ a, ad c) (hc : c = 34 ∨ c = 39 ∨ c = 40) : titP (c :: (a ++ endB c :: m)) = (a, a.length + 2) := by
  have e : titF c false (a ++ endB c :: m) = some a.length := ad_find m h (fun d hd => ⟨rfl, by
    rw [beq_eq_false_iff_ne.2 (ad_ne hd (by decide)), Bool.and_false], beq_eq_false_iff_ne.2 (by rcases hc with rfl | rfl | rfl <;> exact ad_ne hd (by decide))⟩) rfl (by rcases hc with rfl | rfl | rfl <;> rfl) (by simp)
  unfold titP
  simp only [if_pos hc, e, take_app, gap_none h, ad_une h]
  rfl
/-- (address "title") -/
theorem ad_tail {a b : List UInt8} {c : UInt8} (h : ∀ c ∈ a, ad c) (hne : a ≠ []) (hb : ∀ c ∈ b, ad c) (hc : c = 34 ∨ c = 39 ∨ c = 40) : tailP (40 :: (a ++ 32 :: c :: (b ++ [endB c, 41]))) = (a, b, a.length + b.length + 5) := by
  have w0 : whN (a ++ 32 :: c :: (b ++ [endB c, 41])) = 0 := by
    cases a with
    | nil => exact absurd rfl hne
    | cons x t => exact whN_miss _ (ad_wh (h x List.mem_cons_self))
  have hd := ad_dest (c :: (b ++ [endB c, 41])) h hne
  have dr : (a ++ 32 :: c :: (b ++ [endB c, 41])).drop a.length = 32 :: c :: (b ++ [endB c, 41]) := List.drop_left' rfl
  have wc : whB c = false := by rcases hc with rfl | rfl | rfl <;> rfl
  have w1 : whN (32 :: c :: (b ++ [endB c, 41])) = 1 := by rw [whN_hit _ rfl, whN_miss _ wc]
  have ht := ad_tit (a := b) (c := c) [41] hb hc
  have dr1 : (a ++ 32 :: c :: (b ++ [endB c, 41])).drop (a.length + 1) = c :: (b ++ [endB c, 41]) := by
    rw [← List.drop_drop, dr]; rfl
  have dr2 : (a ++ 32 :: c :: (b ++ [endB c, 41])).drop (a.length + 1 + (b.length + 2)) = [41] := by
    rw [← List.drop_drop, dr1, show c :: (b ++ [endB c, 41]) = (c :: (b ++ [endB c])) ++ [41] by simp]
    exact List.drop_left' (by simp)
  have hl : 0 < a.length := List.length_pos_iff.2 hne
  have hbh : behind (a ++ 32 :: c :: (b ++ [endB c, 41])) a.length a.length = (b, a.length + 1 + (b.length + 2)) := by
    unfold behind
    simp only [dr, w1, dr1, ht]
    exact if_pos ⟨hl, Nat.zero_lt_one, Nat.succ_pos _⟩
  have wl : whN [41] = 0 := rfl
  unfold tailP
  simp only [if_true, w0, List.drop_zero, hd, Nat.zero_add, hbh, dr2, wl, Nat.add_zero]
  rw [if_pos (by rfl)]
  simp only [Prod.mk.injEq, true_and]
  omega
/-- ( <address> ) -/
theorem ad_tail2 {a : List UInt8} (h : ∀ c ∈ a, ad c) : tailP (40 :: 32 :: 60 :: (a ++ [62, 32, 41])) = (a, [], a.length + 6) := by
  have w0 : whN (32 :: 60 :: (a ++ [62, 32, 41])) = 1 := by rw [whN_hit _ rfl, whN_miss _ rfl]
  have hd := ad_ang [32, 41] h
  have dr : (32 :: 60 :: (a ++ [62, 32, 41])).drop 1 = 60 :: (a ++ [62, 32, 41]) := rfl
  have dr1 : (32 :: 60 :: (a ++ [62, 32, 41])).drop (1 + (a.length + 2)) = [32, 41] := by
    rw [← List.drop_drop, dr, show 60 :: (a ++ [62, 32, 41]) = (60 :: (a ++ [62])) ++ [32, 41] by simp]
    exact List.drop_left' (by simp)
  have dr2 : (32 :: 60 :: (a ++ [62, 32, 41])).drop (1 + (a.length + 2) + 1) = [41] := by
    rw [← List.drop_drop, dr1]; rfl
  have w1 : whN [32, 41] = 1 := rfl
  have hbh : behind (32 :: 60 :: (a ++ [62, 32, 41])) (a.length + 2) (1 + (a.length + 2)) = ([], 1 + (a.length + 2)) := by
    unfold behind
    simp only [dr1, w1, dr2, tit_close]
    exact if_neg (fun e => Nat.lt_irrefl _ e.2.2)
  unfold tailP
  simp only [if_true, w0, dr, hd, hbh, dr1, w1, dr2]
  rw [if_pos (by rfl)]
  simp only [Prod.mk.injEq, true_and]
  omega
/-- A bracket that is escaped ends nothing. -/
theorem lab_esc {a : List UInt8} (m : List UInt8) (h : ∀ c ∈ a, c ≠ 92 ∧ c ≠ 91 ∧ c ≠ 93) (hl : a.length ≤ 900) : labP (91 :: 120 :: (a ++ 92 :: 91 :: 93 :: m)) = (120 :: (a ++ [92, 91]), a.length + 5) := by
  have hx : ∀ c ∈ 120 :: a, c ≠ 92 ∧ c ≠ 91 ∧ c ≠ 93 := fun c hc => by
    rcases List.mem_cons.1 hc with rfl | hc
    · decide
    · exact h c hc
  have e : labF false (120 :: (a ++ 92 :: 91 :: 93 :: m)) = some (a.length + 3) := by
    have e0 : find no (· == 91) (· == 93) false (92 :: 91 :: 93 :: m) = some 2 := by
      rw [find_cons, if_neg (by simp [no]), if_neg (by simp), show nf false 92 (91 :: 93 :: m) = true by unfold nf; rw [show hs (91 :: 93 :: m) = sg 91 from rfl, show sg 91 = true by decide +kernel]; rfl, find_cons, if_neg (by simp [no]), if_neg (by simp), nf_true, find_cons, if_neg (by simp [no]), if_pos (by simp)]
      rfl
    have := find_plain (H := no) (B := (· == 91)) (S := (· == 93)) (92 :: 91 :: 93 :: m) (120 :: a) (fun c hc => ⟨(hx c hc).1, rfl, by simpa using (hx c hc).2.1, by simpa using (hx c hc).2.2⟩)
    unfold labF
    rw [← List.cons_append, this, e0]
    simp only [Option.map_some, List.length_cons, Option.some.injEq]
    omega
  have tk : (120 :: (a ++ 92 :: 91 :: 93 :: m)).take (a.length + 3) = 120 :: (a ++ [92, 91]) := by
    rw [show 120 :: (a ++ 92 :: 91 :: 93 :: m) = (120 :: (a ++ [92, 91])) ++ 93 :: m by simp]
    exact List.take_left' (by simp)
  have hw : whN (120 :: (a ++ [92, 91])) = 0 := whN_miss _ rfl
  unfold labP
  simp only [if_true, e, tk, hw]
  rw [if_neg (by omega)]
/-- What an address is, with its end. -/
theorem dest_false {l x : List UInt8} {n : Nat} (h : destP l = (x, n, false)) : n = 0 := by
  cases l with
  | nil => cases h; rfl
  | cons c t =>
    unfold destP at h
    simp only at h
    split at h
    · split at h
      · cases h; rfl
      · cases h
    · split at h
      · cases h; rfl
      · split at h
        · cases h; rfl
        · cases h
theorem find_stop {H B S : UInt8 → Bool} : ∀ (l : List UInt8) (f : Bool) (i : Nat), find H B S f l = some i → ∀ c ∈ (l.drop i).head?, S c = true
  | [], f, i, h => by rw [find_nil] at h; cases h
  | c :: t, f, i, h => by
    rw [find_cons] at h
    split at h
    · cases h
    · split at h
      · rename_i h2
        cases h
        intro d hd
        simp only [List.drop_zero, List.head?_cons, Option.mem_def, Option.some.injEq] at hd
        rw [← hd]; exact h2.2
      · obtain ⟨j, hj, rfl⟩ := Option.map_eq_some_iff.1 h
        rw [List.drop_succ_cons]
        exact find_stop t _ j hj
theorem dest_true {l x : List UInt8} {n : Nat} (h : destP l = (x, n, true)) : 1 ≤ n ∧ n ≤ l.length ∧ ((l.head? = some 60 ∧ (l.drop (n - 1)).head? = some 62) ∨ (l.head? ≠ some 60 ∧ (∀ c ∈ l.take n, 32 < c.toNat ∧ c ≠ 127) ∧ ∀ c ∈ (l.drop n).head?, c.toNat ≤ 32 ∨ c = 127 ∨ c = 41)) := by
  cases l with
  | nil => cases h
  | cons c t =>
    unfold destP at h
    simp only at h
    split at h
    · rename_i hc
      split at h
      · cases h
      · rename_i i hi
        cases h
        have hlt : i < t.length := find_lt t false i hi
        refine ⟨by omega, by simp only [List.length_cons]; omega, .inl ⟨by rw [hc]; rfl, ?_⟩⟩
        rw [show i + 2 - 1 = i + 1 from rfl, List.drop_succ_cons, List.head?_drop, List.getElem?_eq_getElem hlt]
        have := find_stop t false i hi t[i] (by rw [List.head?_drop, List.getElem?_eq_getElem hlt]; rfl)
        rw [eq_of_beq this]
    · rename_i hc
      split at h
      · cases h
      · rename_i k hk
        split at h
        · cases h
        · cases h
          obtain ⟨i1, i2, i3⟩ := dst_ok _ _ _ _ hk
          exact ⟨by omega, i1, .inr ⟨fun e => hc (Option.some.inj e), i2, i3⟩⟩

/-! ### a loop's round: where it stands, and what is left -/
section
variable {H B S : UInt8 → Bool}
theorem map_zero (o : Option Nat) : o.map (· + 0) = o := by cases o <;> rfl
theorem find_next {f : Bool} {c : UInt8} {t : List UInt8} (h1 : ¬ (H c = true ∨ (f = false ∧ B c = true))) (h2 : ¬ (f = false ∧ S c = true)) (i : Nat) : (find H B S f (c :: t)).map (· + i) = (find H B S (nf f c t) t).map (· + (i + 1)) := by
  rw [find_cons, if_neg h1, if_neg h2]
  cases find H B S (nf f c t) t with
  | none => rfl
  | some j => simp only [Option.map_some, Option.some.injEq]; omega
theorem find_hit {f : Bool} {c : UInt8} {t : List UInt8} (h1 : ¬ (H c = true ∨ (f = false ∧ B c = true))) (h2 : f = false ∧ S c = true) (i : Nat) : (find H B S f (c :: t)).map (· + i) = some i := by
  rw [find_cons, if_neg h1, if_pos h2]
  simp
theorem find_bad {f : Bool} {c : UInt8} {t : List UInt8} (h1 : H c = true ∨ (f = false ∧ B c = true)) (i : Nat) : (find H B S f (c :: t)).map (· + i) = none := by
  rw [find_cons, if_pos h1]
  rfl
end
theorem map_next (o : Option Nat) (i : Nat) : (o.map (· + 1)).map (· + i) = o.map (· + (i + 1)) := by
  cases o with
  | none => rfl
  | some j => simp only [Option.map_some, Option.some.injEq]; omega
/-- The marks of escaped bytes, as far as they are set. -/
def mkd (l : List UInt8) (i : Nat) : List Bool := (List.range l.length).map fun k => decide (k ≤ i) && fl false l k
theorem mkd_len (l : List UInt8) (i : Nat) : (mkd l i).length = l.length := by simp [mkd]
theorem mkd_get (l : List UInt8) (i k : Nat) (h : k < l.length) : (mkd l i)[k]? = some (decide (k ≤ i) && fl false l k) := by
  simp [mkd, h]
theorem mkd_zero (l : List UInt8) : mkd l 0 = List.replicate l.length false := by
  apply List.ext_getElem?
  intro k
  by_cases hk : k < l.length
  · rw [mkd_get l 0 k hk, List.getElem?_replicate, if_pos hk]
    cases k with
    | zero => rw [fl_zero]; rfl
    | succ k => simp
  · rw [List.getElem?_eq_none (by rw [mkd_len]; omega), List.getElem?_replicate, if_neg hk]
/-- No mark at i + 1. -/
theorem mkd_same {l : List UInt8} {i : Nat} (h : fl false l (i + 1) = false) : mkd l (i + 1) = mkd l i := by
  apply List.ext_getElem?
  intro k
  by_cases hk : k < l.length
  · rw [mkd_get _ _ _ hk, mkd_get _ _ _ hk]
    by_cases hki : k = i + 1
    · subst hki; rw [h, Bool.and_false, Bool.and_false]
    · rw [decide_eq_decide.2 (show k ≤ i + 1 ↔ k ≤ i by omega)]
  · rw [List.getElem?_eq_none (by rw [mkd_len]; omega), List.getElem?_eq_none (by rw [mkd_len]; omega)]
/-- A mark at i + 1, none at i + 2. -/
theorem mkd_set {l : List UInt8} {i : Nat} (h1 : fl false l (i + 1) = true) (h2 : fl false l (i + 2) = false) : mkd l (i + 2) = (mkd l i).set (i + 1) true := by
  rw [mkd_same (i := i + 1) h2]
  apply List.ext_getElem?
  intro k
  by_cases hk : k < l.length
  · rw [mkd_get _ _ _ hk, List.getElem?_set]
    by_cases hki : i + 1 = k
    · subst hki
      rw [if_pos rfl, if_pos (by rw [mkd_len]; exact hk), h1]
      simp
    · rw [if_neg hki, mkd_get _ _ _ hk, decide_eq_decide.2 (show k ≤ i + 1 ↔ k ≤ i by omega)]
  · rw [List.getElem?_eq_none (by rw [mkd_len]; omega), List.getElem?_eq_none (by rw [List.length_set, mkd_len]; omega)]
/-- The whole. -/
theorem mkd_all {l : List UInt8} {i k : Nat} (hi : l.length ≤ i + 1) (hk : k < l.length) : (mkd l i)[k]? = some (fl false l k) := by
  rw [mkd_get _ _ _ hk, decide_eq_true (show k ≤ i by omega), Bool.true_and]
end Lk
end Go.Proofs.YtfabiidohdkkcaaGreatDoor
