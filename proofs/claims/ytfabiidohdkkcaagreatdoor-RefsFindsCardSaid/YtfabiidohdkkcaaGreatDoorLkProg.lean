/- Plain mathematics of layer 9, the fourth part: the program's ways (one search with a stop of its own; lines cut off). -/
import Derived.Test.YtfabiidohdkkcaaGreatDoorLkMore
set_option linter.unusedVariables false
set_option linter.unusedSimpArgs false
set_option maxRecDepth 100000
namespace Go.Proofs.YtfabiidohdkkcaaGreatDoor
namespace Lk
open Es

/-- The first byte that is not escaped and at which the stop is true; and what the stop keeps then. -/
def fnd {σ : Type} (step : σ → UInt8 → Bool × σ) : σ → Bool → List UInt8 → Nat × σ
  | q, _, [] => (0, q)
  | q, f, c :: t => if f = true then ((fnd step q (nf f c t) t).1 + 1, (fnd step q (nf f c t) t).2)
    else if (step q c).1 = true then (0, (step q c).2) else ((fnd step (step q c).2 (nf f c t) t).1 + 1, (fnd step (step q c).2 (nf f c t) t).2)
section
variable {σ : Type} {step : σ → UInt8 → Bool × σ}
theorem fnd_nil (q : σ) (f : Bool) : fnd step q f [] = (0, q) := by cases f <;> rfl
theorem fnd_esc (q : σ) (c : UInt8) (t : List UInt8) : fnd step q true (c :: t) = ((fnd step q (nf true c t) t).1 + 1, (fnd step q (nf true c t) t).2) := rfl
theorem fnd_hit {q q1 : σ} {c : UInt8} (t : List UInt8) (h : step q c = (true, q1)) : fnd step q false (c :: t) = (0, q1) := by
  simp [fnd, h]
theorem fnd_miss {q q1 : σ} {c : UInt8} (t : List UInt8) (h : step q c = (false, q1)) : fnd step q false (c :: t) = ((fnd step q1 (nf false c t) t).1 + 1, (fnd step q1 (nf false c t) t).2) := by
  simp [fnd, h]
theorem fnd_le : ∀ (l : List UInt8) (q : σ) (f : Bool), (fnd step q f l).1 ≤ l.length
  | [], q, f => by rw [fnd_nil]; exact Nat.le_refl _
  | c :: t, q, f => by
    cases f with
    | true => rw [fnd_esc]; have := fnd_le t q (nf true c t); simp only [List.length_cons]; omega
    | false =>
      rcases h : step q c with ⟨b, q1⟩
      cases b with
      | true => rw [fnd_hit t h]; exact Nat.zero_le _
      | false => rw [fnd_miss t h]; have := fnd_le t q1 (nf false c t); simp only [List.length_cons]; omega
end
theorem nf_hs {f : Bool} {c : UInt8} {t : List UInt8} (h : nf f c t = true) : hs t = true := by
  unfold nf at h
  simp only [Bool.and_eq_true] at h
  exact h.2.2
/-- What an escape leaves behind it. -/
def bk (bb : Bool) (c : UInt8) : Bool := c == 92 && !(bb && sg c)
theorem bk_nf (bb : Bool) (c : UInt8) (t : List UInt8) : (bk bb c && hs t) = nf (bb && hs (c :: t)) c t := by
  unfold bk nf
  rw [show hs (c :: t) = sg c from rfl]
  cases bb <;> cases sg c <;> cases (c == 92) <;> cases hs t <;> rfl

/-! ### up to an end -/
def upS (e : UInt8) (bars : List UInt8) : Unit → UInt8 → Bool × Unit := fun _ c => (c == e || bars.contains c, ())
def upP (e : UInt8) (bars l : List UInt8) : Option Nat := if (l.drop (fnd (upS e bars) () false l).1).head? = some e then some (fnd (upS e bars) () false l).1 else none
theorem up_find {H B S : UInt8 → Bool} {e : UInt8} {bars : List UInt8} (h0 : ∀ c, (H c || B c) = (bars.contains c && !(c == e))) (h1 : ∀ c, S c = (c == e)) (h2 : ∀ c, H c = true → sg c = false) :
    ∀ (l : List UInt8) (f : Bool), (f = true → hs l = true) → find H B S f l = if (l.drop (fnd (upS e bars) () f l).1).head? = some e then some (fnd (upS e bars) () f l).1 else none
  | [], f, _ => by rw [find_nil]; simp
  | c :: t, true, hf => by
    have hh : H c = false := by
      cases hc : H c with
      | false => rfl
      | true => have := h2 c hc; rw [show hs (c :: t) = sg c from rfl] at hf; rw [hf rfl] at this; cases this
    rw [find_cons, if_neg (by rw [hh]; simp), if_neg (by simp), fnd_esc, List.drop_succ_cons, up_find h0 h1 h2 t (nf true c t) nf_hs]
    split <;> simp
  | c :: t, false, _ => by
    have hb := h0 c
    by_cases hc : c = e
    · subst hc
      have hst : upS c bars () c = (true, ()) := by simp [upS]
      have hno : H c = false ∧ B c = false := by
        rw [beq_self_eq_true, Bool.not_true, Bool.and_false, Bool.or_eq_false_iff] at hb
        exact hb
      rw [fnd_hit t hst, find_cons, if_neg (by rw [hno.1, hno.2]; simp), if_pos ⟨rfl, by rw [h1]; simp⟩]
      simp
    · have hce : (c == e) = false := by simpa using hc
      rw [hce, Bool.not_false, Bool.and_true] at hb
      cases hk : bars.contains c with
      | true =>
        have hst : upS e bars () c = (true, ()) := by unfold upS; rw [hk, Bool.or_true]
        rw [hk] at hb
        rw [fnd_hit t hst, find_cons, if_pos (by
          rcases Bool.or_eq_true_iff.1 hb with h | h
          · exact .inl h
          · exact .inr ⟨rfl, h⟩)]
        simp [hc]
      | false =>
        have hst : upS e bars () c = (false, ()) := by unfold upS; rw [hk, hce]; rfl
        rw [hk, Bool.or_eq_false_iff] at hb
        rw [fnd_miss t hst, find_cons, if_neg (by rw [hb.1, hb.2]; simp), if_neg (by rw [h1, hce]; simp), List.drop_succ_cons, up_find h0 h1 h2 t (nf false c t) nf_hs]
        split <;> simp
theorem one_of (x c : UInt8) : ([x].contains c) = (c == x) := by rw [List.contains_cons, List.contains_nil, Bool.or_false]
theorem up_lab (t : List UInt8) : labF false t = upP 93 [91] t := up_find (fun c => by
  rw [one_of]
  show (false || c == 91) = _
  by_cases h : c = 91
  · subst h; rfl
  · have : (c == 91) = false := by simpa using h
    rw [this]; rfl) (fun _ => rfl) (fun c h => by cases h) t false (fun h => by cases h)
theorem two_of (x y c : UInt8) : ([x, y].contains c) = (c == x || c == y) := by rw [List.contains_cons, one_of]
theorem up_ang (t : List UInt8) : angF false t = upP 62 [60, 10] t := up_find (fun c => by
  rw [two_of]
  show (c == 10 || c == 60) = _
  by_cases h : c = 62
  · subst h; rfl
  · have : (c == 62) = false := by simpa using h
    rw [this, Bool.not_false, Bool.and_true, Bool.or_comm]) (fun _ => rfl) (fun c h => by rw [eq_of_beq h]; decide +kernel) t false (fun h => by cases h)
def bars (c : UInt8) : List UInt8 := if c = 40 then [40] else []
theorem up_tit {c : UInt8} (hc : c = 34 ∨ c = 39 ∨ c = 40) (t : List UInt8) : titF c false t = upP (endB c) (bars c) t := by
  rcases hc with rfl | rfl | rfl
  · exact up_find (fun c => by
      show (false || ((34 : UInt8) == 40 && c == 40)) = (([] : List UInt8).contains c && !(c == 34))
      rfl) (fun _ => rfl) (fun c h => by cases h) t false (fun h => by cases h)
  · exact up_find (fun c => by
      show (false || ((39 : UInt8) == 40 && c == 40)) = (([] : List UInt8).contains c && !(c == 39))
      rfl) (fun _ => rfl) (fun c h => by cases h) t false (fun h => by cases h)
  · exact up_find (fun c => by
      show (false || ((40 : UInt8) == 40 && c == 40)) = (([40] : List UInt8).contains c && !(c == 41))
      rw [one_of]
      by_cases h : c = 40
      · subst h; rfl
      · have : (c == 40) = false := by simpa using h
        rw [this]; rfl) (fun _ => rfl) (fun c h => by cases h) t false (fun h => by cases h)
theorem upP_lt {e : UInt8} {bars l : List UInt8} {i : Nat} (h : upP e bars l = some i) : i < l.length := by
  unfold upP at h
  split at h
  · rename_i h1
    cases h
    rcases Nat.lt_or_ge (fnd (upS e bars) () false l).1 l.length with h' | h'
    · exact h'
    · rw [List.drop_eq_nil_of_le h'] at h1; cases h1
  · cases h

/-! ### an address without brackets -/
def opS (o : Nat) (c : UInt8) : Bool × Nat := if c = 40 then (decide (32 < o + 1), o + 1) else if c = 41 then (if o = 0 then (true, 0) else (false, o - 1)) else (decide (c.toNat ≤ 32 ∨ c = 127), o)
theorem op_dst : ∀ (l : List UInt8) (o : Nat) (f : Bool), (f = true → hs l = true) → o ≤ 32 → dst o f l = if 0 < (fnd opS o f l).2 then none else some (fnd opS o f l).1
  | [], o, f, _, _ => by
    rw [dst_nil, fnd_nil]
    simp only
    by_cases h : o = 0
    · rw [if_pos h, if_neg (by omega)]
    · rw [if_neg h, if_pos (by omega)]
  | c :: t, o, true, hf, ho => by
    have hsg : sg c = true := hf rfl
    have h0 : ¬ (c.toNat ≤ 32 ∨ c = 127) := by
      intro h
      rcases h with h | h
      · unfold sg sgI at hsg
        simp at hsg
        omega
      · subst h; revert hsg; decide +kernel
    rw [dst_cons, if_neg h0, if_neg (by simp), if_neg (by simp), fnd_esc, op_dst t o (nf true c t) nf_hs ho]
    simp only
    split <;> simp
  | c :: t, o, false, _, ho => by
    rw [dst_cons]
    by_cases h0 : c.toNat ≤ 32 ∨ c = 127
    · have h40 : c ≠ 40 := by rintro rfl; revert h0; decide
      have h41 : c ≠ 41 := by rintro rfl; revert h0; decide
      have hst : opS o c = (true, o) := by unfold opS; rw [if_neg h40, if_neg h41, decide_eq_true h0]
      rw [if_pos h0, fnd_hit t hst]
      simp only
      by_cases h : o = 0
      · rw [if_pos h, if_neg (by omega)]
      · rw [if_neg h, if_pos (by omega)]
    · rw [if_neg h0]
      by_cases h40 : c = 40
      · rw [if_pos ⟨rfl, h40⟩]
        by_cases ho2 : 32 ≤ o
        · have hst : opS o c = (true, o + 1) := by unfold opS; rw [if_pos h40, decide_eq_true (by omega)]
          rw [if_pos ho2, fnd_hit t hst, if_pos (Nat.succ_pos _)]
        · have hst : opS o c = (false, o + 1) := by unfold opS; rw [if_pos h40, decide_eq_false (by omega)]
          rw [if_neg ho2, fnd_miss t hst, op_dst t (o + 1) (nf false c t) nf_hs (by omega)]
          simp only
          split <;> simp
      · rw [if_neg (fun h => h40 h.2)]
        by_cases h41 : c = 41
        · rw [if_pos ⟨rfl, h41⟩]
          by_cases ho2 : o = 0
          · have hst : opS o c = (true, 0) := by unfold opS; rw [if_neg h40, if_pos h41, if_pos ho2]
            rw [if_pos ho2, fnd_hit t hst, if_neg (Nat.lt_irrefl _)]
          · have hst : opS o c = (false, o - 1) := by unfold opS; rw [if_neg h40, if_pos h41, if_neg ho2]
            rw [if_neg ho2, fnd_miss t hst, op_dst t (o - 1) (nf false c t) nf_hs (by omega)]
            simp only
            split <;> simp
        · have hst : opS o c = (false, o) := by unfold opS; rw [if_neg h40, if_neg h41, decide_eq_false h0]
          rw [if_neg (fun h => h41 h.2), fnd_miss t hst, op_dst t o (nf false c t) nf_hs ho]
          simp only
          split <;> simp
theorem op_le : ∀ (l : List UInt8) (o : Nat) (f : Bool), o ≤ 32 → (fnd opS o f l).2 ≤ 33
  | [], o, f, ho => by rw [fnd_nil]; simp only; omega
  | c :: t, o, true, ho => by rw [fnd_esc]; exact op_le t o (nf true c t) ho
  | c :: t, o, false, ho => by
    have hle : (opS o c).2 ≤ 33 ∧ ((opS o c).1 = false → (opS o c).2 ≤ 32) := by
      unfold opS
      split
      · simp only [decide_eq_false_iff_not]; omega
      · split
        · split
          · simp
          · simp only; omega
        · simp only; omega
    rcases h : opS o c with ⟨b, q1⟩
    rw [h] at hle
    cases b with
    | true => rw [fnd_hit t h]; exact hle.1
    | false => rw [fnd_miss t h]; exact op_le t q1 (nf false c t) (hle.2 rfl)

/-! ### lines -/
/-- Behind a line's end: is a line of blanks alone there? -/
def blankL (r : List UInt8) : Bool := bare r || gapP r
theorem bare_none : ∀ (a : List UInt8), (∀ c ∈ a, c ≠ 10) → bare a = false
  | [], _ => rfl
  | c :: t, h => by
    show (if bl c = true then bare t else c == 10) = false
    rw [bare_none t (fun d hd => h d (List.mem_cons_of_mem _ hd)), beq_eq_false_iff_ne.2 (h c List.mem_cons_self)]
    split <;> rfl
theorem gap_no : ∀ (a : List UInt8), (∀ c ∈ a, c ≠ 10) → gapP a = false
  | [], _ => rfl
  | c :: t, h => by
    show (c == 10 && bare t || gapP t) = false
    rw [gap_no t (fun d hd => h d (List.mem_cons_of_mem _ hd)), beq_eq_false_iff_ne.2 (h c List.mem_cons_self)]
    rfl
theorem bare_app (r : List UInt8) : ∀ (a : List UInt8), (∀ c ∈ a, c ≠ 10) → bare (a ++ 10 :: r) = a.all bl
  | [], _ => rfl
  | c :: t, h => by
    show (if bl c = true then bare (t ++ 10 :: r) else c == 10) = (bl c && t.all bl)
    rw [bare_app r t (fun d hd => h d (List.mem_cons_of_mem _ hd)), beq_eq_false_iff_ne.2 (h c List.mem_cons_self)]
    cases bl c <;> simp
theorem gap_app (r : List UInt8) : ∀ (a : List UInt8), (∀ c ∈ a, c ≠ 10) → gapP (a ++ 10 :: r) = blankL r
  | [], _ => by
    show ((10 : UInt8) == 10 && bare r || gapP r) = blankL r
    rfl
  | c :: t, h => by
    show (c == 10 && bare (t ++ 10 :: r) || gapP (t ++ 10 :: r)) = blankL r
    rw [gap_app r t (fun d hd => h d (List.mem_cons_of_mem _ hd)), beq_eq_false_iff_ne.2 (h c List.mem_cons_self)]
    rfl
theorem blankL_none {a : List UInt8} (h : ∀ c ∈ a, c ≠ 10) : blankL a = false := by
  unfold blankL
  rw [bare_none a h, gap_no a h]
  rfl
theorem blankL_app {a : List UInt8} (r : List UInt8) (h : ∀ c ∈ a, c ≠ 10) : blankL (a ++ 10 :: r) = (a.all bl || blankL r) := by
  unfold blankL
  rw [bare_app r a h, gap_app r a h]
  rfl
end Lk
end Go.Proofs.YtfabiidohdkkcaaGreatDoor
