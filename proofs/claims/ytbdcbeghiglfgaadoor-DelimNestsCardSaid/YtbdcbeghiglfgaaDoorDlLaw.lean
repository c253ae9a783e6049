/- Plain mathematics of layer 13, the second part: from the inside on; where nothing is to be looked for again. -/
import Derived.Test.YtbdcbeghiglfgaaDoorDlPure
set_option linter.unusedVariables false
set_option linter.unusedSimpArgs false
set_option maxRecDepth 100000
namespace Go.Proofs.YtbdcbeghiglfgaaDoor
namespace Dl

/-! ### from the inside on -/
def deepL (k : Nat) : List Pr := List.replicate (k / 2) (0, 1, 2) ++ (if k % 2 = 1 then [(0, 1, 1)] else [])
theorem deepL_two (k : Nat) : deepL (k + 2) = (0, 1, 2) :: deepL k := by
  unfold deepL
  rw [show (k + 2) / 2 = k / 2 + 1 by omega, show (k + 2) % 2 = k % 2 by omega, List.replicate_succ, List.cons_append]
theorem deepL_len (k : Nat) : (deepL k).length = (k + 1) / 2 := by
  unfold deepL
  rw [List.length_append, List.length_replicate]
  split
  · simp; omega
  · simp; omega
theorem deepL_at {k i : Nat} (h : i < (k + 1) / 2) : (deepL k)[i]? = some (0, 1, if i = k / 2 then 1 else 2) := by
  unfold deepL
  by_cases hi : i < k / 2
  · rw [List.getElem?_append_left (by rw [List.length_replicate]; exact hi), List.getElem?_replicate, if_pos hi, if_neg (by omega)]
  · have hik : i = k / 2 := by omega
    rw [List.getElem?_append_right (by rw [List.length_replicate]; omega), List.length_replicate, if_pos (by omega), if_pos hik, hik, Nat.sub_self]
    rfl
def deepR (a b : Int) : List Rn := [⟨42, a, true, false⟩, ⟨42, b, false, true⟩]
theorem deep_go (a b : Int) : ∀ (m n : Nat) (f : Nat → Nat), f 0 = m → f 1 = n → goF (deepR a b) 1 f = deepL (min m n) := by
  have r0 : rn (deepR a b) 0 = ⟨42, a, true, false⟩ := rfl
  have r1 : rn (deepR a b) 1 = ⟨42, b, false, true⟩ := rfl
  have hl : (deepR a b).length = 2 := rfl
  have hfit : ∀ m n, fit (rn (deepR a b) 0) (rn (deepR a b) 1) m n = (decide (1 ≤ m) && decide (1 ≤ n)) := by
    intro m n
    rw [r0, r1]
    unfold fit three
    simp
  intro m
  induction m using Nat.strongRecOn with
  | _ m ih =>
    intro n f h0 h1
    by_cases hn : n = 0
    · rw [goF_pass (by rw [hl]; omega) (.inr (h1.trans hn)), goF_end (by rw [hl]; decide), hn, Nat.min_zero]; rfl
    · have hc : ¬ ((rn (deepR a b) 1).k = false ∨ f 1 = 0) := by rw [r1, h1]; simp; exact hn
      by_cases hm : m = 0
      · have hlk : look (deepR a b) f 1 1 = none := look_no (fun j hj => by
          obtain rfl : j = 0 := by omega
          rw [hfit, h0, hm]; rfl)
        rw [goF_none (by rw [hl]; omega) hc hlk, goF_end (by rw [hl]; decide), hm, Nat.zero_min]; rfl
      · have hlk : look (deepR a b) f 1 1 = some 0 := look_is 0 (by omega) (by rw [hfit, h0, h1]; simp; omega) (fun j g1 g2 => by omega)
        rw [goF_pair (by rw [hl]; omega) hc hlk]
        have ha : amount (deepR a b) f 0 1 = if 2 ≤ m ∧ 2 ≤ n then 2 else 1 := by
          unfold amount
          rw [r1, if_neg (show ¬ ((42 : UInt8) = 126) by decide), h0, h1]
        obtain ⟨p1, p2, _, _⟩ := paired_at (f := f) (k := 0) (i := 1) (n := amount (deepR a b) f 0 1) (by omega)
        by_cases h2 : 2 ≤ m ∧ 2 ≤ n
        · rw [if_pos h2] at ha
          rw [ha] at p1 p2 ⊢
          rw [ih (m - 2) (by omega) (n - 2) _ (by rw [p2, h0]) (by rw [p1, h1])]
          rw [show min m n = min (m - 2) (n - 2) + 2 by omega, deepL_two]
        · rw [if_neg h2] at ha
          rw [ha] at p1 p2 ⊢
          rw [ih (m - 1) (by omega) (n - 1) _ (by rw [p2, h0]) (by rw [p1, h1])]
          rw [show min m n = 1 by omega, show min (m - 1) (n - 1) = 0 by omega]; rfl
theorem deep {a b : Nat} (ha : 1 ≤ a) (ha2 : a ≤ 1000) (hb : 1 ≤ b) (hb2 : b ≤ 1000) : pairs (deepR a b) = deepL (min a b) := by
  unfold pairs
  have e0 : caps (deepR (a : Int) (b : Int)) 0 = a := by
    show cap ⟨42, (a : Int), true, false⟩ = a
    unfold cap
    rw [if_pos ⟨by simp only; omega, by simp only; omega⟩]; rfl
  have e1 : caps (deepR (a : Int) (b : Int)) 1 = b := by
    show cap ⟨42, (b : Int), false, true⟩ = b
    unfold cap
    rw [if_pos ⟨by simp only; omega, by simp only; omega⟩]; rfl
  rw [goF_pass (by show 0 < 2; omega) (.inl rfl)]
  exact deep_go a b a b _ e0 e1

/-! ### where nothing is to be looked for again -/
/-- Below m nothing fits a run that closes, of this sign, this rest of three, and that may open or not. -/
def Bars (L : List Rn) (f : Nat → Nat) (m : Nat) (c : UInt8) (r : Int) (o : Bool) : Prop :=
  ∀ j, j < m → ∀ b : Rn, b.c = c → b.n % 3 = r → b.o = o → b.k = true → ∀ n, fit (rn L j) b (f j) n = false
theorem Bars.zero (L : List Rn) (f : Nat → Nat) (c : UInt8) (r : Int) (o : Bool) : Bars L f 0 c r o := fun j hj => by omega
theorem three_same {a b b' : Rn} (h1 : b'.n % 3 = b.n % 3) (h2 : b'.o = b.o) (h3 : b'.k = b.k) : three a b' = three a b := by
  unfold three
  have e : (a.n + b'.n) % 3 = (a.n + b.n) % 3 := by omega
  rw [e, h1, h2, h3]
theorem fit_none {a b : Rn} {m n n' : Nat} (hc : b.c ≠ 126) (hn : 1 ≤ n) (h : fit a b m n = false) : fit a b m n' = false := by
  unfold fit at h ⊢
  by_cases h1 : a.c = b.c
  · rw [if_neg (by rw [h1]; exact hc)] at h ⊢
    rw [decide_eq_true hn] at h
    cases h2 : (decide (a.c = b.c) && a.o && decide (1 ≤ m)) with
    | false => rw [Bool.false_and, Bool.false_and]
    | true =>
      rw [h2] at h
      simp only [Bool.true_and] at h ⊢
      rw [h, Bool.and_false]
  · rw [decide_eq_false h1]; rfl
theorem fit_less {a b : Rn} {m m' n : Nat} (hc : b.c ≠ 126) (hm : m' ≤ m) (h : fit a b m n = false) : fit a b m' n = false := by
  unfold fit at h ⊢
  by_cases h1 : a.c = b.c
  · rw [if_neg (by rw [h1]; exact hc)] at h ⊢
    by_cases h2 : 1 ≤ m'
    · rw [decide_eq_true h2]
      rw [decide_eq_true (by omega : 1 ≤ m)] at h
      exact h
    · rw [decide_eq_false h2]; simp
  · rw [decide_eq_false h1]; rfl
theorem fit_as {a b b' : Rn} {m n : Nat} (h0 : b'.c = b.c) (h1 : b'.n % 3 = b.n % 3) (h2 : b'.o = b.o) (h3 : b'.k = b.k) : fit a b' m n = fit a b m n := by
  unfold fit
  rw [h0, three_same h1 h2 h3]
theorem Bars.less {L : List Rn} {f g : Nat → Nat} {m : Nat} {c : UInt8} {r : Int} {o : Bool} (hc : c ≠ 126) (h : Bars L f m c r o) (hg : ∀ j, g j ≤ f j) : Bars L g m c r o :=
  fun j hj b h1 h2 h3 h4 n => fit_less (by rw [h1]; exact hc) (hg j) (h j hj b h1 h2 h3 h4 n)
/-- Where nothing was found, nothing will be. -/
theorem Bars.found {L : List Rn} {f : Nat → Nat} {i : Nat} (hc : (rn L i).c ≠ 126) (hk : (rn L i).k = true) (hf : 1 ≤ f i) (hl : look L f i i = none) : Bars L f i (rn L i).c ((rn L i).n % 3) (rn L i).o :=
  fun j hj b h1 h2 h3 h4 n => by
    have := look_none hl j hj
    have := fit_none (n' := n) hc hf this
    rw [← fit_as h1 h2 h3 (h4.trans hk.symm)] at this
    exact this
/-- The nearest run that fits, not below bottom. -/
def lookB (L : List Rn) (f : Nat → Nat) (i bottom : Nat) : Nat → Option Nat
  | 0 => none
  | k + 1 => if k < bottom then none else if fit (rn L k) (rn L i) (f k) (f i) = true then some k else lookB L f i bottom k
theorem lookB_eq {L : List Rn} {f : Nat → Nat} {i bottom : Nat} (h : ∀ j, j < bottom → fit (rn L j) (rn L i) (f j) (f i) = false) : ∀ m, lookB L f i bottom m = look L f i m
  | 0 => rfl
  | m + 1 => by
    unfold lookB look
    by_cases hb : m < bottom
    · rw [if_pos hb, if_neg (by rw [h m hb]; simp)]
      exact (look_no (fun j hj => h j (by omega))).symm
    · rw [if_neg hb, lookB_eq h m]
theorem lookB_bars {L : List Rn} {f : Nat → Nat} {i bottom : Nat} (hk : (rn L i).k = true) (h : Bars L f bottom (rn L i).c ((rn L i).n % 3) (rn L i).o) : lookB L f i bottom i = look L f i i :=
  lookB_eq (fun j hj => h j hj _ rfl rfl rfl hk _) i
end Dl
end Go.Proofs.YtbdcbeghiglfgaaDoor
