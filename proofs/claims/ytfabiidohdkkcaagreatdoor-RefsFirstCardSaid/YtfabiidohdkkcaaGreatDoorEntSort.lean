/- Plain mathematics of layer 4, the second part: a sorted table looked up by halves. -/
import Derived.Test.YtfabiidohdkkcaaGreatDoorEntPure
set_option linter.unusedVariables false
set_option linter.unusedSimpArgs false
set_option maxRecDepth 100000
namespace Go.Proofs.YtfabiidohdkkcaaGreatDoor
namespace En
abbrev cb := Lib.compareBytes

theorem cb_anti : ∀ (a b : List UInt8), cb b a = - cb a b
  | [], [] => rfl
  | [], _ :: _ => rfl
  | _ :: _, [] => rfl
  | x :: a, y :: b => by
    have ih := cb_anti a b
    show Lib.compareBytes (y :: b) (x :: a) = - Lib.compareBytes (x :: a) (y :: b)
    unfold Lib.compareBytes
    by_cases h1 : x < y
    · have h2 : ¬ y < x := fun h => absurd (UInt8.lt_trans h1 h) (UInt8.lt_irrefl _)
      simp [h1, h2]
    · by_cases h2 : y < x
      · simp [h1, h2]
      · simp [h1, h2]; exact ih
theorem cb_eq : ∀ {a b : List UInt8}, cb a b = 0 → a = b
  | [], [], _ => rfl
  | [], _ :: _, h => by simp [cb, Lib.compareBytes] at h
  | _ :: _, [], h => by simp [cb, Lib.compareBytes] at h
  | x :: a, y :: b, h => by
    unfold cb Lib.compareBytes at h
    by_cases h1 : x < y
    · simp [h1] at h
    · by_cases h2 : y < x
      · simp [h1, h2] at h
      · rw [if_neg h1, if_neg h2] at h
        have hxy : x = y := UInt8.le_antisymm (UInt8.not_lt.1 h2) (UInt8.not_lt.1 h1)
        rw [hxy, cb_eq h]
theorem cb_self : ∀ (a : List UInt8), cb a a = 0
  | [] => rfl
  | x :: a => by
    have := cb_self a
    show Lib.compareBytes (x :: a) (x :: a) = 0
    unfold Lib.compareBytes
    rw [if_neg (UInt8.lt_irrefl x), if_neg (UInt8.lt_irrefl x)]
    exact this
theorem cb_trans : ∀ {a b c : List UInt8}, cb a b < 0 → cb b c < 0 → cb a c < 0
  | [], [], _, h, _ => by simp [cb, Lib.compareBytes] at h
  | _ :: _, [], _, h, _ => by simp [cb, Lib.compareBytes] at h
  | _, _ :: _, [], _, h => by simp [cb, Lib.compareBytes] at h
  | [], _ :: _, _ :: _, _, _ => by simp [cb, Lib.compareBytes]
  | x :: a, y :: b, z :: c, h1, h2 => by
    unfold cb Lib.compareBytes at *
    by_cases xy : x < y
    · by_cases yz : y < z
      · rw [if_pos (UInt8.lt_trans xy yz)]; decide
      · rw [if_neg yz] at h2
        by_cases zy : z < y
        · rw [if_pos zy] at h2; exact absurd h2 (by decide)
        · have e : y = z := UInt8.le_antisymm (UInt8.not_lt.1 zy) (UInt8.not_lt.1 yz)
          rw [← e, if_pos xy]; decide
    · rw [if_neg xy] at h1
      by_cases yx : y < x
      · rw [if_pos yx] at h1; exact absurd h1 (by decide)
      · have e : x = y := UInt8.le_antisymm (UInt8.not_lt.1 yx) (UInt8.not_lt.1 xy)
        subst e
        rw [if_neg (UInt8.lt_irrefl _)] at h1
        by_cases yz : x < z
        · rw [if_pos yz]; decide
        · rw [if_neg yz] at h2 ⊢
          by_cases zy : z < x
          · rw [if_pos zy] at h2; exact absurd h2 (by decide)
          · rw [if_neg zy] at h2 ⊢
            exact cb_trans h1 h2
theorem cb_lt_of_lt_le {a b c : List UInt8} (h1 : cb a b < 0) (h2 : 0 ≤ cb c b) : cb a c < 0 := by
  have h3 := cb_anti c b
  by_cases h0 : cb c b = 0
  · rw [cb_eq h0]; exact h1
  · exact cb_trans h1 (by rw [h3]; omega)

theorem rows_pair : rowsT.Pairwise (fun a b => cb a.1 b.1 < 0) := by decide +kernel
/-- A row of the table. -/
def rw (k : Nat) : List UInt8 × Int := rowsT.getD k ([], 0)
theorem rw_some {k : Nat} (h : k < 183) : rowsT[k]? = some (rw k) := by
  have : k < rowsT.length := by rw [rows_len]; exact h
  rw [List.getElem?_eq_getElem this]
  unfold En.rw
  rw [List.getD, List.getElem?_eq_getElem this]
  rfl
theorem rw_mem {k : Nat} (h : k < 183) : rw k ∈ rowsT := List.mem_of_getElem? (rw_some h)
theorem rw_lt {a b : Nat} (h : a < b) (hb : b < 183) : cb (rw a).1 (rw b).1 < 0 := by
  have := List.pairwise_iff_getElem.1 rows_pair a b (by rw [rows_len]; omega) (by rw [rows_len]; omega) h
  have e1 := rw_some (show a < 183 by omega)
  have e2 := rw_some hb
  rw [List.getElem?_eq_getElem (by rw [rows_len]; omega)] at e1 e2
  rw [Option.some.inj e1, Option.some.inj e2] at this
  exact this

/-- What the search by halves keeps. -/
def BS (l : List UInt8) (i j : Nat) : Prop := (∀ k, k < i → k < 183 → cb (rw k).1 l < 0) ∧ (∀ k, j ≤ k → k < 183 → 0 ≤ cb (rw k).1 l)
theorem bs_start (l : List UInt8) : BS l 0 183 := ⟨fun k h _ => by omega, fun k h h2 => by omega⟩
theorem bs_low {l : List UInt8} {i j h : Nat} (hB : BS l i j) (hh : h < 183) (hc : cb (rw h).1 l < 0) : BS l (h + 1) j := by
  refine ⟨fun k hk hk2 => ?_, hB.2⟩
  by_cases e : k = h
  · rw [e]; exact hc
  · exact cb_trans (rw_lt (show k < h by omega) hh) hc
theorem bs_high {l : List UInt8} {i j h : Nat} (hB : BS l i j) (hh : h < 183) (hc : ¬ cb (rw h).1 l < 0) : BS l i h := by
  refine ⟨hB.1, fun k hk hk2 => ?_⟩
  by_cases e : k = h
  · rw [e]; omega
  · refine Int.not_lt.1 fun hn => hc ?_
    exact cb_trans (rw_lt (show h < k by omega) hk2) hn
theorem bs_found {l : List UInt8} {i : Nat} (hB : BS l i i) (hi : i < 183) (hc : cb (rw i).1 l = 0) : namedF rowsT l = some (rw i).2 := by
  have hlen : i < rowsT.length := by rw [rows_len]; exact hi
  have e : rowsT = rowsT.take i ++ rw i :: rowsT.drop (i + 1) := by
    conv => lhs; rw [← List.take_append_drop i rowsT]
    rw [List.drop_eq_getElem_cons hlen]
    have := rw_some hi
    rw [List.getElem?_eq_getElem hlen] at this
    rw [Option.some.inj this]
  have hn : ∀ e ∈ rowsT.take i, e.1 ≠ l := by
    intro e he hel
    obtain ⟨k, hk, hke⟩ := List.mem_iff_getElem.1 he
    have hki : k < i := by rw [List.length_take] at hk; omega
    rw [List.getElem_take] at hke
    have h1 := rw_some (show k < 183 by omega)
    rw [List.getElem?_eq_getElem (by rw [rows_len]; omega), Option.some.injEq, hke] at h1
    have h2 := hB.1 k hki (by omega)
    rw [← h1, hel, cb_self] at h2
    omega
  rw [e, namedF_app hn]
  generalize rw i = p at hc ⊢
  obtain ⟨n, c⟩ := p
  unfold namedF
  rw [if_pos (cb_eq hc)]
theorem bs_none {l : List UInt8} {i : Nat} (hB : BS l i i) (hc : i < 183 → cb (rw i).1 l ≠ 0) : namedF rowsT l = none := by
  refine namedF_no fun e he hel => ?_
  obtain ⟨k, hk, hke⟩ := List.mem_iff_getElem.1 he
  have hk2 : k < 183 := by rw [rows_len] at hk; exact hk
  have h1 := rw_some hk2
  rw [List.getElem?_eq_getElem hk, Option.some.injEq, hke] at h1
  have h3 : cb (rw k).1 l = 0 := by rw [← h1, hel, cb_self]
  by_cases hki : k < i
  · have := hB.1 k hki hk2
    omega
  · by_cases e : k = i
    · subst e; exact hc hk2 h3
    · have h4 := rw_lt (show i < k by omega) hk2
      have h5 := hB.2 i (Nat.le_refl i) (by omega)
      rw [cb_eq h3] at h4
      omega
end En
end Go.Proofs.YtfabiidohdkkcaaGreatDoor
