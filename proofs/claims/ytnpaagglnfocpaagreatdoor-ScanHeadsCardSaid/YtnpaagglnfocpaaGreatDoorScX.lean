/- Plain mathematics of layer 8, the fifth part: headings and fences of letters; n & m. -/
import Derived.Test.YtnpaagglnfocpaaGreatDoorScW
import Derived.Laws.BitsAllLaws
import Derived.Laws.BitsLemmas
namespace Go.Proofs.YtnpaagglnfocpaaGreatDoor
open Go Go.RowKit
namespace Sc
set_option maxRecDepth 100000
set_option linter.unusedVariables false
set_option linter.unusedSimpArgs false

theorem ofInt_i64 (a : Nat) (ha : a < 9223372036854775808) : (BitVec.ofInt 64 (a : Int)).toNat = a := by
  rw [BitVec.ofInt_natCast, BitVec.toNat_ofNat]; exact Nat.mod_eq_of_lt (by omega)
/-- n & m, for a small m. -/
def msk (n : Int) (m : Nat) : Nat := ((BitVec.ofInt 64 n) &&& (BitVec.ofInt 64 (m : Int))).toNat
theorem msk_le (n : Int) (m : Nat) (hm : m < 9223372036854775808) : msk n m ≤ m := by
  unfold msk
  rw [BitVec.toNat_and, ofInt_i64 m hm]; exact Nat.and_le_right
theorem bits_and (n : Int) (m : Nat) (hm : m < 9223372036854775808) : bits .and .i64 n (m : Int) = (msk n m : Nat) := by
  have h := msk_le n m hm
  show IntKind.i64.wrap (((BitVec.ofInt 64 n) &&& (BitVec.ofInt 64 (m : Int))).toNat : Int) = _
  rw [IntKind.wrap_i64]
  unfold msk at *
  omega

/-- Letters, one at least. -/
structure Lows (L : List UInt8) : Prop where
  low : ∀ c ∈ L, 97 ≤ c.toNat ∧ c.toNat ≤ 122
  ne : L ≠ []
theorem low_ne {c d : UInt8} (h : 97 ≤ c.toNat ∧ c.toNat ≤ 122) (hd : d.toNat < 97 ∨ 122 < d.toNat) : c ≠ d := by rintro rfl; omega
theorem low_blk {c : UInt8} (h : 97 ≤ c.toNat ∧ c.toNat ≤ 122) : blk c = false := by
  unfold blk
  rw [beq_eq_false_iff_ne.2 (low_ne h (by decide)), beq_eq_false_iff_ne.2 (low_ne h (by decide))]
  rfl
theorem Lows.head {L : List UInt8} (h : Lows L) : ∃ x t, L = x :: t ∧ blk x = false ∧ x ≠ 126 ∧ x ≠ 35 := by
  cases L with
  | nil => exact absurd rfl h.ne
  | cons x t =>
    have hx := h.low x List.mem_cons_self
    exact ⟨x, t, rfl, low_blk hx, low_ne hx (by decide), low_ne hx (by decide)⟩
theorem Lows.last {L : List UInt8} (h : Lows L) : ∃ t c, L = t ++ [c] ∧ blk c = false ∧ c ≠ 35 := by
  have hx := h.low _ (List.getLast_mem h.ne)
  exact ⟨L.dropLast, L.getLast h.ne, (List.dropLast_concat_getLast h.ne).symm, low_blk hx, low_ne hx (by decide)⟩
theorem runN_rep (c : UInt8) (k : Nat) (t : List UInt8) (h : runN c t = 0) : runN c (List.replicate k c ++ t) = k := by
  induction k with
  | zero => simpa using h
  | succ k ih => rw [List.replicate_succ, List.cons_append, runN_hit, ih]
theorem drop_rep (c : UInt8) (k : Nat) (t : List UInt8) : (List.replicate k c ++ t).drop k = t := List.drop_left' (by simp)
theorem trimL_blk {c : UInt8} (t : List UInt8) (h : blk c = true) : trimL (c :: t) = trimL t := by simp [trimL, List.dropWhile, h]
theorem trimL_non {c : UInt8} (t : List UInt8) (h : blk c = false) : trimL (c :: t) = c :: t := by simp [trimL, List.dropWhile, h]
theorem Lows.trimL {L : List UInt8} (h : Lows L) (t : List UInt8) : Sc.trimL (L ++ t) = L ++ t := by
  obtain ⟨x, u, rfl, hx, _⟩ := h.head
  exact trimL_non _ hx
theorem Lows.trimR {L : List UInt8} (h : Lows L) : Sc.trimR L = L := by
  obtain ⟨t, c, rfl, hc, _⟩ := h.last
  rw [trimR_snoc, hc]; rfl
theorem Lows.woP {L : List UInt8} (h : Lows L) : Sc.woP L = L := by
  obtain ⟨t, c, rfl, hc, h35⟩ := h.last
  unfold Sc.woP
  rw [ahead_snoc, if_neg h35, getLast_snoc]
  simp only [hc]
  rfl
theorem blk32 : blk 32 = true := rfl
theorem blk9 : blk 9 = true := rfl
theorem blk35 : blk 35 = false := rfl
theorem atx_low {L : List UInt8} (h : Lows L) {k : Nat} (h1 : 1 ≤ k) (h6 : k ≤ 6) : atxP (List.replicate k 35 ++ 32 :: L) = (k, L) := by
  have hr : runN 35 (List.replicate k 35 ++ 32 :: L) = k := runN_rep _ _ _ (runN_miss _ (by decide))
  have e := h.trimL []
  rw [List.append_nil] at e
  unfold atxP
  rw [hr, drop_rep, if_pos ⟨h1, h6, blk32⟩, ← trim_comm, trimL_blk _ blk32, e, h.trimR, h.woP]
theorem atx_low2 {L : List UInt8} (h : Lows L) {k : Nat} (h1 : 1 ≤ k) (h6 : k ≤ 6) : atxP (List.replicate k 35 ++ 32 :: 9 :: (L ++ [32, 35, 35, 32])) = (k, L) := by
  have hr : runN 35 (List.replicate k 35 ++ 32 :: 9 :: (L ++ [32, 35, 35, 32])) = k := runN_rep _ _ _ (runN_miss _ (by decide))
  have e1 : trimB (32 :: 9 :: (L ++ [32, 35, 35, 32])) = L ++ [32] ++ [35] ++ [35] := by
    rw [← trim_comm, trimL_blk _ blk32, trimL_blk _ blk9, h.trimL, show L ++ [32, 35, 35, 32] = L ++ [32] ++ [35] ++ [35] ++ [32] by simp, trimR_snoc, if_pos blk32, trimR_snoc, blk35]
    rfl
  have e2 : woP (L ++ [32] ++ [35] ++ [35]) = L := by
    unfold woP
    rw [ahead_snoc, if_pos rfl, ahead_snoc, if_pos rfl, ahead_snoc, if_neg (by decide), getLast_snoc]
    simp only [blk32, if_true]
    rw [trimR_snoc, if_pos blk32, h.trimR]
  unfold atxP
  rw [hr, drop_rep, if_pos ⟨h1, h6, blk32⟩, e1, e2]
theorem fence_low {L : List UInt8} (h : Lows L) {k : Nat} (h1 : 1 ≤ k) : fenceP (List.replicate k 126 ++ L) = if 3 ≤ k then (126, k, L) else (0, 0, []) := by
  have hr : runN 126 (List.replicate k 126 ++ L) = k := runN_rep _ _ _ (by
    obtain ⟨x, t, rfl, _, hx, _⟩ := h.head
    exact runN_miss _ hx)
  have hd := drop_rep 126 k L
  have e := h.trimL []
  rw [List.append_nil] at e
  obtain ⟨j, rfl⟩ : ∃ j, k = j + 1 := ⟨k - 1, by omega⟩
  rw [List.replicate_succ, List.cons_append] at hr hd ⊢
  rw [fen_cons, hr, hd, ← trim_comm, e, h.trimR]
  by_cases h3 : 3 ≤ j + 1
  · rw [if_pos ⟨.inr rfl, h3, fun x => absurd x.1 (by decide)⟩, if_pos h3]
  · rw [if_neg (fun x => h3 x.2.1), if_neg h3]
theorem closes_rep {k : Nat} (h1 : 1 ≤ k) (n : Int) : closesP (List.replicate k 126) 126 n = decide (max n 1 ≤ (k : Int)) := by
  have hr : runN 126 (List.replicate k 126) = k := by
    have := runN_rep 126 k [] rfl
    rwa [List.append_nil] at this
  unfold closesP
  rw [hr, List.drop_eq_nil_of_le (by simp)]
  simp
theorem six (c : UInt8) {k : Nat} (h : k ≤ 6) : ((⟨#[c, c, c, c, c, c]⟩ : ByteArray).extract 0 k).data.toList = List.replicate k c := by
  rw [ext_to]
  have : k = 0 ∨ k = 1 ∨ k = 2 ∨ k = 3 ∨ k = 4 ∨ k = 5 ∨ k = 6 := by omega
  rcases this with rfl | rfl | rfl | rfl | rfl | rfl | rfl <;> rfl
end Sc
end Go.Proofs.YtnpaagglnfocpaaGreatDoor
