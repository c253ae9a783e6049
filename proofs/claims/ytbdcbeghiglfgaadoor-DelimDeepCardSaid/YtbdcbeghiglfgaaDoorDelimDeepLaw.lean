/- DelimDeep: the law's walk. -/
import Derived.Test.YtbdcbeghiglfgaaDoorDlAw
namespace Go.Proofs.YtbdcbeghiglfgaaDoor
open Go Go.RowKit
namespace DelimDeep
open Dl
set_option maxRecDepth 100000
set_option linter.unusedVariables false
set_option linter.unusedSimpArgs false

theorem and63 (n : Int) : ∃ x : Nat, x ≤ 63 ∧ bits .and .i64 n 63 = (x : Int) := by
  have h63 : (BitVec.ofInt 64 (63 : Int)).toNat = 63 := by decide +kernel
  have h : ((BitVec.ofInt 64 n) &&& (BitVec.ofInt 64 (63 : Int))).toNat ≤ 63 := by
    rw [BitVec.toNat_and, h63]; exact Nat.and_le_right
  refine ⟨_, h, ?_⟩
  show IntKind.i64.wrap (((BitVec.ofInt 64 n) &&& (BitVec.ofInt 64 (63 : Int))).toNat : Int) = _
  rw [IntKind.wrap_i64]
  omega

set_option maxHeartbeats 8000000 in
theorem law_any (n m : Int) (w : World) (hP : Prog13 w) :
    Calls Tryd.prog 7 #[.int .i64 n, .int .i64 m] w fun e w' => e = .returned (.bool true) ∧ Below w.heap.size w w' := by
  have HA := Lib.hid (awake_any w hP)
  obtain ⟨x, hx63, hx⟩ := and63 n
  obtain ⟨y, hy63, hy⟩ := and63 m
  obtain ⟨K, hK⟩ : ∃ K, min (1 + x) (1 + y) = K := ⟨_, rfl⟩
  have P1 : pairs (deepR (1 + (x : Int)) (1 + (y : Int))) = deepL K := by
    have := deep (a := 1 + x) (b := 1 + y) (by omega) (by omega) (by omega) (by omega)
    rw [hK] at this
    rw [← this]
    congr 1
  have hmin : (if y < x then 1 + (y : Int) else 1 + (x : Int)) = (K : Int) := by split <;> omega
  have hK1 : 1 ≤ K := by omega
  have hK2 : K ≤ 64 := by omega
  have HM1 : Hid (∀ v W, Below w.heap.size w W → Runs W v (deepR (1 + (x : Int)) (1 + (y : Int))) → Calls Tryd.prog 15 #[v] W fun e w' => ∃ b off cap, e = .returned (.slice (some ⟨b, off, none⟩) ((K + 1) / 2) cap) ∧ (∀ i, i < (K + 1) / 2 → AtG pairE w' b (off + i * 3) (0, 1, if i = K / 2 then 1 else 2)) ∧ Below W.heap.size W w') := Lib.hid (fun v W hW hR =>
    (hP.mtch _ v W hW hR (by show 2 ≤ 100; decide) (by intro r hr; simp [deepR] at hr; rcases hr with rfl | rfl <;> exact ok_small (by simp only; omega) (by simp only; omega)) (by rw [P1, deepL_len]; omega)).mono (by
      rintro e w' ⟨u, rfl, hu, hb⟩
      rw [P1] at hu
      obtain ⟨a, cap, rfl, _, hc⟩ := hu
      rcases hc with hc | ⟨b, off, rfl, hc⟩
      · have := deepL_len K
        rw [hc] at this; simp at this; omega
      · exact ⟨b, off, cap, by rw [deepL_len], fun i hi => hc i _ (deepL_at hi), hb⟩))
  have HL1 : Hid (∀ (W : World) (t : TypeId), Runs (W.alloc (.cells #[.int .u8 42, .int .i64 (1 + (x : Int)), .bool true, .bool false, .int .u8 42, .int .i64 (1 + (y : Int)), .bool false, .bool true] t)) (.slice (some ⟨W.heap.size, 0, none⟩) 2 2) (deepR (1 + (x : Int)) (1 + (y : Int)))) := Lib.hid (fun W t => RowsG.lit runE_len W t (deepR (1 + (x : Int)) (1 + (y : Int))) (by show 2 ≤ maxLen; decide))
  have hq1 : Int.tdiv ((K : Int) + 1) 2 = (((K + 1) / 2 : Nat) : Int) := by rw [Int.tdiv_eq_ediv_of_nonneg (by omega)]; omega
  have hq3 : ((K : Int) + 1) / 2 = (((K + 1) / 2 : Nat) : Int) := by omega
  have hq4 : (K : Int) / 2 = ((K / 2 : Nat) : Int) := by omega
  have hq2 : Int.tdiv (K : Int) 2 = ((K / 2 : Nat) : Int) := by rw [Int.tdiv_eq_ediv_of_nonneg (by omega)]; omega
  obtain ⟨M, hM⟩ : ∃ M, (K + 1) / 2 = M := ⟨_, rfl⟩
  obtain ⟨H, hH⟩ : ∃ H, K / 2 = H := ⟨_, rfl⟩
  have hb0 := Below.refl w.heap.size w
  have hM2 : M ≤ 32 := by omega
  rw [hM] at hq1 hq3 HM1
  rw [hH] at hq2 hq4 HM1
  clear hP P1 hK
  go_enter Tryd.func7, Tryd.ntmps7
  go_wp2_with fail
  refine HA.out.mono ?_
  rintro e w1 ⟨rfl, hb1⟩
  go_wp2_with fail
  have hb1' := hb1.alloc hb1.size (.cells #[.int .u8 42, .int .i64 (1 + (x : Int)), .bool true, .bool false, .int .u8 42, .int .i64 (1 + (y : Int)), .bool false, .bool true] 28)
  refine (HM1.out _ _ hb1' (HL1.out _ _)).mono ?_
  rintro e w2 ⟨b, off, cap, rfl, hat, hb2⟩
  have hb2' := below_later hb1' hb2
  have HAt := Lib.hid hat
  clear hat hb2 hb1'
  have e1 : ((M : Int) != (M : Int)) = false := by simp
  go_wp2_with fail
  go_loopg [10] M (fun G s10 wr => ∃ i : Nat, i + G = M ∧ s10 = .int .i64 (i : Int) ∧ wr = w2)
  case atStart => exact ⟨0, by omega, rfl, rfl⟩
  case round =>
    obtain ⟨i, hig, rfl, rfl⟩ := hrel
    cases gk with
    | zero =>
      have hlt : ¬ (i : Int) < (M : Int) := by omega
      go_wp2
      go_ret
      exact ⟨rfl, hb2'⟩
    | succ G =>
      have hlt : (i : Int) < (M : Int) := by omega
      have hii : (0 : Int) ≤ (i : Int) := by omega
      obtain ⟨c0, c1, c2⟩ := pair_cells (HAt.out i (by omega))
      have e2 := nat_beq i H
      by_cases hiH : i = H
      · rw [if_pos hiH] at c2
        clear e2
        subst hiH
        go_wp2
        go_roundg G
        case rel => exact ⟨i + 1, by omega, by go_num, rfl⟩
        case measure => omega
      · rw [decide_eq_false hiH] at e2
        rw [if_neg hiH] at c2
        go_wp2
        go_roundg G
        case rel => exact ⟨i + 1, by omega, by go_num, rfl⟩
        case measure => omega
end DelimDeep
end Go.Proofs.YtbdcbeghiglfgaaDoor
