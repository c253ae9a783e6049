/- Walks of layer 13: the reference's fits. -/
import Derived.Test.YtbdcbeghiglfgaaDoorDlR
namespace Go.Proofs.YtbdcbeghiglfgaaDoor
open Go Go.RowKit
namespace Dl
set_option maxRecDepth 100000
set_option linter.unusedVariables false
set_option linter.unusedSimpArgs false

theorem two_boxes (w : World) (a b : Rn) (t : TypeId) : AtG runE ((w.alloc (.cells (runE a).toArray t)).alloc (.cells (runE b).toArray t)) w.heap.size 0 a ∧ AtG runE ((w.alloc (.cells (runE a).toArray t)).alloc (.cells (runE b).toArray t)) (w.heap.size + 1) 0 b := by
  constructor
  · intro j u hu
    have h1 : (w.alloc (.cells (runE a).toArray t)).cell? ⟨w.heap.size, 0 + j, none⟩ = some u := by
      rw [World.cell?_alloc_new, Nat.zero_add]; simpa using hu
    exact keep_cell ((Below.refl _ _).alloc (Nat.le_refl _) _) h1
  · intro j u hu
    have := World.cell?_alloc_new (w.alloc (.cells (runE a).toArray t)) (runE b).toArray t j
    rw [World.size_alloc] at this
    rw [Nat.zero_add, this]; simpa using hu
theorem two_below (w : World) (o1 o2 : Obj) : Below w.heap.size w ((w.alloc o1).alloc o2) := ((Below.refl _ w).alloc (Nat.le_refl _) _).alloc (by simp) _
/-- The remainder of what is not negative. -/
theorem tmod3 {x : Int} (h : 0 ≤ x) : (Int.tmod x 3 == 0) = decide (x % 3 = 0) ∧ (Int.tmod x 3 != 0) = decide (x % 3 ≠ 0) := by
  rw [Int.tmod_eq_emod_of_nonneg h]
  constructor
  · rw [Bool.eq_iff_iff, beq_iff_eq, decide_eq_true_iff]
  · rw [Bool.eq_iff_iff, bne_iff_ne, decide_eq_true_iff]

set_option maxHeartbeats 8000000 in
theorem rfits_any (a b : Rn) (m n : Nat) (w : World) (ha : 1 ≤ m → 1 ≤ a.n ∧ a.n ≤ 1073741824) (hb : 1 ≤ n → 1 ≤ b.n ∧ b.n ≤ 1073741824) :
    Calls Tryd.prog 25 #[.agg (runE a).toArray, .agg (runE b).toArray, .int .i64 (m : Int), .int .i64 (n : Int)] w fun e w' => e = .returned (.bool (fit a b m n)) ∧ Below w.heap.size w w' := by
  obtain ⟨hA, hB⟩ := two_boxes w a b 55
  obtain ⟨a0, a1, a2, a3⟩ := run_cells hA
  obtain ⟨b0, b1, b2, b3⟩ := run_cells hB
  simp only [Nat.zero_add] at a0 a1 a2 a3 b0 b1 b2 b3
  have HB0 := Lib.hid (two_below w (.cells (runE a).toArray 55) (.cells (runE b).toArray 55))
  have ecc := u8_same a.c b.c
  have e126 : ((a.c.toNat : Int) == 126) = (a.c == 126) := eq_u8 a.c 126 (by decide)
  obtain ⟨V, hV⟩ : ∃ V, fit a b m n = V := ⟨_, rfl⟩
  rw [hV]
  have HV : Hid (V = (decide (a.c = b.c) && a.o && decide (1 ≤ m) && decide (1 ≤ n) && (if a.c = 126 then decide (m = n) else !three a b))) := Lib.hid hV.symm
  have HT : Hid (three a b = (((a.o && a.k) || (b.o && b.k)) && decide ((a.n + b.n) % 3 = 0) && (decide (a.n % 3 ≠ 0) || decide (b.n % 3 ≠ 0)))) := Lib.hid rfl
  clear hA hB hV
  unfold runE at *
  obtain ⟨ac, an, ao, ak⟩ := a
  obtain ⟨bc, bn, bo, bk⟩ := b
  simp only at *
  generalize hW : (w.alloc (.cells [Value.int .u8 (ac.toNat : Int), .int .i64 an, .bool ao, .bool ak].toArray 55)).alloc (.cells [Value.int .u8 (bc.toNat : Int), .int .i64 bn, .bool bo, .bool bk].toArray 55) = W at *
  go_enter Tryd.func25, Tryd.ntmps25
  go_upto_region 1 with fail
  clear hW
  by_cases hc : ac = bc
  case neg =>
    have hcb : ((ac.toNat : Int) != (bc.toNat : Int)) = true := by unfold bne; rw [ecc, beq_eq_false_iff_ne.2 hc]; rfl
    have HV2 : Hid (V = false) := Lib.hid (by rw [HV.out, decide_eq_false hc]; rfl)
    clear ecc e126 HV HT
    go_wp2
    go_ret
    exact ⟨retB HV2.out.symm, HB0.out⟩
  have hcb : ((ac.toNat : Int) != (bc.toNat : Int)) = false := by unfold bne; rw [ecc, hc]; simp
  have HC := Lib.hid hc
  clear hc
  cases ao with
  | false =>
    have HV2 : Hid (V = false) := Lib.hid (by rw [HV.out]; simp)
    clear ecc e126 HV HT
    go_wp2
    go_ret
    exact ⟨retB HV2.out.symm, HB0.out⟩
  | true =>
  by_cases hm : 1 ≤ m
  case neg =>
    have hm' : (m : Int) < 1 := by omega
    have HV2 : Hid (V = false) := Lib.hid (by rw [HV.out, decide_eq_false hm]; simp)
    clear ecc e126 HV HT
    go_wp2
    go_ret
    exact ⟨retB HV2.out.symm, HB0.out⟩
  have hm' : ¬ (m : Int) < 1 := by omega
  by_cases hn : 1 ≤ n
  case neg =>
    have hn' : (n : Int) < 1 := by omega
    have HV2 : Hid (V = false) := Lib.hid (by rw [HV.out, decide_eq_false hn]; simp)
    clear ecc e126 HV HT
    go_wp2
    go_ret
    exact ⟨retB HV2.out.symm, HB0.out⟩
  have hn' : ¬ (n : Int) < 1 := by omega
  have ha2 := ha hm
  have hb2 := hb hn
  clear ecc ha hb
  by_cases h126 : ac = 126
  · have e1 : ((ac.toNat : Int) == 126) = true := by rw [e126, h126]; rfl
    have HV2 : Hid (V = decide (m = n)) := Lib.hid (by rw [HV.out, decide_eq_true HC.out, decide_eq_true hm, decide_eq_true hn, if_pos h126]; rfl)
    clear e126 HV HT h126
    by_cases hmn : m = n
    · have HV3 : Hid (V = true) := Lib.hid (by rw [HV2.out, decide_eq_true hmn])
      subst hmn
      go_wp2
      go_ret
      exact ⟨retB HV3.out.symm, HB0.out⟩
    · have HV3 : Hid (V = false) := Lib.hid (by rw [HV2.out, decide_eq_false hmn])
      have e2 : ((m : Int) == (n : Int)) = false := by simp; omega
      have e3 : ¬ (m : Int) = (n : Int) := by omega
      go_wp2
      go_ret
      exact ⟨retB HV3.out.symm, HB0.out⟩
  · have e1 : ((ac.toNat : Int) == 126) = false := by rw [e126, beq_eq_false_iff_ne.2 h126]
    have x1 := (tmod3 (x := an + bn) (by omega)).1
    have x2 := (tmod3 (x := an) (by omega)).2
    have x3 := (tmod3 (x := bn) (by omega)).2
    have v1 : ((an + bn) % 3 == 0) = decide ((an + bn) % 3 = 0) := by rw [Bool.eq_iff_iff, beq_iff_eq, decide_eq_true_iff]
    have v2 : (an % 3 != 0) = decide (an % 3 ≠ 0) := by rw [Bool.eq_iff_iff, bne_iff_ne, decide_eq_true_iff]
    have v3 : (bn % 3 != 0) = decide (bn % 3 ≠ 0) := by rw [Bool.eq_iff_iff, bne_iff_ne, decide_eq_true_iff]
    have l1 : an + bn ≤ 2147483648 := by omega
    have l2 : 2 ≤ an + bn := by omega
    have HV2 : Hid (V = !(((true && ak) || (bo && bk)) && decide ((an + bn) % 3 = 0) && (decide (an % 3 ≠ 0) || decide (bn % 3 ≠ 0)))) := Lib.hid (by rw [HV.out, decide_eq_true HC.out, decide_eq_true hm, decide_eq_true hn, if_neg h126, HT.out]; rfl)
    clear e126 HV HT hm hn h126
    generalize decide ((an + bn) % 3 = 0) = y1 at *
    generalize decide (an % 3 ≠ 0) = y2 at *
    generalize decide (bn % 3 ≠ 0) = y3 at *
    go_upto_region 5 with fail
    go_cut [9] (fun v9 wx => v9 = .bool ((true && ak) || (bo && bk)) ∧ W = wx)
    case first =>
      cases ak <;> cases bo <;> cases bk <;>
      · go_wp2
        go_meet
        exact ⟨rfl, rfl⟩
    obtain ⟨rfl, rfl⟩ := hcut
    generalize ((true && ak) || (bo && bk)) = z at *
    cases z <;> cases y1 <;> cases y2 <;> cases y3 <;>
    · go_wp2
      go_ret
      exact ⟨retB (by rw [HV2.out]; rfl), HB0.out⟩
end Dl
end Go.Proofs.YtbdcbeghiglfgaaDoor
