/- ScanHeads: the law's walk. -/
import Derived.Test.YtnpaagglnfocpaaGreatDoorScX
namespace Go.Proofs.YtnpaagglnfocpaaGreatDoor
open Go Go.RowKit
namespace ScanHeads
open Sc
set_option maxRecDepth 100000
set_option linter.unusedVariables false
set_option linter.unusedSimpArgs false

theorem lows_of {s : ByteArray} (he : s ≠ ⟨#[]⟩) (h : ∀ c ∈ s.data.toList.take s.size, 97 ≤ c.toNat ∧ c.toNat ≤ 122) : Lows s.data.toList := by
  refine ⟨fun c hc => h c (by rwa [List.take_of_length_le (by rw [sz]; exact Nat.le_refl _)]), fun e => he ?_⟩
  have := ba_eq (S := s) e
  rw [this]
theorem low_step {s : ByteArray} {m : Nat} {x : UInt8} {t : List UInt8} (hd : s.data.toList.drop m = x :: t) (hx : 97 ≤ x.toNat ∧ x.toNat ≤ 122) (h : ∀ c ∈ s.data.toList.take m, 97 ≤ c.toNat ∧ c.toNat ≤ 122) : ∀ c ∈ s.data.toList.take (m + 1), 97 ≤ c.toNat ∧ c.toNat ≤ 122 := by
  intro c hc
  rw [List.take_add, hd, List.mem_append] at hc
  rcases hc with hc | hc
  · exact h c hc
  · simp only [List.take_succ_cons, List.take_zero, List.mem_singleton] at hc
    rw [hc]; exact hx

set_option maxHeartbeats 8000000 in
theorem law_any (n : Int) (s : ByteArray) (w : World) (hL : LaidS w) (hs : s.size ≤ maxLen) :
    Calls Tryz.prog 9 #[.int .i64 n, .string s] w fun e w' => e = .returned (.bool true) ∧ Below w.heap.size w w' := by
  unfold maxLen at hs
  have HA := Lib.hid (frm_awake hL)
  have hb0 := Below.refl w.heap.size w
  by_cases he : s = ⟨#[]⟩
  · subst he
    clear hL
    go_enter Tryz.func9, Tryz.ntmps9
    go_wp2_with fail
    refine (HA.out _ hb0).mono ?_
    rintro e w1 ⟨rfl, hb1⟩
    go_wp2
    go_ret
    exact ⟨rfl, hb1⟩
  have HE := Lib.hid he
  have hpos : 0 < s.size := Nat.pos_of_ne_zero fun h0 => he (by
    have := ba_eq (S := s) (l := []) (List.eq_nil_of_length_eq_zero (by rw [sz]; exact h0))
    rw [this])
  have hbe : s.toList.isEmpty = false := emp_false hpos
  clear hpos
  by_cases hbig : 300 < s.size
  · have hb' : (300 : Int) < (s.size : Int) := by omega
    clear hL
    go_enter Tryz.func9, Tryz.ntmps9
    go_wp2_with fail
    refine (HA.out _ hb0).mono ?_
    rintro e w1 ⟨rfl, hb1⟩
    go_wp2
    go_ret
    exact ⟨rfl, hb1⟩
  have hb' : (s.size : Int) ≤ 300 := by omega
  obtain ⟨z, hz⟩ : ∃ z, msk n 65535 = z := ⟨_, rfl⟩
  obtain ⟨j, hj⟩ : ∃ j, z % 6 = j := ⟨_, rfl⟩
  obtain ⟨k, hk⟩ : ∃ k, 1 + j = k := ⟨_, rfl⟩
  have hbits := bits_and n 65535 (by decide)
  rw [hz, show ((65535 : Nat) : Int) = 65535 from rfl] at hbits
  have hmod : (z : Int).tmod 6 = (j : Int) := by rw [Int.tmod_eq_emod_of_nonneg (by omega)]; omega
  have hk0 : 1 ≤ k := by omega
  have hk6 : k ≤ 6 := by omega
  have hkz : (1 : Int) + (j : Int) = (k : Int) := by omega
  have hj6 : (j : Int) ≤ 5 := by omega
  obtain ⟨M, hM⟩ : ∃ M : ByteArray, (⟨#[35, 35, 35, 35, 35, 35]⟩ : ByteArray).extract 0 k = M := ⟨_, rfl⟩
  obtain ⟨T, hT⟩ : ∃ T : ByteArray, (⟨#[126, 126, 126, 126, 126, 126]⟩ : ByteArray).extract 0 k = T := ⟨_, rfl⟩
  obtain ⟨X0, hX0⟩ : ∃ X0 : ByteArray, M ++ (⟨#[32]⟩ : ByteArray) = X0 := ⟨_, rfl⟩
  obtain ⟨X, hX⟩ : ∃ X : ByteArray, X0 ++ s = X := ⟨_, rfl⟩
  obtain ⟨Y0, hY0⟩ : ∃ Y0 : ByteArray, M ++ (⟨#[32, 9]⟩ : ByteArray) = Y0 := ⟨_, rfl⟩
  obtain ⟨Y1, hY1⟩ : ∃ Y1 : ByteArray, Y0 ++ s = Y1 := ⟨_, rfl⟩
  obtain ⟨Y, hY⟩ : ∃ Y : ByteArray, Y1 ++ (⟨#[32, 35, 35, 32]⟩ : ByteArray) = Y := ⟨_, rfl⟩
  obtain ⟨Z, hZ⟩ : ∃ Z : ByteArray, T ++ s = Z := ⟨_, rfl⟩
  have dM : M.data.toList = List.replicate k 35 := by rw [← hM]; exact six 35 hk6
  have dT : T.data.toList = List.replicate k 126 := by rw [← hT]; exact six 126 hk6
  have dX : X.data.toList = List.replicate k 35 ++ 32 :: s.data.toList := by rw [← hX, app_data, ← hX0, app_data, dM, List.append_assoc]; rfl
  have dY : Y.data.toList = List.replicate k 35 ++ 32 :: 9 :: (s.data.toList ++ [32, 35, 35, 32]) := by
    rw [← hY, app_data, ← hY1, app_data, ← hY0, app_data, dM, List.append_assoc, List.append_assoc]; rfl
  have dZ : Z.data.toList = List.replicate k 126 ++ s.data.toList := by rw [← hZ, app_data, dT]
  have sX : X.size ≤ 100000 := by
    have e := congrArg List.length dX
    simp only [List.length_append, List.length_replicate, List.length_cons, List.length_nil, sz] at e; omega
  have sY : Y.size ≤ 100000 := by
    have e := congrArg List.length dY
    simp only [List.length_append, List.length_replicate, List.length_cons, List.length_nil, sz] at e; omega
  have sZ : Z.size ≤ 100000 := by
    have e := congrArg List.length dZ
    simp only [List.length_append, List.length_replicate, List.length_cons, List.length_nil, sz] at e; omega
  have sT : T.size ≤ 100000 := by
    have e := congrArg List.length dT
    simp only [List.length_replicate, sz] at e; omega
  have app_size : ∀ a b : ByteArray, (a ++ b).size = a.size + b.size := fun a b => by rw [← sz, app_data, List.length_append, sz, sz]
  have sM : M.size ≤ 6 := by
    have e := congrArg List.length dM
    simp only [List.length_replicate, sz] at e; omega
  have sT6 : T.size ≤ 6 := by
    have e := congrArg List.length dT
    simp only [List.length_replicate, sz] at e; omega
  have sX0 : X0.size ≤ 10 := by rw [← hX0, app_size]; show M.size + 1 ≤ 10; omega
  have sY0 : Y0.size ≤ 10 := by rw [← hY0, app_size]; show M.size + 2 ≤ 10; omega
  have sY1 : Y1.size ≤ 400 := by rw [← hY1, app_size]; omega
  clear app_size
  have HF1 : Hid (Lows s.data.toList → Frm w 11 #[.string X] (.tuple #[.int .i64 (k : Int), .string s])) := Lib.hid fun h => frm_atx hL sX (by rw [dX]; exact atx_low h hk0 hk6)
  have HF2 : Hid (Lows s.data.toList → Frm w 11 #[.string Y] (.tuple #[.int .i64 (k : Int), .string s])) := Lib.hid fun h => frm_atx hL sY (by rw [dY]; exact atx_low2 h hk0 hk6)
  have HF3 : Hid (Lows s.data.toList → 3 ≤ k → Frm w 13 #[.string Z] (.tuple #[.int .u8 126, .int .i64 (k : Int), .string s])) := Lib.hid fun h h3 => frm_fence (c := 126) hL sZ (by rw [dZ, fence_low h hk0, if_pos h3])
  have HF4 : Hid (Lows s.data.toList → ¬ 3 ≤ k → Frm w 13 #[.string Z] (.tuple #[.int .u8 0, .int .i64 0, .string ⟨#[]⟩])) := Lib.hid fun h h3 => frm_fence (c := 0) (a := 0) hL sZ (by rw [dZ, fence_low h hk0, if_neg h3])
  have HC1 : Hid (Frm w 21 #[.string T, .int .u8 126, .int .i64 (k : Int)] (.bool true)) := Lib.hid (frm_closes (c := 126) hL sT (by rw [dT, closes_rep hk0]; exact decide_eq_true (by omega)))
  have HC2 : Hid (Frm w 21 #[.string T, .int .u8 126, .int .i64 ((k : Int) + 1)] (.bool false)) := Lib.hid (frm_closes (c := 126) hL sT (by rw [dT, closes_rep hk0]; exact decide_eq_false (by omega)))
  have hk0' : (1 : Int) ≤ (k : Int) := by omega
  have hk6' : (k : Int) ≤ 6 := by omega
  clear hL hs he dM dT dX dY dZ sX sY sZ sT hz hj hk hbig
  go_enter Tryz.func9, Tryz.ntmps9
  go_wp2_with fail
  refine (HA.out _ hb0).mono ?_
  rintro e w1 ⟨rfl, hb1⟩
  go_wp2_with fail
  go_loopg [6] s.size (fun G v6 wr => ∃ m : Nat, m + G = s.size ∧ v6 = .int .i64 (m : Int) ∧ w1 = wr ∧ Hid (∀ c ∈ s.data.toList.take m, 97 ≤ c.toNat ∧ c.toNat ≤ 122))
  case atStart => exact ⟨0, by omega, rfl, rfl, Lib.hid (fun c hc => by simp at hc)⟩
  case round =>
    obtain ⟨m, hm, rfl, rfl, HR⟩ := hrel
    by_cases hlt : m < s.size
    · obtain ⟨x, t, hd, hck, ht⟩ := cons_at hlt
      have hlt' : (m : Int) < (s.size : Int) := by omega
      by_cases hx1 : x.toNat < 97
      · have hx1' : (x.toNat : Int) < 97 := by omega
        clear hd ht hx1 HF1 HF2 HF3 HF4 HC1 HC2
        go_wp2
        go_ret
        exact ⟨rfl, hb1⟩
      · have hx1' : ¬ (x.toNat : Int) < 97 := by omega
        by_cases hx2 : 122 < x.toNat
        · have hx2' : (122 : Int) < (x.toNat : Int) := by omega
          clear hd ht hx1 hx2 HF1 HF2 HF3 HF4 HC1 HC2
          go_wp2
          go_ret
          exact ⟨rfl, hb1⟩
        · have hx2' : ¬ (122 : Int) < (x.toNat : Int) := by omega
          have HY : Hid (∀ c ∈ s.data.toList.take (m + 1), 97 ≤ c.toNat ∧ c.toNat ≤ 122) := Lib.hid (low_step hd (by omega) HR.out)
          clear hd ht hx1 hx2 HF1 HF2 HF3 HF4 HC1 HC2
          go_wp2
          go_roundg (gk - 1)
          case rel => exact ⟨m + 1, by omega, by go_num, rfl, HY⟩
          case measure => omega
    · have hlt' : ¬ (m : Int) < (s.size : Int) := by omega
      have hLo : Lows s.data.toList := lows_of HE.out (by rw [show s.size = m by omega]; exact HR.out)
      have F1 := Lib.hid (HF1.out hLo)
      have F2 := Lib.hid (HF2.out hLo)
      by_cases h3 : 3 ≤ k
      · have F3 := Lib.hid (HF3.out hLo h3)
        have h3' : (3 : Int) ≤ (k : Int) := by omega
        clear HF1 HF2 HF3 HF4 hLo
        go_wp2_with fail
        refine (F1.out _ hb1).mono ?_
        rintro e w2 ⟨rfl, hb2⟩
        go_wp2_with fail
        refine (F2.out _ hb2).mono ?_
        rintro e w3 ⟨rfl, hb3⟩
        go_wp2_with fail
        refine (F3.out _ hb3).mono ?_
        rintro e w4 ⟨rfl, hb4⟩
        go_wp2_with fail
        refine (HC1.out _ hb4).mono ?_
        rintro e w5 ⟨rfl, hb5⟩
        go_wp2_with fail
        refine (HC2.out _ hb5).mono ?_
        rintro e w6 ⟨rfl, hb6⟩
        go_wp2
        go_ret
        exact ⟨rfl, hb6⟩
      · have F3 := Lib.hid (HF4.out hLo h3)
        have h3' : ¬ (3 : Int) ≤ (k : Int) := by omega
        have HD : Hid (decide ((3 : Int) ≤ (k : Int)) = false) := Lib.hid (decide_eq_false h3')
        have h0k : ((0 : Int) == (k : Int)) = false := by rw [beq_eq_false_iff_ne]; omega
        clear HF1 HF2 HF3 HF4 hLo
        go_wp2_with fail
        refine (F1.out _ hb1).mono ?_
        rintro e w2 ⟨rfl, hb2⟩
        go_wp2_with fail
        refine (F2.out _ hb2).mono ?_
        rintro e w3 ⟨rfl, hb3⟩
        go_wp2_with fail
        refine (F3.out _ hb3).mono ?_
        rintro e w4 ⟨rfl, hb4⟩
        go_wp2_with fail
        refine (HC1.out _ hb4).mono ?_
        rintro e w5 ⟨rfl, hb5⟩
        go_wp2_with fail
        refine (HC2.out _ hb5).mono ?_
        rintro e w6 ⟨rfl, hb6⟩
        go_wp2
        go_ret
        exact ⟨ret_bool' (by rw [HD.out]; rfl), hb6⟩
end ScanHeads
end Go.Proofs.YtnpaagglnfocpaaGreatDoor
