/- Walks of layer 8, the tenth part: Closes, Setext, Bullet, Rule. -/
import Derived.Test.YtnpaagglnfocpaaGreatDoorScI
namespace Go.Proofs.YtnpaagglnfocpaaGreatDoor
open Go Go.RowKit
namespace Sc
set_option maxRecDepth 100000
set_option linter.unusedVariables false
set_option linter.unusedSimpArgs false

theorem rtrim_at (X : ByteArray) (hs : X.size ≤ 1000000) : ∃ T : ByteArray, (∀ w, Calls Tryz.prog 38 #[.string X] w fun e w' => e = .returned (.string T) ∧ w = w') ∧ T.toList.isEmpty = X.data.toList.all blk ∧ T.data.toList = trimB X.data.toList := by
  refine ⟨⟨(trimB X.data.toList).toArray⟩, fun w => rtrim_any X w hs, by rw [mk_empty, trim_empty], by simp⟩
theorem ext_size (s : ByteArray) (k : Nat) : (s.extract k s.size).size = s.size - k := by simp

theorem closes_any (s : ByteArray) (c : UInt8) (n : Int) (w : World) (hs : s.size ≤ 1000000) :
    Calls Tryz.prog 21 #[.string s, .int .u8 (c.toNat : Int), .int .i64 n] w fun e w' => e = .returned (.bool (closesP s.data.toList c n)) ∧ Below w.heap.size w w' := by
  obtain ⟨K, hK⟩ : ∃ K, runN c s.data.toList = K := ⟨_, rfl⟩
  have hks : K ≤ s.size := by rw [← hK, ← sz]; exact runN_le _ _
  have HR := Lib.hid (run_any s c w hs)
  rw [hK] at HR
  have hks' : (K : Int) ≤ (s.size : Int) := by omega
  have HO := Lib.hid (only_any (s.extract K s.size) w (by rw [ext_size]; omega))
  rw [ext_rest] at HO
  have HV : Hid (closesP s.data.toList c n = (decide (max n 1 ≤ (K : Int)) && (s.data.toList.drop K).all blk)) := Lib.hid (by unfold closesP; rw [hK])
  clear hK
  generalize (s.data.toList.drop K).all blk = b at *
  by_cases hm : max n 1 ≤ (K : Int)
  · have HD := Lib.hid (decide_eq_true hm)
    go_enter Tryz.func21, Tryz.ntmps21
    go_wp2_with (first | (go_at_call 31; refine HR.out.mono ?_; rintro e w1 ⟨rfl, rfl⟩) | (go_at_call 45; refine HO.out.mono ?_; rintro e w1 ⟨rfl, hb⟩))
    go_ret
    exact ⟨ret_bool' (by rw [HV.out, HD.out, Bool.true_and]), hb⟩
  · have hm2 : (K : Int) < max n 1 := by omega
    have HD := Lib.hid (decide_eq_false hm)
    go_enter Tryz.func21, Tryz.ntmps21
    go_wp2_with (first | (go_at_call 31; refine HR.out.mono ?_; rintro e w1 ⟨rfl, rfl⟩) | (go_at_call 45; refine HO.out.mono ?_; rintro e w1 ⟨rfl, hb⟩))
    go_ret
    exact ⟨ret_bool' (by rw [HV.out, HD.out, Bool.false_and]), Below.refl _ _⟩

theorem rcloses_any (s : ByteArray) (c : UInt8) (n : Int) (w : World) (hs : s.size ≤ 1000000) :
    Calls Tryz.prog 22 #[.string s, .int .u8 (c.toNat : Int), .int .i64 n] w fun e w' => e = .returned (.bool (closesP s.data.toList c n)) ∧ w = w' := by
  obtain ⟨K, hK⟩ : ∃ K, runN c s.data.toList = K := ⟨_, rfl⟩
  have hks : K ≤ s.size := by rw [← hK, ← sz]; exact runN_le _ _
  have HR := Lib.hid (rrun_any s c w hs)
  rw [hK] at HR
  have hks' : (K : Int) ≤ (s.size : Int) := by omega
  obtain ⟨T, hT, hTe, _⟩ := rtrim_at (s.extract K s.size) (by rw [ext_size]; omega)
  rw [ext_rest] at hTe
  have HO := Lib.hid hT
  have HV : Hid (closesP s.data.toList c n = (decide (max n 1 ≤ (K : Int)) && T.toList.isEmpty)) := Lib.hid (by unfold closesP; rw [hK, hTe])
  clear hK hTe hT
  by_cases h1 : (1 : Int) ≤ (K : Int)
  · by_cases hm : n ≤ (K : Int)
    · have HD : Hid (decide (max n 1 ≤ (K : Int)) = true) := Lib.hid (decide_eq_true (by omega))
      go_enter Tryz.func22, Tryz.ntmps22
      go_wp2_with (first | (go_at_call 36; refine HR.out.mono ?_; rintro e w1 ⟨rfl, rfl⟩) | (go_at_call 38; refine (HO.out _).mono ?_; rintro e w1 ⟨rfl, rfl⟩))
      go_ret
      exact ⟨ret_bool' (by rw [HV.out, HD.out, Bool.true_and]), rfl⟩
    · have HD : Hid (decide (max n 1 ≤ (K : Int)) = false) := Lib.hid (decide_eq_false (by omega))
      go_enter Tryz.func22, Tryz.ntmps22
      go_wp2_with (first | (go_at_call 36; refine HR.out.mono ?_; rintro e w1 ⟨rfl, rfl⟩) | (go_at_call 38; refine (HO.out _).mono ?_; rintro e w1 ⟨rfl, rfl⟩))
      go_ret
      exact ⟨ret_bool' (by rw [HV.out, HD.out, Bool.false_and]), rfl⟩
  · have HD : Hid (decide (max n 1 ≤ (K : Int)) = false) := Lib.hid (decide_eq_false (by omega))
    go_enter Tryz.func22, Tryz.ntmps22
    go_wp2_with (first | (go_at_call 36; refine HR.out.mono ?_; rintro e w1 ⟨rfl, rfl⟩) | (go_at_call 38; refine (HO.out _).mono ?_; rintro e w1 ⟨rfl, rfl⟩))
    go_ret
    exact ⟨ret_bool' (by rw [HV.out, HD.out, Bool.false_and]), rfl⟩

theorem setext_any (s : ByteArray) (w : World) (hs : s.size ≤ 1000000) :
    Calls Tryz.prog 19 #[.string s] w fun e w' => e = .returned (.int .i64 (setP s.data.toList : Nat)) ∧ Below w.heap.size w w' := by
  have H1 := Lib.hid (fun w => closes_any s 61 1 w hs)
  have H2 := Lib.hid (fun w => closes_any s 45 1 w hs)
  rw [show (((61 : UInt8).toNat : Nat) : Int) = 61 from rfl] at H1
  rw [show (((45 : UInt8).toNat : Nat) : Int) = 45 from rfl] at H2
  have HV : Hid (setP s.data.toList = if closesP s.data.toList 61 1 = true then 1 else if closesP s.data.toList 45 1 = true then 2 else 0) := Lib.hid rfl
  generalize closesP s.data.toList 61 1 = a at *
  generalize closesP s.data.toList 45 1 = b at *
  cases a with
  | true =>
    go_enter Tryz.func19, Tryz.ntmps19
    go_wp2_with fail
    refine (H1.out _).mono ?_
    rintro e w1 ⟨rfl, hb⟩
    go_wp2
    go_ret
    rw [HV.out]
    exact ⟨rfl, hb⟩
  | false =>
  cases b with
  | true =>
    go_enter Tryz.func19, Tryz.ntmps19
    go_wp2_with fail
    refine (H1.out _).mono ?_
    rintro e w1 ⟨rfl, hb⟩
    go_wp2_with fail
    refine (H2.out _).mono ?_
    rintro e w2 ⟨rfl, hb2⟩
    go_wp2
    go_ret
    rw [HV.out]
    exact ⟨rfl, hb.trans (hb2.mono hb.size)⟩
  | false =>
    go_enter Tryz.func19, Tryz.ntmps19
    go_wp2_with fail
    refine (H1.out _).mono ?_
    rintro e w1 ⟨rfl, hb⟩
    go_wp2_with fail
    refine (H2.out _).mono ?_
    rintro e w2 ⟨rfl, hb2⟩
    go_wp2
    go_ret
    rw [HV.out]
    exact ⟨rfl, hb.trans (hb2.mono hb.size)⟩

theorem closes_one (l : List UInt8) (c : UInt8) (K : Nat) (h : runN c l = K) : closesP l c 1 = (decide (0 < (K : Int)) && (l.drop K).all blk) := by
  unfold closesP
  rw [h]
  rw [decide_eq_decide.2 (show max 1 1 ≤ (K : Int) ↔ 0 < (K : Int) by omega)]
def eqs : ByteArray := ⟨#[61, 45]⟩

set_option maxHeartbeats 2000000 in
theorem rsetext_any (s : ByteArray) (w : World) (hs : s.size ≤ 1000000) :
    Calls Tryz.prog 20 #[.string s] w fun e w' => e = .returned (.int .i64 (setP s.data.toList : Nat)) ∧ w = w' := by
  obtain ⟨K1, hK1⟩ : ∃ K, runN 61 s.data.toList = K := ⟨_, rfl⟩
  obtain ⟨K2, hK2⟩ : ∃ K, runN 45 s.data.toList = K := ⟨_, rfl⟩
  have hk1 : K1 ≤ s.size := by rw [← hK1, ← sz]; exact runN_le _ _
  have hk2 : K2 ≤ s.size := by rw [← hK2, ← sz]; exact runN_le _ _
  have HR1 := Lib.hid (rrun_any s 61 w hs)
  have HR2 := Lib.hid (rrun_any s 45 w hs)
  rw [hK1, show (((61 : UInt8).toNat : Nat) : Int) = 61 from rfl] at HR1
  rw [hK2, show (((45 : UInt8).toNat : Nat) : Int) = 45 from rfl] at HR2
  have hk1' : (K1 : Int) ≤ (s.size : Int) := by omega
  have hk2' : (K2 : Int) ≤ (s.size : Int) := by omega
  obtain ⟨T1, hT1, hTe1, _⟩ := rtrim_at (s.extract K1 s.size) (by rw [ext_size]; omega)
  obtain ⟨T2, hT2, hTe2, _⟩ := rtrim_at (s.extract K2 s.size) (by rw [ext_size]; omega)
  rw [ext_rest] at hTe1 hTe2
  have HT1 := Lib.hid (hT1 w)
  have HT2 := Lib.hid (hT2 w)
  have HV : Hid (setP s.data.toList = if (decide (0 < (K1 : Int)) && T1.toList.isEmpty) = true then 1 else if (decide (0 < (K2 : Int)) && T2.toList.isEmpty) = true then 2 else 0) := Lib.hid (by
    unfold setP
    rw [closes_one _ _ _ hK1, closes_one _ _ _ hK2, hTe1, hTe2])
  clear hK1 hK2 hTe1 hTe2 hT1 hT2
  have X0 : (⟨#[61, 45]⟩ : ByteArray)[0]'(by decide) = 61 := rfl
  have X1 : (⟨#[61, 45]⟩ : ByteArray)[1]'(by decide) = 45 := rfl
  -- two rounds
  have AL : Hid ((0 < (K1 : Int) ∧ T1.toList.isEmpty = true) ∨ (0 < (K1 : Int) ∧ T1.toList.isEmpty = false) ∨ ¬ 0 < (K1 : Int)) := Lib.hid (by
    by_cases h : 0 < (K1 : Int)
    · cases hT : T1.toList.isEmpty
      · exact .inr (.inl ⟨h, rfl⟩)
      · exact .inl ⟨h, rfl⟩
    · exact .inr (.inr h))
  have AL2 : Hid ((0 < (K2 : Int) ∧ T2.toList.isEmpty = true) ∨ (0 < (K2 : Int) ∧ T2.toList.isEmpty = false) ∨ ¬ 0 < (K2 : Int)) := Lib.hid (by
    by_cases h : 0 < (K2 : Int)
    · cases hT : T2.toList.isEmpty
      · exact .inr (.inl ⟨h, rfl⟩)
      · exact .inl ⟨h, rfl⟩
    · exact .inr (.inr h))
  go_enter Tryz.func20, Tryz.ntmps20
  go_wp2_with fail
  go_loopg [3] 3 (fun G v3 wr => w = wr ∧ ((G = 3 ∧ v3 = .int .i64 1) ∨ (G = 2 ∧ v3 = .int .i64 2 ∧ Hid (¬ (0 < (K1 : Int) ∧ T1.toList.isEmpty = true))) ∨ (G = 1 ∧ v3 = .int .i64 3 ∧ Hid (¬ (0 < (K1 : Int) ∧ T1.toList.isEmpty = true)) ∧ Hid (¬ (0 < (K2 : Int) ∧ T2.toList.isEmpty = true)))))
  case atStart => exact ⟨rfl, .inl ⟨rfl, rfl⟩⟩
  case round =>
    obtain ⟨rfl, ⟨rfl, rfl⟩ | ⟨rfl, rfl, HN1⟩ | ⟨rfl, rfl, HN1, HN2⟩⟩ := hrel
    · rcases AL.out with ⟨a1, a2⟩ | ⟨a1, a2⟩ | a1
      · have HV1 : Hid (setP s.data.toList = 1) := Lib.hid (by rw [HV.out, decide_eq_true a1, a2]; rfl)
        go_wp2_with (first | (go_at_call 36; refine HR1.out.mono ?_; rintro e w1 ⟨rfl, rfl⟩) | (go_at_call 38; refine HT1.out.mono ?_; rintro e w1 ⟨rfl, rfl⟩))
        go_ret
        rw [HV1.out]
        exact ⟨rfl, rfl⟩
      · have HA2 := Lib.hid a2
        go_wp2_with (first | (go_at_call 36; refine HR1.out.mono ?_; rintro e w1 ⟨rfl, rfl⟩) | (go_at_call 38; refine HT1.out.mono ?_; rintro e w1 ⟨rfl, rfl⟩))
        go_roundg 2
        case rel => exact ⟨rfl, .inr (.inl ⟨rfl, rfl, Lib.hid (fun h => by have := HA2.out; rw [this] at h; cases h.2)⟩)⟩
        case measure => omega
      · have HA1 := Lib.hid a1
        go_wp2_with (first | (go_at_call 36; refine HR1.out.mono ?_; rintro e w1 ⟨rfl, rfl⟩) | (go_at_call 38; refine HT1.out.mono ?_; rintro e w1 ⟨rfl, rfl⟩))
        go_roundg 2
        case rel => exact ⟨rfl, .inr (.inl ⟨rfl, rfl, Lib.hid (fun h => absurd h.1 (by have := HA1.out; omega))⟩)⟩
        case measure => omega
    · have HV0 : Hid (setP s.data.toList = if (decide (0 < (K2 : Int)) && T2.toList.isEmpty) = true then 2 else 0) := Lib.hid (by
        rw [HV.out, if_neg]
        intro h
        rw [Bool.and_eq_true, decide_eq_true_iff] at h
        exact HN1.out h)
      rcases AL2.out with ⟨a1, a2⟩ | ⟨a1, a2⟩ | a1
      · have HV1 : Hid (setP s.data.toList = 2) := Lib.hid (by rw [HV0.out, decide_eq_true a1, a2]; rfl)
        go_wp2_with (first | (go_at_call 36; refine HR2.out.mono ?_; rintro e w1 ⟨rfl, rfl⟩) | (go_at_call 38; refine HT2.out.mono ?_; rintro e w1 ⟨rfl, rfl⟩))
        go_ret
        rw [HV1.out]
        exact ⟨rfl, rfl⟩
      · have HA2 := Lib.hid a2
        go_wp2_with (first | (go_at_call 36; refine HR2.out.mono ?_; rintro e w1 ⟨rfl, rfl⟩) | (go_at_call 38; refine HT2.out.mono ?_; rintro e w1 ⟨rfl, rfl⟩))
        go_roundg 1
        case rel => exact ⟨rfl, .inr (.inr ⟨rfl, rfl, HN1, Lib.hid (fun h => by have := HA2.out; rw [this] at h; cases h.2)⟩)⟩
        case measure => omega
      · have HA1 := Lib.hid a1
        go_wp2_with (first | (go_at_call 36; refine HR2.out.mono ?_; rintro e w1 ⟨rfl, rfl⟩) | (go_at_call 38; refine HT2.out.mono ?_; rintro e w1 ⟨rfl, rfl⟩))
        go_roundg 1
        case rel => exact ⟨rfl, .inr (.inr ⟨rfl, rfl, HN1, Lib.hid (fun h => absurd h.1 (by have := HA1.out; omega))⟩)⟩
        case measure => omega
    · have HV1 : Hid (setP s.data.toList = 0) := Lib.hid (by
        rw [HV.out, if_neg, if_neg]
        · intro h
          rw [Bool.and_eq_true, decide_eq_true_iff] at h
          exact HN2.out h
        · intro h
          rw [Bool.and_eq_true, decide_eq_true_iff] at h
          exact HN1.out h)
      go_wp2
      go_ret
      rw [HV1.out]
      exact ⟨rfl, rfl⟩
end Sc
end Go.Proofs.YtnpaagglnfocpaaGreatDoor
