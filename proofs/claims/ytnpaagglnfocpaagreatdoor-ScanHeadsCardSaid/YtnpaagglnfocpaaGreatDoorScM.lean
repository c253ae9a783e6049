/- Walks of layer 8, the thirteenth part: headings, fences. -/
import Derived.Test.YtnpaagglnfocpaaGreatDoorScL
import Derived.Deep.RegionHeld3
import Derived.Deep.DrawnRows
namespace Go.Proofs.YtnpaagglnfocpaaGreatDoor
open Go Go.RowKit
namespace Sc
set_option maxRecDepth 100000
set_option linter.unusedVariables false
set_option linter.unusedSimpArgs false

theorem below_drewN' {B : Nat} {a w : World} (h : Below B a w) (n : Nat) : Below B a (w.drewN n) := h.trans ⟨rfl, rfl, rfl, Nat.le_refl _, fun _ _ => rfl⟩
theorem last_get {S : ByteArray} {M : Nat} {c : UInt8} {t : List UInt8} (hd : S.data.toList = t ++ [c]) : S.data.toList.getLast? = some c := by rw [hd]; simp

theorem trimh_any (s : ByteArray) (w : World) (hs : s.size ≤ 1000000) :
    Calls Tryz.prog 66 #[.string s, .string ⟨#[35]⟩] w fun e w' => e = .returned (.string ⟨(ahead s.data.toList).toArray⟩) ∧ w = w' := by
  have := Tryz.strings_TrimRight_one s 35 (by decide) w (by omega)
  exact this.mono fun _ _ ⟨a, b⟩ => ⟨a, b.symm⟩
theorem ahead_len (l : List UInt8) : (ahead l).length ≤ l.length := by
  obtain ⟨k, hk⟩ := ahead_cut l
  have := congrArg List.length hk
  rw [List.length_append] at this
  omega

set_option maxHeartbeats 1000000 in
theorem wo_any (s : ByteArray) (w : World) (hs : s.size ≤ 1000000) :
    Calls Tryz.prog 34 #[.string s] w fun e w' => e = .returned (.string ⟨(woP s.data.toList).toArray⟩) ∧ Below w.heap.size w w' := by
  obtain ⟨A, hA⟩ := ba_mk (ahead s.data.toList)
  have HT := Lib.hid (fun w => trimh_any s w hs)
  rw [hA, ba_self] at HT
  have hAs : A.size ≤ 1000000 := by
    have := ahead_len s.data.toList
    rw [hA, sz, sz] at this
    omega
  have HR := Lib.hid (fun w => trimr_any A w hAs)
  by_cases h0 : 0 < A.size
  · obtain ⟨M, c, t, hM, hd, ⟨hlt9, hck⟩, ht, hsz⟩ := last_of h0
    have he := emp_false h0
    have h0' : (0 : Int) < (A.size : Int) := by omega
    have hM2 : (A.size : Int) - 1 = (M : Int) := by omega
    have hM3 : (M : Int) < (A.size : Int) := by omega
    have HB := Lib.hid (does_blank.2 c)
    have HV : Hid (woP s.data.toList = if blk c = true then trimR A.data.toList else s.data.toList) := Lib.hid (by
      unfold woP
      rw [hA, hd]
      simp)
    have HM := Lib.hid hM
    clear hd ht hsz hA hM
    cases hb : blk c with
    | true =>
      have HV2 : Hid (woP s.data.toList = trimR A.data.toList) := Lib.hid (HV.out.trans (if_pos hb))
      rw [hb] at HB
      clear hb HV
      go_enter Tryz.func34, Tryz.ntmps34
      go_wp2_with fail
      refine (HT.out _).mono ?_
      rintro e w1 ⟨rfl, rfl⟩
      go_wp2_with fail
      refine (HB.out _).mono ?_
      rintro e w1 ⟨rfl, rfl⟩
      go_wp2_with fail
      refine (HR.out _).mono ?_
      rintro e w1 ⟨rfl, hb1⟩
      go_wp2
      go_ret
      rw [HV2.out]
      exact ⟨rfl, hb1⟩
    | false =>
      have HV2 : Hid (woP s.data.toList = s.data.toList) := Lib.hid (HV.out.trans (if_neg (by rw [hb]; simp)))
      rw [hb] at HB
      clear hb HV
      go_enter Tryz.func34, Tryz.ntmps34
      go_wp2_with fail
      refine (HT.out _).mono ?_
      rintro e w1 ⟨rfl, rfl⟩
      go_wp2_with fail
      refine (HB.out _).mono ?_
      rintro e w1 ⟨rfl, rfl⟩
      go_wp2
      go_ret
      rw [HV2.out]
      exact ⟨ret_str (ba_self s).symm, Below.refl _ _⟩
  · have hn := nil_of h0
    have he := emp_true hn
    have HV : Hid (woP s.data.toList = trimR A.data.toList) := Lib.hid (by unfold woP; rw [hA, hn]; rfl)
    clear hn hA
    go_enter Tryz.func34, Tryz.ntmps34
    go_wp2_with fail
    refine (HT.out _).mono ?_
    rintro e w1 ⟨rfl, rfl⟩
    go_wp2_with fail
    refine (HR.out _).mono ?_
    rintro e w1 ⟨rfl, hb1⟩
    go_wp2
    go_ret
    rw [HV.out]
    exact ⟨rfl, hb1⟩

/-- What a heading's reading answers. -/
def atxV (p : Nat × List UInt8) : Value := .tuple #[.int .i64 (p.1 : Int), .string ⟨p.2.toArray⟩]
theorem woP_len (l : List UInt8) : (woP l).length ≤ l.length := by
  unfold woP
  split
  · simp
  · split
    · exact Nat.le_trans (trimR_len _) (ahead_len _)
    · exact Nat.le_refl _

set_option maxHeartbeats 1000000 in
theorem atx_any (s : ByteArray) (w : World) (hs : s.size ≤ 1000000) :
    Calls Tryz.prog 11 #[.string s] w fun e w' => e = .returned (atxV (atxP s.data.toList)) ∧ Below w.heap.size w w' := by
  obtain ⟨K, hK⟩ : ∃ K, runN 35 s.data.toList = K := ⟨_, rfl⟩
  have hks : K ≤ s.size := by rw [← hK, ← sz]; exact runN_le _ _
  have HR := Lib.hid (fun w => run_any s 35 w hs)
  rw [hK, show (((35 : UInt8).toNat : Nat) : Int) = 35 from rfl] at HR
  have hks' : (K : Int) ≤ (s.size : Int) := by omega
  have HV0 : Hid (atxP s.data.toList = if 1 ≤ K ∧ K ≤ 6 ∧ atE (s.data.toList.drop K) = true then (K, woP (trimB (s.data.toList.drop K))) else (0, [])) := Lib.hid (by unfold atxP; rw [hK])
  have HA := Lib.hid (fun w => atEnd_any (s.extract K s.size) w)
  rw [ext_rest] at HA
  have hes : (s.extract K s.size).size ≤ 1000000 := by rw [ext_size]; omega
  have HT := Lib.hid (fun w => trim_any (s.extract K s.size) w hes)
  rw [ext_rest] at HT
  obtain ⟨T, hT⟩ := ba_mk (trimB (s.data.toList.drop K))
  rw [hT, ba_self] at HT
  have hTs : T.size ≤ 1000000 := by
    have := trimB_len (s.data.toList.drop K)
    rw [hT, sz, List.length_drop, sz] at this
    omega
  have HW := Lib.hid (fun w => wo_any T w hTs)
  obtain ⟨U, hU⟩ := ba_mk (woP T.data.toList)
  rw [hU, ba_self] at HW
  have hUs : U.size ≤ 281474976710656 := by
    have := woP_len T.data.toList
    rw [hU, sz, sz] at this
    omega
  have HC := Lib.hid (fun w => clone_any U w hUs)
  have HU : Hid (woP (trimB (s.data.toList.drop K)) = U.data.toList) := Lib.hid (by rw [hT, hU])
  clear hK hT hU
  by_cases h1 : 1 ≤ K
  · have h1' : (1 : Int) ≤ (K : Int) := by omega
    by_cases h6 : K ≤ 6
    · have h6' : (K : Int) ≤ 6 := by omega
      generalize hat : atE (s.data.toList.drop K) = at1 at *
      cases at1 with
      | true =>
        have HV : Hid (atxP s.data.toList = (K, U.data.toList)) := Lib.hid (by rw [HV0.out, if_pos ⟨h1, h6, rfl⟩, HU.out])
        clear hat
        go_enter Tryz.func11, Tryz.ntmps11
        go_wp2_with fail
        refine (HR.out _).mono ?_
        rintro e w1 ⟨rfl, rfl⟩
        go_wp2_with fail
        refine (HA.out _).mono ?_
        rintro e w1 ⟨rfl, rfl⟩
        go_wp2_with fail
        refine (HT.out _).mono ?_
        rintro e w1 ⟨rfl, hb1⟩
        go_wp2_with fail
        refine (HW.out _).mono ?_
        rintro e w2 ⟨rfl, hb2⟩
        go_wp2_with fail
        refine (HC.out _).mono ?_
        rintro e w3 ⟨rfl, hb3⟩
        go_wp2
        go_ret2
        rw [HV.out]
        have h12 := hb1.trans (hb2.mono hb1.size)
        exact ⟨ret_val (by unfold atxV; simp only; rw [ba_self]; rfl), h12.trans (hb3.mono h12.size)⟩
      | false =>
        have HV : Hid (atxP s.data.toList = (0, [])) := Lib.hid (by rw [HV0.out, if_neg (by simp)])
        clear hat
        go_enter Tryz.func11, Tryz.ntmps11
        go_wp2_with fail
        refine (HR.out _).mono ?_
        rintro e w1 ⟨rfl, rfl⟩
        go_wp2_with fail
        refine (HA.out _).mono ?_
        rintro e w1 ⟨rfl, rfl⟩
        go_wp2
        go_ret2
        rw [HV.out]
        exact ⟨rfl, Below.refl _ _⟩
    · have h6' : (6 : Int) < (K : Int) := by omega
      have HV : Hid (atxP s.data.toList = (0, [])) := Lib.hid (by rw [HV0.out, if_neg (fun e => h6 e.2.1)])
      clear h6
      go_enter Tryz.func11, Tryz.ntmps11
      go_wp2_with fail
      refine (HR.out _).mono ?_
      rintro e w1 ⟨rfl, rfl⟩
      go_wp2
      go_ret2
      rw [HV.out]
      exact ⟨rfl, Below.refl _ _⟩
  · have h1' : (K : Int) < 1 := by omega
    have HV : Hid (atxP s.data.toList = (0, [])) := Lib.hid (by rw [HV0.out, if_neg (fun e => h1 e.1)])
    clear h1
    go_enter Tryz.func11, Tryz.ntmps11
    go_wp2_with fail
    refine (HR.out _).mono ?_
    rintro e w1 ⟨rfl, rfl⟩
    go_wp2
    go_ret2
    rw [HV.out]
    exact ⟨rfl, Below.refl _ _⟩

theorem idx_contains (l : List UInt8) (c : UInt8) : decide (0 ≤ Lib.indexByte l c) = decide (c ∈ l) := by
  rw [← idx_mem, Bool.eq_iff_iff]
  simp
/-- What a fence's reading answers. -/
def fenV (p : UInt8 × Nat × List UInt8) : Value := .tuple #[.int .u8 (p.1.toNat : Int), .int .i64 (p.2.1 : Int), .string ⟨p.2.2.toArray⟩]
theorem fen_cons (c : UInt8) (t : List UInt8) : fenceP (c :: t) = if (c = 96 ∨ c = 126) ∧ 3 ≤ runN c (c :: t) ∧ ¬ (c = 96 ∧ 96 ∈ (c :: t).drop (runN c (c :: t))) then (c, runN c (c :: t), trimB ((c :: t).drop (runN c (c :: t)))) else (0, 0, []) := rfl
attribute [local go_sem ↓] Go.wp_at_zero Go.wp_at_succ

set_option maxHeartbeats 4000000 in
theorem fence_any (s : ByteArray) (w : World) (hs : s.size ≤ 1000000) :
    Calls Tryz.prog 13 #[.string s] w fun e w' => e = .returned (fenV (fenceP s.data.toList)) ∧ Below w.heap.size w w' := by
  by_cases h0 : 0 < s.size
  · obtain ⟨c, t, hd, hck, ht, hsz⟩ := cons_of h0
    have he := emp_false h0
    have hs0 : (0 : Int) < (s.size : Int) := by omega
    obtain ⟨K, hK⟩ : ∃ K, runN c s.data.toList = K := ⟨_, rfl⟩
    have hks : K ≤ s.size := by rw [← hK, ← sz]; exact runN_le _ _
    have HR := Lib.hid (fun w => run_any s c w hs)
    rw [hK] at HR
    have hks' : (K : Int) ≤ (s.size : Int) := by omega
    have HV0 : Hid (fenceP s.data.toList = if (c = 96 ∨ c = 126) ∧ 3 ≤ K ∧ ¬ (c = 96 ∧ 96 ∈ s.data.toList.drop K) then (c, K, trimB (s.data.toList.drop K)) else (0, 0, [])) := Lib.hid (by
      rw [← hK, hd]; exact fen_cons c t)
    have hes : (s.extract K s.size).size ≤ 1000000 := by rw [ext_size]; omega
    have HT := Lib.hid (fun w => trim_any (s.extract K s.size) w hes)
    rw [ext_rest] at HT
    have HCo := Lib.hid (fun w => Tryz.strings_Contains_one (s.extract K s.size) 96 w)
    rw [ext_rest, idx_contains] at HCo
    obtain ⟨T, hT⟩ := ba_mk (trimB (s.data.toList.drop K))
    rw [hT, ba_self] at HT
    have hTs : T.size ≤ 281474976710656 := by
      have := trimB_len (s.data.toList.drop K)
      rw [hT, sz, List.length_drop, sz] at this
      omega
    have HC := Lib.hid (fun w => clone_any T w hTs)
    have HTT := Lib.hid hT
    have e96 : ((c.toNat : Int) == 96) = (c == 96) := eq_u8 c 96 (by decide)
    have n96 : ((c.toNat : Int) != 96) = !(c == 96) := by unfold bne; rw [e96]
    have n126 : ((c.toNat : Int) != 126) = !(c == 126) := by have : ((c.toNat : Int) == 126) = (c == 126) := eq_u8 c 126 (by decide); unfold bne; rw [this]
    clear hd ht hsz hK hT
    by_cases hc : c = 96 ∨ c = 126
    · have HC96 : Hid ((c == 96) = true ∧ c = 96 ∨ (c == 96) = false ∧ (c == 126) = true ∧ ¬ c = 96) := Lib.hid (by
        rcases hc with rfl | rfl
        · left; decide
        · right; decide)
      generalize hy : (c == 96) = y at *
      generalize hz : (c == 126) = z at *
      clear hy hz
      by_cases h3 : 3 ≤ K
      · have h3' : (3 : Int) ≤ (K : Int) := by omega
        by_cases hin : 96 ∈ s.data.toList.drop K
        · have hdd : decide (96 ∈ s.data.toList.drop K) = true := decide_eq_true hin
          rw [hdd] at HCo
          clear hdd
          rcases HC96.out with ⟨rfl, h⟩ | ⟨rfl, rfl, h⟩
          · have HV : Hid (fenceP s.data.toList = (0, 0, [])) := Lib.hid (by rw [HV0.out, if_neg (fun e => e.2.2 ⟨h, hin⟩)])
            clear hin hc h h3 HC96
            go_enter Tryz.func13, Tryz.ntmps13
            go_wp2_with (first | (go_at_call 31; refine (HR.out _).mono ?_; rintro e w1 ⟨rfl, rfl⟩) | (go_at_call 40; refine (HCo.out _).mono ?_; rintro e w1 ⟨rfl, rfl⟩))
            go_ret3
            rw [HV.out]
            exact ⟨rfl, Below.refl _ _⟩
          · have HV : Hid (fenceP s.data.toList = (c, K, T.data.toList)) := Lib.hid (by rw [HV0.out, if_pos ⟨hc, h3, fun e => h e.1⟩, HTT.out])
            clear hin hc h h3 HC96
            go_enter Tryz.func13, Tryz.ntmps13
            go_wp2_with (first | (go_at_call 31; refine (HR.out _).mono ?_; rintro e w1 ⟨rfl, rfl⟩))
            go_region_held3 (fun _ => True) (trivial) (first | (go_at_call 35; refine (HT.out _).mono ?_; rintro e w2 ⟨rfl, hb2⟩) | (go_at_call 33; refine (HC.out _).mono ?_; rintro e w3 ⟨rfl, hb3⟩))
            all_goals
              go_wp2
              go_ret3
              rw [HV.out]
              exact ⟨ret_val (by unfold fenV; simp only; rw [ba_self]; rfl), by first | exact hb2.trans (hb3.mono hb2.size) | exact ((Below.refl _ _).drew.trans hb2).trans (hb3.mono hb2.size)⟩
        · have hdd : decide (96 ∈ s.data.toList.drop K) = false := decide_eq_false hin
          rw [hdd] at HCo
          clear hdd
          have HV : Hid (fenceP s.data.toList = (c, K, T.data.toList)) := Lib.hid (by rw [HV0.out, if_pos ⟨hc, h3, fun e => hin e.2⟩, HTT.out])
          rcases HC96.out with ⟨rfl, h⟩ | ⟨rfl, rfl, h⟩
          all_goals
          · clear hin hc h h3 HC96
            go_enter Tryz.func13, Tryz.ntmps13
            go_wp2_with (first | (go_at_call 31; refine (HR.out _).mono ?_; rintro e w1 ⟨rfl, rfl⟩) | (go_at_call 40; refine (HCo.out _).mono ?_; rintro e w1 ⟨rfl, rfl⟩))
            go_region_held3 (fun _ => True) (trivial) (first | (go_at_call 35; refine (HT.out _).mono ?_; rintro e w2 ⟨rfl, hb2⟩) | (go_at_call 33; refine (HC.out _).mono ?_; rintro e w3 ⟨rfl, hb3⟩))
            all_goals
              go_wp2
              go_ret3
              rw [HV.out]
              exact ⟨ret_val (by unfold fenV; simp only; rw [ba_self]; rfl), by first | exact hb2.trans (hb3.mono hb2.size) | exact ((Below.refl _ _).drew.trans hb2).trans (hb3.mono hb2.size)⟩
      · have h3' : (K : Int) < 3 := by omega
        have HV : Hid (fenceP s.data.toList = (0, 0, [])) := Lib.hid (by rw [HV0.out, if_neg (fun e => h3 e.2.1)])
        rcases HC96.out with ⟨rfl, h⟩ | ⟨rfl, rfl, h⟩
        all_goals
        · clear hc h h3 HC96
          go_enter Tryz.func13, Tryz.ntmps13
          go_wp2_with (first | (go_at_call 31; refine (HR.out _).mono ?_; rintro e w1 ⟨rfl, rfl⟩))
          go_ret3
          rw [HV.out]
          exact ⟨rfl, Below.refl _ _⟩
    · have HV : Hid (fenceP s.data.toList = (0, 0, [])) := Lib.hid (by rw [HV0.out, if_neg (fun e => hc e.1)])
      have f96 : (c == 96) = false := by rw [beq_eq_false_iff_ne]; exact fun e => hc (.inl e)
      have f126 : (c == 126) = false := by rw [beq_eq_false_iff_ne]; exact fun e => hc (.inr e)
      rw [f96] at e96 n96
      rw [f126] at n126
      clear hc f96 f126
      go_enter Tryz.func13, Tryz.ntmps13
      go_wp2
      go_ret3
      rw [HV.out]
      exact ⟨rfl, Below.refl _ _⟩
  · have hn := nil_of h0
    have he := emp_true hn
    have HV : Hid (fenceP s.data.toList = (0, 0, [])) := Lib.hid (by rw [hn]; rfl)
    clear hn
    go_enter Tryz.func13, Tryz.ntmps13
    go_wp2
    go_ret3
    rw [HV.out]
    exact ⟨rfl, Below.refl _ _⟩
end Sc
end Go.Proofs.YtnpaagglnfocpaaGreatDoor
