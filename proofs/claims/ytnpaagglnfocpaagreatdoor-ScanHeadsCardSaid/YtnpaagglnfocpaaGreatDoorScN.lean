/- Walks of layer 8, the fourteenth part: the reference's headings and fences. -/
import Derived.Test.YtnpaagglnfocpaaGreatDoorScM
namespace Go.Proofs.YtnpaagglnfocpaaGreatDoor
open Go Go.RowKit
namespace Sc
set_option maxRecDepth 100000
set_option linter.unusedVariables false
set_option linter.unusedSimpArgs false

theorem trimR_idem (l : List UInt8) : trimR (trimR l) = trimR l := by
  unfold trimR
  rw [List.reverse_reverse, dropWhile_idem]
theorem trimB_idem (l : List UInt8) : trimB (trimB l) = trimB l := by
  have h1 : trimR (trimB l) = trimB l := by rw [← trim_comm, trimR_idem]
  have h2 : trimL (trimB l) = trimB l := dropWhile_idem _ _
  show trimL (trimR (trimB l)) = trimB l
  rw [h1, h2]
theorem take_last {S : ByteArray} {M : Nat} {c : UInt8} (hlt : M < S.size) (hc : S[M] = c) : S.data.toList.take (M + 1) = S.data.toList.take M ++ [c] := by
  have hl : M < S.data.toList.length := by rw [sz]; exact hlt
  rw [List.take_succ_eq_append_getElem hl, ← hc]
  rfl

set_option maxHeartbeats 4000000 in
theorem ratx_any (s : ByteArray) (w : World) (hs : s.size ≤ 1000000) :
    Calls Tryz.prog 12 #[.string s] w fun e w' => e = .returned (atxV (atxP s.data.toList)) ∧ Below w.heap.size w w' := by
  obtain ⟨K, hK⟩ : ∃ K, runN 35 s.data.toList = K := ⟨_, rfl⟩
  have hks : K ≤ s.size := by rw [← hK, ← sz]; exact runN_le _ _
  have HR := Lib.hid (fun w => rrun_any s 35 w hs)
  rw [hK, show (((35 : UInt8).toNat : Nat) : Int) = 35 from rfl] at HR
  have hks' : (K : Int) ≤ (s.size : Int) := by omega
  have HV0 : Hid (atxP s.data.toList = if 1 ≤ K ∧ K ≤ 6 ∧ atE (s.data.toList.drop K) = true then (K, woP (trimB (s.data.toList.drop K))) else (0, [])) := Lib.hid (by unfold atxP; rw [hK])
  have HA := Lib.hid (fun w => rend_any (s.extract K s.size) w)
  rw [ext_rest] at HA
  have hes : (s.extract K s.size).size ≤ 1000000 := by rw [ext_size]; omega
  obtain ⟨T, hT, hTe, hTd⟩ := rtrim_at (s.extract K s.size) hes
  rw [ext_rest] at hTd
  have HT := Lib.hid hT
  have hTs : T.size ≤ 1000000 := by
    have := trimB_len (s.data.toList.drop K)
    rw [← hTd, sz, List.length_drop, sz] at this
    omega
  have HTD : Hid (trimB (s.data.toList.drop K) = T.data.toList) := Lib.hid hTd.symm
  have HTI : Hid (trimB T.data.toList = T.data.toList) := Lib.hid (by rw [hTd, trimB_idem])
  clear hK hT hTe hTd
  by_cases h1 : 1 ≤ K
  · have h1' : (1 : Int) ≤ (K : Int) := by omega
    by_cases h6 : K ≤ 6
    · have h6' : (K : Int) ≤ 6 := by omega
      generalize hat : atE (s.data.toList.drop K) = at1 at *
      cases at1 with
      | true =>
        have HV1 : Hid (atxP s.data.toList = (K, woP T.data.toList)) := Lib.hid (by rw [HV0.out, if_pos ⟨h1, h6, rfl⟩, HTD.out])
        have HWR := Lib.hid (woP_ref HTI.out)
        clear hat h1 h6
        go_enter Tryz.func12, Tryz.ntmps12
        go_wp2_with (first | (go_at_call 36; refine (HR.out _).mono ?_; rintro e w1 ⟨rfl, rfl⟩) | (go_at_call 37; refine (HA.out _).mono ?_; rintro e w1 ⟨rfl, rfl⟩) | (go_at_call 38; refine (HT.out _).mono ?_; rintro e w1 ⟨rfl, rfl⟩))
        go_loopg [6] T.size (fun G v6 wr => ∃ k : Nat, k = G ∧ k ≤ T.size ∧ v6 = .int .i64 (k : Int) ∧ w = wr ∧ Hid (ahead (T.data.toList.take k) = ahead T.data.toList))
        case atStart => exact ⟨T.size, rfl, Nat.le_refl _, rfl, rfl, Lib.hid (by rw [List.take_of_length_le (by rw [sz]; omega)])⟩
        case round =>
          obtain ⟨k, hkG, hkT, rfl, rfl, HR2⟩ := hrel
          have HKG := Lib.hid hkG
          clear hkG
          have hkT' : (k : Int) ≤ (T.size : Int) := by omega
          have HTK := Lib.hid (fun w => rtrim_any (T.extract 0 k) w (by simp; omega))
          rw [ext_to] at HTK
          obtain ⟨U, hU⟩ := ba_mk (trimB (T.data.toList.take k))
          rw [hU, ba_self] at HTK
          have HU := Lib.hid hU
          clear hU
          by_cases hk0 : 0 < k
          · obtain ⟨M, hM⟩ : ∃ M, k = M + 1 := ⟨k - 1, by omega⟩
            have hMT : M < T.size := by omega
            obtain ⟨c, d, hd, hck, hdt⟩ := cons_at hMT
            have htl := take_last hMT hck
            have hM2 : (k : Int) - 1 = (M : Int) := by omega
            have hM3 : (M : Int) < (T.size : Int) := by omega
            have hk0' : (0 : Int) < (k : Int) := by omega
            by_cases hc : c = 35
            · have hce : ((c.toNat : Int) == 35) = true := by rw [hc]; decide
              have HY : Hid (ahead (T.data.toList.take M) = ahead T.data.toList) := Lib.hid (by
                rw [← HR2.out, hM, htl, ahead_snoc, if_pos hc])
              have HMM := Lib.hid hM
              clear hd hdt hc htl hM
              go_wp2_with fail
              go_roundg M
              case rel => exact ⟨M, rfl, by omega, by first | rfl | go_num, rfl, HY⟩
              case measure => have := HKG.out; have := HMM.out; omega
            · have hce : ((c.toNat : Int) == 35) = false := u8_ne (n := 35) (by decide) hc
              have hah : ahead T.data.toList = T.data.toList.take k := by
                rw [← HR2.out, hM, htl, ahead_snoc, if_neg hc]
              have HLst : Hid ((ahead T.data.toList).getLast? = some c) := Lib.hid (by rw [hah, hM, htl]; simp)
              have HLen : Hid ((ahead T.data.toList).length = k) := Lib.hid (by rw [hah, List.length_take, sz]; omega)
              have HAH := Lib.hid hah
              have HB := Lib.hid (does_rblank.2 c)
              have hkz : ((k : Int) == 0) = false := by simp; omega
              clear hd hdt hc htl hM hah
              by_cases hkl : k < T.size
              · have hkl' : (k : Int) < (T.size : Int) := by omega
                cases hb : blk c with
                | true =>
                  have HW : Hid (woP T.data.toList = U.data.toList) := Lib.hid (by
                    rw [HWR.out, HLst.out]
                    simp only
                    rw [if_pos ⟨by rw [HLen.out, sz]; exact hkl, hb⟩, HAH.out, HU.out])
                  rw [hb] at HB
                  clear hb
                  go_wp2_with (first | (go_at_call 39; refine (HB.out _).mono ?_; rintro e w1 ⟨rfl, rfl⟩) | (go_at_call 38; refine (HTK.out _).mono ?_; rintro e w1 ⟨rfl, rfl⟩))
                  go_ret2
                  rw [HV1.out, HW.out]
                  exact ⟨ret_val (by unfold atxV; simp only; rw [ba_self]; rfl), Below.refl _ _⟩
                | false =>
                  have HW : Hid (woP T.data.toList = T.data.toList) := Lib.hid (by
                    rw [HWR.out, HLst.out]
                    simp only
                    rw [if_neg (fun e => by rw [hb] at e; cases e.2)])
                  rw [hb] at HB
                  clear hb
                  go_wp2_with (first | (go_at_call 39; refine (HB.out _).mono ?_; rintro e w1 ⟨rfl, rfl⟩))
                  go_ret2
                  rw [HV1.out, HW.out]
                  exact ⟨ret_val (by unfold atxV; simp only; rw [ba_self]; rfl), Below.refl _ _⟩
              · have hkl' : ¬ (k : Int) < (T.size : Int) := by omega
                have HW : Hid (woP T.data.toList = T.data.toList) := Lib.hid (by
                  rw [HWR.out, HLst.out]
                  simp only
                  rw [if_neg (fun e => by have := e.1; rw [HLen.out, sz] at this; omega)])
                clear hkl
                go_wp2
                go_ret2
                rw [HV1.out, HW.out]
                exact ⟨ret_val (by unfold atxV; simp only; rw [ba_self]; rfl), Below.refl _ _⟩
          · have hkz : ((k : Int) == 0) = true := by simp; omega
            have hk0' : ¬ (0 : Int) < (k : Int) := by omega
            have HW : Hid (woP T.data.toList = U.data.toList) := Lib.hid (by
              have hz : k = 0 := by omega
              have hah : ahead T.data.toList = [] := by rw [← HR2.out, hz]; rfl
              have hu := HU.out
              rw [hz] at hu
              rw [HWR.out, hah, ← hu]
              rfl)
            clear hk0
            go_wp2_with (first | (go_at_call 38; refine (HTK.out _).mono ?_; rintro e w1 ⟨rfl, rfl⟩))
            go_ret2
            rw [HV1.out, HW.out]
            exact ⟨ret_val (by unfold atxV; simp only; rw [ba_self]; rfl), Below.refl _ _⟩
      | false =>
        have HV : Hid (atxP s.data.toList = (0, [])) := Lib.hid (by rw [HV0.out, if_neg (by simp)])
        clear hat
        go_enter Tryz.func12, Tryz.ntmps12
        go_wp2_with (first | (go_at_call 36; refine (HR.out _).mono ?_; rintro e w1 ⟨rfl, rfl⟩) | (go_at_call 37; refine (HA.out _).mono ?_; rintro e w1 ⟨rfl, rfl⟩))
        go_ret2
        rw [HV.out]
        exact ⟨rfl, Below.refl _ _⟩
    · have h6' : (6 : Int) < (K : Int) := by omega
      have HV : Hid (atxP s.data.toList = (0, [])) := Lib.hid (by rw [HV0.out, if_neg (fun e => h6 e.2.1)])
      clear h6
      go_enter Tryz.func12, Tryz.ntmps12
      go_wp2_with (first | (go_at_call 36; refine (HR.out _).mono ?_; rintro e w1 ⟨rfl, rfl⟩))
      go_ret2
      rw [HV.out]
      exact ⟨rfl, Below.refl _ _⟩
  · have h1' : (K : Int) < 1 := by omega
    have HV : Hid (atxP s.data.toList = (0, [])) := Lib.hid (by rw [HV0.out, if_neg (fun e => h1 e.1)])
    clear h1
    go_enter Tryz.func12, Tryz.ntmps12
    go_wp2_with (first | (go_at_call 36; refine (HR.out _).mono ?_; rintro e w1 ⟨rfl, rfl⟩))
    go_ret2
    rw [HV.out]
    exact ⟨rfl, Below.refl _ _⟩

set_option maxHeartbeats 4000000 in
theorem rfence_any (s : ByteArray) (w : World) (hs : s.size ≤ 1000000) :
    Calls Tryz.prog 14 #[.string s] w fun e w' => e = .returned (fenV (fenceP s.data.toList)) ∧ Below w.heap.size w w' := by
  by_cases h0 : 0 < s.size
  · obtain ⟨c, t, hd, hck, ht, hsz⟩ := cons_of h0
    have he := emp_false h0
    have hs0 : (0 : Int) < (s.size : Int) := by omega
    obtain ⟨K, hK⟩ : ∃ K, runN c s.data.toList = K := ⟨_, rfl⟩
    have hks : K ≤ s.size := by rw [← hK, ← sz]; exact runN_le _ _
    have HR := Lib.hid (fun w => rrun_any s c w hs)
    rw [hK] at HR
    have hks' : (K : Int) ≤ (s.size : Int) := by omega
    have HV0 : Hid (fenceP s.data.toList = if (c = 96 ∨ c = 126) ∧ 3 ≤ K ∧ ¬ (c = 96 ∧ 96 ∈ s.data.toList.drop K) then (c, K, trimB (s.data.toList.drop K)) else (0, 0, [])) := Lib.hid (by
      rw [← hK, hd]; exact fen_cons c t)
    have hes : (s.extract K s.size).size ≤ 1000000 := by rw [ext_size]; omega
    obtain ⟨T, hT, hTe, hTd⟩ := rtrim_at (s.extract K s.size) hes
    rw [ext_rest] at hTd
    have HT := Lib.hid hT
    have HTT := Lib.hid hTd.symm
    have e96 : ((c.toNat : Int) == 96) = (c == 96) := eq_u8 c 96 (by decide)
    have n96 : ((c.toNat : Int) != 96) = !(c == 96) := by unfold bne; rw [e96]
    have n126 : ((c.toNat : Int) != 126) = !(c == 126) := by have : ((c.toNat : Int) == 126) = (c == 126) := eq_u8 c 126 (by decide); unfold bne; rw [this]
    clear hd ht hsz hK hT hTe hTd
    by_cases hc : c = 96 ∨ c = 126
    · have HC96 : Hid ((c == 96) = true ∧ c = 96 ∨ (c == 96) = false ∧ (c == 126) = true ∧ ¬ c = 96) := Lib.hid (by
        rcases hc with rfl | rfl
        · left; decide
        · right; decide)
      generalize hy : (c == 96) = y at *
      generalize hz : (c == 126) = z at *
      clear hy hz
      by_cases h3 : 3 ≤ K
      · have h3' : (3 : Int) ≤ (K : Int) := by omega
        have HV1 : Hid (¬ (c = 96 ∧ 96 ∈ s.data.toList.drop K) → fenceP s.data.toList = (c, K, T.data.toList)) := Lib.hid (fun h => by rw [HV0.out, if_pos ⟨hc, h3, h⟩, HTT.out])
        have HVZ : Hid (c = 96 ∧ 96 ∈ s.data.toList.drop K → fenceP s.data.toList = (0, 0, [])) := Lib.hid (fun h => by rw [HV0.out, if_neg (fun e => e.2.2 h)])
        rcases HC96.out with ⟨rfl, h⟩ | ⟨rfl, rfl, h⟩
        · have HC := Lib.hid h
          clear hc h h3 HC96
          go_enter Tryz.func14, Tryz.ntmps14
          go_wp2_with (first | (go_at_call 36; refine (HR.out _).mono ?_; rintro e w1 ⟨rfl, rfl⟩))
          go_loopg [6] (s.size - K) (fun G v6 wr => ∃ m : Nat, K ≤ m ∧ m + G = s.size ∧ v6 = .int .i64 (m : Int) ∧ w = wr ∧ Hid ((96 ∈ s.data.toList.drop K) ↔ (96 ∈ s.data.toList.drop m)))
          case atStart => exact ⟨K, by omega, by omega, rfl, rfl, Lib.hid Iff.rfl⟩
          case round =>
            obtain ⟨m, hmK, hmG, rfl, rfl, HM⟩ := hrel
            by_cases hlt : m < s.size
            · obtain ⟨x, d, hd2, hck2, hdt⟩ := cons_at hlt
              have hlt' : (m : Int) < (s.size : Int) := by omega
              by_cases hx : x = 96
              · have hxe : ((x.toNat : Int) == 96) = true := by rw [hx]; decide
                have HV : Hid (fenceP s.data.toList = (0, 0, [])) := Lib.hid (HVZ.out ⟨HC.out, HM.out.2 (by rw [hd2, hx]; simp)⟩)
                clear hd2 hdt hx
                go_wp2
                go_ret3
                rw [HV.out]
                exact ⟨rfl, Below.refl _ _⟩
              · have hxe : ((x.toNat : Int) == 96) = false := u8_ne (n := 96) (by decide) hx
                have HY : Hid ((96 ∈ s.data.toList.drop K) ↔ (96 ∈ s.data.toList.drop (m + 1))) := Lib.hid (by
                  rw [HM.out, hd2, hdt, List.mem_cons]
                  exact ⟨fun e => e.resolve_left (fun e => hx e.symm), .inr⟩)
                clear hd2 hdt hx
                go_wp2
                go_roundg (gk - 1)
                case rel => exact ⟨m + 1, by omega, by omega, by go_num, rfl, HY⟩
                case measure => omega
            · have hlt' : ¬ (m : Int) < (s.size : Int) := by omega
              have HV : Hid (fenceP s.data.toList = (c, K, T.data.toList)) := Lib.hid (HV1.out (fun e => by
                have := HM.out.1 e.2
                rw [drop_all (by omega)] at this
                cases this))
              go_wp2_with fail
              go_quiet (exact Calls.quiet_of_same (same_of (HT.out _)))
              go_wp2
              go_ret3
              rw [HV.out]
              exact ⟨ret_val (by unfold fenV; simp only; rw [ba_self]; rfl), ⟨rfl, rfl, rfl, Nat.le_refl _, fun _ _ => rfl⟩⟩
        · have HV : Hid (fenceP s.data.toList = (c, K, T.data.toList)) := Lib.hid (HV1.out (fun e => h e.1))
          clear hc h h3 HC96
          go_enter Tryz.func14, Tryz.ntmps14
          go_wp2_with (first | (go_at_call 36; refine (HR.out _).mono ?_; rintro e w1 ⟨rfl, rfl⟩))
          go_loopg [6] (s.size - K) (fun G v6 wr => ∃ m : Nat, K ≤ m ∧ m + G = s.size ∧ v6 = .int .i64 (m : Int) ∧ w = wr)
          case atStart => exact ⟨K, by omega, by omega, rfl, rfl⟩
          case round =>
            obtain ⟨m, hmK, hmG, rfl, rfl⟩ := hrel
            by_cases hlt : m < s.size
            · have hlt' : (m : Int) < (s.size : Int) := by omega
              go_wp2
              go_roundg (gk - 1)
              case rel => exact ⟨m + 1, by omega, by omega, by go_num, rfl⟩
              case measure => omega
            · have hlt' : ¬ (m : Int) < (s.size : Int) := by omega
              go_wp2_with fail
              go_quiet (exact Calls.quiet_of_same (same_of (HT.out _)))
              go_wp2
              go_ret3
              rw [HV.out]
              exact ⟨ret_val (by unfold fenV; simp only; rw [ba_self]; rfl), ⟨rfl, rfl, rfl, Nat.le_refl _, fun _ _ => rfl⟩⟩
      · have h3' : (K : Int) < 3 := by omega
        have HV : Hid (fenceP s.data.toList = (0, 0, [])) := Lib.hid (by rw [HV0.out, if_neg (fun e => h3 e.2.1)])
        rcases HC96.out with ⟨rfl, h⟩ | ⟨rfl, rfl, h⟩
        all_goals
        · clear hc h h3 HC96
          go_enter Tryz.func14, Tryz.ntmps14
          go_wp2_with (first | (go_at_call 36; refine (HR.out _).mono ?_; rintro e w1 ⟨rfl, rfl⟩))
          go_ret3
          rw [HV.out]
          exact ⟨rfl, Below.refl _ _⟩
    · have HV : Hid (fenceP s.data.toList = (0, 0, [])) := Lib.hid (by rw [HV0.out, if_neg (fun e => hc e.1)])
      have f96 : (c == 96) = false := by rw [beq_eq_false_iff_ne]; exact fun e => hc (.inl e)
      have f126 : (c == 126) = false := by rw [beq_eq_false_iff_ne]; exact fun e => hc (.inr e)
      rw [f96] at e96 n96
      rw [f126] at n126
      clear hc f96 f126
      go_enter Tryz.func14, Tryz.ntmps14
      go_wp2
      go_ret3
      rw [HV.out]
      exact ⟨rfl, Below.refl _ _⟩
  · have hn := nil_of h0
    have he := emp_true hn
    have HV : Hid (fenceP s.data.toList = (0, 0, [])) := Lib.hid (by rw [hn]; rfl)
    clear hn
    go_enter Tryz.func14, Tryz.ntmps14
    go_wp2
    go_ret3
    rw [HV.out]
    exact ⟨rfl, Below.refl _ _⟩
end Sc
end Go.Proofs.YtnpaagglnfocpaaGreatDoor
