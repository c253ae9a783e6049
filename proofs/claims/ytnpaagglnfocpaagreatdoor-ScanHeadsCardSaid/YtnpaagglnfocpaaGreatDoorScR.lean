/- Walks of layer 8, the sixteenth part: which HTML a line begins. -/
import Derived.Test.YtnpaagglnfocpaaGreatDoorScQ
namespace Go.Proofs.YtnpaagglnfocpaaGreatDoor
open Go Go.RowKit
namespace Sc
set_option maxRecDepth 100000
set_option linter.unusedVariables false
set_option linter.unusedSimpArgs false

set_option maxHeartbeats 2000000 in
theorem begKnown_any (s : ByteArray) (w : World) (hs : s.size ≤ 1000000) (hL : Ks.Laid w) :
    Calls Tryz.prog 55 #[.string s] w fun e w' => e = .returned (.bool (knownP s.data.toList)) ∧ Below w.heap.size w w' := by
  obtain ⟨N, hN⟩ := ba_mk (tagName s.data.toList).1
  obtain ⟨R, hR⟩ := ba_mk (tagName s.data.toList).2
  have HV : Hid (knownP s.data.toList = (blocksL.contains N.data.toList && (atE R.data.toList || headIs R.data.toList 62 || Lib.hasPrefix R.data.toList [47, 62]))) := Lib.hid (by unfold knownP; rw [hN, hR]; rfl)
  have HCut := Lib.hid (cutTag_any hN hR w hs hL)
  have HI := Lib.hid (isKnown_any N)
  have HA := Lib.hid (atEnd_any R)
  have HX := Lib.hid (pre_any R ⟨#[47, 62]⟩)
  rw [show (⟨#[47, 62]⟩ : ByteArray).data.toList = [47, 62] from rfl] at HX
  have HP : Hid (atE R.data.toList = false → ∃ c, (∃ h : 0 < R.size, R[0] = c) ∧ headIs R.data.toList 62 = (c == 62)) := Lib.hid (fun h => headIs_at (atE_pos h) h)
  clear hN hR
  generalize blocksL.contains N.data.toList = b1 at *
  generalize atE R.data.toList = b2 at *
  generalize Lib.hasPrefix R.data.toList [47, 62] = b4 at *
  cases b1 with
  | false =>
    go_enter Tryz.func55, Tryz.ntmps55
    go_wp2_with fail
    refine HCut.out.mono ?_
    rintro e w1 ⟨rfl, hb⟩
    go_wp2_with fail
    refine (HI.out _).mono ?_
    rintro e w2 ⟨rfl, rfl⟩
    go_wp2
    go_ret
    rw [HV.out]
    exact ⟨rfl, hb⟩
  | true =>
  cases b2 with
  | true =>
    go_enter Tryz.func55, Tryz.ntmps55
    go_wp2_with fail
    refine HCut.out.mono ?_
    rintro e w1 ⟨rfl, hb⟩
    go_wp2_with fail
    refine (HI.out _).mono ?_
    rintro e w2 ⟨rfl, rfl⟩
    go_wp2_with fail
    refine (HA.out _).mono ?_
    rintro e w2 ⟨rfl, rfl⟩
    go_wp2
    go_ret
    rw [HV.out]
    exact ⟨rfl, hb⟩
  | false =>
    obtain ⟨c, ⟨h0, hck⟩, hh⟩ := HP.out rfl
    have hr0 : (0 : Int) < (R.size : Int) := by omega
    have e62 : ((c.toNat : Int) == 62) = (c == 62) := eq_u8 c 62 (by decide)
    rw [hh] at HV
    clear hh HP
    generalize (c == 62) = b3 at *
    cases b3 with
    | true =>
      go_enter Tryz.func55, Tryz.ntmps55
      go_wp2_with fail
      refine HCut.out.mono ?_
      rintro e w1 ⟨rfl, hb⟩
      go_wp2_with fail
      refine (HI.out _).mono ?_
      rintro e w2 ⟨rfl, rfl⟩
      go_wp2_with fail
      refine (HA.out _).mono ?_
      rintro e w2 ⟨rfl, rfl⟩
      go_wp2
      go_ret
      rw [HV.out]
      exact ⟨rfl, hb⟩
    | false =>
      go_enter Tryz.func55, Tryz.ntmps55
      go_wp2_with fail
      refine HCut.out.mono ?_
      rintro e w1 ⟨rfl, hb⟩
      go_wp2_with fail
      refine (HI.out _).mono ?_
      rintro e w2 ⟨rfl, rfl⟩
      go_wp2_with fail
      refine (HA.out _).mono ?_
      rintro e w2 ⟨rfl, rfl⟩
      go_wp2_with fail
      refine (HX.out _).mono ?_
      rintro e w2 ⟨rfl, rfl⟩
      go_wp2
      go_ret
      rw [HV.out]
      exact ⟨rfl, hb⟩

set_option maxHeartbeats 2000000 in
theorem isOther_any (s : ByteArray) (w : World) (hs : s.size ≤ 1000000) (hL : Ks.Laid w) :
    Calls Tryz.prog 56 #[.string s] w fun e w' => e = .returned (.bool (otherP s.data.toList)) ∧ Below w.heap.size w w' := by
  obtain ⟨N, hN⟩ := ba_mk (tagName s.data.toList).1
  obtain ⟨R, hR⟩ := ba_mk (tagName s.data.toList).2
  obtain ⟨K, hK⟩ : ∃ K, tagN s.data.toList = K := ⟨_, rfl⟩
  have hks : K ≤ s.size := by rw [← hK, ← sz]; exact tagN_le _
  have HV : Hid (otherP s.data.toList = (!N.toList.isEmpty && !rawsL.contains N.data.toList && (decide (0 < K) && (s.data.toList.drop K).all blk))) := Lib.hid (by unfold otherP; rw [hN, hK, toList_eq])
  have HCut := Lib.hid (cutTag_any hN hR w hs hL)
  have HI := Lib.hid (isVerbatim_any N)
  have HT := Lib.hid (fun w => tag_any s w hs)
  rw [hK] at HT
  have HO := Lib.hid (fun w => only_any (s.extract K s.size) w (by rw [ext_size]; omega))
  rw [ext_rest] at HO
  have hks' : (K : Int) ≤ (s.size : Int) := by omega
  clear hN hR hK
  generalize hne : N.toList.isEmpty = b1 at *
  generalize rawsL.contains N.data.toList = b2 at *
  generalize (s.data.toList.drop K).all blk = b3 at *
  cases b1 with
  | true =>
    go_enter Tryz.func56, Tryz.ntmps56
    go_wp2_with fail
    refine HCut.out.mono ?_
    rintro e w1 ⟨rfl, hb⟩
    go_wp2
    go_ret
    rw [HV.out]
    exact ⟨rfl, hb⟩
  | false =>
  cases b2 with
  | true =>
    go_enter Tryz.func56, Tryz.ntmps56
    go_wp2_with fail
    refine HCut.out.mono ?_
    rintro e w1 ⟨rfl, hb⟩
    go_wp2_with fail
    refine (HI.out _).mono ?_
    rintro e w2 ⟨rfl, rfl⟩
    go_wp2
    go_ret
    rw [HV.out]
    exact ⟨rfl, hb⟩
  | false =>
    by_cases hk0 : 0 < K
    · have hk0' : (0 : Int) < (K : Int) := by omega
      rw [decide_eq_true hk0] at HV
      clear hk0
      go_enter Tryz.func56, Tryz.ntmps56
      go_wp2_with fail
      refine HCut.out.mono ?_
      rintro e w1 ⟨rfl, hb⟩
      go_wp2_with fail
      refine (HI.out _).mono ?_
      rintro e w2 ⟨rfl, rfl⟩
      go_wp2_with fail
      refine (HT.out _).mono ?_
      rintro e w3 ⟨rfl, hb3⟩
      go_wp2_with fail
      refine (HO.out _).mono ?_
      rintro e w4 ⟨rfl, hb4⟩
      go_wp2
      go_ret
      rw [HV.out]
      have h13 := hb.trans (hb3.mono hb.size)
      exact ⟨ret_bool' (by simp), h13.trans (hb4.mono h13.size)⟩
    · have hk0' : ¬ (0 : Int) < (K : Int) := by omega
      rw [decide_eq_false hk0] at HV
      clear hk0
      go_enter Tryz.func56, Tryz.ntmps56
      go_wp2_with fail
      refine HCut.out.mono ?_
      rintro e w1 ⟨rfl, hb⟩
      go_wp2_with fail
      refine (HI.out _).mono ?_
      rintro e w2 ⟨rfl, rfl⟩
      go_wp2_with fail
      refine (HT.out _).mono ?_
      rintro e w3 ⟨rfl, hb3⟩
      go_wp2
      go_ret
      rw [HV.out]
      exact ⟨ret_bool' (by simp), hb.trans (hb3.mono hb.size)⟩

set_option maxHeartbeats 8000000 in
theorem html_any (s : ByteArray) (w : World) (hs : s.size ≤ 1000000) (hL : Ks.Laid w) :
    Calls Tryz.prog 27 #[.string s] w fun e w' => e = .returned (.int .i64 (htmlS s.data.toList : Nat)) ∧ Below w.heap.size w w' := by
  have H1 := Lib.hid (begVer_any s w hs hL)
  have H2 := Lib.hid (pre_any s ⟨#[60, 33, 45, 45]⟩)
  have H3 := Lib.hid (pre_any s ⟨#[60, 63]⟩)
  have H4 := Lib.hid (pre_any s ⟨#[60, 33]⟩)
  have H5 := Lib.hid (pre_any s ⟨#[60, 33, 91, 67, 68, 65, 84, 65, 91]⟩)
  rw [show (⟨#[60, 33, 45, 45]⟩ : ByteArray).data.toList = [60, 33, 45, 45] from rfl] at H2
  rw [show (⟨#[60, 63]⟩ : ByteArray).data.toList = [60, 63] from rfl] at H3
  rw [show (⟨#[60, 33]⟩ : ByteArray).data.toList = [60, 33] from rfl] at H4
  rw [show (⟨#[60, 33, 91, 67, 68, 65, 84, 65, 91]⟩ : ByteArray).data.toList = [60, 33, 91, 67, 68, 65, 84, 65, 91] from rfl] at H5
  have H6 : Hid (∀ W, Below w.heap.size w W → Calls Tryz.prog 55 #[.string s] W fun e w' => e = .returned (.bool (knownP s.data.toList)) ∧ Below w.heap.size w w') := Lib.hid (fun W hW => (begKnown_any s W hs (hL.below hW)).mono fun e w' ⟨a, b⟩ => ⟨a, hW.trans (b.mono hW.size)⟩)
  have H7 : Hid (∀ W, Below w.heap.size w W → Calls Tryz.prog 56 #[.string s] W fun e w' => e = .returned (.bool (otherP s.data.toList)) ∧ Below w.heap.size w w') := Lib.hid (fun W hW => (isOther_any s W hs (hL.below hW)).mono fun e w' ⟨a, b⟩ => ⟨a, hW.trans (b.mono hW.size)⟩)
  have HV : Hid (htmlS s.data.toList = if verP s.data.toList = true then 1 else if Lib.hasPrefix s.data.toList [60, 33, 45, 45] = true then 2 else if Lib.hasPrefix s.data.toList [60, 63] = true then 3 else if (Lib.hasPrefix s.data.toList [60, 33] && isLet s.data.toList[2]?) = true then 4
    else if Lib.hasPrefix s.data.toList [60, 33, 91, 67, 68, 65, 84, 65, 91] = true then 5 else if knownP s.data.toList = true then 6 else if otherP s.data.toList = true then 7 else 0) := Lib.hid rfl
  have HLet : Hid ((¬ (2 : Int) < (s.size : Int) ∧ isLet s.data.toList[2]? = false) ∨ ∃ c : UInt8, (2 : Int) < (s.size : Int) ∧ (∃ h : 2 < s.size, s[2] = c) ∧ isLet s.data.toList[2]? = letU c) := Lib.hid (by
    by_cases h2 : 2 < s.size
    · right
      refine ⟨s[2], by omega, ⟨h2, rfl⟩, ?_⟩
      rw [List.getElem?_eq_getElem (by rw [sz]; exact h2)]
      rfl
    · left
      refine ⟨by omega, ?_⟩
      rw [List.getElem?_eq_none (by rw [sz]; omega)]
      rfl)
  have HLc := Lib.hid (does_letter.2)
  clear hL
  generalize verP s.data.toList = b1 at *
  generalize Lib.hasPrefix s.data.toList [60, 33, 45, 45] = b2 at *
  generalize Lib.hasPrefix s.data.toList [60, 63] = b3 at *
  generalize Lib.hasPrefix s.data.toList [60, 33] = p4 at *
  generalize isLet s.data.toList[2]? = l4 at *
  generalize Lib.hasPrefix s.data.toList [60, 33, 91, 67, 68, 65, 84, 65, 91] = b5 at *
  generalize knownP s.data.toList = b6 at *
  generalize otherP s.data.toList = b7 at *
  cases b1 with
  | true =>
    go_enter Tryz.func27, Tryz.ntmps27
    go_wp2_with fail
    refine H1.out.mono ?_
    rintro e w1 ⟨rfl, hb⟩
    go_wp2
    go_ret
    rw [HV.out]
    exact ⟨rfl, hb⟩
  | false =>
  cases b2 with
  | true =>
    go_enter Tryz.func27, Tryz.ntmps27
    go_wp2_with fail
    refine H1.out.mono ?_
    rintro e w1 ⟨rfl, hb⟩
    go_wp2_with fail
    refine (H2.out _).mono ?_
    rintro e w2 ⟨rfl, rfl⟩
    go_wp2
    go_ret
    rw [HV.out]
    exact ⟨rfl, hb⟩
  | false =>
  cases b3 with
  | true =>
    go_enter Tryz.func27, Tryz.ntmps27
    go_wp2_with fail
    refine H1.out.mono ?_
    rintro e w1 ⟨rfl, hb⟩
    go_wp2_with fail
    refine (H2.out _).mono ?_
    rintro e w2 ⟨rfl, rfl⟩
    go_wp2_with fail
    refine (H3.out _).mono ?_
    rintro e w2 ⟨rfl, rfl⟩
    go_wp2
    go_ret
    rw [HV.out]
    exact ⟨rfl, hb⟩
  | false =>
  cases p4 with
  | false =>
    cases b5 with
    | true =>
      go_enter Tryz.func27, Tryz.ntmps27
      go_wp2_with fail
      refine H1.out.mono ?_
      rintro e w1 ⟨rfl, hb⟩
      go_wp2_with fail
      refine (H2.out _).mono ?_
      rintro e w2 ⟨rfl, rfl⟩
      go_wp2_with fail
      refine (H3.out _).mono ?_
      rintro e w2 ⟨rfl, rfl⟩
      go_wp2_with fail
      refine (H4.out _).mono ?_
      rintro e w2 ⟨rfl, rfl⟩
      go_wp2_with fail
      refine (H5.out _).mono ?_
      rintro e w2 ⟨rfl, rfl⟩
      go_wp2
      go_ret
      rw [HV.out]
      exact ⟨rfl, hb⟩
    | false =>
    cases b6 with
    | true =>
      go_enter Tryz.func27, Tryz.ntmps27
      go_wp2_with fail
      refine H1.out.mono ?_
      rintro e w1 ⟨rfl, hb⟩
      go_wp2_with fail
      refine (H2.out _).mono ?_
      rintro e w2 ⟨rfl, rfl⟩
      go_wp2_with fail
      refine (H3.out _).mono ?_
      rintro e w2 ⟨rfl, rfl⟩
      go_wp2_with fail
      refine (H4.out _).mono ?_
      rintro e w2 ⟨rfl, rfl⟩
      go_wp2_with fail
      refine (H5.out _).mono ?_
      rintro e w2 ⟨rfl, rfl⟩
      go_wp2_with fail
      refine (H6.out _ hb).mono ?_
      rintro e w3 ⟨rfl, hb3⟩
      go_wp2
      go_ret
      rw [HV.out]
      exact ⟨rfl, hb3⟩
    | false =>
    cases b7 with
    | true =>
      go_enter Tryz.func27, Tryz.ntmps27
      go_wp2_with fail
      refine H1.out.mono ?_
      rintro e w1 ⟨rfl, hb⟩
      go_wp2_with fail
      refine (H2.out _).mono ?_
      rintro e w2 ⟨rfl, rfl⟩
      go_wp2_with fail
      refine (H3.out _).mono ?_
      rintro e w2 ⟨rfl, rfl⟩
      go_wp2_with fail
      refine (H4.out _).mono ?_
      rintro e w2 ⟨rfl, rfl⟩
      go_wp2_with fail
      refine (H5.out _).mono ?_
      rintro e w2 ⟨rfl, rfl⟩
      go_wp2_with fail
      refine (H6.out _ hb).mono ?_
      rintro e w3 ⟨rfl, hb3⟩
      go_wp2_with fail
      refine (H7.out _ hb3).mono ?_
      rintro e w4 ⟨rfl, hb4⟩
      go_wp2
      go_ret
      rw [HV.out]
      exact ⟨rfl, hb4⟩
    | false =>
      go_enter Tryz.func27, Tryz.ntmps27
      go_wp2_with fail
      refine H1.out.mono ?_
      rintro e w1 ⟨rfl, hb⟩
      go_wp2_with fail
      refine (H2.out _).mono ?_
      rintro e w2 ⟨rfl, rfl⟩
      go_wp2_with fail
      refine (H3.out _).mono ?_
      rintro e w2 ⟨rfl, rfl⟩
      go_wp2_with fail
      refine (H4.out _).mono ?_
      rintro e w2 ⟨rfl, rfl⟩
      go_wp2_with fail
      refine (H5.out _).mono ?_
      rintro e w2 ⟨rfl, rfl⟩
      go_wp2_with fail
      refine (H6.out _ hb).mono ?_
      rintro e w3 ⟨rfl, hb3⟩
      go_wp2_with fail
      refine (H7.out _ hb3).mono ?_
      rintro e w4 ⟨rfl, hb4⟩
      go_wp2
      go_ret
      rw [HV.out]
      exact ⟨rfl, hb4⟩
  | true =>
    rcases HLet.out with ⟨hx, hl⟩ | ⟨c, hx, ⟨hx2, hck⟩, hl⟩
    · rw [hl] at HV
      clear hl HLet
      cases b5 with
      | true =>
        go_enter Tryz.func27, Tryz.ntmps27
        go_wp2_with fail
        refine H1.out.mono ?_
        rintro e w1 ⟨rfl, hb⟩
        go_wp2_with fail
        refine (H2.out _).mono ?_
        rintro e w2 ⟨rfl, rfl⟩
        go_wp2_with fail
        refine (H3.out _).mono ?_
        rintro e w2 ⟨rfl, rfl⟩
        go_wp2_with fail
        refine (H4.out _).mono ?_
        rintro e w2 ⟨rfl, rfl⟩
        go_wp2_with fail
        refine (H5.out _).mono ?_
        rintro e w2 ⟨rfl, rfl⟩
        go_wp2
        go_ret
        rw [HV.out]
        exact ⟨rfl, hb⟩
      | false =>
      cases b6 with
      | true =>
        go_enter Tryz.func27, Tryz.ntmps27
        go_wp2_with fail
        refine H1.out.mono ?_
        rintro e w1 ⟨rfl, hb⟩
        go_wp2_with fail
        refine (H2.out _).mono ?_
        rintro e w2 ⟨rfl, rfl⟩
        go_wp2_with fail
        refine (H3.out _).mono ?_
        rintro e w2 ⟨rfl, rfl⟩
        go_wp2_with fail
        refine (H4.out _).mono ?_
        rintro e w2 ⟨rfl, rfl⟩
        go_wp2_with fail
        refine (H5.out _).mono ?_
        rintro e w2 ⟨rfl, rfl⟩
        go_wp2_with fail
        refine (H6.out _ hb).mono ?_
        rintro e w3 ⟨rfl, hb3⟩
        go_wp2
        go_ret
        rw [HV.out]
        exact ⟨rfl, hb3⟩
      | false =>
      cases b7 with
      | true =>
        go_enter Tryz.func27, Tryz.ntmps27
        go_wp2_with fail
        refine H1.out.mono ?_
        rintro e w1 ⟨rfl, hb⟩
        go_wp2_with fail
        refine (H2.out _).mono ?_
        rintro e w2 ⟨rfl, rfl⟩
        go_wp2_with fail
        refine (H3.out _).mono ?_
        rintro e w2 ⟨rfl, rfl⟩
        go_wp2_with fail
        refine (H4.out _).mono ?_
        rintro e w2 ⟨rfl, rfl⟩
        go_wp2_with fail
        refine (H5.out _).mono ?_
        rintro e w2 ⟨rfl, rfl⟩
        go_wp2_with fail
        refine (H6.out _ hb).mono ?_
        rintro e w3 ⟨rfl, hb3⟩
        go_wp2_with fail
        refine (H7.out _ hb3).mono ?_
        rintro e w4 ⟨rfl, hb4⟩
        go_wp2
        go_ret
        rw [HV.out]
        exact ⟨rfl, hb4⟩
      | false =>
        go_enter Tryz.func27, Tryz.ntmps27
        go_wp2_with fail
        refine H1.out.mono ?_
        rintro e w1 ⟨rfl, hb⟩
        go_wp2_with fail
        refine (H2.out _).mono ?_
        rintro e w2 ⟨rfl, rfl⟩
        go_wp2_with fail
        refine (H3.out _).mono ?_
        rintro e w2 ⟨rfl, rfl⟩
        go_wp2_with fail
        refine (H4.out _).mono ?_
        rintro e w2 ⟨rfl, rfl⟩
        go_wp2_with fail
        refine (H5.out _).mono ?_
        rintro e w2 ⟨rfl, rfl⟩
        go_wp2_with fail
        refine (H6.out _ hb).mono ?_
        rintro e w3 ⟨rfl, hb3⟩
        go_wp2_with fail
        refine (H7.out _ hb3).mono ?_
        rintro e w4 ⟨rfl, hb4⟩
        go_wp2
        go_ret
        rw [HV.out]
        exact ⟨rfl, hb4⟩
    · rw [hl] at HV
      have HLc2 := Lib.hid (HLc.out c)
      clear hl HLet
      generalize letU c = l5 at *
      cases l5 with
      | true =>
        go_enter Tryz.func27, Tryz.ntmps27
        go_wp2_with fail
        refine H1.out.mono ?_
        rintro e w1 ⟨rfl, hb⟩
        go_wp2_with fail
        refine (H2.out _).mono ?_
        rintro e w2 ⟨rfl, rfl⟩
        go_wp2_with fail
        refine (H3.out _).mono ?_
        rintro e w2 ⟨rfl, rfl⟩
        go_wp2_with fail
        refine (H4.out _).mono ?_
        rintro e w2 ⟨rfl, rfl⟩
        go_wp2_with fail
        refine (HLc2.out _).mono ?_
        rintro e w2 ⟨rfl, rfl⟩
        go_wp2
        go_ret
        rw [HV.out]
        exact ⟨rfl, hb⟩
      | false =>
        cases b5 with
        | true =>
          go_enter Tryz.func27, Tryz.ntmps27
          go_wp2_with fail
          refine H1.out.mono ?_
          rintro e w1 ⟨rfl, hb⟩
          go_wp2_with fail
          refine (H2.out _).mono ?_
          rintro e w2 ⟨rfl, rfl⟩
          go_wp2_with fail
          refine (H3.out _).mono ?_
          rintro e w2 ⟨rfl, rfl⟩
          go_wp2_with fail
          refine (H4.out _).mono ?_
          rintro e w2 ⟨rfl, rfl⟩
          go_wp2_with fail
          refine (HLc2.out _).mono ?_
          rintro e w2 ⟨rfl, rfl⟩
          go_wp2_with fail
          refine (H5.out _).mono ?_
          rintro e w2 ⟨rfl, rfl⟩
          go_wp2
          go_ret
          rw [HV.out]
          exact ⟨rfl, hb⟩
        | false =>
        cases b6 with
        | true =>
          go_enter Tryz.func27, Tryz.ntmps27
          go_wp2_with fail
          refine H1.out.mono ?_
          rintro e w1 ⟨rfl, hb⟩
          go_wp2_with fail
          refine (H2.out _).mono ?_
          rintro e w2 ⟨rfl, rfl⟩
          go_wp2_with fail
          refine (H3.out _).mono ?_
          rintro e w2 ⟨rfl, rfl⟩
          go_wp2_with fail
          refine (H4.out _).mono ?_
          rintro e w2 ⟨rfl, rfl⟩
          go_wp2_with fail
          refine (HLc2.out _).mono ?_
          rintro e w2 ⟨rfl, rfl⟩
          go_wp2_with fail
          refine (H5.out _).mono ?_
          rintro e w2 ⟨rfl, rfl⟩
          go_wp2_with fail
          refine (H6.out _ hb).mono ?_
          rintro e w3 ⟨rfl, hb3⟩
          go_wp2
          go_ret
          rw [HV.out]
          exact ⟨rfl, hb3⟩
        | false =>
        cases b7 with
        | true =>
          go_enter Tryz.func27, Tryz.ntmps27
          go_wp2_with fail
          refine H1.out.mono ?_
          rintro e w1 ⟨rfl, hb⟩
          go_wp2_with fail
          refine (H2.out _).mono ?_
          rintro e w2 ⟨rfl, rfl⟩
          go_wp2_with fail
          refine (H3.out _).mono ?_
          rintro e w2 ⟨rfl, rfl⟩
          go_wp2_with fail
          refine (H4.out _).mono ?_
          rintro e w2 ⟨rfl, rfl⟩
          go_wp2_with fail
          refine (HLc2.out _).mono ?_
          rintro e w2 ⟨rfl, rfl⟩
          go_wp2_with fail
          refine (H5.out _).mono ?_
          rintro e w2 ⟨rfl, rfl⟩
          go_wp2_with fail
          refine (H6.out _ hb).mono ?_
          rintro e w3 ⟨rfl, hb3⟩
          go_wp2_with fail
          refine (H7.out _ hb3).mono ?_
          rintro e w4 ⟨rfl, hb4⟩
          go_wp2
          go_ret
          rw [HV.out]
          exact ⟨rfl, hb4⟩
        | false =>
          go_enter Tryz.func27, Tryz.ntmps27
          go_wp2_with fail
          refine H1.out.mono ?_
          rintro e w1 ⟨rfl, hb⟩
          go_wp2_with fail
          refine (H2.out _).mono ?_
          rintro e w2 ⟨rfl, rfl⟩
          go_wp2_with fail
          refine (H3.out _).mono ?_
          rintro e w2 ⟨rfl, rfl⟩
          go_wp2_with fail
          refine (H4.out _).mono ?_
          rintro e w2 ⟨rfl, rfl⟩
          go_wp2_with fail
          refine (HLc2.out _).mono ?_
          rintro e w2 ⟨rfl, rfl⟩
          go_wp2_with fail
          refine (H5.out _).mono ?_
          rintro e w2 ⟨rfl, rfl⟩
          go_wp2_with fail
          refine (H6.out _ hb).mono ?_
          rintro e w3 ⟨rfl, hb3⟩
          go_wp2_with fail
          refine (H7.out _ hb3).mono ?_
          rintro e w4 ⟨rfl, hb4⟩
          go_wp2
          go_ret
          rw [HV.out]
          exact ⟨rfl, hb4⟩
end Sc
end Go.Proofs.YtnpaagglnfocpaaGreatDoor
