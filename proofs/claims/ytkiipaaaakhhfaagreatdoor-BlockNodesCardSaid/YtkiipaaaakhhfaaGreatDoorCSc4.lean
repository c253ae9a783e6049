import Derived.Test.YtkiipaaaakhhfaaGreatDoorCSc3
section
namespace Go.Proofs.YtkiipaaaakhhfaaGreatDoor
open Go Go.RowKit
namespace Sc
set_option maxRecDepth 100000
set_option linter.unusedVariables false
set_option linter.unusedSimpArgs false
set_option maxHeartbeats 2000000 in
theorem begKnown_any (s : ByteArray) (w : World) (hs : s.size ≤ 1000000) (hL : Ks.Laid w) :
  Calls Tryz.prog 134 #[.string s] w fun e w' => e = .returned (.bool (knownP s.data.toList)) ∧ Below w.heap.size w w' := by
 obtain ⟨N, hN⟩ := ba_mk (tagName s.data.toList).1
 obtain ⟨R, hR⟩ := ba_mk (tagName s.data.toList).2
 have HV : Hid (knownP s.data.toList = (blocksL.contains N.data.toList && (atE R.data.toList || headIs R.data.toList 62 || Lib.hasPrefix R.data.toList [47, 62]))) := Lib.hid (by unfold knownP; rw [hN, hR]; rfl)
 have HCut := Lib.hid (cutTag_any hN hR w hs hL)
 have HI := Lib.hid (isKnown_any N)
 have HA := Lib.hid (atEnd_any R)
 have HX := Lib.hid (pre_any R ⟨#[47, 62]⟩)
 rw [show (⟨#[47, 62]⟩ : ByteArray).data.toList = [47, 62] from rfl] at HX
 have HP : Hid (atE R.data.toList = false → ∃ c, (∃ h : 0 < R.size, R[0] = c) ∧ headIs R.data.toList 62 = (c == 62)) := Lib.hid (fun h => headIs_at (atE_pos h) h)
 clear hN hR
 generalize blocksL.contains N.data.toList = b1 at *
 generalize atE R.data.toList = b2 at *
 generalize Lib.hasPrefix R.data.toList [47, 62] = b4 at *
 cases b1 with
 | false =>
  go_enter Tryz.func134, Tryz.ntmps134
  go_wp2_with fail
  refine HCut.out.mono ?_
  rintro e w1 ⟨rfl, hb⟩
  go_wp2_with fail
  refine (HI.out _).mono ?_
  rintro e w2 ⟨rfl, rfl⟩
  go_wp2
  go_ret
  rw [HV.out]
  exact ⟨rfl, hb⟩
 | true =>
 cases b2 with
 | true =>
  go_enter Tryz.func134, Tryz.ntmps134
  go_wp2_with fail
  refine HCut.out.mono ?_
  rintro e w1 ⟨rfl, hb⟩
  go_wp2_with fail
  refine (HI.out _).mono ?_
  rintro e w2 ⟨rfl, rfl⟩
  go_wp2_with fail
  refine (HA.out _).mono ?_
  rintro e w2 ⟨rfl, rfl⟩
  go_wp2
  go_ret
  rw [HV.out]
  exact ⟨rfl, hb⟩
 | false =>
  obtain ⟨c, ⟨h0, hck⟩, hh⟩ := HP.out rfl
  have hr0 : (0 : Int) < (R.size : Int) := by omega
  have e62 : ((c.toNat : Int) == 62) = (c == 62) := eq_u8 c 62 (by decide)
  rw [hh] at HV
  clear hh HP
  generalize (c == 62) = b3 at *
  cases b3 with
  | true =>
   go_enter Tryz.func134, Tryz.ntmps134
   go_wp2_with fail
   refine HCut.out.mono ?_
   rintro e w1 ⟨rfl, hb⟩
   go_wp2_with fail
   refine (HI.out _).mono ?_
   rintro e w2 ⟨rfl, rfl⟩
   go_wp2_with fail
   refine (HA.out _).mono ?_
   rintro e w2 ⟨rfl, rfl⟩
   go_wp2
   go_ret
   rw [HV.out]
   exact ⟨rfl, hb⟩
  | false =>
   go_enter Tryz.func134, Tryz.ntmps134
   go_wp2_with fail
   refine HCut.out.mono ?_
   rintro e w1 ⟨rfl, hb⟩
   go_wp2_with fail
   refine (HI.out _).mono ?_
   rintro e w2 ⟨rfl, rfl⟩
   go_wp2_with fail
   refine (HA.out _).mono ?_
   rintro e w2 ⟨rfl, rfl⟩
   go_wp2_with fail
   refine (HX.out _).mono ?_
   rintro e w2 ⟨rfl, rfl⟩
   go_wp2
   go_ret
   rw [HV.out]
   exact ⟨rfl, hb⟩
set_option maxHeartbeats 2000000 in
theorem isOther_any (s : ByteArray) (w : World) (hs : s.size ≤ 1000000) (hL : Ks.Laid w) :
  Calls Tryz.prog 135 #[.string s] w fun e w' => e = .returned (.bool (otherP s.data.toList)) ∧ Below w.heap.size w w' := by
 obtain ⟨N, hN⟩ := ba_mk (tagName s.data.toList).1
 obtain ⟨R, hR⟩ := ba_mk (tagName s.data.toList).2
 obtain ⟨K, hK⟩ : ∃ K, tagN s.data.toList = K := ⟨_, rfl⟩
 have hks : K ≤ s.size := by rw [← hK, ← sz]; exact tagN_le _
 have HV : Hid (otherP s.data.toList = (!N.toList.isEmpty && !rawsL.contains N.data.toList && (decide (0 < K) && (s.data.toList.drop K).all blk))) := Lib.hid (by unfold otherP; rw [hN, hK, toList_eq])
 have HCut := Lib.hid (cutTag_any hN hR w hs hL)
 have HI := Lib.hid (isVerbatim_any N)
 have HT := Lib.hid (fun w => tag_any s w hs)
 rw [hK] at HT
 have HO := Lib.hid (fun w => only_any (s.extract K s.size) w (by rw [ext_size]; omega))
 rw [ext_rest] at HO
 have hks' : (K : Int) ≤ (s.size : Int) := by omega
 clear hN hR hK
 generalize hne : N.toList.isEmpty = b1 at *
 generalize rawsL.contains N.data.toList = b2 at *
 generalize (s.data.toList.drop K).all blk = b3 at *
 cases b1 with
 | true =>
  go_enter Tryz.func135, Tryz.ntmps135
  go_wp2_with fail
  refine HCut.out.mono ?_
  rintro e w1 ⟨rfl, hb⟩
  go_wp2
  go_ret
  rw [HV.out]
  exact ⟨rfl, hb⟩
 | false =>
 cases b2 with
 | true =>
  go_enter Tryz.func135, Tryz.ntmps135
  go_wp2_with fail
  refine HCut.out.mono ?_
  rintro e w1 ⟨rfl, hb⟩
  go_wp2_with fail
  refine (HI.out _).mono ?_
  rintro e w2 ⟨rfl, rfl⟩
  go_wp2
  go_ret
  rw [HV.out]
  exact ⟨rfl, hb⟩
 | false =>
  by_cases hk0 : 0 < K
  ·have hk0' : (0 : Int) < (K : Int) := by omega
   rw [decide_eq_true hk0] at HV
   clear hk0
   go_enter Tryz.func135, Tryz.ntmps135
   go_wp2_with fail
   refine HCut.out.mono ?_
   rintro e w1 ⟨rfl, hb⟩
   go_wp2_with fail
   refine (HI.out _).mono ?_
   rintro e w2 ⟨rfl, rfl⟩
   go_wp2_with fail
   refine (HT.out _).mono ?_
   rintro e w3 ⟨rfl, hb3⟩
   go_wp2_with fail
   refine (HO.out _).mono ?_
   rintro e w4 ⟨rfl, hb4⟩
   go_wp2
   go_ret
   rw [HV.out]
   have h13 := hb.trans (hb3.mono hb.size)
   exact ⟨ret_bool' (by simp), h13.trans (hb4.mono h13.size)⟩
  ·have hk0' : ¬ (0 : Int) < (K : Int) := by omega
   rw [decide_eq_false hk0] at HV
   clear hk0
   go_enter Tryz.func135, Tryz.ntmps135
   go_wp2_with fail
   refine HCut.out.mono ?_
   rintro e w1 ⟨rfl, hb⟩
   go_wp2_with fail
   refine (HI.out _).mono ?_
   rintro e w2 ⟨rfl, rfl⟩
   go_wp2_with fail
   refine (HT.out _).mono ?_
   rintro e w3 ⟨rfl, hb3⟩
   go_wp2
   go_ret
   rw [HV.out]
   exact ⟨ret_bool' (by simp), hb.trans (hb3.mono hb.size)⟩
set_option maxHeartbeats 8000000 in
theorem html_any (s : ByteArray) (w : World) (hs : s.size ≤ 1000000) (hL : Ks.Laid w) :
  Calls Tryz.prog 103 #[.string s] w fun e w' => e = .returned (.int .i64 (htmlS s.data.toList : Nat)) ∧ Below w.heap.size w w' := by
 have H1 := Lib.hid (begVer_any s w hs hL)
 have H2 := Lib.hid (pre_any s ⟨#[60, 33, 45, 45]⟩)
 have H3 := Lib.hid (pre_any s ⟨#[60, 63]⟩)
 have H4 := Lib.hid (pre_any s ⟨#[60, 33]⟩)
 have H5 := Lib.hid (pre_any s ⟨#[60, 33, 91, 67, 68, 65, 84, 65, 91]⟩)
 rw [show (⟨#[60, 33, 45, 45]⟩ : ByteArray).data.toList = [60, 33, 45, 45] from rfl] at H2
 rw [show (⟨#[60, 63]⟩ : ByteArray).data.toList = [60, 63] from rfl] at H3
 rw [show (⟨#[60, 33]⟩ : ByteArray).data.toList = [60, 33] from rfl] at H4
 rw [show (⟨#[60, 33, 91, 67, 68, 65, 84, 65, 91]⟩ : ByteArray).data.toList = [60, 33, 91, 67, 68, 65, 84, 65, 91] from rfl] at H5
 have H6 : Hid (∀ W, Below w.heap.size w W → Calls Tryz.prog 134 #[.string s] W fun e w' => e = .returned (.bool (knownP s.data.toList)) ∧ Below w.heap.size w w') := Lib.hid (fun W hW => (begKnown_any s W hs (hL.below hW)).mono fun e w' ⟨a, b⟩ => ⟨a, hW.trans (b.mono hW.size)⟩)
 have H7 : Hid (∀ W, Below w.heap.size w W → Calls Tryz.prog 135 #[.string s] W fun e w' => e = .returned (.bool (otherP s.data.toList)) ∧ Below w.heap.size w w') := Lib.hid (fun W hW => (isOther_any s W hs (hL.below hW)).mono fun e w' ⟨a, b⟩ => ⟨a, hW.trans (b.mono hW.size)⟩)
 have HV : Hid (htmlS s.data.toList = if verP s.data.toList = true then 1 else if Lib.hasPrefix s.data.toList [60, 33, 45, 45] = true then 2 else if Lib.hasPrefix s.data.toList [60, 63] = true then 3 else if (Lib.hasPrefix s.data.toList [60, 33] && isLet s.data.toList[2]?) = true then 4
  else if Lib.hasPrefix s.data.toList [60, 33, 91, 67, 68, 65, 84, 65, 91] = true then 5 else if knownP s.data.toList = true then 6 else if otherP s.data.toList = true then 7 else 0) := Lib.hid rfl
 have HLet : Hid ((¬ (2 : Int) < (s.size : Int) ∧ isLet s.data.toList[2]? = false) ∨ ∃ c : UInt8, (2 : Int) < (s.size : Int) ∧ (∃ h : 2 < s.size, s[2] = c) ∧ isLet s.data.toList[2]? = letU c) := Lib.hid (by
  by_cases h2 : 2 < s.size
  ·right
   refine ⟨s[2], by omega, ⟨h2, rfl⟩, ?_⟩
   rw [List.getElem?_eq_getElem (by rw [sz]; exact h2)]
   rfl
  ·left
   refine ⟨by omega, ?_⟩
   rw [List.getElem?_eq_none (by rw [sz]; omega)]
   rfl)
 have HLc := Lib.hid (does_letter.2)
 clear hL
 generalize verP s.data.toList = b1 at *
 generalize Lib.hasPrefix s.data.toList [60, 33, 45, 45] = b2 at *
 generalize Lib.hasPrefix s.data.toList [60, 63] = b3 at *
 generalize Lib.hasPrefix s.data.toList [60, 33] = p4 at *
 generalize isLet s.data.toList[2]? = l4 at *
 generalize Lib.hasPrefix s.data.toList [60, 33, 91, 67, 68, 65, 84, 65, 91] = b5 at *
 generalize knownP s.data.toList = b6 at *
 generalize otherP s.data.toList = b7 at *
 cases b1 with
 | true =>
  go_enter Tryz.func103, Tryz.ntmps103
  go_wp2_with fail
  refine H1.out.mono ?_
  rintro e w1 ⟨rfl, hb⟩
  go_wp2
  go_ret
  rw [HV.out]
  exact ⟨rfl, hb⟩
 | false =>
 cases b2 with
 | true =>
  go_enter Tryz.func103, Tryz.ntmps103
  go_wp2_with fail
  refine H1.out.mono ?_
  rintro e w1 ⟨rfl, hb⟩
  go_wp2_with fail
  refine (H2.out _).mono ?_
  rintro e w2 ⟨rfl, rfl⟩
  go_wp2
  go_ret
  rw [HV.out]
  exact ⟨rfl, hb⟩
 | false =>
 cases b3 with
 | true =>
  go_enter Tryz.func103, Tryz.ntmps103
  go_wp2_with fail
  refine H1.out.mono ?_
  rintro e w1 ⟨rfl, hb⟩
  go_wp2_with fail
  refine (H2.out _).mono ?_
  rintro e w2 ⟨rfl, rfl⟩
  go_wp2_with fail
  refine (H3.out _).mono ?_
  rintro e w2 ⟨rfl, rfl⟩
  go_wp2
  go_ret
  rw [HV.out]
  exact ⟨rfl, hb⟩
 | false =>
 cases p4 with
 | false =>
  cases b5 with
  | true =>
   go_enter Tryz.func103, Tryz.ntmps103
   go_wp2_with fail
   refine H1.out.mono ?_
   rintro e w1 ⟨rfl, hb⟩
   go_wp2_with fail
   refine (H2.out _).mono ?_
   rintro e w2 ⟨rfl, rfl⟩
   go_wp2_with fail
   refine (H3.out _).mono ?_
   rintro e w2 ⟨rfl, rfl⟩
   go_wp2_with fail
   refine (H4.out _).mono ?_
   rintro e w2 ⟨rfl, rfl⟩
   go_wp2_with fail
   refine (H5.out _).mono ?_
   rintro e w2 ⟨rfl, rfl⟩
   go_wp2
   go_ret
   rw [HV.out]
   exact ⟨rfl, hb⟩
  | false =>
  cases b6 with
  | true =>
   go_enter Tryz.func103, Tryz.ntmps103
   go_wp2_with fail
   refine H1.out.mono ?_
   rintro e w1 ⟨rfl, hb⟩
   go_wp2_with fail
   refine (H2.out _).mono ?_
   rintro e w2 ⟨rfl, rfl⟩
   go_wp2_with fail
   refine (H3.out _).mono ?_
   rintro e w2 ⟨rfl, rfl⟩
   go_wp2_with fail
   refine (H4.out _).mono ?_
   rintro e w2 ⟨rfl, rfl⟩
   go_wp2_with fail
   refine (H5.out _).mono ?_
   rintro e w2 ⟨rfl, rfl⟩
   go_wp2_with fail
   refine (H6.out _ hb).mono ?_
   rintro e w3 ⟨rfl, hb3⟩
   go_wp2
   go_ret
   rw [HV.out]
   exact ⟨rfl, hb3⟩
  | false =>
  cases b7 with
  | true =>
   go_enter Tryz.func103, Tryz.ntmps103
   go_wp2_with fail
   refine H1.out.mono ?_
   rintro e w1 ⟨rfl, hb⟩
   go_wp2_with fail
   refine (H2.out _).mono ?_
   rintro e w2 ⟨rfl, rfl⟩
   go_wp2_with fail
   refine (H3.out _).mono ?_
   rintro e w2 ⟨rfl, rfl⟩
   go_wp2_with fail
   refine (H4.out _).mono ?_
   rintro e w2 ⟨rfl, rfl⟩
   go_wp2_with fail
   refine (H5.out _).mono ?_
   rintro e w2 ⟨rfl, rfl⟩
   go_wp2_with fail
   refine (H6.out _ hb).mono ?_
   rintro e w3 ⟨rfl, hb3⟩
   go_wp2_with fail
   refine (H7.out _ hb3).mono ?_
   rintro e w4 ⟨rfl, hb4⟩
   go_wp2
   go_ret
   rw [HV.out]
   exact ⟨rfl, hb4⟩
  | false =>
   go_enter Tryz.func103, Tryz.ntmps103
   go_wp2_with fail
   refine H1.out.mono ?_
   rintro e w1 ⟨rfl, hb⟩
   go_wp2_with fail
   refine (H2.out _).mono ?_
   rintro e w2 ⟨rfl, rfl⟩
   go_wp2_with fail
   refine (H3.out _).mono ?_
   rintro e w2 ⟨rfl, rfl⟩
   go_wp2_with fail
   refine (H4.out _).mono ?_
   rintro e w2 ⟨rfl, rfl⟩
   go_wp2_with fail
   refine (H5.out _).mono ?_
   rintro e w2 ⟨rfl, rfl⟩
   go_wp2_with fail
   refine (H6.out _ hb).mono ?_
   rintro e w3 ⟨rfl, hb3⟩
   go_wp2_with fail
   refine (H7.out _ hb3).mono ?_
   rintro e w4 ⟨rfl, hb4⟩
   go_wp2
   go_ret
   rw [HV.out]
   exact ⟨rfl, hb4⟩
 | true =>
  rcases HLet.out with ⟨hx, hl⟩ | ⟨c, hx, ⟨hx2, hck⟩, hl⟩
  ·rw [hl] at HV
   clear hl HLet
   cases b5 with
   | true =>
    go_enter Tryz.func103, Tryz.ntmps103
    go_wp2_with fail
    refine H1.out.mono ?_
    rintro e w1 ⟨rfl, hb⟩
    go_wp2_with fail
    refine (H2.out _).mono ?_
    rintro e w2 ⟨rfl, rfl⟩
    go_wp2_with fail
    refine (H3.out _).mono ?_
    rintro e w2 ⟨rfl, rfl⟩
    go_wp2_with fail
    refine (H4.out _).mono ?_
    rintro e w2 ⟨rfl, rfl⟩
    go_wp2_with fail
    refine (H5.out _).mono ?_
    rintro e w2 ⟨rfl, rfl⟩
    go_wp2
    go_ret
    rw [HV.out]
    exact ⟨rfl, hb⟩
   | false =>
   cases b6 with
   | true =>
    go_enter Tryz.func103, Tryz.ntmps103
    go_wp2_with fail
    refine H1.out.mono ?_
    rintro e w1 ⟨rfl, hb⟩
    go_wp2_with fail
    refine (H2.out _).mono ?_
    rintro e w2 ⟨rfl, rfl⟩
    go_wp2_with fail
    refine (H3.out _).mono ?_
    rintro e w2 ⟨rfl, rfl⟩
    go_wp2_with fail
    refine (H4.out _).mono ?_
    rintro e w2 ⟨rfl, rfl⟩
    go_wp2_with fail
    refine (H5.out _).mono ?_
    rintro e w2 ⟨rfl, rfl⟩
    go_wp2_with fail
    refine (H6.out _ hb).mono ?_
    rintro e w3 ⟨rfl, hb3⟩
    go_wp2
    go_ret
    rw [HV.out]
    exact ⟨rfl, hb3⟩
   | false =>
   cases b7 with
   | true =>
    go_enter Tryz.func103, Tryz.ntmps103
    go_wp2_with fail
    refine H1.out.mono ?_
    rintro e w1 ⟨rfl, hb⟩
    go_wp2_with fail
    refine (H2.out _).mono ?_
    rintro e w2 ⟨rfl, rfl⟩
    go_wp2_with fail
    refine (H3.out _).mono ?_
    rintro e w2 ⟨rfl, rfl⟩
    go_wp2_with fail
    refine (H4.out _).mono ?_
    rintro e w2 ⟨rfl, rfl⟩
    go_wp2_with fail
    refine (H5.out _).mono ?_
    rintro e w2 ⟨rfl, rfl⟩
    go_wp2_with fail
    refine (H6.out _ hb).mono ?_
    rintro e w3 ⟨rfl, hb3⟩
    go_wp2_with fail
    refine (H7.out _ hb3).mono ?_
    rintro e w4 ⟨rfl, hb4⟩
    go_wp2
    go_ret
    rw [HV.out]
    exact ⟨rfl, hb4⟩
   | false =>
    go_enter Tryz.func103, Tryz.ntmps103
    go_wp2_with fail
    refine H1.out.mono ?_
    rintro e w1 ⟨rfl, hb⟩
    go_wp2_with fail
    refine (H2.out _).mono ?_
    rintro e w2 ⟨rfl, rfl⟩
    go_wp2_with fail
    refine (H3.out _).mono ?_
    rintro e w2 ⟨rfl, rfl⟩
    go_wp2_with fail
    refine (H4.out _).mono ?_
    rintro e w2 ⟨rfl, rfl⟩
    go_wp2_with fail
    refine (H5.out _).mono ?_
    rintro e w2 ⟨rfl, rfl⟩
    go_wp2_with fail
    refine (H6.out _ hb).mono ?_
    rintro e w3 ⟨rfl, hb3⟩
    go_wp2_with fail
    refine (H7.out _ hb3).mono ?_
    rintro e w4 ⟨rfl, hb4⟩
    go_wp2
    go_ret
    rw [HV.out]
    exact ⟨rfl, hb4⟩
  ·rw [hl] at HV
   have HLc2 := Lib.hid (HLc.out c)
   clear hl HLet
   generalize letU c = l5 at *
   cases l5 with
   | true =>
    go_enter Tryz.func103, Tryz.ntmps103
    go_wp2_with fail
    refine H1.out.mono ?_
    rintro e w1 ⟨rfl, hb⟩
    go_wp2_with fail
    refine (H2.out _).mono ?_
    rintro e w2 ⟨rfl, rfl⟩
    go_wp2_with fail
    refine (H3.out _).mono ?_
    rintro e w2 ⟨rfl, rfl⟩
    go_wp2_with fail
    refine (H4.out _).mono ?_
    rintro e w2 ⟨rfl, rfl⟩
    go_wp2_with fail
    refine (HLc2.out _).mono ?_
    rintro e w2 ⟨rfl, rfl⟩
    go_wp2
    go_ret
    rw [HV.out]
    exact ⟨rfl, hb⟩
   | false =>
    cases b5 with
    | true =>
     go_enter Tryz.func103, Tryz.ntmps103
     go_wp2_with fail
     refine H1.out.mono ?_
     rintro e w1 ⟨rfl, hb⟩
     go_wp2_with fail
     refine (H2.out _).mono ?_
     rintro e w2 ⟨rfl, rfl⟩
     go_wp2_with fail
     refine (H3.out _).mono ?_
     rintro e w2 ⟨rfl, rfl⟩
     go_wp2_with fail
     refine (H4.out _).mono ?_
     rintro e w2 ⟨rfl, rfl⟩
     go_wp2_with fail
     refine (HLc2.out _).mono ?_
     rintro e w2 ⟨rfl, rfl⟩
     go_wp2_with fail
     refine (H5.out _).mono ?_
     rintro e w2 ⟨rfl, rfl⟩
     go_wp2
     go_ret
     rw [HV.out]
     exact ⟨rfl, hb⟩
    | false =>
    cases b6 with
    | true =>
     go_enter Tryz.func103, Tryz.ntmps103
     go_wp2_with fail
     refine H1.out.mono ?_
     rintro e w1 ⟨rfl, hb⟩
     go_wp2_with fail
     refine (H2.out _).mono ?_
     rintro e w2 ⟨rfl, rfl⟩
     go_wp2_with fail
     refine (H3.out _).mono ?_
     rintro e w2 ⟨rfl, rfl⟩
     go_wp2_with fail
     refine (H4.out _).mono ?_
     rintro e w2 ⟨rfl, rfl⟩
     go_wp2_with fail
     refine (HLc2.out _).mono ?_
     rintro e w2 ⟨rfl, rfl⟩
     go_wp2_with fail
     refine (H5.out _).mono ?_
     rintro e w2 ⟨rfl, rfl⟩
     go_wp2_with fail
     refine (H6.out _ hb).mono ?_
     rintro e w3 ⟨rfl, hb3⟩
     go_wp2
     go_ret
     rw [HV.out]
     exact ⟨rfl, hb3⟩
    | false =>
    cases b7 with
    | true =>
     go_enter Tryz.func103, Tryz.ntmps103
     go_wp2_with fail
     refine H1.out.mono ?_
     rintro e w1 ⟨rfl, hb⟩
     go_wp2_with fail
     refine (H2.out _).mono ?_
     rintro e w2 ⟨rfl, rfl⟩
     go_wp2_with fail
     refine (H3.out _).mono ?_
     rintro e w2 ⟨rfl, rfl⟩
     go_wp2_with fail
     refine (H4.out _).mono ?_
     rintro e w2 ⟨rfl, rfl⟩
     go_wp2_with fail
     refine (HLc2.out _).mono ?_
     rintro e w2 ⟨rfl, rfl⟩
     go_wp2_with fail
     refine (H5.out _).mono ?_
     rintro e w2 ⟨rfl, rfl⟩
     go_wp2_with fail
     refine (H6.out _ hb).mono ?_
     rintro e w3 ⟨rfl, hb3⟩
     go_wp2_with fail
     refine (H7.out _ hb3).mono ?_
     rintro e w4 ⟨rfl, hb4⟩
     go_wp2
     go_ret
     rw [HV.out]
     exact ⟨rfl, hb4⟩
    | false =>
     go_enter Tryz.func103, Tryz.ntmps103
     go_wp2_with fail
     refine H1.out.mono ?_
     rintro e w1 ⟨rfl, hb⟩
     go_wp2_with fail
     refine (H2.out _).mono ?_
     rintro e w2 ⟨rfl, rfl⟩
     go_wp2_with fail
     refine (H3.out _).mono ?_
     rintro e w2 ⟨rfl, rfl⟩
     go_wp2_with fail
     refine (H4.out _).mono ?_
     rintro e w2 ⟨rfl, rfl⟩
     go_wp2_with fail
     refine (HLc2.out _).mono ?_
     rintro e w2 ⟨rfl, rfl⟩
     go_wp2_with fail
     refine (H5.out _).mono ?_
     rintro e w2 ⟨rfl, rfl⟩
     go_wp2_with fail
     refine (H6.out _ hb).mono ?_
     rintro e w3 ⟨rfl, hb3⟩
     go_wp2_with fail
     refine (H7.out _ hb3).mono ?_
     rintro e w4 ⟨rfl, hb4⟩
     go_wp2
     go_ret
     rw [HV.out]
     exact ⟨rfl, hb4⟩
end Sc
end Go.Proofs.YtkiipaaaakhhfaaGreatDoor
end
section
namespace Go.Proofs.YtkiipaaaakhhfaaGreatDoor
open Go Go.RowKit
namespace Sc
set_option maxRecDepth 100000
set_option linter.unusedVariables false
set_option linter.unusedSimpArgs false
def BA (w : World) (g : Nat) (l : List UInt8) : Prop := ∃ (cs : Array Value) (lo hi : Nat), w.heap[g]? = some (.cells cs 5 (lo, hi)) ∧ l.length ≤ lo ∧ ∀ i (h : i < l.length), cs[i]? = some (.int .u8 (l[i].toNat : Int))
theorem BA.cell {w : World} {g : Nat} {l : List UInt8} (h : BA w g l) {i : Nat} {c : UInt8} (hi : l[i]? = some c) : w.cell? ⟨g, i, none⟩ = some (.int .u8 (c.toNat : Int)) := by
 obtain ⟨cs, lo, hi2, hb, _, hc⟩ := h
 obtain ⟨h1, h2⟩ := List.getElem?_eq_some_iff.1 hi
 have := hc i h1
 rw [h2] at this
 simp [World.cell?, hb, this]
theorem BA.fr {w : World} {g : Nat} {l : List UInt8} (h : BA w g l) {i : Nat} (hi : i < l.length) : w.frozen? ⟨g, i, none⟩ = false := by
 obtain ⟨cs, lo, hi2, hb, hlo, _⟩ := h
 simp [World.frozen?, hb]
 omega
theorem BA.set {w : World} {g : Nat} {l : List UInt8} (h : BA w g l) (i : Nat) (c : UInt8) (hi : i < l.length) : BA (w.setCell ⟨g, i, none⟩ (.int .u8 (c.toNat : Int))) g (l.set i c) := by
 obtain ⟨cs, lo, hi2, hb, hlo, hc⟩ := h
 refine ⟨cs.setIfInBounds i (.int .u8 (c.toNat : Int)), lo, hi2, ?_, by rw [List.length_set]; exact hlo, ?_⟩
 ·simp only [World.setCell, Array.getElem?_modify, if_pos, hb, Option.map_some]
  rfl
 ·intro j hj
  rw [List.length_set] at hj
  have hcs : i < cs.size := (Array.getElem?_eq_some_iff.1 (hc i hi)).1
  by_cases hij : i = j
  ·subst hij
   rw [Array.getElem?_setIfInBounds_self_of_lt hcs]
   simp
  ·rw [Array.getElem?_setIfInBounds_ne hij, hc j hj]
   simp [List.getElem_set_ne hij]
theorem BA.lt {w : World} {g : Nat} {l : List UInt8} (h : BA w g l) : g < w.heap.size := by
 obtain ⟨cs, lo, hi2, hb, _⟩ := h
 exact lt_of_block hb
def SB (w : World) (g : Nat) (L : List (List UInt8)) (n : Nat) : Prop := L.length = n ∧ ∃ fr, w.heap[g]? = some (.cells (L.map (fun l => Value.string ⟨l.toArray⟩)).toArray 9 fr)
theorem SB.cell {w : World} {g n : Nat} {L : List (List UInt8)} (h : SB w g L n) {i : Nat} {l : List UInt8} (hi : L[i]? = some l) : w.cell? ⟨g, i, none⟩ = some (.string ⟨l.toArray⟩) := by
 obtain ⟨_, fr, hb⟩ := h
 simp [World.cell?, hb, hi]
theorem SB.below {w w' : World} {g n : Nat} {L : List (List UInt8)} (h : SB w g L n) (hB : Below w.heap.size w w') : SB w' g L n := by
 obtain ⟨hn, fr, hb⟩ := h
 exact ⟨hn, fr, (hB.block g (lt_of_block hb)).trans hb⟩
end Sc
end Go.Proofs.YtkiipaaaakhhfaaGreatDoor
end
section
namespace Go.Proofs.YtkiipaaaakhhfaaGreatDoor
open Go Go.RowKit
namespace Sc
set_option maxRecDepth 100000
set_option linter.unusedVariables false
set_option linter.unusedSimpArgs false
structure LaidS (w : World) : Prop where
 caps : Ks.Laid w
 most : ∃ m, w.cell? ⟨0, 0, none⟩ = some (.int .i64 m)
theorem LaidS.below {w w' : World} (h : LaidS w) (hB : Below w.heap.size w w') : LaidS w' := by
 refine ⟨h.caps.below hB, ?_⟩
 obtain ⟨m, hm⟩ := h.most
 exact ⟨m, (hB.cell (p := ⟨0, 0, none⟩) (Tx.cell_lt hm)).trans hm⟩
theorem contains_any (s sub : ByteArray) (w : World) (hs : s.size ≤ 1000000) (hL : LaidS w) :
  Calls Tryz.prog 126 #[.string s, .string sub] w fun e w' => e = .returned (.bool (Lib.contains s.data.toList sub.data.toList)) ∧ w = w' := by
 obtain ⟨m, hm⟩ := hL.most
 exact (Tryz.strings_Contains s sub m w (by omega) hm).mono fun _ _ ⟨a, b⟩ => ⟨a, b.symm⟩
theorem pre_head (r : List UInt8) (c : UInt8) : Lib.hasPrefix r [c] = headIs r c := by
 rw [(cutP_pre c r).1]
 cases r with
 | nil => rfl
 | cons x t =>
  by_cases h : x = c
  ·subst h; rw [sgn_self]; simp [headIs]
  ·rw [sgn_no t h]
   have : (x == c) = false := by rw [beq_eq_false_iff_ne]; exact h
   simp [headIs, this]
set_option maxHeartbeats 4000000 in
theorem endVer_any (s : ByteArray) (w : World) (hs : s.size ≤ 1000000) (hL : LaidS w) :
  Calls Tryz.prog 125 #[.string s] w fun e w' => e = .returned (.bool (anyC s.data.toList)) ∧ Below w.heap.size w w' := by
 have HL := Lib.hid hL
 clear hL
 go_enter Tryz.func125, Tryz.ntmps125
 go_wp2_with fail
 go_loopg [0] s.size (fun G v0 wr => ∃ S : ByteArray, v0 = .string S ∧ Hid (S.size = G) ∧ Hid (S.size ≤ 1000000) ∧ Hid (anyC s.data.toList = anyC S.data.toList) ∧ Hid (Below w.heap.size w wr))
 case atStart => exact ⟨s, rfl, Lib.hid rfl, Lib.hid hs, Lib.hid rfl, Lib.hid (Below.refl _ _)⟩
 case round =>
  obtain ⟨S, rfl, HG, HS, HA, HB⟩ := hrel
  have hSs := HS.out
  have hb := HB.out
  have HLr := Lib.hid (HL.out.below hb)
  obtain ⟨m, hmc⟩ := HLr.out.most
  have HC := Lib.hid (Tryz.strings_Cut S ⟨#[60, 47]⟩ m wr (by omega) hmc)
  rw [show (⟨#[60, 47]⟩ : ByteArray).data.toList = [60, 47] from rfl] at HC
  have hcut := cut_any S.data.toList
  obtain ⟨B, hB⟩ := ba_mk (Lib.cut S.data.toList [60, 47]).1
  obtain ⟨D, hD⟩ := ba_mk (Lib.cut S.data.toList [60, 47]).2.1
  rw [hB, hD, ba_self, ba_self] at HC
  rw [hD] at hcut
  clear hmc hB hD
  generalize hok : (Lib.cut S.data.toList [60, 47]).2.2 = ok at *
  cases ok with
  | false =>
   have HV : Hid (anyC s.data.toList = false) := Lib.hid (by
    rw [HA.out]
    rcases hcut with ⟨_, h⟩ | ⟨h, _⟩
    ·exact h
    ·cases h)
   clear hcut hok
   go_wp2_with fail
   refine HC.out.mono ?_
   rintro e w1 ⟨rfl, n, rfl⟩
   go_wp2
   go_ret
   rw [HV.out]
   exact ⟨rfl, below_drewN' HB.out n⟩
  | true =>
   obtain ⟨hle, hany⟩ : D.data.toList.length + 2 ≤ S.data.toList.length ∧ anyC S.data.toList = (closeT D.data.toList || anyC D.data.toList) := by
    rcases hcut with ⟨h, _⟩ | ⟨_, h⟩
    ·cases h
    ·exact h
   rw [sz, sz] at hle
   obtain ⟨N, hN⟩ := ba_mk (low (nameS D.data.toList).1)
   obtain ⟨R, hR⟩ := ba_mk (nameS D.data.toList).2
   have hRs := cut_size hR
   have HV : Hid (anyC s.data.toList = (rawsL.contains N.data.toList && headIs R.data.toList 62 || anyC R.data.toList)) := Lib.hid (by
    rw [HA.out, hany, any_rest D.data.toList, hR]
    unfold closeT
    rw [hN, hR])
   have HCut : Hid (∀ W, Below w.heap.size w W → Calls Tryz.prog 149 #[.string D] W fun e w' => e = .returned (.tuple #[.string N, .string R]) ∧ Below w.heap.size w w') := Lib.hid (fun W hW => (cut_at hN hR W (by omega) (HL.out.below hW).caps).mono fun e w' ⟨a, b⟩ => ⟨a, hW.trans (b.mono hW.size)⟩)
   have HI := Lib.hid (isVerbatim_any N)
   have HP := Lib.hid (pre_any R ⟨#[62]⟩)
   rw [show (⟨#[62]⟩ : ByteArray).data.toList = [62] from rfl, pre_head] at HP
   have HRS : Hid (R.size < S.size ∧ R.size ≤ 1000000) := Lib.hid (by omega)
   clear hcut hok hle hany hN hR hRs
   generalize rawsL.contains N.data.toList = b1 at *
   generalize headIs R.data.toList 62 = b2 at *
   cases b1 with
   | false =>
    go_wp2_with fail
    refine HC.out.mono ?_
    rintro e w1 ⟨rfl, n, rfl⟩
    go_wp2_with fail
    refine (HCut.out _ (below_drewN' HB.out n)).mono ?_
    rintro e w2 ⟨rfl, hb2⟩
    go_wp2_with fail
    refine (HI.out _).mono ?_
    rintro e w3 ⟨rfl, rfl⟩
    go_wp2
    go_roundg R.size
    case rel => exact ⟨R, rfl, Lib.hid rfl, Lib.hid HRS.out.2, Lib.hid HV.out, Lib.hid hb2⟩
    case measure => have := HRS.out.1; have := HG.out; omega
   | true =>
   cases b2 with
   | true =>
    go_wp2_with fail
    refine HC.out.mono ?_
    rintro e w1 ⟨rfl, n, rfl⟩
    go_wp2_with fail
    refine (HCut.out _ (below_drewN' HB.out n)).mono ?_
    rintro e w2 ⟨rfl, hb2⟩
    go_wp2_with fail
    refine (HI.out _).mono ?_
    rintro e w3 ⟨rfl, rfl⟩
    go_wp2_with fail
    refine (HP.out _).mono ?_
    rintro e w3 ⟨rfl, rfl⟩
    go_wp2
    go_ret
    rw [HV.out]
    exact ⟨rfl, hb2⟩
   | false =>
    go_wp2_with fail
    refine HC.out.mono ?_
    rintro e w1 ⟨rfl, n, rfl⟩
    go_wp2_with fail
    refine (HCut.out _ (below_drewN' HB.out n)).mono ?_
    rintro e w2 ⟨rfl, hb2⟩
    go_wp2_with fail
    refine (HI.out _).mono ?_
    rintro e w3 ⟨rfl, rfl⟩
    go_wp2_with fail
    refine (HP.out _).mono ?_
    rintro e w3 ⟨rfl, rfl⟩
    go_wp2
    go_roundg R.size
    case rel => exact ⟨R, rfl, Lib.hid rfl, Lib.hid HRS.out.2, Lib.hid HV.out, Lib.hid hb2⟩
    case measure => have := HRS.out.1; have := HG.out; omega
theorem kinds_all (k : Int) : k = 1 ∨ k = 2 ∨ k = 3 ∨ k = 4 ∨ k = 5 ∨ (k = 6 ∨ k = 7) ∨ (¬ k = 1 ∧ ¬ k = 2 ∧ ¬ k = 3 ∧ ¬ k = 4 ∧ ¬ k = 5 ∧ ¬ k = 6 ∧ ¬ k = 7) := by omega
set_option maxHeartbeats 2000000 in
theorem htmlEnds_any (s : ByteArray) (kind : Int) (w : World) (hs : s.size ≤ 1000000) (hL : LaidS w) :
  Calls Tryz.prog 96 #[.string s, .int .i64 kind] w fun e w' => e = .returned (.bool (endsP s.data.toList kind)) ∧ Below w.heap.size w w' := by
 rcases kinds_all kind with rfl | rfl | rfl | rfl | rfl | (rfl | rfl) | ⟨k1, k2, k3, k4, k5, k6, k7⟩
 ·have H := Lib.hid (endVer_any s w hs hL)
  clear hL
  go_enter Tryz.func96, Tryz.ntmps96
  go_wp2_with fail
  refine H.out.mono ?_
  rintro e w1 ⟨rfl, hb⟩
  go_wp2
  go_ret
  exact ⟨rfl, hb⟩
 ·have H := Lib.hid (contains_any s ⟨#[45, 45, 62]⟩ w hs hL)
  rw [show (⟨#[45, 45, 62]⟩ : ByteArray).data.toList = [45, 45, 62] from rfl] at H
  clear hL
  go_enter Tryz.func96, Tryz.ntmps96
  go_wp2_with fail
  refine H.out.mono ?_
  rintro e w1 ⟨rfl, rfl⟩
  go_wp2
  go_ret
  exact ⟨rfl, Below.refl _ _⟩
 ·have H := Lib.hid (contains_any s ⟨#[63, 62]⟩ w hs hL)
  rw [show (⟨#[63, 62]⟩ : ByteArray).data.toList = [63, 62] from rfl] at H
  clear hL
  go_enter Tryz.func96, Tryz.ntmps96
  go_wp2_with fail
  refine H.out.mono ?_
  rintro e w1 ⟨rfl, rfl⟩
  go_wp2
  go_ret
  exact ⟨rfl, Below.refl _ _⟩
 ·have H := Lib.hid (contains_any s ⟨#[62]⟩ w hs hL)
  rw [show (⟨#[62]⟩ : ByteArray).data.toList = [62] from rfl] at H
  clear hL
  go_enter Tryz.func96, Tryz.ntmps96
  go_wp2_with fail
  refine H.out.mono ?_
  rintro e w1 ⟨rfl, rfl⟩
  go_wp2
  go_ret
  exact ⟨rfl, Below.refl _ _⟩
 ·have H := Lib.hid (contains_any s ⟨#[93, 93, 62]⟩ w hs hL)
  rw [show (⟨#[93, 93, 62]⟩ : ByteArray).data.toList = [93, 93, 62] from rfl] at H
  clear hL
  go_enter Tryz.func96, Tryz.ntmps96
  go_wp2_with fail
  refine H.out.mono ?_
  rintro e w1 ⟨rfl, rfl⟩
  go_wp2
  go_ret
  exact ⟨rfl, Below.refl _ _⟩
 ·have H := Lib.hid (only_any s w hs)
  have HV : Hid (endsP s.data.toList 6 = s.data.toList.all blk) := Lib.hid rfl
  clear hL
  generalize s.data.toList.all blk = b at *
  go_enter Tryz.func96, Tryz.ntmps96
  go_wp2_with fail
  refine H.out.mono ?_
  rintro e w1 ⟨rfl, hb⟩
  go_wp2
  go_ret
  rw [HV.out]
  exact ⟨rfl, hb⟩
 ·have H := Lib.hid (only_any s w hs)
  have HV : Hid (endsP s.data.toList 7 = s.data.toList.all blk) := Lib.hid rfl
  clear hL
  generalize s.data.toList.all blk = b at *
  go_enter Tryz.func96, Tryz.ntmps96
  go_wp2_with fail
  refine H.out.mono ?_
  rintro e w1 ⟨rfl, hb⟩
  go_wp2
  go_ret
  rw [HV.out]
  exact ⟨rfl, hb⟩
 ·have n1 : (kind == 1) = false := by simpa using k1
  have n2 : (kind == 2) = false := by simpa using k2
  have n3 : (kind == 3) = false := by simpa using k3
  have n4 : (kind == 4) = false := by simpa using k4
  have n5 : (kind == 5) = false := by simpa using k5
  have n6 : (kind == 6) = false := by simpa using k6
  have n7 : (kind == 7) = false := by simpa using k7
  have HV : Hid (endsP s.data.toList kind = false) := Lib.hid (by unfold endsP; rw [if_neg k1, if_neg k2, if_neg k3, if_neg k4, if_neg k5, if_neg (fun e => e.elim k6 k7)])
  clear k1 k2 k3 k4 k5 k6 k7
  go_enter Tryz.func96, Tryz.ntmps96
  go_wp2
  go_ret
  rw [HV.out]
  exact ⟨rfl, Below.refl _ _⟩
end Sc
end Go.Proofs.YtkiipaaaakhhfaaGreatDoor
end
