/- Walks of layer 12, the ninth part: the program's addresses as a whole, and HTML. -/
import Derived.Test.YtapibalcekedfaaGreatDoorSpH
namespace Go.Proofs.YtapibalcekedfaaGreatDoor
open Go Go.RowKit
namespace Sp
open Sc
set_option maxRecDepth 100000
set_option linter.unusedVariables false
set_option linter.unusedSimpArgs false

theorem cutP60_any (s : ByteArray) (w : World) :
    (∃ R : ByteArray, s.data.toList = 60 :: R.data.toList ∧ R.size + 1 = s.size ∧ Calls Tryz.prog 21 #[.string s, .string ⟨#[60]⟩] w fun e w' => e = .returned (.tuple #[.string R, .bool true]) ∧ w = w') ∨
    (s.data.toList.head? ≠ some 60 ∧ Calls Tryz.prog 21 #[.string s, .string ⟨#[60]⟩] w fun e w' => e = .returned (.tuple #[.string s, .bool false]) ∧ w = w') := by
  have hC := Tryz.strings_CutPrefix s ⟨#[60]⟩ w
  rw [show (⟨#[60]⟩ : ByteArray).data.toList = [60] from rfl, pre_head1] at hC
  by_cases h : s.data.toList.head? = some 60
  · left
    obtain ⟨R, hR⟩ := ba_mk (s.data.toList.drop 1)
    have hs : s.data.toList = 60 :: R.data.toList := by
      rw [← hR]
      cases hl : s.data.toList with
      | nil => rw [hl] at h; cases h
      | cons c t => rw [hl] at h; obtain rfl := Option.some.inj h; rfl
    have ht : Lib.trimPrefix s.data.toList [60] = R.data.toList := by
      unfold Lib.trimPrefix
      rw [pre_head1, decide_eq_true h, if_pos rfl]; exact hR
    rw [ht, decide_eq_true h, ba_self] at hC
    have hl := congrArg List.length hs
    rw [sz, List.length_cons, sz] at hl
    exact ⟨R, hs, hl.symm, hC.mono fun _ _ ⟨a, b⟩ => ⟨a, b.symm⟩⟩
  · right
    have ht : Lib.trimPrefix s.data.toList [60] = s.data.toList := by
      unfold Lib.trimPrefix
      rw [pre_head1, decide_eq_false h, if_neg (by simp)]
    rw [ht, decide_eq_false h, ba_self] at hC
    exact ⟨h, hC.mono fun _ _ ⟨a, b⟩ => ⟨a, b.symm⟩⟩

set_option maxHeartbeats 4000000 in
theorem auto_any (s : ByteArray) (w : World) (hs : s.size ≤ 1000000) (hL : LaidP w) :
    Calls Tryz.prog 12 #[.string s] w fun e w' => e = .returned (autoV (autoP s.data.toList)) ∧ Below w.heap.size w w' := by
  have hs' : (s.size : Int) ≤ 1000000 := by omega
  obtain ⟨V, hV⟩ : ∃ V, autoV (autoP s.data.toList) = V := ⟨_, rfl⟩
  rw [hV]
  have HV := Lib.hid hV.symm
  clear hV
  rcases cutP60_any s w with ⟨R, h1, h2, hC⟩ | ⟨h1, hC⟩
  · have HC := Lib.hid hC
    have hRz : R.size ≤ 1000000 := by omega
    have HCnt := Lib.hid (fun W => count_any R W hRz (tells_inA W))
    have hn := cnt_le inA R.data.toList
    rw [sz] at hn
    have HA : Hid (autoP s.data.toList = if (R.data.toList.drop (cnt inA R.data.toList)).head? = some 62 then (if schP (R.data.toList.take (cnt inA R.data.toList)) = true then some (false, R.data.toList.take (cnt inA R.data.toList)) else if mailP (R.data.toList.take (cnt inA R.data.toList)) = true then some (true, R.data.toList.take (cnt inA R.data.toList)) else none) else none) := Lib.hid (by rw [h1]; exact autoP_cons _)
    generalize cnt inA R.data.toList = n at *
    have hnI : (n : Int) ≤ (R.size : Int) := by omega
    have hRI : (R.size : Int) ≤ 1000000 := by omega
    obtain ⟨T, hT⟩ : ∃ T, R.extract 0 n = T := ⟨_, rfl⟩
    obtain ⟨E, hE⟩ : ∃ E, R.extract n R.size = E := ⟨_, rfl⟩
    have hTs : T.size = n := by rw [← hT]; simp; omega
    have HP := Lib.hid (fun w => pre1_any E 62 w)
    have HA2 : Hid (autoP s.data.toList = if E.data.toList.head? = some 62 then (if schP T.data.toList = true then some (false, T.data.toList) else if mailP T.data.toList = true then some (true, T.data.toList) else none) else none) := Lib.hid (by rw [HA.out, ← hT, ← hE, ext_to, ext_rest])
    have HS := Lib.hid (fun w => scheme_any T w (by omega))
    have HM : Hid (∀ W, Below w.heap.size w W → Calls Tryz.prog 26 #[.string T] W fun e w' => e = .returned (.bool (mailP T.data.toList)) ∧ Below w.heap.size w w') := Lib.hid (fun W hW => (mail_any T W (by omega) (hL.below hW)).mono fun e w' ⟨a, b⟩ => ⟨a, hW.trans (b.mono hW.size)⟩)
    have HCl := Lib.hid (fun w => clone_any T w (by omega))
    have HTe := Lib.hid (ba_self T)
    have HI : Hid (((T.data.toList.length + 2 : Nat) : Int) = (n : Int) + 2) := Lib.hid (by rw [sz]; omega)
    have sT : (T.size : Int) ≤ 1000000 := by omega
    clear h1 h2 hC HA hL hTs
    by_cases h62 : E.data.toList.head? = some 62
    · rw [decide_eq_true h62] at HP
      cases hsch : schP T.data.toList with
      | true =>
        have HVV : Hid (V = .tuple #[.string T, .string T, .int .i64 ((n : Int) + 2)]) := Lib.hid (by
          rw [HV.out, HA2.out, if_pos h62, hsch, if_pos rfl]
          show Value.tuple #[.string ⟨T.data.toList.toArray⟩, .string ⟨T.data.toList.toArray⟩, .int .i64 ((T.data.toList.length + 2 : Nat) : Int)] = _
          rw [HTe.out, HI.out])
        rw [hsch] at HS
        clear hsch h62 HA2 HTe HI HM
        go_enter Tryz.func12, Tryz.ntmps12
        go_wp2_with fail
        refine HC.out.mono ?_
        rintro e w1 ⟨rfl, rfl⟩
        go_wp2_with fail
        refine (HCnt.out _).mono ?_
        rintro e w1 ⟨rfl, rfl⟩
        go_wp2_with fail
        refine (HP.out _).mono ?_
        rintro e w1 ⟨rfl, rfl⟩
        go_wp2_with fail
        refine (HS.out _).mono ?_
        rintro e w2 ⟨rfl, hb2⟩
        go_wp2_with fail
        refine (HCl.out _).mono ?_
        rintro e w3 ⟨rfl, hb3⟩
        go_wp2_with fail
        refine (HCl.out _).mono ?_
        rintro e w4 ⟨rfl, hb4⟩
        go_wp2
        go_ret3
        exact ⟨retV HVV.out.symm, hb2.trans ((hb3.trans (hb4.mono hb3.size)).mono hb2.size)⟩
      | false =>
        rw [hsch] at HS
        cases hm : mailP T.data.toList with
        | true =>
          obtain ⟨J, hJ⟩ : ∃ J, (⟨#[109, 97, 105, 108, 116, 111, 58]⟩ : ByteArray) ++ T = J := ⟨_, rfl⟩
          have sJ : J.size = 7 + T.size := by rw [← hJ, app_size]; rfl
          have HVV : Hid (V = .tuple #[.string J, .string T, .int .i64 ((n : Int) + 2)]) := Lib.hid (by
            rw [HV.out, HA2.out, if_pos h62, hsch, if_neg (by simp), hm, if_pos rfl]
            show Value.tuple #[.string ⟨(mailto ++ T.data.toList).toArray⟩, .string ⟨T.data.toList.toArray⟩, .int .i64 ((T.data.toList.length + 2 : Nat) : Int)] = _
            have e : (⟨(mailto ++ T.data.toList).toArray⟩ : ByteArray) = J := (ba_eq (by rw [← hJ, app_data]; rfl)).symm
            rw [HTe.out, HI.out, e])
          rw [hm] at HM
          clear hsch hm h62 HA2 HTe HI
          go_enter Tryz.func12, Tryz.ntmps12
          go_wp2_with fail
          refine HC.out.mono ?_
          rintro e w1 ⟨rfl, rfl⟩
          go_wp2_with fail
          refine (HCnt.out _).mono ?_
          rintro e w1 ⟨rfl, rfl⟩
          go_wp2_with fail
          refine (HP.out _).mono ?_
          rintro e w1 ⟨rfl, rfl⟩
          go_wp2_with fail
          refine (HS.out _).mono ?_
          rintro e w2 ⟨rfl, hb2⟩
          go_wp2_with fail
          refine (HM.out _ hb2).mono ?_
          rintro e w3 ⟨rfl, hb3⟩
          go_wp2_with fail
          refine (HCl.out _).mono ?_
          rintro e w4 ⟨rfl, hb4⟩
          go_wp2
          go_ret3
          exact ⟨retV HVV.out.symm, hb3.trans (hb4.mono hb3.size)⟩
        | false =>
          have HVV : Hid (V = .tuple #[.string ⟨#[]⟩, .string ⟨#[]⟩, .int .i64 0]) := Lib.hid (by
            rw [HV.out, HA2.out, if_pos h62, hsch, if_neg (by simp), hm, if_neg (by simp)]; rfl)
          rw [hm] at HM
          clear hsch hm h62 HA2 HTe HI
          go_enter Tryz.func12, Tryz.ntmps12
          go_wp2_with fail
          refine HC.out.mono ?_
          rintro e w1 ⟨rfl, rfl⟩
          go_wp2_with fail
          refine (HCnt.out _).mono ?_
          rintro e w1 ⟨rfl, rfl⟩
          go_wp2_with fail
          refine (HP.out _).mono ?_
          rintro e w1 ⟨rfl, rfl⟩
          go_wp2_with fail
          refine (HS.out _).mono ?_
          rintro e w2 ⟨rfl, hb2⟩
          go_wp2_with fail
          refine (HM.out _ hb2).mono ?_
          rintro e w3 ⟨rfl, hb3⟩
          go_wp2
          go_ret3
          exact ⟨retV HVV.out.symm, hb3⟩
    · rw [decide_eq_false h62] at HP
      have HVV : Hid (V = .tuple #[.string ⟨#[]⟩, .string ⟨#[]⟩, .int .i64 0]) := Lib.hid (by rw [HV.out, HA2.out, if_neg h62]; rfl)
      clear h62 HA2 HTe HI HS HM
      go_enter Tryz.func12, Tryz.ntmps12
      go_wp2_with fail
      refine HC.out.mono ?_
      rintro e w1 ⟨rfl, rfl⟩
      go_wp2_with fail
      refine (HCnt.out _).mono ?_
      rintro e w1 ⟨rfl, rfl⟩
      go_wp2_with fail
      refine (HP.out _).mono ?_
      rintro e w1 ⟨rfl, rfl⟩
      go_wp2
      go_ret3
      exact ⟨retV HVV.out.symm, Below.refl _ _⟩
  · have HC := Lib.hid hC
    have HVV : Hid (V = .tuple #[.string ⟨#[]⟩, .string ⟨#[]⟩, .int .i64 0]) := Lib.hid (by rw [HV.out, autoP_no h1]; rfl)
    clear h1 hC hL
    go_enter Tryz.func12, Tryz.ntmps12
    go_wp2_with fail
    refine HC.out.mono ?_
    rintro e w1 ⟨rfl, rfl⟩
    go_wp2
    go_ret3
    exact ⟨retV HVV.out.symm, Below.refl _ _⟩

/-! ### HTML -/
theorem upTo_any (s e : ByteArray) (n : Nat) (w : World) (hs : s.size ≤ 1000000) (he : e.size ≤ 1000) (hn : n ≤ s.size) (hL : LaidP w) :
    Calls Tryz.prog 30 #[.string s, .int .i64 (n : Int), .string e] w fun r w' => r = .returned (.int .i64 (upToP s.data.toList n e.data.toList : Nat)) ∧ w = w' := by
  have hs' : (s.size : Int) ≤ 1000000 := by omega
  have he' : (e.size : Int) ≤ 1000 := by omega
  have hn' : (n : Int) ≤ (s.size : Int) := by omega
  obtain ⟨m, hm⟩ := hL
  obtain ⟨S, hS⟩ : ∃ S, s.extract n s.size = S := ⟨_, rfl⟩
  have hSs : S.size + n = s.size := by rw [← hS]; simp; omega
  have HI : Hid (Calls Tryz.prog 53 #[.string S, .string e] w fun r w' => r = .returned (.int .i64 (Lib.index S.data.toList e.data.toList)) ∧ w = w') := Lib.hid ((Tryz.strings_Index S e m w (by omega) hm).mono fun _ _ ⟨a, b⟩ => ⟨a, b.symm⟩)
  have HX := Lib.hid (idx_index e.data.toList S.data.toList)
  have HU : Hid (upToP s.data.toList n e.data.toList = match idx e.data.toList S.data.toList with
    | some k => n + k + e.data.toList.length
    | none => 0) := Lib.hid (by unfold upToP; rw [← hS, ext_rest]; rfl)
  cases hi : idx e.data.toList S.data.toList with
  | none =>
    rw [hi] at HX HU
    have HX2 : Hid (Lib.index S.data.toList e.data.toList = -1) := Lib.hid HX.out
    rw [HX2.out] at HI
    have HV : Hid (upToP s.data.toList n e.data.toList = 0) := Lib.hid HU.out
    clear hm hi
    go_enter Tryz.func30, Tryz.ntmps30
    go_wp2_with fail
    refine HI.out.mono ?_
    rintro r w1 ⟨rfl, rfl⟩
    go_wp2
    go_ret
    rw [HV.out]
    exact ⟨rfl, rfl⟩
  | some k =>
    rw [hi] at HX HU
    have HX2 : Hid (Lib.index S.data.toList e.data.toList = (k : Int)) := Lib.hid HX.out
    rw [HX2.out] at HI
    have hk := idx_le hi
    rw [sz, sz] at hk
    have HV : Hid (((upToP s.data.toList n e.data.toList : Nat) : Int) = (n : Int) + (k : Int) + (e.size : Int)) := Lib.hid (by
      have : upToP s.data.toList n e.data.toList = n + k + e.data.toList.length := HU.out
      rw [this, sz]; omega)
    have hk2 : (k : Int) + (e.size : Int) ≤ (S.size : Int) := by omega
    have hk3 : ¬ (k : Int) < 0 := by omega
    have hk4 : (k : Int) ≤ 1000000 := by omega
    clear hm hi hk
    go_enter Tryz.func30, Tryz.ntmps30
    go_wp2_with fail
    refine HI.out.mono ?_
    rintro r w1 ⟨rfl, rfl⟩
    go_wp2
    go_ret
    rw [HV.out]
    exact ⟨rfl, rfl⟩
theorem pre_len {l p : List UInt8} (h : Lib.hasPrefix l p = true) : p.length ≤ l.length := (List.isPrefixOf_iff_prefix.1 h).length_le

set_option maxHeartbeats 8000000 in
theorem raw_any (s : ByteArray) (w : World) (hs : s.size ≤ 1000000) (hL : LaidP w) :
    Calls Tryz.prog 14 #[.string s] w fun e w' => e = .returned (.int .i64 (rawP s.data.toList : Nat)) ∧ Below w.heap.size w w' := by
  have hs' : (s.size : Int) ≤ 1000000 := by omega
  obtain ⟨R, hR⟩ : ∃ R, rawP s.data.toList = R := ⟨_, rfl⟩
  rw [hR]
  rw [raw_x, show pC = [60, 33, 91, 67, 68, 65, 84, 65, 91] from rfl] at hR
  have HT := Lib.hid (tag_any s w hs)
  have HP1 := Lib.hid (fun w => preP_any s ⟨#[60, 33, 45, 45, 62]⟩ w)
  have HP2 := Lib.hid (fun w => preP_any s ⟨#[60, 33, 45, 45, 45, 62]⟩ w)
  have HP3 := Lib.hid (fun w => preP_any s ⟨#[60, 33, 45, 45]⟩ w)
  have HP4 := Lib.hid (fun w => preP_any s ⟨#[60, 63]⟩ w)
  have HP5 := Lib.hid (fun w => preP_any s ⟨#[60, 33]⟩ w)
  have HP6 := Lib.hid (fun w => preP_any s ⟨#[60, 33, 91, 67, 68, 65, 84, 65, 91]⟩ w)
  have HU1 : Hid (4 ≤ s.size → ∀ W, Below w.heap.size w W → Calls Tryz.prog 30 #[.string s, .int .i64 4, .string ⟨#[45, 45, 62]⟩] W fun r w' => r = .returned (.int .i64 (upToP s.data.toList 4 [45, 45, 62] : Nat)) ∧ W = w') := Lib.hid (fun h W hW => upTo_any s ⟨#[45, 45, 62]⟩ 4 W hs (by decide) h (hL.below hW))
  have HU2 : Hid (2 ≤ s.size → ∀ W, Below w.heap.size w W → Calls Tryz.prog 30 #[.string s, .int .i64 2, .string ⟨#[63, 62]⟩] W fun r w' => r = .returned (.int .i64 (upToP s.data.toList 2 [63, 62] : Nat)) ∧ W = w') := Lib.hid (fun h W hW => upTo_any s ⟨#[63, 62]⟩ 2 W hs (by decide) h (hL.below hW))
  have HU3 : Hid (2 ≤ s.size → ∀ W, Below w.heap.size w W → Calls Tryz.prog 30 #[.string s, .int .i64 2, .string ⟨#[62]⟩] W fun r w' => r = .returned (.int .i64 (upToP s.data.toList 2 [62] : Nat)) ∧ W = w') := Lib.hid (fun h W hW => upTo_any s ⟨#[62]⟩ 2 W hs (by decide) h (hL.below hW))
  have HU4 : Hid (9 ≤ s.size → ∀ W, Below w.heap.size w W → Calls Tryz.prog 30 #[.string s, .int .i64 9, .string ⟨#[93, 93, 62]⟩] W fun r w' => r = .returned (.int .i64 (upToP s.data.toList 9 [93, 93, 62] : Nat)) ∧ W = w') := Lib.hid (fun h W hW => upTo_any s ⟨#[93, 93, 62]⟩ 9 W hs (by decide) h (hL.below hW))
  have HZ3 : Hid (Lib.hasPrefix s.data.toList [60, 33, 45, 45] = true → 4 ≤ s.size) := Lib.hid (fun h => by have := pre_len h; rw [sz] at this; exact this)
  have HZ4 : Hid (Lib.hasPrefix s.data.toList [60, 63] = true → 2 ≤ s.size) := Lib.hid (fun h => by have := pre_len h; rw [sz] at this; exact this)
  have HZ6 : Hid (Lib.hasPrefix s.data.toList [60, 33, 91, 67, 68, 65, 84, 65, 91] = true → 9 ≤ s.size) := Lib.hid (fun h => by have := pre_len h; rw [sz] at this; exact this)
  have HA : Hid ((¬ (2 : Int) < (s.size : Int) ∧ isLet s.data.toList[2]? = false) ∨ ((2 : Int) < (s.size : Int) ∧ 2 ≤ s.size ∧ ∃ c : UInt8, (∃ h : 2 < s.size, s[2] = c) ∧ isLet s.data.toList[2]? = letU c)) := Lib.hid (by
    by_cases h2 : 2 < s.size
    · right
      obtain ⟨c, hc⟩ : ∃ c, s[2] = c := ⟨_, rfl⟩
      exact ⟨by omega, by omega, c, ⟨h2, hc⟩, by rw [get_of h2 hc]; rfl⟩
    · left
      refine ⟨by omega, ?_⟩
      rw [List.getElem?_eq_none (by rw [sz]; omega)]; rfl)
  simp only [show (⟨#[60, 33, 45, 45, 62]⟩ : ByteArray).data.toList = [60, 33, 45, 45, 62] from rfl, show (⟨#[60, 33, 45, 45, 45, 62]⟩ : ByteArray).data.toList = [60, 33, 45, 45, 45, 62] from rfl, show (⟨#[60, 33, 45, 45]⟩ : ByteArray).data.toList = [60, 33, 45, 45] from rfl, show (⟨#[60, 63]⟩ : ByteArray).data.toList = [60, 63] from rfl, show (⟨#[60, 33]⟩ : ByteArray).data.toList = [60, 33] from rfl, show (⟨#[60, 33, 91, 67, 68, 65, 84, 65, 91]⟩ : ByteArray).data.toList = [60, 33, 91, 67, 68, 65, 84, 65, 91] from rfl] at HP1 HP2 HP3 HP4 HP5 HP6
  have HR := Lib.hid hR.symm
  clear hR hL
  generalize tagN s.data.toList = n at *
  generalize Lib.hasPrefix s.data.toList [60, 33, 45, 45, 62] = p1 at *
  generalize Lib.hasPrefix s.data.toList [60, 33, 45, 45, 45, 62] = p2 at *
  generalize Lib.hasPrefix s.data.toList [60, 33, 45, 45] = p3 at *
  generalize Lib.hasPrefix s.data.toList [60, 63] = p4 at *
  generalize Lib.hasPrefix s.data.toList [60, 33] = p5 at *
  generalize Lib.hasPrefix s.data.toList [60, 33, 91, 67, 68, 65, 84, 65, 91] = p6 at *
  generalize upToP s.data.toList 4 [45, 45, 62] = u1 at *
  generalize upToP s.data.toList 2 [63, 62] = u2 at *
  generalize upToP s.data.toList 2 [62] = u3 at *
  generalize upToP s.data.toList 9 [93, 93, 62] = u4 at *
  generalize isLet s.data.toList[2]? = il at *
  by_cases hn : 0 < n
  · have hn' : (0 : Int) < (n : Int) := by omega
    have HV : Hid (R = n) := Lib.hid (by rw [HR.out]; unfold rawX; rw [if_pos hn])
    go_enter Tryz.func14, Tryz.ntmps14
    go_wp2_with fail
    refine HT.out.mono ?_
    rintro e w1 ⟨rfl, hb1⟩
    go_wp2
    go_ret
    rw [HV.out]
    exact ⟨rfl, hb1⟩
  · have hn' : ¬ (0 : Int) < (n : Int) := by omega
    have hn0 : n = 0 := by omega
    subst hn0
    cases p1 with
    | true =>
      have HV : Hid (R = 5) := Lib.hid HR.out
      go_enter Tryz.func14, Tryz.ntmps14
      go_wp2_with fail
      refine HT.out.mono ?_
      rintro e w1 ⟨rfl, hb1⟩
      go_wp2_with fail
      refine (HP1.out _).mono ?_
      rintro e w1 ⟨rfl, rfl⟩
      go_wp2
      go_ret
      rw [HV.out]
      exact ⟨rfl, hb1⟩
    | false =>
    cases p2 with
    | true =>
      have HV : Hid (R = 6) := Lib.hid HR.out
      go_enter Tryz.func14, Tryz.ntmps14
      go_wp2_with fail
      refine HT.out.mono ?_
      rintro e w1 ⟨rfl, hb1⟩
      go_wp2_with fail
      refine (HP1.out _).mono ?_
      rintro e w1 ⟨rfl, rfl⟩
      go_wp2_with fail
      refine (HP2.out _).mono ?_
      rintro e w1 ⟨rfl, rfl⟩
      go_wp2
      go_ret
      rw [HV.out]
      exact ⟨rfl, hb1⟩
    | false =>
    cases p3 with
    | true =>
      have HV : Hid (R = u1) := Lib.hid HR.out
      have HU1z := Lib.hid (HU1.out (HZ3.out rfl))
      go_enter Tryz.func14, Tryz.ntmps14
      go_wp2_with fail
      refine HT.out.mono ?_
      rintro e w1 ⟨rfl, hb1⟩
      go_wp2_with fail
      refine (HP1.out _).mono ?_
      rintro e w1 ⟨rfl, rfl⟩
      go_wp2_with fail
      refine (HP2.out _).mono ?_
      rintro e w1 ⟨rfl, rfl⟩
      go_wp2_with fail
      refine (HP3.out _).mono ?_
      rintro e w1 ⟨rfl, rfl⟩
      go_wp2_with fail
      refine (HU1z.out _ hb1).mono ?_
      rintro e w2 ⟨rfl, rfl⟩
      go_wp2
      go_ret
      rw [HV.out]
      exact ⟨rfl, hb1⟩
    | false =>
    cases p4 with
    | true =>
      have HV : Hid (R = u2) := Lib.hid HR.out
      have HU2z := Lib.hid (HU2.out (HZ4.out rfl))
      go_enter Tryz.func14, Tryz.ntmps14
      go_wp2_with fail
      refine HT.out.mono ?_
      rintro e w1 ⟨rfl, hb1⟩
      go_wp2_with fail
      refine (HP1.out _).mono ?_
      rintro e w1 ⟨rfl, rfl⟩
      go_wp2_with fail
      refine (HP2.out _).mono ?_
      rintro e w1 ⟨rfl, rfl⟩
      go_wp2_with fail
      refine (HP3.out _).mono ?_
      rintro e w1 ⟨rfl, rfl⟩
      go_wp2_with fail
      refine (HP4.out _).mono ?_
      rintro e w1 ⟨rfl, rfl⟩
      go_wp2_with fail
      refine (HU2z.out _ hb1).mono ?_
      rintro e w2 ⟨rfl, rfl⟩
      go_wp2
      go_ret
      rw [HV.out]
      exact ⟨rfl, hb1⟩
    | false =>
    cases p5 with
    | false =>
      clear HA
      cases p6 with
      | true =>
        have HV : Hid (R = u4) := Lib.hid HR.out
        have HU4z := Lib.hid (HU4.out (HZ6.out rfl))
        go_enter Tryz.func14, Tryz.ntmps14
        go_wp2_with fail
        refine HT.out.mono ?_
        rintro e w1 ⟨rfl, hb1⟩
        go_wp2_with fail
        refine (HP1.out _).mono ?_
        rintro e w1 ⟨rfl, rfl⟩
        go_wp2_with fail
        refine (HP2.out _).mono ?_
        rintro e w1 ⟨rfl, rfl⟩
        go_wp2_with fail
        refine (HP3.out _).mono ?_
        rintro e w1 ⟨rfl, rfl⟩
        go_wp2_with fail
        refine (HP4.out _).mono ?_
        rintro e w1 ⟨rfl, rfl⟩
        go_wp2_with fail
        refine (HP5.out _).mono ?_
        rintro e w1 ⟨rfl, rfl⟩
        go_wp2_with fail
        refine (HP6.out _).mono ?_
        rintro e w1 ⟨rfl, rfl⟩
        go_wp2_with fail
        refine (HU4z.out _ hb1).mono ?_
        rintro e w2 ⟨rfl, rfl⟩
        go_wp2
        go_ret
        rw [HV.out]
        exact ⟨rfl, hb1⟩
      | false =>
        have HV : Hid (R = 0) := Lib.hid HR.out
        go_enter Tryz.func14, Tryz.ntmps14
        go_wp2_with fail
        refine HT.out.mono ?_
        rintro e w1 ⟨rfl, hb1⟩
        go_wp2_with fail
        refine (HP1.out _).mono ?_
        rintro e w1 ⟨rfl, rfl⟩
        go_wp2_with fail
        refine (HP2.out _).mono ?_
        rintro e w1 ⟨rfl, rfl⟩
        go_wp2_with fail
        refine (HP3.out _).mono ?_
        rintro e w1 ⟨rfl, rfl⟩
        go_wp2_with fail
        refine (HP4.out _).mono ?_
        rintro e w1 ⟨rfl, rfl⟩
        go_wp2_with fail
        refine (HP5.out _).mono ?_
        rintro e w1 ⟨rfl, rfl⟩
        go_wp2_with fail
        refine (HP6.out _).mono ?_
        rintro e w1 ⟨rfl, rfl⟩
        go_wp2
        go_ret
        rw [HV.out]
        exact ⟨rfl, hb1⟩
    | true =>
    rcases HA.out with ⟨h2, rfl⟩ | ⟨h2, h2n, c, ⟨g2, hc⟩, hl⟩
    · clear HA
      cases p6 with
      | true =>
        have HV : Hid (R = u4) := Lib.hid HR.out
        have HU4z := Lib.hid (HU4.out (HZ6.out rfl))
        go_enter Tryz.func14, Tryz.ntmps14
        go_wp2_with fail
        refine HT.out.mono ?_
        rintro e w1 ⟨rfl, hb1⟩
        go_wp2_with fail
        refine (HP1.out _).mono ?_
        rintro e w1 ⟨rfl, rfl⟩
        go_wp2_with fail
        refine (HP2.out _).mono ?_
        rintro e w1 ⟨rfl, rfl⟩
        go_wp2_with fail
        refine (HP3.out _).mono ?_
        rintro e w1 ⟨rfl, rfl⟩
        go_wp2_with fail
        refine (HP4.out _).mono ?_
        rintro e w1 ⟨rfl, rfl⟩
        go_wp2_with fail
        refine (HP5.out _).mono ?_
        rintro e w1 ⟨rfl, rfl⟩
        go_wp2_with fail
        refine (HP6.out _).mono ?_
        rintro e w1 ⟨rfl, rfl⟩
        go_wp2_with fail
        refine (HU4z.out _ hb1).mono ?_
        rintro e w2 ⟨rfl, rfl⟩
        go_wp2
        go_ret
        rw [HV.out]
        exact ⟨rfl, hb1⟩
      | false =>
        have HV : Hid (R = 0) := Lib.hid HR.out
        go_enter Tryz.func14, Tryz.ntmps14
        go_wp2_with fail
        refine HT.out.mono ?_
        rintro e w1 ⟨rfl, hb1⟩
        go_wp2_with fail
        refine (HP1.out _).mono ?_
        rintro e w1 ⟨rfl, rfl⟩
        go_wp2_with fail
        refine (HP2.out _).mono ?_
        rintro e w1 ⟨rfl, rfl⟩
        go_wp2_with fail
        refine (HP3.out _).mono ?_
        rintro e w1 ⟨rfl, rfl⟩
        go_wp2_with fail
        refine (HP4.out _).mono ?_
        rintro e w1 ⟨rfl, rfl⟩
        go_wp2_with fail
        refine (HP5.out _).mono ?_
        rintro e w1 ⟨rfl, rfl⟩
        go_wp2_with fail
        refine (HP6.out _).mono ?_
        rintro e w1 ⟨rfl, rfl⟩
        go_wp2
        go_ret
        rw [HV.out]
        exact ⟨rfl, hb1⟩
    · have HL := Lib.hid (fun w => does_letter.2 c w)
      clear HA
      subst hl
      generalize letU c = l at *
      cases l with
      | false =>
        cases p6 with
        | true =>
          have HV : Hid (R = u4) := Lib.hid HR.out
          have HU4z := Lib.hid (HU4.out (HZ6.out rfl))
          go_enter Tryz.func14, Tryz.ntmps14
          go_wp2_with fail
          refine HT.out.mono ?_
          rintro e w1 ⟨rfl, hb1⟩
          go_wp2_with fail
          refine (HP1.out _).mono ?_
          rintro e w1 ⟨rfl, rfl⟩
          go_wp2_with fail
          refine (HP2.out _).mono ?_
          rintro e w1 ⟨rfl, rfl⟩
          go_wp2_with fail
          refine (HP3.out _).mono ?_
          rintro e w1 ⟨rfl, rfl⟩
          go_wp2_with fail
          refine (HP4.out _).mono ?_
          rintro e w1 ⟨rfl, rfl⟩
          go_wp2_with fail
          refine (HP5.out _).mono ?_
          rintro e w1 ⟨rfl, rfl⟩
          go_wp2_with fail
          refine (HL.out _).mono ?_
          rintro e w1 ⟨rfl, rfl⟩
          go_wp2_with fail
          refine (HP6.out _).mono ?_
          rintro e w1 ⟨rfl, rfl⟩
          go_wp2_with fail
          refine (HU4z.out _ hb1).mono ?_
          rintro e w2 ⟨rfl, rfl⟩
          go_wp2
          go_ret
          rw [HV.out]
          exact ⟨rfl, hb1⟩
        | false =>
          have HV : Hid (R = 0) := Lib.hid HR.out
          go_enter Tryz.func14, Tryz.ntmps14
          go_wp2_with fail
          refine HT.out.mono ?_
          rintro e w1 ⟨rfl, hb1⟩
          go_wp2_with fail
          refine (HP1.out _).mono ?_
          rintro e w1 ⟨rfl, rfl⟩
          go_wp2_with fail
          refine (HP2.out _).mono ?_
          rintro e w1 ⟨rfl, rfl⟩
          go_wp2_with fail
          refine (HP3.out _).mono ?_
          rintro e w1 ⟨rfl, rfl⟩
          go_wp2_with fail
          refine (HP4.out _).mono ?_
          rintro e w1 ⟨rfl, rfl⟩
          go_wp2_with fail
          refine (HP5.out _).mono ?_
          rintro e w1 ⟨rfl, rfl⟩
          go_wp2_with fail
          refine (HL.out _).mono ?_
          rintro e w1 ⟨rfl, rfl⟩
          go_wp2_with fail
          refine (HP6.out _).mono ?_
          rintro e w1 ⟨rfl, rfl⟩
          go_wp2
          go_ret
          rw [HV.out]
          exact ⟨rfl, hb1⟩
      | true =>
        have HV : Hid (R = u3) := Lib.hid HR.out
        have HU3z := Lib.hid (HU3.out h2n)
        go_enter Tryz.func14, Tryz.ntmps14
        go_wp2_with fail
        refine HT.out.mono ?_
        rintro e w1 ⟨rfl, hb1⟩
        go_wp2_with fail
        refine (HP1.out _).mono ?_
        rintro e w1 ⟨rfl, rfl⟩
        go_wp2_with fail
        refine (HP2.out _).mono ?_
        rintro e w1 ⟨rfl, rfl⟩
        go_wp2_with fail
        refine (HP3.out _).mono ?_
        rintro e w1 ⟨rfl, rfl⟩
        go_wp2_with fail
        refine (HP4.out _).mono ?_
        rintro e w1 ⟨rfl, rfl⟩
        go_wp2_with fail
        refine (HP5.out _).mono ?_
        rintro e w1 ⟨rfl, rfl⟩
        go_wp2_with fail
        refine (HL.out _).mono ?_
        rintro e w1 ⟨rfl, rfl⟩
        go_wp2_with fail
        refine (HU3z.out _ hb1).mono ?_
        rintro e w2 ⟨rfl, rfl⟩
        go_wp2
        go_ret
        rw [HV.out]
        exact ⟨rfl, hb1⟩
end Sp
end Go.Proofs.YtapibalcekedfaaGreatDoor
