/- Walks of layer 8, the nineteenth part: which HTML a line ends. -/
import Derived.Test.YtnpaagglnfocpaaGreatDoorScT
namespace Go.Proofs.YtnpaagglnfocpaaGreatDoor
open Go Go.RowKit
namespace Sc
set_option maxRecDepth 100000
set_option linter.unusedVariables false
set_option linter.unusedSimpArgs false

/-- What of the package variables the walks ask: the table of capitals; that a number lies where the library's does. -/
structure LaidS (w : World) : Prop where
  caps : Ks.Laid w
  most : ∃ m, w.cell? ⟨0, 0, none⟩ = some (.int .i64 m)
theorem LaidS.below {w w' : World} (h : LaidS w) (hB : Below w.heap.size w w') : LaidS w' := by
  refine ⟨h.caps.below hB, ?_⟩
  obtain ⟨m, hm⟩ := h.most
  exact ⟨m, (hB.cell (p := ⟨0, 0, none⟩) (Tx.cell_lt hm)).trans hm⟩
theorem contains_any (s sub : ByteArray) (w : World) (hs : s.size ≤ 1000000) (hL : LaidS w) :
    Calls Tryz.prog 40 #[.string s, .string sub] w fun e w' => e = .returned (.bool (Lib.contains s.data.toList sub.data.toList)) ∧ w = w' := by
  obtain ⟨m, hm⟩ := hL.most
  exact (Tryz.strings_Contains s sub m w (by omega) hm).mono fun _ _ ⟨a, b⟩ => ⟨a, b.symm⟩
theorem pre_head (r : List UInt8) (c : UInt8) : Lib.hasPrefix r [c] = headIs r c := by
  rw [(cutP_pre c r).1]
  cases r with
  | nil => rfl
  | cons x t =>
    by_cases h : x = c
    · subst h; rw [sgn_self]; simp [headIs]
    · rw [sgn_no t h]
      have : (x == c) = false := by rw [beq_eq_false_iff_ne]; exact h
      simp [headIs, this]

set_option maxHeartbeats 4000000 in
theorem endVer_any (s : ByteArray) (w : World) (hs : s.size ≤ 1000000) (hL : LaidS w) :
    Calls Tryz.prog 63 #[.string s] w fun e w' => e = .returned (.bool (anyC s.data.toList)) ∧ Below w.heap.size w w' := by
  have HL := Lib.hid hL
  clear hL
  go_enter Tryz.func63, Tryz.ntmps63
  go_wp2_with fail
  go_loopg [0] s.size (fun G v0 wr => ∃ S : ByteArray, v0 = .string S ∧ Hid (S.size = G) ∧ Hid (S.size ≤ 1000000) ∧ Hid (anyC s.data.toList = anyC S.data.toList) ∧ Hid (Below w.heap.size w wr))
  case atStart => exact ⟨s, rfl, Lib.hid rfl, Lib.hid hs, Lib.hid rfl, Lib.hid (Below.refl _ _)⟩
  case round =>
    obtain ⟨S, rfl, HG, HS, HA, HB⟩ := hrel
    have hSs := HS.out
    have hb := HB.out
    have HLr := Lib.hid (HL.out.below hb)
    obtain ⟨m, hmc⟩ := HLr.out.most
    have HC := Lib.hid (Tryz.strings_Cut S ⟨#[60, 47]⟩ m wr (by omega) hmc)
    rw [show (⟨#[60, 47]⟩ : ByteArray).data.toList = [60, 47] from rfl] at HC
    have hcut := cut_any S.data.toList
    obtain ⟨B, hB⟩ := ba_mk (Lib.cut S.data.toList [60, 47]).1
    obtain ⟨D, hD⟩ := ba_mk (Lib.cut S.data.toList [60, 47]).2.1
    rw [hB, hD, ba_self, ba_self] at HC
    rw [hD] at hcut
    clear hmc hB hD
    generalize hok : (Lib.cut S.data.toList [60, 47]).2.2 = ok at *
    cases ok with
    | false =>
      have HV : Hid (anyC s.data.toList = false) := Lib.hid (by
        rw [HA.out]
        rcases hcut with ⟨_, h⟩ | ⟨h, _⟩
        · exact h
        · cases h)
      clear hcut hok
      go_wp2_with fail
      refine HC.out.mono ?_
      rintro e w1 ⟨rfl, n, rfl⟩
      go_wp2
      go_ret
      rw [HV.out]
      exact ⟨rfl, below_drewN' HB.out n⟩
    | true =>
      obtain ⟨hle, hany⟩ : D.data.toList.length + 2 ≤ S.data.toList.length ∧ anyC S.data.toList = (closeT D.data.toList || anyC D.data.toList) := by
        rcases hcut with ⟨h, _⟩ | ⟨_, h⟩
        · cases h
        · exact h
      rw [sz, sz] at hle
      obtain ⟨N, hN⟩ := ba_mk (low (nameS D.data.toList).1)
      obtain ⟨R, hR⟩ := ba_mk (nameS D.data.toList).2
      have hRs := cut_size hR
      have HV : Hid (anyC s.data.toList = (rawsL.contains N.data.toList && headIs R.data.toList 62 || anyC R.data.toList)) := Lib.hid (by
        rw [HA.out, hany, any_rest D.data.toList, hR]
        unfold closeT
        rw [hN, hR])
      have HCut : Hid (∀ W, Below w.heap.size w W → Calls Tryz.prog 87 #[.string D] W fun e w' => e = .returned (.tuple #[.string N, .string R]) ∧ Below w.heap.size w w') := Lib.hid (fun W hW => (cut_at hN hR W (by omega) (HL.out.below hW).caps).mono fun e w' ⟨a, b⟩ => ⟨a, hW.trans (b.mono hW.size)⟩)
      have HI := Lib.hid (isVerbatim_any N)
      have HP := Lib.hid (pre_any R ⟨#[62]⟩)
      rw [show (⟨#[62]⟩ : ByteArray).data.toList = [62] from rfl, pre_head] at HP
      have HRS : Hid (R.size < S.size ∧ R.size ≤ 1000000) := Lib.hid (by omega)
      clear hcut hok hle hany hN hR hRs
      generalize rawsL.contains N.data.toList = b1 at *
      generalize headIs R.data.toList 62 = b2 at *
      cases b1 with
      | false =>
        go_wp2_with fail
        refine HC.out.mono ?_
        rintro e w1 ⟨rfl, n, rfl⟩
        go_wp2_with fail
        refine (HCut.out _ (below_drewN' HB.out n)).mono ?_
        rintro e w2 ⟨rfl, hb2⟩
        go_wp2_with fail
        refine (HI.out _).mono ?_
        rintro e w3 ⟨rfl, rfl⟩
        go_wp2
        go_roundg R.size
        case rel => exact ⟨R, rfl, Lib.hid rfl, Lib.hid HRS.out.2, Lib.hid HV.out, Lib.hid hb2⟩
        case measure => have := HRS.out.1; have := HG.out; omega
      | true =>
      cases b2 with
      | true =>
        go_wp2_with fail
        refine HC.out.mono ?_
        rintro e w1 ⟨rfl, n, rfl⟩
        go_wp2_with fail
        refine (HCut.out _ (below_drewN' HB.out n)).mono ?_
        rintro e w2 ⟨rfl, hb2⟩
        go_wp2_with fail
        refine (HI.out _).mono ?_
        rintro e w3 ⟨rfl, rfl⟩
        go_wp2_with fail
        refine (HP.out _).mono ?_
        rintro e w3 ⟨rfl, rfl⟩
        go_wp2
        go_ret
        rw [HV.out]
        exact ⟨rfl, hb2⟩
      | false =>
        go_wp2_with fail
        refine HC.out.mono ?_
        rintro e w1 ⟨rfl, n, rfl⟩
        go_wp2_with fail
        refine (HCut.out _ (below_drewN' HB.out n)).mono ?_
        rintro e w2 ⟨rfl, hb2⟩
        go_wp2_with fail
        refine (HI.out _).mono ?_
        rintro e w3 ⟨rfl, rfl⟩
        go_wp2_with fail
        refine (HP.out _).mono ?_
        rintro e w3 ⟨rfl, rfl⟩
        go_wp2
        go_roundg R.size
        case rel => exact ⟨R, rfl, Lib.hid rfl, Lib.hid HRS.out.2, Lib.hid HV.out, Lib.hid hb2⟩
        case measure => have := HRS.out.1; have := HG.out; omega

theorem kinds_all (k : Int) : k = 1 ∨ k = 2 ∨ k = 3 ∨ k = 4 ∨ k = 5 ∨ (k = 6 ∨ k = 7) ∨ (¬ k = 1 ∧ ¬ k = 2 ∧ ¬ k = 3 ∧ ¬ k = 4 ∧ ¬ k = 5 ∧ ¬ k = 6 ∧ ¬ k = 7) := by omega
set_option maxHeartbeats 2000000 in
theorem htmlEnds_any (s : ByteArray) (kind : Int) (w : World) (hs : s.size ≤ 1000000) (hL : LaidS w) :
    Calls Tryz.prog 29 #[.string s, .int .i64 kind] w fun e w' => e = .returned (.bool (endsP s.data.toList kind)) ∧ Below w.heap.size w w' := by
  rcases kinds_all kind with rfl | rfl | rfl | rfl | rfl | (rfl | rfl) | ⟨k1, k2, k3, k4, k5, k6, k7⟩
  · have H := Lib.hid (endVer_any s w hs hL)
    clear hL
    go_enter Tryz.func29, Tryz.ntmps29
    go_wp2_with fail
    refine H.out.mono ?_
    rintro e w1 ⟨rfl, hb⟩
    go_wp2
    go_ret
    exact ⟨rfl, hb⟩
  · have H := Lib.hid (contains_any s ⟨#[45, 45, 62]⟩ w hs hL)
    rw [show (⟨#[45, 45, 62]⟩ : ByteArray).data.toList = [45, 45, 62] from rfl] at H
    clear hL
    go_enter Tryz.func29, Tryz.ntmps29
    go_wp2_with fail
    refine H.out.mono ?_
    rintro e w1 ⟨rfl, rfl⟩
    go_wp2
    go_ret
    exact ⟨rfl, Below.refl _ _⟩
  · have H := Lib.hid (contains_any s ⟨#[63, 62]⟩ w hs hL)
    rw [show (⟨#[63, 62]⟩ : ByteArray).data.toList = [63, 62] from rfl] at H
    clear hL
    go_enter Tryz.func29, Tryz.ntmps29
    go_wp2_with fail
    refine H.out.mono ?_
    rintro e w1 ⟨rfl, rfl⟩
    go_wp2
    go_ret
    exact ⟨rfl, Below.refl _ _⟩
  · have H := Lib.hid (contains_any s ⟨#[62]⟩ w hs hL)
    rw [show (⟨#[62]⟩ : ByteArray).data.toList = [62] from rfl] at H
    clear hL
    go_enter Tryz.func29, Tryz.ntmps29
    go_wp2_with fail
    refine H.out.mono ?_
    rintro e w1 ⟨rfl, rfl⟩
    go_wp2
    go_ret
    exact ⟨rfl, Below.refl _ _⟩
  · have H := Lib.hid (contains_any s ⟨#[93, 93, 62]⟩ w hs hL)
    rw [show (⟨#[93, 93, 62]⟩ : ByteArray).data.toList = [93, 93, 62] from rfl] at H
    clear hL
    go_enter Tryz.func29, Tryz.ntmps29
    go_wp2_with fail
    refine H.out.mono ?_
    rintro e w1 ⟨rfl, rfl⟩
    go_wp2
    go_ret
    exact ⟨rfl, Below.refl _ _⟩
  · have H := Lib.hid (only_any s w hs)
    have HV : Hid (endsP s.data.toList 6 = s.data.toList.all blk) := Lib.hid rfl
    clear hL
    generalize s.data.toList.all blk = b at *
    go_enter Tryz.func29, Tryz.ntmps29
    go_wp2_with fail
    refine H.out.mono ?_
    rintro e w1 ⟨rfl, hb⟩
    go_wp2
    go_ret
    rw [HV.out]
    exact ⟨rfl, hb⟩
  · have H := Lib.hid (only_any s w hs)
    have HV : Hid (endsP s.data.toList 7 = s.data.toList.all blk) := Lib.hid rfl
    clear hL
    generalize s.data.toList.all blk = b at *
    go_enter Tryz.func29, Tryz.ntmps29
    go_wp2_with fail
    refine H.out.mono ?_
    rintro e w1 ⟨rfl, hb⟩
    go_wp2
    go_ret
    rw [HV.out]
    exact ⟨rfl, hb⟩
  · have n1 : (kind == 1) = false := by simpa using k1
    have n2 : (kind == 2) = false := by simpa using k2
    have n3 : (kind == 3) = false := by simpa using k3
    have n4 : (kind == 4) = false := by simpa using k4
    have n5 : (kind == 5) = false := by simpa using k5
    have n6 : (kind == 6) = false := by simpa using k6
    have n7 : (kind == 7) = false := by simpa using k7
    have HV : Hid (endsP s.data.toList kind = false) := Lib.hid (by unfold endsP; rw [if_neg k1, if_neg k2, if_neg k3, if_neg k4, if_neg k5, if_neg (fun e => e.elim k6 k7)])
    clear k1 k2 k3 k4 k5 k6 k7
    go_enter Tryz.func29, Tryz.ntmps29
    go_wp2
    go_ret
    rw [HV.out]
    exact ⟨rfl, Below.refl _ _⟩

set_option maxHeartbeats 2000000 in
theorem rhtmlEnds_any (s : ByteArray) (kind : Int) (w : World) (hs : s.size ≤ 1000000) :
    Calls Tryz.prog 30 #[.string s, .int .i64 kind] w fun e w' => e = .returned (.bool (endsP s.data.toList kind)) ∧ Below w.heap.size w w' := by
  rcases kinds_all kind with rfl | rfl | rfl | rfl | rfl | (rfl | rfl) | ⟨k1, k2, k3, k4, k5, k6, k7⟩
  · obtain ⟨T, hT⟩ := ba_mk (low s.data.toList)
    have HLw := Lib.hid (rlower_any s w hs)
    rw [hT, ba_self] at HLw
    have hTs : T.size ≤ 1000000 := by have := low_len s.data.toList; rw [hT, sz, sz] at this; omega
    have W0 := Lib.hid (fun w => within_any T ⟨#[60, 47, 115, 99, 114, 105, 112, 116, 62]⟩ w hTs (by decide) (by decide))
    rw [show (⟨#[60, 47, 115, 99, 114, 105, 112, 116, 62]⟩ : ByteArray).data.toList = [60, 47, 115, 99, 114, 105, 112, 116, 62] from rfl] at W0
    have W1 := Lib.hid (fun w => within_any T ⟨#[60, 47, 112, 114, 101, 62]⟩ w hTs (by decide) (by decide))
    rw [show (⟨#[60, 47, 112, 114, 101, 62]⟩ : ByteArray).data.toList = [60, 47, 112, 114, 101, 62] from rfl] at W1
    have W2 := Lib.hid (fun w => within_any T ⟨#[60, 47, 115, 116, 121, 108, 101, 62]⟩ w hTs (by decide) (by decide))
    rw [show (⟨#[60, 47, 115, 116, 121, 108, 101, 62]⟩ : ByteArray).data.toList = [60, 47, 115, 116, 121, 108, 101, 62] from rfl] at W2
    have W3 := Lib.hid (fun w => within_any T ⟨#[60, 47, 116, 101, 120, 116, 97, 114, 101, 97, 62]⟩ w hTs (by decide) (by decide))
    rw [show (⟨#[60, 47, 116, 101, 120, 116, 97, 114, 101, 97, 62]⟩ : ByteArray).data.toList = [60, 47, 116, 101, 120, 116, 97, 114, 101, 97, 62] from rfl] at W3
    have HV : Hid (endsP s.data.toList 1 = (Lib.contains T.data.toList [60, 47, 115, 99, 114, 105, 112, 116, 62] || (Lib.contains T.data.toList [60, 47, 112, 114, 101, 62] || (Lib.contains T.data.toList [60, 47, 115, 116, 121, 108, 101, 62] || Lib.contains T.data.toList [60, 47, 116, 101, 120, 116, 97, 114, 101, 97, 62])))) := Lib.hid (by
      show anyC s.data.toList = _
      rw [anyC_ref, hT]
      simp only [rawsL, List.any_cons, List.any_nil, Bool.or_false]
      rfl)
    clear hT
    generalize Lib.contains T.data.toList [60, 47, 115, 99, 114, 105, 112, 116, 62] = b0 at *
    generalize Lib.contains T.data.toList [60, 47, 112, 114, 101, 62] = b1 at *
    generalize Lib.contains T.data.toList [60, 47, 115, 116, 121, 108, 101, 62] = b2 at *
    generalize Lib.contains T.data.toList [60, 47, 116, 101, 120, 116, 97, 114, 101, 97, 62] = b3 at *
    cases b0 with
    | true =>
      go_enter Tryz.func30, Tryz.ntmps30
      go_wp2_with fail
      refine HLw.out.mono ?_
      rintro e w1 ⟨rfl, hb⟩
      go_wp2_with fail
      refine (W0.out _).mono ?_
      rintro e w2 ⟨rfl, rfl⟩
      go_wp2
      go_ret
      rw [HV.out]
      exact ⟨rfl, hb⟩
    | false =>
    cases b1 with
    | true =>
      go_enter Tryz.func30, Tryz.ntmps30
      go_wp2_with fail
      refine HLw.out.mono ?_
      rintro e w1 ⟨rfl, hb⟩
      go_wp2_with fail
      refine (W0.out _).mono ?_
      rintro e w2 ⟨rfl, rfl⟩
      go_wp2_with fail
      refine (W1.out _).mono ?_
      rintro e w2 ⟨rfl, rfl⟩
      go_wp2
      go_ret
      rw [HV.out]
      exact ⟨rfl, hb⟩
    | false =>
    cases b2 with
    | true =>
      go_enter Tryz.func30, Tryz.ntmps30
      go_wp2_with fail
      refine HLw.out.mono ?_
      rintro e w1 ⟨rfl, hb⟩
      go_wp2_with fail
      refine (W0.out _).mono ?_
      rintro e w2 ⟨rfl, rfl⟩
      go_wp2_with fail
      refine (W1.out _).mono ?_
      rintro e w2 ⟨rfl, rfl⟩
      go_wp2_with fail
      refine (W2.out _).mono ?_
      rintro e w2 ⟨rfl, rfl⟩
      go_wp2
      go_ret
      rw [HV.out]
      exact ⟨rfl, hb⟩
    | false =>
    cases b3 with
    | true =>
      go_enter Tryz.func30, Tryz.ntmps30
      go_wp2_with fail
      refine HLw.out.mono ?_
      rintro e w1 ⟨rfl, hb⟩
      go_wp2_with fail
      refine (W0.out _).mono ?_
      rintro e w2 ⟨rfl, rfl⟩
      go_wp2_with fail
      refine (W1.out _).mono ?_
      rintro e w2 ⟨rfl, rfl⟩
      go_wp2_with fail
      refine (W2.out _).mono ?_
      rintro e w2 ⟨rfl, rfl⟩
      go_wp2_with fail
      refine (W3.out _).mono ?_
      rintro e w2 ⟨rfl, rfl⟩
      go_wp2
      go_ret
      rw [HV.out]
      exact ⟨rfl, hb⟩
    | false =>
      go_enter Tryz.func30, Tryz.ntmps30
      go_wp2_with fail
      refine HLw.out.mono ?_
      rintro e w1 ⟨rfl, hb⟩
      go_wp2_with fail
      refine (W0.out _).mono ?_
      rintro e w2 ⟨rfl, rfl⟩
      go_wp2_with fail
      refine (W1.out _).mono ?_
      rintro e w2 ⟨rfl, rfl⟩
      go_wp2_with fail
      refine (W2.out _).mono ?_
      rintro e w2 ⟨rfl, rfl⟩
      go_wp2_with fail
      refine (W3.out _).mono ?_
      rintro e w2 ⟨rfl, rfl⟩
      go_wp2
      go_ret
      rw [HV.out]
      exact ⟨rfl, hb⟩
  · have H := Lib.hid (within_any s ⟨#[45, 45, 62]⟩ w hs (by decide) (by decide))
    rw [show (⟨#[45, 45, 62]⟩ : ByteArray).data.toList = [45, 45, 62] from rfl] at H
    go_enter Tryz.func30, Tryz.ntmps30
    go_wp2_with fail
    refine H.out.mono ?_
    rintro e w1 ⟨rfl, rfl⟩
    go_wp2
    go_ret
    exact ⟨rfl, Below.refl _ _⟩
  · have H := Lib.hid (within_any s ⟨#[63, 62]⟩ w hs (by decide) (by decide))
    rw [show (⟨#[63, 62]⟩ : ByteArray).data.toList = [63, 62] from rfl] at H
    go_enter Tryz.func30, Tryz.ntmps30
    go_wp2_with fail
    refine H.out.mono ?_
    rintro e w1 ⟨rfl, rfl⟩
    go_wp2
    go_ret
    exact ⟨rfl, Below.refl _ _⟩
  · have H := Lib.hid (within_any s ⟨#[62]⟩ w hs (by decide) (by decide))
    rw [show (⟨#[62]⟩ : ByteArray).data.toList = [62] from rfl] at H
    go_enter Tryz.func30, Tryz.ntmps30
    go_wp2_with fail
    refine H.out.mono ?_
    rintro e w1 ⟨rfl, rfl⟩
    go_wp2
    go_ret
    exact ⟨rfl, Below.refl _ _⟩
  · have H := Lib.hid (within_any s ⟨#[93, 93, 62]⟩ w hs (by decide) (by decide))
    rw [show (⟨#[93, 93, 62]⟩ : ByteArray).data.toList = [93, 93, 62] from rfl] at H
    go_enter Tryz.func30, Tryz.ntmps30
    go_wp2_with fail
    refine H.out.mono ?_
    rintro e w1 ⟨rfl, rfl⟩
    go_wp2
    go_ret
    exact ⟨rfl, Below.refl _ _⟩
  · obtain ⟨T, hT, hTe, _⟩ := rtrim_at s hs
    have H := Lib.hid hT
    have HE : Hid (T.toList.isEmpty = s.data.toList.all blk) := Lib.hid hTe
    clear hT hTe
    go_enter Tryz.func30, Tryz.ntmps30
    go_wp2_with fail
    refine (H.out _).mono ?_
    rintro e w1 ⟨rfl, rfl⟩
    go_wp2
    go_ret
    exact ⟨ret_bool' HE.out, Below.refl _ _⟩
  · obtain ⟨T, hT, hTe, _⟩ := rtrim_at s hs
    have H := Lib.hid hT
    have HE : Hid (T.toList.isEmpty = s.data.toList.all blk) := Lib.hid hTe
    clear hT hTe
    go_enter Tryz.func30, Tryz.ntmps30
    go_wp2_with fail
    refine (H.out _).mono ?_
    rintro e w1 ⟨rfl, rfl⟩
    go_wp2
    go_ret
    exact ⟨ret_bool' HE.out, Below.refl _ _⟩
  · have n1 : (kind == 1) = false := by simpa using k1
    have n2 : (kind == 2) = false := by simpa using k2
    have n3 : (kind == 3) = false := by simpa using k3
    have n4 : (kind == 4) = false := by simpa using k4
    have n5 : (kind == 5) = false := by simpa using k5
    have n6 : (kind == 6) = false := by simpa using k6
    have n7 : (kind == 7) = false := by simpa using k7
    have HV : Hid (endsP s.data.toList kind = false) := Lib.hid (by unfold endsP; rw [if_neg k1, if_neg k2, if_neg k3, if_neg k4, if_neg k5, if_neg (fun e => e.elim k6 k7)])
    clear k1 k2 k3 k4 k5 k6 k7
    go_enter Tryz.func30, Tryz.ntmps30
    go_wp2
    go_ret
    rw [HV.out]
    exact ⟨rfl, Below.refl _ _⟩
end Sc
end Go.Proofs.YtnpaagglnfocpaaGreatDoor
