/- ScanLines: the law's walk. -/
import Derived.Test.YtnpaagglnfocpaaGreatDoorScV
namespace Go.Proofs.YtnpaagglnfocpaaGreatDoor
open Go Go.RowKit
namespace ScanLines
open Sc
set_option maxRecDepth 100000
set_option linter.unusedVariables false
set_option linter.unusedSimpArgs false

set_option maxHeartbeats 8000000 in
theorem law_any (s : ByteArray) (cc : Int) (n : Int) (w : World) (hL : LaidS w) (hs : s.size ≤ maxLen) (h0 : 0 ≤ cc) (h1 : cc ≤ 255) :
    Calls Tryz.prog 3 #[.string s, .int .u8 cc, .int .i64 n] w fun e w' => e = .returned (.bool true) ∧ Below w.heap.size w w' := by
  unfold maxLen at hs
  obtain ⟨c, rfl⟩ : ∃ c : UInt8, cc = (c.toNat : Int) := ⟨UInt8.ofNat cc.toNat, by simp only [UInt8.toNat_ofNat']; omega⟩
  have HA := Lib.hid (frm_awake hL)
  have hb0 := Below.refl w.heap.size w
  by_cases hbig : 1000 < s.size
  · have hb' : (1000 : Int) < (s.size : Int) := by omega
    clear hL h0 h1
    go_enter Tryz.func3, Tryz.ntmps3
    go_wp2_with fail
    refine (HA.out _ hb0).mono ?_
    rintro e w1 ⟨rfl, hb1⟩
    go_wp2
    go_ret
    exact ⟨rfl, hb1⟩
  · have hb' : (s.size : Int) ≤ 1000 := by omega
    have hz : s.size ≤ 100000 := by omega
    obtain ⟨a1, l1, ha⟩ : ∃ a l, atxP s.data.toList = (a, l) := ⟨_, _, rfl⟩
    obtain ⟨b1, rfl⟩ := ba_mk l1
    obtain ⟨c2, a2, l2, hf⟩ : ∃ c a l, fenceP s.data.toList = (c, a, l) := ⟨_, _, _, rfl⟩
    obtain ⟨b2, rfl⟩ := ba_mk l2
    obtain ⟨a3, c3, b3, ho⟩ : ∃ a c b, ordP s.data.toList = (a, c, b) := ⟨_, _, _, rfl⟩
    obtain ⟨r, hr⟩ : ∃ r, ruleP s.data.toList = r := ⟨_, rfl⟩
    obtain ⟨t, ht⟩ : ∃ t, setP s.data.toList = t := ⟨_, rfl⟩
    obtain ⟨b, hb⟩ : ∃ b, bulP s.data.toList = b := ⟨_, rfl⟩
    obtain ⟨x, hx⟩ : ∃ x, closesP s.data.toList c n = x := ⟨_, rfl⟩
    have F1 := Lib.hid (frm_atx hL hz ha)
    have G1 := Lib.hid (frm_ratx hL hz ha)
    have F2 := Lib.hid (frm_fence hL hz hf)
    have G2 := Lib.hid (frm_rfence hL hz hf)
    have F3 := Lib.hid (frm_ord hL hz ho)
    have G3 := Lib.hid (frm_rord hL hz ho)
    have F4 := Lib.hid (frm_rule hL hz hr)
    have G4 := Lib.hid (frm_rrule hL hz hr)
    have F5 := Lib.hid (frm_set hL hz ht)
    have G5 := Lib.hid (frm_rset hL hz ht)
    have F6 := Lib.hid (frm_closes hL hz hx)
    have G6 := Lib.hid (frm_rcloses hL hz hx)
    have F7 := Lib.hid (frm_bul hL hz hb)
    have G7 := Lib.hid (frm_rbul hL hz hb)
    clear hL ha hf ho hr ht hb hx hbig h0 h1
    go_enter Tryz.func3, Tryz.ntmps3
    go_wp2_with fail
    refine (HA.out _ hb0).mono ?_
    rintro e w1 ⟨rfl, hb1⟩
    go_wp2_with fail
    refine (F1.out _ hb1).mono ?_
    rintro e w2 ⟨rfl, hb2⟩
    go_wp2_with fail
    refine (G1.out _ hb2).mono ?_
    rintro e w3 ⟨rfl, hb3⟩
    go_wp2_with fail
    refine (F2.out _ hb3).mono ?_
    rintro e w4 ⟨rfl, hb4⟩
    go_wp2_with fail
    refine (G2.out _ hb4).mono ?_
    rintro e w5 ⟨rfl, hb5⟩
    go_wp2_with fail
    refine (F3.out _ hb5).mono ?_
    rintro e w6 ⟨rfl, hb6⟩
    go_wp2_with fail
    refine (G3.out _ hb6).mono ?_
    rintro e w7 ⟨rfl, hb7⟩
    go_wp2_with fail
    refine (F4.out _ hb7).mono ?_
    rintro e w8 ⟨rfl, hb8⟩
    go_wp2_with fail
    refine (G4.out _ hb8).mono ?_
    rintro e w9 ⟨rfl, hb9⟩
    go_wp2_with fail
    refine (F5.out _ hb9).mono ?_
    rintro e w10 ⟨rfl, hb10⟩
    go_wp2_with fail
    refine (G5.out _ hb10).mono ?_
    rintro e w11 ⟨rfl, hb11⟩
    go_wp2_with fail
    refine (F6.out _ hb11).mono ?_
    rintro e w12 ⟨rfl, hb12⟩
    go_wp2_with fail
    refine (G6.out _ hb12).mono ?_
    rintro e w13 ⟨rfl, hb13⟩
    go_wp2_with fail
    refine (F7.out _ hb13).mono ?_
    rintro e w14 ⟨rfl, hb14⟩
    go_wp2_with fail
    refine (G7.out _ hb14).mono ?_
    rintro e w15 ⟨rfl, hb15⟩
    go_wp2
    go_ret
    exact ⟨rfl, hb15⟩
end ScanLines
end Go.Proofs.YtnpaagglnfocpaaGreatDoor
