/- ScanOne: the law's walk. -/
import Derived.Test.YtnpaagglnfocpaaGreatDoorScW
namespace Go.Proofs.YtnpaagglnfocpaaGreatDoor
open Go Go.RowKit
namespace ScanOne
open Sc
set_option maxRecDepth 100000
set_option linter.unusedVariables false
set_option linter.unusedSimpArgs false

set_option maxHeartbeats 16000000 in
theorem law_any (s : ByteArray) (w : World) (hL : LaidS w) (hs : s.size ≤ maxLen) :
    Calls Tryz.prog 7 #[.string s] w fun e w' => e = .returned (.bool true) ∧ Below w.heap.size w w' := by
  unfold maxLen at hs
  have HA := Lib.hid (frm_awake hL)
  have hb0 := Below.refl w.heap.size w
  by_cases hbig : 1000 < s.size
  · have hb' : (1000 : Int) < (s.size : Int) := by omega
    clear hL
    go_enter Tryz.func7, Tryz.ntmps7
    go_wp2_with fail
    refine (HA.out _ hb0).mono ?_
    rintro e w1 ⟨rfl, hb1⟩
    go_wp2
    go_ret
    exact ⟨rfl, hb1⟩
  · have hb' : (s.size : Int) ≤ 1000 := by omega
    have hz : s.size ≤ 100000 := by omega
    obtain ⟨a1, l1, ha⟩ : ∃ a l, atxP s.data.toList = (a, l) := ⟨_, _, rfl⟩
    obtain ⟨b1, rfl⟩ := ba_mk l1
    obtain ⟨c2, a2, l2, hf⟩ : ∃ c a l, fenceP s.data.toList = (c, a, l) := ⟨_, _, _, rfl⟩
    obtain ⟨b2, rfl⟩ := ba_mk l2
    obtain ⟨a3, c3, b3, ho⟩ : ∃ a c b, ordP s.data.toList = (a, c, b) := ⟨_, _, _, rfl⟩
    obtain ⟨r, hr⟩ : ∃ r, ruleP s.data.toList = r := ⟨_, rfl⟩
    obtain ⟨h, hh⟩ : ∃ h, htmlS s.data.toList = h := ⟨_, rfl⟩
    obtain ⟨b, hbu⟩ : ∃ b, bulP s.data.toList = b := ⟨_, rfl⟩
    obtain ⟨t, ht⟩ : ∃ t, setP s.data.toList = t := ⟨_, rfl⟩
    have F1 := Lib.hid (frm_atx hL hz ha)
    have F2 := Lib.hid (frm_fence hL hz hf)
    have F3 := Lib.hid (frm_ord hL hz ho)
    have F4 := Lib.hid (frm_rule hL hz hr)
    have F5 := Lib.hid (frm_html hL hz hh)
    have F6 := Lib.hid (frm_bul hL hz hbu)
    have F7 := Lib.hid (frm_set hL hz ht)
    have AL := one_of_all s.data.toList
    rw [ha, hf, ho, hr, hh, hbu, ht] at AL
    simp only at AL
    clear hL ha hf ho hr hh hbu ht hbig
    rcases AL with ⟨rfl, rfl, rfl, rfl, rfl⟩ | ⟨g, rfl, rfl, rfl, rfl, rfl, k⟩ | ⟨rfl, g, rfl, rfl, rfl, rfl, k⟩ | ⟨rfl, rfl, g, rfl, rfl, rfl, k⟩ | ⟨rfl, rfl, rfl, rfl, rfl, k⟩ | ⟨rfl, rfl, rfl, rfl, g, rfl, k⟩
    · by_cases e1 : b = 0
      · have d1 : ((b : Int) == 0) = true := by rw [e1]; rfl
        by_cases e2 : t = 1
        · have d2 : ((t : Int) != 1) = false := by rw [e2]; rfl
          clear e1 e2
          go_enter Tryz.func7, Tryz.ntmps7
          go_wp2_with (first | (go_at_call 10; refine (HA.out _ hb0).mono ?_; rintro e w1 ⟨rfl, hb⟩) | (go_at_call 11; refine (F1.out _ (by assumption)).mono ?_; rintro e w1 ⟨rfl, hb⟩) | (go_at_call 13; refine (F2.out _ (by assumption)).mono ?_; rintro e w1 ⟨rfl, hb⟩) | (go_at_call 15; refine (F3.out _ (by assumption)).mono ?_; rintro e w1 ⟨rfl, hb⟩) | (go_at_call 17; refine (F4.out _ (by assumption)).mono ?_; rintro e w1 ⟨rfl, hb⟩) | (go_at_call 27; refine (F5.out _ (by assumption)).mono ?_; rintro e w1 ⟨rfl, hb⟩) | (go_at_call 23; refine (F6.out _ (by assumption)).mono ?_; rintro e w1 ⟨rfl, hb⟩) | (go_at_call 19; refine (F7.out _ (by assumption)).mono ?_; rintro e w1 ⟨rfl, hb⟩))
          go_ret
          exact ⟨rfl, by assumption⟩
        · have d2 : ((t : Int) != 1) = true := by simp only [bne_iff_ne, ne_eq]; omega
          clear e1 e2
          go_enter Tryz.func7, Tryz.ntmps7
          go_wp2_with (first | (go_at_call 10; refine (HA.out _ hb0).mono ?_; rintro e w1 ⟨rfl, hb⟩) | (go_at_call 11; refine (F1.out _ (by assumption)).mono ?_; rintro e w1 ⟨rfl, hb⟩) | (go_at_call 13; refine (F2.out _ (by assumption)).mono ?_; rintro e w1 ⟨rfl, hb⟩) | (go_at_call 15; refine (F3.out _ (by assumption)).mono ?_; rintro e w1 ⟨rfl, hb⟩) | (go_at_call 17; refine (F4.out _ (by assumption)).mono ?_; rintro e w1 ⟨rfl, hb⟩) | (go_at_call 27; refine (F5.out _ (by assumption)).mono ?_; rintro e w1 ⟨rfl, hb⟩) | (go_at_call 23; refine (F6.out _ (by assumption)).mono ?_; rintro e w1 ⟨rfl, hb⟩) | (go_at_call 19; refine (F7.out _ (by assumption)).mono ?_; rintro e w1 ⟨rfl, hb⟩))
          go_ret
          exact ⟨rfl, by assumption⟩
      · have d1 : ((b : Int) == 0) = false := by rw [beq_eq_false_iff_ne]; omega
        by_cases e2 : t = 1
        · have d2 : ((t : Int) != 1) = false := by rw [e2]; rfl
          clear e1 e2
          go_enter Tryz.func7, Tryz.ntmps7
          go_wp2_with (first | (go_at_call 10; refine (HA.out _ hb0).mono ?_; rintro e w1 ⟨rfl, hb⟩) | (go_at_call 11; refine (F1.out _ (by assumption)).mono ?_; rintro e w1 ⟨rfl, hb⟩) | (go_at_call 13; refine (F2.out _ (by assumption)).mono ?_; rintro e w1 ⟨rfl, hb⟩) | (go_at_call 15; refine (F3.out _ (by assumption)).mono ?_; rintro e w1 ⟨rfl, hb⟩) | (go_at_call 17; refine (F4.out _ (by assumption)).mono ?_; rintro e w1 ⟨rfl, hb⟩) | (go_at_call 27; refine (F5.out _ (by assumption)).mono ?_; rintro e w1 ⟨rfl, hb⟩) | (go_at_call 23; refine (F6.out _ (by assumption)).mono ?_; rintro e w1 ⟨rfl, hb⟩) | (go_at_call 19; refine (F7.out _ (by assumption)).mono ?_; rintro e w1 ⟨rfl, hb⟩))
          go_ret
          exact ⟨rfl, by assumption⟩
        · have d2 : ((t : Int) != 1) = true := by simp only [bne_iff_ne, ne_eq]; omega
          clear e1 e2
          go_enter Tryz.func7, Tryz.ntmps7
          go_wp2_with (first | (go_at_call 10; refine (HA.out _ hb0).mono ?_; rintro e w1 ⟨rfl, hb⟩) | (go_at_call 11; refine (F1.out _ (by assumption)).mono ?_; rintro e w1 ⟨rfl, hb⟩) | (go_at_call 13; refine (F2.out _ (by assumption)).mono ?_; rintro e w1 ⟨rfl, hb⟩) | (go_at_call 15; refine (F3.out _ (by assumption)).mono ?_; rintro e w1 ⟨rfl, hb⟩) | (go_at_call 17; refine (F4.out _ (by assumption)).mono ?_; rintro e w1 ⟨rfl, hb⟩) | (go_at_call 27; refine (F5.out _ (by assumption)).mono ?_; rintro e w1 ⟨rfl, hb⟩) | (go_at_call 23; refine (F6.out _ (by assumption)).mono ?_; rintro e w1 ⟨rfl, hb⟩) | (go_at_call 19; refine (F7.out _ (by assumption)).mono ?_; rintro e w1 ⟨rfl, hb⟩))
          go_ret
          exact ⟨rfl, by assumption⟩
    · have g2 : (0 : Int) < (a1 : Int) := by omega
      have d2 : ((t : Int) != 1) = true := by simp only [bne_iff_ne, ne_eq]; omega
      clear g k
      go_enter Tryz.func7, Tryz.ntmps7
      go_wp2_with (first | (go_at_call 10; refine (HA.out _ hb0).mono ?_; rintro e w1 ⟨rfl, hb⟩) | (go_at_call 11; refine (F1.out _ (by assumption)).mono ?_; rintro e w1 ⟨rfl, hb⟩) | (go_at_call 13; refine (F2.out _ (by assumption)).mono ?_; rintro e w1 ⟨rfl, hb⟩) | (go_at_call 15; refine (F3.out _ (by assumption)).mono ?_; rintro e w1 ⟨rfl, hb⟩) | (go_at_call 17; refine (F4.out _ (by assumption)).mono ?_; rintro e w1 ⟨rfl, hb⟩) | (go_at_call 27; refine (F5.out _ (by assumption)).mono ?_; rintro e w1 ⟨rfl, hb⟩) | (go_at_call 23; refine (F6.out _ (by assumption)).mono ?_; rintro e w1 ⟨rfl, hb⟩) | (go_at_call 19; refine (F7.out _ (by assumption)).mono ?_; rintro e w1 ⟨rfl, hb⟩))
      go_ret
      exact ⟨rfl, by assumption⟩
    · have g2 : (0 : Int) < (a2 : Int) := by omega
      have d2 : ((t : Int) != 1) = true := by simp only [bne_iff_ne, ne_eq]; omega
      clear g k
      go_enter Tryz.func7, Tryz.ntmps7
      go_wp2_with (first | (go_at_call 10; refine (HA.out _ hb0).mono ?_; rintro e w1 ⟨rfl, hb⟩) | (go_at_call 11; refine (F1.out _ (by assumption)).mono ?_; rintro e w1 ⟨rfl, hb⟩) | (go_at_call 13; refine (F2.out _ (by assumption)).mono ?_; rintro e w1 ⟨rfl, hb⟩) | (go_at_call 15; refine (F3.out _ (by assumption)).mono ?_; rintro e w1 ⟨rfl, hb⟩) | (go_at_call 17; refine (F4.out _ (by assumption)).mono ?_; rintro e w1 ⟨rfl, hb⟩) | (go_at_call 27; refine (F5.out _ (by assumption)).mono ?_; rintro e w1 ⟨rfl, hb⟩) | (go_at_call 23; refine (F6.out _ (by assumption)).mono ?_; rintro e w1 ⟨rfl, hb⟩) | (go_at_call 19; refine (F7.out _ (by assumption)).mono ?_; rintro e w1 ⟨rfl, hb⟩))
      go_ret
      exact ⟨rfl, by assumption⟩
    · have g2 : (0 : Int) < (b3 : Int) := by omega
      have d2 : ((t : Int) != 1) = true := by simp only [bne_iff_ne, ne_eq]; omega
      clear g k
      go_enter Tryz.func7, Tryz.ntmps7
      go_wp2_with (first | (go_at_call 10; refine (HA.out _ hb0).mono ?_; rintro e w1 ⟨rfl, hb⟩) | (go_at_call 11; refine (F1.out _ (by assumption)).mono ?_; rintro e w1 ⟨rfl, hb⟩) | (go_at_call 13; refine (F2.out _ (by assumption)).mono ?_; rintro e w1 ⟨rfl, hb⟩) | (go_at_call 15; refine (F3.out _ (by assumption)).mono ?_; rintro e w1 ⟨rfl, hb⟩) | (go_at_call 17; refine (F4.out _ (by assumption)).mono ?_; rintro e w1 ⟨rfl, hb⟩) | (go_at_call 27; refine (F5.out _ (by assumption)).mono ?_; rintro e w1 ⟨rfl, hb⟩) | (go_at_call 23; refine (F6.out _ (by assumption)).mono ?_; rintro e w1 ⟨rfl, hb⟩) | (go_at_call 19; refine (F7.out _ (by assumption)).mono ?_; rintro e w1 ⟨rfl, hb⟩))
      go_ret
      exact ⟨rfl, by assumption⟩
    · have d2 : ((t : Int) != 1) = true := by simp only [bne_iff_ne, ne_eq]; omega
      clear k
      by_cases e1 : b = 0
      · have d1 : ((b : Int) == 0) = true := by rw [e1]; rfl
        clear e1
        go_enter Tryz.func7, Tryz.ntmps7
        go_wp2_with (first | (go_at_call 10; refine (HA.out _ hb0).mono ?_; rintro e w1 ⟨rfl, hb⟩) | (go_at_call 11; refine (F1.out _ (by assumption)).mono ?_; rintro e w1 ⟨rfl, hb⟩) | (go_at_call 13; refine (F2.out _ (by assumption)).mono ?_; rintro e w1 ⟨rfl, hb⟩) | (go_at_call 15; refine (F3.out _ (by assumption)).mono ?_; rintro e w1 ⟨rfl, hb⟩) | (go_at_call 17; refine (F4.out _ (by assumption)).mono ?_; rintro e w1 ⟨rfl, hb⟩) | (go_at_call 27; refine (F5.out _ (by assumption)).mono ?_; rintro e w1 ⟨rfl, hb⟩) | (go_at_call 23; refine (F6.out _ (by assumption)).mono ?_; rintro e w1 ⟨rfl, hb⟩) | (go_at_call 19; refine (F7.out _ (by assumption)).mono ?_; rintro e w1 ⟨rfl, hb⟩))
        go_ret
        exact ⟨rfl, by assumption⟩
      · have d1 : ((b : Int) == 0) = false := by rw [beq_eq_false_iff_ne]; omega
        clear e1
        go_enter Tryz.func7, Tryz.ntmps7
        go_wp2_with (first | (go_at_call 10; refine (HA.out _ hb0).mono ?_; rintro e w1 ⟨rfl, hb⟩) | (go_at_call 11; refine (F1.out _ (by assumption)).mono ?_; rintro e w1 ⟨rfl, hb⟩) | (go_at_call 13; refine (F2.out _ (by assumption)).mono ?_; rintro e w1 ⟨rfl, hb⟩) | (go_at_call 15; refine (F3.out _ (by assumption)).mono ?_; rintro e w1 ⟨rfl, hb⟩) | (go_at_call 17; refine (F4.out _ (by assumption)).mono ?_; rintro e w1 ⟨rfl, hb⟩) | (go_at_call 27; refine (F5.out _ (by assumption)).mono ?_; rintro e w1 ⟨rfl, hb⟩) | (go_at_call 23; refine (F6.out _ (by assumption)).mono ?_; rintro e w1 ⟨rfl, hb⟩) | (go_at_call 19; refine (F7.out _ (by assumption)).mono ?_; rintro e w1 ⟨rfl, hb⟩))
        go_ret
        exact ⟨rfl, by assumption⟩
    · have g2 : (0 : Int) < (h : Int) := by omega
      have d2 : ((t : Int) != 1) = true := by simp only [bne_iff_ne, ne_eq]; omega
      clear g k
      go_enter Tryz.func7, Tryz.ntmps7
      go_wp2_with (first | (go_at_call 10; refine (HA.out _ hb0).mono ?_; rintro e w1 ⟨rfl, hb⟩) | (go_at_call 11; refine (F1.out _ (by assumption)).mono ?_; rintro e w1 ⟨rfl, hb⟩) | (go_at_call 13; refine (F2.out _ (by assumption)).mono ?_; rintro e w1 ⟨rfl, hb⟩) | (go_at_call 15; refine (F3.out _ (by assumption)).mono ?_; rintro e w1 ⟨rfl, hb⟩) | (go_at_call 17; refine (F4.out _ (by assumption)).mono ?_; rintro e w1 ⟨rfl, hb⟩) | (go_at_call 27; refine (F5.out _ (by assumption)).mono ?_; rintro e w1 ⟨rfl, hb⟩) | (go_at_call 23; refine (F6.out _ (by assumption)).mono ?_; rintro e w1 ⟨rfl, hb⟩) | (go_at_call 19; refine (F7.out _ (by assumption)).mono ?_; rintro e w1 ⟨rfl, hb⟩))
      go_ret
      exact ⟨rfl, by assumption⟩
end ScanOne
end Go.Proofs.YtnpaagglnfocpaaGreatDoor
