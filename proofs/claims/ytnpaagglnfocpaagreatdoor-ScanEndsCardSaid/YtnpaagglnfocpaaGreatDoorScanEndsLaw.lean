/- ScanEnds: the law's walk. -/
import Derived.Test.YtnpaagglnfocpaaGreatDoorScW
namespace Go.Proofs.YtnpaagglnfocpaaGreatDoor
open Go Go.RowKit
namespace ScanEnds
open Sc
set_option maxRecDepth 100000
set_option linter.unusedVariables false
set_option linter.unusedSimpArgs false

set_option maxHeartbeats 8000000 in
theorem law_any (s more : ByteArray) (w : World) (hL : LaidS w) (hs : s.size ≤ maxLen) (hm : more.size ≤ maxLen) :
    Calls Tryz.prog 6 #[.string s, .string more] w fun e w' => e = .returned (.bool true) ∧ Below w.heap.size w w' := by
  unfold maxLen at hs hm
  have HA := Lib.hid (frm_awake hL)
  have hb0 := Below.refl w.heap.size w
  by_cases hbig : 500 < s.size
  · have hb' : (500 : Int) < (s.size : Int) := by omega
    clear hL
    go_enter Tryz.func6, Tryz.ntmps6
    go_wp2_with fail
    refine (HA.out _ hb0).mono ?_
    rintro e w1 ⟨rfl, hb1⟩
    go_wp2
    go_ret
    exact ⟨rfl, hb1⟩
  · have hb' : (s.size : Int) ≤ 500 := by omega
    by_cases hbig2 : 500 < more.size
    · have hb2' : (500 : Int) < (more.size : Int) := by omega
      clear hL
      go_enter Tryz.func6, Tryz.ntmps6
      go_wp2_with fail
      refine (HA.out _ hb0).mono ?_
      rintro e w1 ⟨rfl, hb1⟩
      go_wp2
      go_ret
      exact ⟨rfl, hb1⟩
    · have hb2' : (more.size : Int) ≤ 500 := by omega
      obtain ⟨n, hn⟩ : ∃ n, tagN s.data.toList = n := ⟨_, rfl⟩
      have F1 := Lib.hid (frm_tag hL (by omega) hn)
      by_cases hn0 : n = 0
      · have e0 : ((n : Int) == 0) = true := by rw [hn0]; rfl
        clear hL hn hn0 hbig hbig2
        go_enter Tryz.func6, Tryz.ntmps6
        go_wp2_with (first | (go_at_call 10; refine (HA.out _ hb0).mono ?_; rintro e w1 ⟨rfl, hb⟩) | (go_at_call_of 25 (Value.string s); refine (F1.out _ (by assumption)).mono ?_; rintro e w1 ⟨rfl, hb⟩))
        go_ret
        exact ⟨rfl, by assumption⟩
      · have e0 : ((n : Int) == 0) = false := by rw [beq_eq_false_iff_ne]; omega
        obtain ⟨v, v1, v2, v3, v4, v5, v6, v7⟩ := tag_law (l := s.data.toList) (by rw [hn]; exact hn0)
        rw [hn] at v2 v3 v4 v5 v7
        have hns : n ≤ s.size := by rw [← hn, ← sz]; exact tagN_le _
        obtain ⟨A, hA⟩ : ∃ A : ByteArray, s.extract 0 n ++ more = A := ⟨_, rfl⟩
        obtain ⟨B, hB⟩ : ∃ B : ByteArray, s.extract 0 (n - 1) = B := ⟨_, rfl⟩
        have hAd : A.data.toList = s.data.toList.take n ++ more.data.toList := by rw [← hA, app_data, ext_to]
        have hBd : B.data.toList = s.data.toList.take (n - 1) := by rw [← hB, ext_to]
        have hAs : A.size ≤ 100000 := by rw [← sz, hAd, List.length_append, List.length_take, sz, sz]; omega
        have hBs : B.size ≤ 100000 := by rw [← sz, hBd, List.length_take, sz]; omega
        have F2 := Lib.hid (frm_tag hL (s := A) hAs (a := n) (by rw [hAd]; exact v4 _))
        have F3 := Lib.hid (frm_tag hL (s := B) hBs (a := 0) (by rw [hBd]; exact v5))
        obtain ⟨m, hm1⟩ : ∃ m, n = m + 1 := ⟨n - 1, by omega⟩
        have hms : m < s.size := by omega
        obtain ⟨x, d, hd, hck, hdt⟩ := cons_at hms
        have hx : x = 62 := by
          have h1 : s.data.toList[m]? = some x := by
            have := congrArg (fun l => l[0]?) hd
            simpa using this
          rw [show n - 1 = m by omega] at v7
          rw [v7] at h1
          exact (Option.some.inj h1).symm
        have h0s : 0 < s.size := by omega
        obtain ⟨y, d2, hd2, hck2, _, _⟩ := cons_of h0s
        have hy : y = 60 := by
          have h1 : s.data.toList[0]? = some y := by rw [hd2]; rfl
          rw [v6] at h1
          exact (Option.some.inj h1).symm
        subst hx hy
        rw [show n - 1 = m by omega] at hB
        have n3 : (3 : Int) ≤ (n : Int) := by omega
        have nle : (n : Int) ≤ (s.size : Int) := by omega
        have nm : (n : Int) - 1 = (m : Int) := by omega
        have mlt : (m : Int) < (s.size : Int) := by omega
        have mle : (m : Int) ≤ (s.size : Int) := by omega
        have s0 : (0 : Int) < (s.size : Int) := by omega
        clear hL hn hn0 hbig hbig2 v1 v2 v3 v4 v5 v6 v7 hAd hBd hd hdt hd2 hm1
        go_enter Tryz.func6, Tryz.ntmps6
        go_wp2_with (first | (go_at_call 10; refine (HA.out _ hb0).mono ?_; rintro e w1 ⟨rfl, hb⟩) | (go_at_call_of 25 (Value.string s); refine (F1.out _ (by assumption)).mono ?_; rintro e w1 ⟨rfl, hb⟩) | (go_at_call_of 25 (Value.string A); refine (F2.out _ (by assumption)).mono ?_; rintro e w1 ⟨rfl, hb⟩) | (go_at_call_of 25 (Value.string B); refine (F3.out _ (by assumption)).mono ?_; rintro e w1 ⟨rfl, hb⟩))
        go_ret
        exact ⟨rfl, by assumption⟩
end ScanEnds
end Go.Proofs.YtnpaagglnfocpaaGreatDoor
