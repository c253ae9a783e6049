/- RefsRest: what is left begins with none; what stands ahead of it is all of them. -/
import Derived.Test.YtfabiidohdkkcaaGreatDoorRfXa
namespace Go.Proofs.YtfabiidohdkkcaaGreatDoor
open Go Go.RowKit Rf
namespace RefsRest
set_option maxRecDepth 100000
set_option linter.unusedVariables false
set_option linter.unusedSimpArgs false

set_option maxHeartbeats 8000000 in
theorem law_any (s : ByteArray) (w : World) (hP : Prog10 w) :
    Calls Tryz.prog 5 #[.string s] w fun e w' => e = .returned (.bool true) ∧ Below w.heap.size w w' := by
  have HA := Lib.hid (awake_any w hP)
  by_cases h2 : (2000 : Int) < (s.size : Int)
  · clear hP
    go_enter Tryz.func5, Tryz.ntmps5
    go_wp2_with fail
    refine HA.out.mono ?_
    rintro e w1 ⟨rfl, hb1⟩
    go_wp2
    go_ret
    exact ⟨rfl, hb1⟩
  have hz : s.size ≤ 100000 := by omega
  obtain ⟨L, hL⟩ := Rb.list (allP s.data.toList).1
  obtain ⟨k, k1, k2, k3, k4, k5, k6⟩ := all_rest s.data.toList.length s.data.toList (Nat.le_refl _)
  rw [szR] at k1
  obtain ⟨S', hS⟩ : ∃ S', S' = s.extract k s.size := ⟨_, rfl⟩
  have hSl : S'.data.toList = s.data.toList.drop k := by rw [hS, restR]
  have hSz : S'.size + k = s.size := by rw [← szR, hSl, List.length_drop, szR]; omega
  have ha : allP s.data.toList = (L.map Rb.r, S'.data.toList) := by rw [hL, hSl, ← k2]
  obtain ⟨T, hT⟩ : ∃ T, T = s.extract 0 k := ⟨_, rfl⟩
  have hTl : T.data.toList = s.data.toList.take k := by rw [hT, toR]
  have hTz : T.size ≤ 100000 := by rw [← szR, hTl, List.length_take, szR]; omega
  have hb : allP T.data.toList = (L.map Rb.r, empB.data.toList) := by rw [hTl, k5, hL]; rfl
  have hn : takeP S'.data.toList = (nilB.r, 0) := by
    have := take_zero (l := S'.data.toList) (by rw [hSl, ← k2]; exact k3)
    exact this
  have hlk : L.length = 0 ↔ k = 0 := by rw [← k4, ← hL, List.map_eq_nil_iff, List.length_eq_zero_iff]
  have hLk : L.length ≤ k := by rw [← hL, List.length_map] at k6; exact k6
  have H1 := Lib.hid (fun W hW => hP.all W hW s L S' hz ha)
  have H2 := Lib.hid (fun W hW => hP.take W hW S' nilB 0 (by omega) hn)
  have H3 := Lib.hid (fun W hW => hP.all W hW T L empB hTz hb)
  have HT := Lib.hid hT
  have HS := Lib.hid hS
  have hle : ¬ (s.size : Int) < (S'.size : Int) := by omega
  have hsub : (s.size : Int) - (S'.size : Int) = (k : Int) := by omega
  have hki : (k : Int) ≤ (s.size : Int) := by omega
  obtain ⟨nL, hnL⟩ : ∃ nL, L.length = nL := ⟨_, rfl⟩
  rw [hnL] at hlk hLk
  have HNL := Lib.hid hnL
  unfold refV refC nilB at H2
  have hem : empB.toList.isEmpty = true := emp_list.trans (decide_eq_true rfl)
  clear hP hL k2 k3 k4 k5 k6 hS hSl hT hTl hTz ha hb hn hnL
  generalize empB = E at *
  have hbb : ∃ bb : Bool, ((nL : Int) == 0) = bb ∧ ((k : Int) == 0) = bb := by
    rcases Nat.eq_zero_or_pos k with h | h
    · exact ⟨true, by simp; omega, by simp; omega⟩
    · exact ⟨false, by simp; omega, by simp; omega⟩
  obtain ⟨bb, hb1, hb2⟩ := hbb
  clear hlk
  go_enter Tryz.func5, Tryz.ntmps5
  go_wp2_with fail
  refine HA.out.mono ?_
  rintro e w1 ⟨rfl, hb1⟩
  have W1 := Lib.hid hb1
  clear hb1 HA
  go_wp2_with fail
  refine (H1.out _ W1.out).mono ?_
  rintro e w2 ⟨v2, rfl, hr2, hb2⟩
  have W2 := Lib.hid (below_later W1.out hb2)
  obtain ⟨a2, c2, rfl, _, _⟩ := hr2
  rw [HNL.out]
  clear hb2 H1 W1
  go_wp2_with fail
  refine (H2.out _ W2.out).mono ?_
  rintro e w3 ⟨rfl, hb3⟩
  have W3 : Hid (Below w.heap.size w (w3.alloc (.cells #[.string ⟨#[]⟩, .string ⟨#[]⟩, .string ⟨#[]⟩] 24))) := Lib.hid (by
    have := below_later W2.out hb3
    exact this.alloc this.size _)
  clear hb3 H2 W2
  go_wp2_with fail
  rw [← HT.out]
  refine (H3.out _ W3.out).mono ?_
  rintro e w4 ⟨v4, rfl, hr4, hb4⟩
  have W4 := Lib.hid (below_later W3.out hb4)
  obtain ⟨a4, c4, rfl, _, _⟩ := hr4
  rw [HNL.out]
  clear hb4 H3 W3
  have heqS : ((s.extract k s.size).toList == S'.toList) = true := by rw [HS.out]; exact beq_self_eq_true _
  go_wp2
  go_ret
  exact ⟨rfl, W4.out⟩
end RefsRest
end Go.Proofs.YtfabiidohdkkcaaGreatDoor
