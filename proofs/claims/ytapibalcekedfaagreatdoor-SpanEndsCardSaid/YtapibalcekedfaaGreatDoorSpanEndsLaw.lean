/- SpanEnds: the law's walk. -/
import Derived.Test.YtapibalcekedfaaGreatDoorSpJ
import Derived.Test.YtapibalcekedfaaGreatDoorSpQ
namespace Go.Proofs.YtapibalcekedfaaGreatDoor
open Go Go.RowKit
namespace SpanEnds
open Sp Sc
set_option maxRecDepth 100000
set_option linter.unusedVariables false
set_option linter.unusedSimpArgs false

theorem at_of {s : ByteArray} {k : Nat} {c : UInt8} (h : s.data.toList[k]? = some c) : ∃ h : k < s.size, s[k] = c := by
  have h1 := (List.getElem?_eq_some_iff.1 h).1
  rw [sz] at h1
  obtain ⟨x, t, hd, hck, ht⟩ := cons_at h1
  have := get_of h1 hck
  rw [this] at h
  exact ⟨h1, hck.trans (Option.some.inj h)⟩

set_option maxHeartbeats 8000000 in
theorem law_any (s more : ByteArray) (w : World) (hL : LaidP w) (hs : s.size ≤ maxLen) (hm : more.size ≤ maxLen) :
    Calls Tryz.prog 4 #[.string s, .string more] w fun e w' => e = .returned (.bool true) ∧ Below w.heap.size w w' := by
  unfold maxLen at hs hm
  have HA := Lib.hid (frm_awake hL)
  have hb0 := Below.refl w.heap.size w
  by_cases hbig : 500 < s.size
  · have hb' : (500 : Int) < (s.size : Int) := by omega
    clear hL
    go_enter Tryz.func4, Tryz.ntmps4
    go_wp2_with fail
    refine (HA.out _ hb0).mono ?_
    rintro e w1 ⟨rfl, hb1⟩
    go_wp2
    go_ret
    exact ⟨rfl, hb1⟩
  by_cases hbig2 : 500 < more.size
  · have hb' : ¬ (500 : Int) < (s.size : Int) := by omega
    have hb2' : (500 : Int) < (more.size : Int) := by omega
    clear hL
    go_enter Tryz.func4, Tryz.ntmps4
    go_wp2_with fail
    refine (HA.out _ hb0).mono ?_
    rintro e w1 ⟨rfl, hb1⟩
    go_wp2
    go_ret
    exact ⟨rfl, hb1⟩
  have hsI : (s.size : Int) ≤ 500 := by omega
  have hmI : (more.size : Int) ≤ 500 := by omega
  have hz : s.size ≤ 100000 := by omega
  have hsN : s.size ≤ 500 := by omega
  have hmN : more.size ≤ 500 := by omega
  clear hbig hbig2 hs hm
  obtain ⟨r, hr⟩ : ∃ r, rawP s.data.toList = r := ⟨_, rfl⟩
  have R0 := Lib.hid (frm_raw hL hz hr)
  have HR : Hid (r = 0 ∨ ∃ (P J Q : ByteArray) (r1 : Nat), s.extract 0 r = P ∧ P ++ more = J ∧ s.extract 0 r1 = Q ∧ r = r1 + 1 ∧ r ≤ s.size ∧ P.size ≤ 500 ∧ J.size ≤ 1000 ∧ (∃ h : 0 < s.size, s[0] = 60) ∧ (∃ h : r1 < s.size, s[r1] = 62) ∧ Hid (Frm w 14 #[.string J] (.int .i64 (r : Int))) ∧ Hid (Frm w 14 #[.string Q] (.int .i64 ((0 : Nat) : Int)))) := Lib.hid (by
    rcases Nat.eq_zero_or_pos r with h0 | h0
    · exact .inl h0
    · right
      obtain ⟨g1, g2, g3, g4, g5⟩ := raw_law hr h0
      rw [sz] at g1
      obtain ⟨r1, hr1⟩ : ∃ r1, r = r1 + 1 := ⟨r - 1, by omega⟩
      rw [hr1, Nat.add_sub_cancel] at g3 g5
      have hP : (s.extract 0 r).size ≤ 500 := by simp; omega
      have hJ : (s.extract 0 r ++ more).size ≤ 1000 := by rw [app_size]; omega
      have hQ : (s.extract 0 r1).size ≤ 500 := by simp; omega
      refine ⟨_, _, _, r1, rfl, rfl, rfl, hr1, g1, hP, hJ, at_of g4, at_of g5, Lib.hid (frm_raw hL (by omega) (by rw [app_data, ext_to]; exact g2 _)), Lib.hid (frm_raw hL (by omega) (by rw [ext_to]; exact g3))⟩)
  clear hr
  cases ha : autoP s.data.toList with
  | none =>
    have F1 := Lib.hid (frm_auto hL (b := ⟨#[]⟩) (c := ⟨#[]⟩) (n := 0) hz (by rw [ha]; rfl))
    clear hL ha
    rcases HR.out with rfl | ⟨P2, J2, Q2, r1, hP2, hJ2, hQ2, hrr, hrs, sP2, sJ2, ⟨z0, hz0⟩, ⟨z1, hz1⟩, R1, R2⟩
    · clear HR
      go_enter Tryz.func4, Tryz.ntmps4
      go_wp2_with fail
      refine (HA.out _ hb0).mono ?_
      rintro e w1 ⟨rfl, hb1⟩
      go_wp2_with fail
      refine (F1.out _ hb1).mono ?_
      rintro e w2 ⟨rfl, hb2⟩
      go_wp2_with fail
      refine (R0.out _ hb2).mono ?_
      rintro e w5 ⟨rfl, hb5⟩
      go_wp2
      go_ret
      exact ⟨rfl, hb5⟩
    · have q1 : (r : Int) - 1 = (r1 : Int) := by omega
      have q2 : (0 : Int) < (r : Int) := by omega
      have q3 : (r : Int) ≤ (s.size : Int) := by omega
      have q4 : (r1 : Int) < (s.size : Int) := by omega
      have q5 : (r1 : Int) ≤ (s.size : Int) := by omega
      have q6 : (0 : Int) < (s.size : Int) := by omega
      have q7 : ((r : Int) != (r : Int)) = false := by simp
      clear HR hrr
      go_enter Tryz.func4, Tryz.ntmps4
      go_wp2_with fail
      refine (HA.out _ hb0).mono ?_
      rintro e w1 ⟨rfl, hb1⟩
      go_wp2_with fail
      refine (F1.out _ hb1).mono ?_
      rintro e w2 ⟨rfl, hb2⟩
      go_wp2_with fail
      refine (R0.out _ hb2).mono ?_
      rintro e w5 ⟨rfl, hb5⟩
      go_wp2_with fail
      refine (R1.out _ hb5).mono ?_
      rintro e w6 ⟨rfl, hb6⟩
      go_wp2_with fail
      refine (R2.out _ hb6).mono ?_
      rintro e w7 ⟨rfl, hb7⟩
      go_wp2
      go_ret
      exact ⟨rfl, hb7⟩
  | some p =>
    obtain ⟨m, x⟩ := p
    obtain ⟨⟨t, ht⟩, g2, g3⟩ := auto_law ha
    obtain ⟨X, hX⟩ := ba_mk x
    obtain ⟨A, hA⟩ := ba_mk (autoA m x)
    obtain ⟨N, hN⟩ : ∃ N, x.length + 2 = N := ⟨_, rfl⟩
    have hXs : X.size + 2 = N := by rw [← sz, ← hX]; exact hN
    have hNs : N ≤ s.size := by
      have := congrArg List.length ht
      rw [sz] at this
      simp at this
      omega
    obtain ⟨N1, hN1⟩ : ∃ N1, N = N1 + 1 := ⟨N - 1, by omega⟩
    have hform : ∀ l, autoP l = some (m, x) → autoV (autoP l) = .tuple #[.string A, .string X, .int .i64 (N : Int)] := by
      intro l h
      rw [h]
      show Value.tuple #[.string ⟨(autoA m x).toArray⟩, .string ⟨x.toArray⟩, .int .i64 ((x.length + 2 : Nat) : Int)] = _
      rw [hN, hA, hX, ba_self, ba_self]
    have hx1 : s.data.toList.take N = 60 :: x ++ [62] := by
      rw [ht, ← hN, show (60 :: x ++ 62 :: t) = (60 :: x ++ [62]) ++ t by simp]
      exact List.take_left' (by simp)
    have hx2 : s.data.toList.take N1 = 60 :: x := by
      rw [ht]
      exact List.take_left' (by simp; omega)
    have hx3 : s.data.toList[N1]? = some 62 := by
      rw [ht, show N1 = (60 :: x).length by simp; omega]
      simp
    obtain ⟨z2, hz2⟩ := at_of hx3
    obtain ⟨P, hP⟩ : ∃ P, s.extract 0 N = P := ⟨_, rfl⟩
    obtain ⟨Q, hQ⟩ : ∃ Q, s.extract 0 N1 = Q := ⟨_, rfl⟩
    obtain ⟨J, hJ⟩ : ∃ J, P ++ more = J := ⟨_, rfl⟩
    have sP : P.size ≤ 500 := by rw [← hP]; simp; omega
    have sJ : J.size ≤ 1000 := by rw [← hJ, app_size]; omega
    have sQ : Q.size ≤ 500 := by rw [← hQ]; simp; omega
    have F1 := Lib.hid (frm_auto hL hz (hform _ ha))
    have F2 := Lib.hid (frm_auto hL (s := J) (by omega) (hform _ (by
      rw [← hJ, app_data, ← hP, ext_to, hx1, show (60 :: x ++ [62]) ++ more.data.toList = 60 :: x ++ 62 :: more.data.toList by simp]
      exact g2 _)))
    have F3 := Lib.hid (frm_auto hL (s := Q) (b := ⟨#[]⟩) (c := ⟨#[]⟩) (n := 0) (by omega) (by
      rw [← hQ, ext_to, hx2, g3]; rfl))
    have k1 : (N : Int) - 1 = (N1 : Int) := by omega
    have k2 : (0 : Int) < (N : Int) := by omega
    have k3 : (N : Int) ≤ (s.size : Int) := by omega
    have k4 : (N1 : Int) < (s.size : Int) := by omega
    have k5 : (N1 : Int) ≤ (s.size : Int) := by omega
    have k6 : ((X.size : Int) != (N : Int) - 2) = false := by simp; omega
    have k7 : ((N : Int) != (N : Int)) = false := by simp
    clear hL ha ht g2 g3 hX hA hN hXs hform hx1 hx2 hx3 hN1
    rcases HR.out with rfl | ⟨P2, J2, Q2, r1, hP2, hJ2, hQ2, hrr, hrs, sP2, sJ2, ⟨z0, hz0⟩, ⟨z1, hz1⟩, R1, R2⟩
    · clear HR
      go_enter Tryz.func4, Tryz.ntmps4
      go_wp2_with fail
      refine (HA.out _ hb0).mono ?_
      rintro e w1 ⟨rfl, hb1⟩
      go_wp2_with fail
      refine (F1.out _ hb1).mono ?_
      rintro e w2 ⟨rfl, hb2⟩
      go_wp2_with fail
      refine (F2.out _ hb2).mono ?_
      rintro e w3 ⟨rfl, hb3⟩
      go_wp2_with fail
      refine (F3.out _ hb3).mono ?_
      rintro e w4 ⟨rfl, hb4⟩
      go_wp2_with fail
      refine (R0.out _ hb4).mono ?_
      rintro e w5 ⟨rfl, hb5⟩
      go_wp2
      go_ret
      exact ⟨rfl, hb5⟩
    · have q1 : (r : Int) - 1 = (r1 : Int) := by omega
      have q2 : (0 : Int) < (r : Int) := by omega
      have q3 : (r : Int) ≤ (s.size : Int) := by omega
      have q4 : (r1 : Int) < (s.size : Int) := by omega
      have q5 : (r1 : Int) ≤ (s.size : Int) := by omega
      have q6 : (0 : Int) < (s.size : Int) := by omega
      have q7 : ((r : Int) != (r : Int)) = false := by simp
      clear HR hrr
      go_enter Tryz.func4, Tryz.ntmps4
      go_wp2_with fail
      refine (HA.out _ hb0).mono ?_
      rintro e w1 ⟨rfl, hb1⟩
      go_wp2_with fail
      refine (F1.out _ hb1).mono ?_
      rintro e w2 ⟨rfl, hb2⟩
      go_wp2_with fail
      refine (F2.out _ hb2).mono ?_
      rintro e w3 ⟨rfl, hb3⟩
      go_wp2_with fail
      refine (F3.out _ hb3).mono ?_
      rintro e w4 ⟨rfl, hb4⟩
      go_wp2_with fail
      refine (R0.out _ hb4).mono ?_
      rintro e w5 ⟨rfl, hb5⟩
      go_wp2_with fail
      refine (R1.out _ hb5).mono ?_
      rintro e w6 ⟨rfl, hb6⟩
      go_wp2_with fail
      refine (R2.out _ hb6).mono ?_
      rintro e w7 ⟨rfl, hb7⟩
      go_wp2
      go_ret
      exact ⟨rfl, hb7⟩
end SpanEnds
end Go.Proofs.YtapibalcekedfaaGreatDoor
