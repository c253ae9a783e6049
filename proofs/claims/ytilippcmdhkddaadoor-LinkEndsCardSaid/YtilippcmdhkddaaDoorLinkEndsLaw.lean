/- LinkEnds: the law's walk. -/
import Derived.Test.YtilippcmdhkddaaDoorLkL
namespace Go.Proofs.YtilippcmdhkddaaDoor
open Go Go.RowKit
namespace LinkEnds
open Lk
set_option maxRecDepth 100000
set_option linter.unusedVariables false
set_option linter.unusedSimpArgs false

theorem head_at {s : ByteArray} {k : Nat} {d : UInt8} (h : (s.data.toList.drop k).head? = some d) : ∃ hk : k < s.size, s[k] = d := by
  rcases Nat.lt_or_ge k s.size with hk | hk
  · obtain ⟨c, t, hd, hck, _⟩ := consAt hk
    rw [hd] at h
    exact ⟨hk, by rw [hck]; exact Option.some.inj h⟩
  · rw [List.drop_eq_nil_of_le (by rw [szL]; exact hk)] at h; cases h

set_option maxHeartbeats 8000000 in
theorem law_any (s more : ByteArray) (w : World) (hL : LaidL w) (hs : s.size ≤ maxLen) (hs2 : more.size ≤ maxLen) :
    Calls Tryd.prog 4 #[.string s, .string more] w fun e w' => e = .returned (.bool true) ∧ Below w.heap.size w w' := by
  unfold maxLen at hs hs2
  have HA := Lib.hid (frm_awake hL)
  have hb0 := Below.refl w.heap.size w
  by_cases hbig : 1000 < s.size
  · have hb' : (1000 : Int) < (s.size : Int) := by omega
    clear hL
    go_enter Tryd.func4, Tryd.ntmps4
    go_wp2_with fail
    refine (HA.out _ hb0).mono ?_
    rintro e w1 ⟨rfl, hb1⟩
    go_wp2
    go_ret
    exact ⟨rfl, hb1⟩
  by_cases hbig2 : 500 < more.size
  · have hb' : ¬ (1000 : Int) < (s.size : Int) := by omega
    have hb2' : (500 : Int) < (more.size : Int) := by omega
    clear hL
    go_enter Tryd.func4, Tryd.ntmps4
    go_wp2_with fail
    refine (HA.out _ hb0).mono ?_
    rintro e w1 ⟨rfl, hb1⟩
    go_wp2
    go_ret
    exact ⟨rfl, hb1⟩
  have hb' : (s.size : Int) ≤ 1000 := by omega
  have hb2' : (more.size : Int) ≤ 500 := by omega
  have hz : s.size ≤ 100000 := by omega
  obtain ⟨a, n, ha⟩ := lab_ex s.data.toList
  obtain ⟨c, p, hc⟩ := tit_ex s.data.toList
  obtain ⟨x, y, u, hx⟩ := tail_ex s.data.toList
  have F1 := Lib.hid (frm_label hL hz ha)
  have F2 := Lib.hid (frm_title hL hz hc)
  have F3 := Lib.hid (frm_tail hL hz hx)
  -- the three parts: with something else behind
  have G1 : Hid (0 < n → ∃ E X : ByteArray, ∃ m : Nat, s.extract 0 n = E ∧ E ++ more = X ∧ E.size ≤ 1000 ∧ X.size ≤ 1500 ∧ (n : Int) - 1 = (m : Int) ∧ (n : Int) ≤ (s.size : Int) ∧ (m : Int) ≤ (s.size : Int) ∧ (n : Int) - 2 = (a.size : Int) ∧
      Frm w 10 #[.string X] (.tuple #[.string a, .int .i64 (n : Int)]) ∧ Frm w 10 #[.string (s.extract 0 m)] (.tuple #[.string ⟨#[]⟩, .int .i64 0])) := Lib.hid (fun h0 => by
    obtain ⟨h1, h2, h3, h4, h5⟩ := lab_take more.data.toList ha h0
    rw [szL] at h3 h5
    obtain ⟨X, hX, dX, sX⟩ := joined (s.extract 0 n) more
    have hEs : (s.extract 0 n).size ≤ 1000 := by rw [← szL, ext_toL, List.length_take, szL]; omega
    refine ⟨s.extract 0 n, X, n - 1, rfl, hX, hEs, by omega, by omega, by omega, by omega, by omega, ?_, ?_⟩
    · exact frm_label hL (by omega) (by rw [dX, ext_toL]; exact h1)
    · exact frm_label hL (x := ⟨#[]⟩) (n := 0) (by rw [← szL, ext_toL, List.length_take, szL]; omega) (by rw [ext_toL]; exact h2))
  have G2 : Hid (0 < p → ∃ E X : ByteArray, ∃ m : Nat, s.extract 0 p = E ∧ E ++ more = X ∧ E.size ≤ 1000 ∧ X.size ≤ 1500 ∧ (p : Int) - 1 = (m : Int) ∧ (p : Int) ≤ (s.size : Int) ∧ (m : Int) ≤ (s.size : Int) ∧
      Frm w 14 #[.string X] (.tuple #[.string c, .int .i64 (p : Int)]) ∧ Frm w 14 #[.string (s.extract 0 m)] (.tuple #[.string ⟨#[]⟩, .int .i64 0])) := Lib.hid (fun h0 => by
    obtain ⟨h1, h2, h4, h5⟩ := tit_take more.data.toList hc h0
    rw [szL] at h5
    obtain ⟨X, hX, dX, sX⟩ := joined (s.extract 0 p) more
    have hEs : (s.extract 0 p).size ≤ 1000 := by rw [← szL, ext_toL, List.length_take, szL]; omega
    refine ⟨s.extract 0 p, X, p - 1, rfl, hX, hEs, by omega, by omega, by omega, by omega, ?_, ?_⟩
    · exact frm_title hL (by omega) (by rw [dX, ext_toL]; exact h1)
    · exact frm_title hL (x := ⟨#[]⟩) (n := 0) (by rw [← szL, ext_toL, List.length_take, szL]; omega) (by rw [ext_toL]; exact h2))
  have G3 : Hid (0 < u → ∃ E X : ByteArray, ∃ m : Nat, s.extract 0 u = E ∧ E ++ more = X ∧ E.size ≤ 1000 ∧ X.size ≤ 1500 ∧ (u : Int) - 1 = (m : Int) ∧ (u : Int) ≤ (s.size : Int) ∧ (∃ h : 0 < s.size, s[0] = 40) ∧ (∃ h : m < s.size, s[m] = 41) ∧
      Frm w 16 #[.string X] (.tuple #[.string x, .string y, .int .i64 (u : Int)])) := Lib.hid (fun h0 => by
    obtain ⟨h1, h4, h5, ⟨t, ht⟩, h6⟩ := tail_take more.data.toList hx h0
    rw [szL] at h5
    obtain ⟨X, hX, dX, sX⟩ := joined (s.extract 0 u) more
    have hEs : (s.extract 0 u).size ≤ 1000 := by rw [← szL, ext_toL, List.length_take, szL]; omega
    refine ⟨s.extract 0 u, X, u - 1, rfl, hX, hEs, by omega, by omega, by omega, head_at (by rw [List.drop_zero, ht]; rfl), head_at h6, ?_⟩
    exact frm_tail hL (by omega) (by rw [dX, ext_toL]; exact h1))
  clear hL ha hc hx
  go_enter Tryd.func4, Tryd.ntmps4
  go_wp2_with fail
  refine (HA.out _ hb0).mono ?_
  rintro e w1 ⟨rfl, hb1⟩
  go_wp2_with fail
  refine (F1.out _ hb1).mono ?_
  rintro e w2 ⟨rfl, hb2⟩
  clear hb1
  go_upto_if 40 with fail
  go_cut [] (fun wx => Below w.heap.size w wx)
  case first =>
    by_cases h0 : 0 < n
    · have h0' : (0 : Int) < (n : Int) := by omega
      obtain ⟨E, X, m, hE, hX, sE, sX, i1, i2, i3, i4, P1, P2⟩ := G1.out h0
      have HP1 := Lib.hid P1
      have HP2 := Lib.hid P2
      clear P1 P2 h0 G1 G2 G3 F2 F3 F1 HA
      go_wp2_with fail
      refine (HP1.out _ hb2).mono ?_
      rintro e w3 ⟨rfl, hb3⟩
      go_wp2_with fail
      refine (HP2.out _ hb3).mono ?_
      rintro e w4 ⟨rfl, hb4⟩
      go_wp2
      go_meet
      exact hb4
    · have h0' : ¬ (0 : Int) < (n : Int) := by omega
      clear h0 G1 G2 G3 F2 F3 F1 HA
      go_wp2
      go_meet
      exact hb2
  case rest =>
    have hb3 := hcut
    clear hcut hb2 G1
    go_wp2_with fail
    refine (F2.out _ hb3).mono ?_
    rintro e w4 ⟨rfl, hb4⟩
    clear hb3
    go_upto_if 83 with fail
    go_cut [] (fun wx => Below w.heap.size w wx)
    case first =>
      by_cases h0 : 0 < p
      · have h0' : (0 : Int) < (p : Int) := by omega
        obtain ⟨E, X, m, hE, hX, sE, sX, i1, i2, i3, P1, P2⟩ := G2.out h0
        have HP1 := Lib.hid P1
        have HP2 := Lib.hid P2
        clear P1 P2 h0 G2 G3 F2 F3 F1 HA
        go_wp2_with fail
        refine (HP1.out _ hb4).mono ?_
        rintro e w5 ⟨rfl, hb5⟩
        go_wp2_with fail
        refine (HP2.out _ hb5).mono ?_
        rintro e w6 ⟨rfl, hb6⟩
        go_wp2
        go_meet
        exact hb6
      · have h0' : ¬ (0 : Int) < (p : Int) := by omega
        clear h0 G2 G3 F2 F3 F1 HA
        go_wp2
        go_meet
        exact hb4
    case rest =>
      have hb5 := hcut
      clear hcut hb4 G2
      go_wp2_with fail
      refine (F3.out _ hb5).mono ?_
      rintro e w6 ⟨rfl, hb6⟩
      clear hb5
      by_cases h0 : 0 < u
      · have h0' : (0 : Int) < (u : Int) := by omega
        obtain ⟨E, X, m, hE, hX, sE, sX, i1, i2, ⟨k0, e0⟩, ⟨k1, e1⟩, P1⟩ := G3.out h0
        have HP1 := Lib.hid P1
        have j0 : (0 : Int) < (s.size : Int) := by omega
        have j1 : (m : Int) < (s.size : Int) := by omega
        clear P1 h0 G3 F2 F3 F1 HA
        go_wp2_with fail
        refine (HP1.out _ hb6).mono ?_
        rintro e w7 ⟨rfl, hb7⟩
        go_wp2
        go_ret
        exact ⟨rfl, hb7⟩
      · have h0' : ¬ (0 : Int) < (u : Int) := by omega
        clear h0 G3 F2 F3 F1 HA
        go_wp2
        go_ret
        exact ⟨rfl, hb6⟩
end LinkEnds
end Go.Proofs.YtilippcmdhkddaaDoor
