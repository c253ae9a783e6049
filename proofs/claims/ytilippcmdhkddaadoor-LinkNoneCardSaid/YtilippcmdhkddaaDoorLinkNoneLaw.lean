/- LinkNone: the law's walk. -/
import Derived.Test.YtilippcmdhkddaaDoorLkL
namespace Go.Proofs.YtilippcmdhkddaaDoor
open Go Go.RowKit
namespace LinkNone
open Lk
set_option maxRecDepth 100000
set_option linter.unusedVariables false
set_option linter.unusedSimpArgs false

set_option maxHeartbeats 4000000 in
theorem law_any (s : ByteArray) (w : World) (hL : LaidL w) (hs : s.size ≤ maxLen) :
    Calls Tryd.prog 8 #[.string s] w fun e w' => e = .returned (.bool true) ∧ Below w.heap.size w w' := by
  unfold maxLen at hs
  have HA := Lib.hid (frm_awake hL)
  have hb0 := Below.refl w.heap.size w
  by_cases hbig : 1000 < s.size
  · have hb' : (1000 : Int) < (s.size : Int) := by omega
    clear hL
    go_enter Tryd.func8, Tryd.ntmps8
    go_wp2_with fail
    refine (HA.out _ hb0).mono ?_
    rintro e w1 ⟨rfl, hb1⟩
    go_wp2
    go_ret
    exact ⟨rfl, hb1⟩
  · have hb' : (s.size : Int) ≤ 1000 := by omega
    obtain ⟨X, hX, dX, sX⟩ := joined ⟨#[120]⟩ s
    obtain ⟨Y, hY, dY, sY⟩ := joined ⟨#[32]⟩ s
    have dX' : X.data.toList = 120 :: s.data.toList := dX
    have dY' : Y.data.toList = 32 :: s.data.toList := dY
    have sX' : X.size = 1 + s.size := sX
    have sY' : Y.size = 1 + s.size := sY
    have zX : X.size ≤ 100000 := by omega
    have zY : Y.size ≤ 100000 := by omega
    obtain ⟨n, hn⟩ : ∃ n, whN s.data.toList = n := ⟨_, rfl⟩
    obtain ⟨m, hm⟩ : ∃ m, m = 1 + n := ⟨_, rfl⟩
    have hnm : (1 : Int) + (n : Int) = (m : Int) := by omega
    have hn9 : n ≤ 1000 := by have := whN_le s.data.toList; rw [szL] at this; omega
    have F1 := Lib.hid (frm_label hL (x := ⟨#[]⟩) (n := 0) zX (by rw [dX']; exact lab_none _ (by decide)))
    have F2 := Lib.hid (frm_title hL (x := ⟨#[]⟩) (n := 0) zX (by rw [dX']; exact tit_none _ (by decide) (by decide) (by decide)))
    have F3 := Lib.hid (frm_tail hL (x := ⟨#[]⟩) (y := ⟨#[]⟩) (n := 0) zX (by rw [dX']; exact tail_none _ (by decide)))
    have F4 := Lib.hid (frm_title hL (s := ⟨#[]⟩) (x := ⟨#[]⟩) (n := 0) (by decide) rfl)
    have F5 := Lib.hid (frm_white hL (n := 0) zX (by rw [dX']; exact whN_miss _ rfl))
    have F6 := Lib.hid (frm_white hL (n := m) zY (by rw [dY', whN_hit _ rfl, hn]; omega))
    have F7 := Lib.hid (frm_white hL (s := s) (by omega) hn)
    clear hL dX dY dX' dY' sX sY hn hm zX zY hbig
    go_enter Tryd.func8, Tryd.ntmps8
    go_wp2_with fail
    refine (HA.out _ hb0).mono ?_
    rintro e w1 ⟨rfl, hb1⟩
    go_wp2_with fail
    refine (F1.out _ hb1).mono ?_
    rintro e w2 ⟨rfl, hb2⟩
    go_wp2_with fail
    refine (F2.out _ hb2).mono ?_
    rintro e w3 ⟨rfl, hb3⟩
    go_wp2_with fail
    refine (F3.out _ hb3).mono ?_
    rintro e w4 ⟨rfl, hb4⟩
    go_wp2_with fail
    refine (F4.out _ hb4).mono ?_
    rintro e w5 ⟨rfl, hb5⟩
    go_wp2_with fail
    refine (F5.out _ hb5).mono ?_
    rintro e w6 ⟨rfl, hb6⟩
    go_wp2_with fail
    refine (F6.out _ hb6).mono ?_
    rintro e w7 ⟨rfl, hb7⟩
    go_wp2_with fail
    refine (F7.out _ hb7).mono ?_
    rintro e w8 ⟨rfl, hb8⟩
    go_wp2
    go_ret
    exact ⟨rfl, hb8⟩
end LinkNone
end Go.Proofs.YtilippcmdhkddaaDoor
