/- LinkReads: the law's walk. -/
import Derived.Test.YtilippcmdhkddaaDoorLkK
namespace Go.Proofs.YtilippcmdhkddaaDoor
open Go Go.RowKit
namespace LinkReads
open Lk
set_option maxRecDepth 100000
set_option linter.unusedVariables false
set_option linter.unusedSimpArgs false

set_option maxHeartbeats 4000000 in
theorem law_any (s : ByteArray) (w : World) (hL : LaidL w) (hs : s.size ≤ maxLen) :
    Calls Tryd.prog 3 #[.string s] w fun e w' => e = .returned (.bool true) ∧ Below w.heap.size w w' := by
  unfold maxLen at hs
  have HA := Lib.hid (frm_awake hL)
  have hb0 := Below.refl w.heap.size w
  by_cases hbig : 2000 < s.size
  · have hb' : (2000 : Int) < (s.size : Int) := by omega
    clear hL
    go_enter Tryd.func3, Tryd.ntmps3
    go_wp2_with fail
    refine (HA.out _ hb0).mono ?_
    rintro e w1 ⟨rfl, hb1⟩
    go_wp2
    go_ret
    exact ⟨rfl, hb1⟩
  · have hb' : (s.size : Int) ≤ 2000 := by omega
    have hz : s.size ≤ 100000 := by omega
    obtain ⟨a1, a2, ha⟩ := lab_ex s.data.toList
    obtain ⟨b1, b2, b3, hb⟩ := dst_ex s.data.toList
    obtain ⟨c1, c2, hc⟩ := tit_ex s.data.toList
    obtain ⟨d1, d2, d3, hd⟩ := tail_ex s.data.toList
    obtain ⟨n, hn⟩ : ∃ n, whN s.data.toList = n := ⟨_, rfl⟩
    have F1 := Lib.hid (frm_label hL hz ha)
    have G1 := Lib.hid (frm_rlabel hL hz ha)
    have F2 := Lib.hid (frm_dest hL hz hb)
    have G2 := Lib.hid (frm_rdest hL hz hb)
    have F3 := Lib.hid (frm_title hL hz hc)
    have G3 := Lib.hid (frm_rtitle hL hz hc)
    have F4 := Lib.hid (frm_tail hL hz hd)
    have G4 := Lib.hid (frm_rtail hL hz hd)
    have F5 := Lib.hid (frm_white hL hz hn)
    have G5 := Lib.hid (frm_rwhite hL hz hn)
    clear hL ha hb hc hd hn hbig
    go_enter Tryd.func3, Tryd.ntmps3
    go_wp2_with fail
    refine (HA.out _ hb0).mono ?_
    rintro e w1 ⟨rfl, hb1⟩
    go_wp2_with fail
    refine (F1.out _ hb1).mono ?_
    rintro e w2 ⟨rfl, hb2⟩
    go_wp2_with fail
    refine (G1.out _ hb2).mono ?_
    rintro e w3 ⟨rfl, hb3⟩
    go_wp2_with fail
    refine (F2.out _ hb3).mono ?_
    rintro e w4 ⟨rfl, hb4⟩
    go_wp2_with fail
    refine (G2.out _ hb4).mono ?_
    rintro e w5 ⟨rfl, hb5⟩
    go_wp2_with fail
    refine (F3.out _ hb5).mono ?_
    rintro e w6 ⟨rfl, hb6⟩
    go_wp2_with fail
    refine (G3.out _ hb6).mono ?_
    rintro e w7 ⟨rfl, hb7⟩
    go_wp2_with fail
    refine (F4.out _ hb7).mono ?_
    rintro e w8 ⟨rfl, hb8⟩
    go_wp2_with fail
    refine (G4.out _ hb8).mono ?_
    rintro e w9 ⟨rfl, hb9⟩
    go_wp2_with fail
    refine (F5.out _ hb9).mono ?_
    rintro e w10 ⟨rfl, hb10⟩
    go_wp2_with fail
    refine (G5.out _ hb10).mono ?_
    rintro e w11 ⟨rfl, hb11⟩
    go_wp2
    go_ret
    exact ⟨rfl, hb11⟩
end LinkReads
end Go.Proofs.YtilippcmdhkddaaDoor
