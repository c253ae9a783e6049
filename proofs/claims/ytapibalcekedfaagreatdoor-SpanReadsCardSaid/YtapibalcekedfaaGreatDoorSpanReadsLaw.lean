/- SpanReads: the law's walk. -/
import Derived.Test.YtapibalcekedfaaGreatDoorSpJ
namespace Go.Proofs.YtapibalcekedfaaGreatDoor
open Go Go.RowKit
namespace SpanReads
open Sp
set_option maxRecDepth 100000
set_option linter.unusedVariables false
set_option linter.unusedSimpArgs false

set_option maxHeartbeats 4000000 in
theorem law_any (s : ByteArray) (w : World) (hL : LaidP w) (hs : s.size ≤ maxLen) :
    Calls Tryz.prog 3 #[.string s] w fun e w' => e = .returned (.bool true) ∧ Below w.heap.size w w' := by
  unfold maxLen at hs
  have HA := Lib.hid (frm_awake hL)
  have hb0 := Below.refl w.heap.size w
  by_cases hbig : 1500 < s.size
  · have hb' : (1500 : Int) < (s.size : Int) := by omega
    clear hL
    go_enter Tryz.func3, Tryz.ntmps3
    go_wp2_with fail
    refine (HA.out _ hb0).mono ?_
    rintro e w1 ⟨rfl, hb1⟩
    go_wp2
    go_ret
    exact ⟨rfl, hb1⟩
  · have hb' : (s.size : Int) ≤ 1500 := by omega
    have hz : s.size ≤ 100000 := by omega
    obtain ⟨a, n, h1⟩ := codeV_form s.data.toList
    obtain ⟨b, c, k, h2⟩ := autoV_form s.data.toList
    obtain ⟨r, h3⟩ : ∃ r, rawP s.data.toList = r := ⟨_, rfl⟩
    obtain ⟨u, h4⟩ : ∃ u, runP s.data.toList = u := ⟨_, rfl⟩
    have F1 := Lib.hid (frm_code hL hz h1)
    have G1 := Lib.hid (frm_rcode hL hz h1)
    have F2 := Lib.hid (frm_auto hL hz h2)
    have G2 := Lib.hid (frm_rauto hL hz h2)
    have F3 := Lib.hid (frm_raw hL hz h3)
    have G3 := Lib.hid (frm_rraw hL hz h3)
    have F4 := Lib.hid (frm_run hL hz h4)
    have G4 := Lib.hid (frm_rrun hL hz h4)
    clear hL h1 h2 h3 h4 hbig
    go_enter Tryz.func3, Tryz.ntmps3
    go_wp2_with fail
    refine (HA.out _ hb0).mono ?_
    rintro e w1 ⟨rfl, hb1⟩
    go_wp2_with fail
    refine (F1.out _ hb1).mono ?_
    rintro e w2 ⟨rfl, hb2⟩
    go_wp2_with fail
    refine (G1.out _ hb2).mono ?_
    rintro e w3 ⟨rfl, hb3⟩
    go_wp2_with fail
    refine (F2.out _ hb3).mono ?_
    rintro e w4 ⟨rfl, hb4⟩
    go_wp2_with fail
    refine (G2.out _ hb4).mono ?_
    rintro e w5 ⟨rfl, hb5⟩
    go_wp2_with fail
    refine (F3.out _ hb5).mono ?_
    rintro e w6 ⟨rfl, hb6⟩
    go_wp2_with fail
    refine (G3.out _ hb6).mono ?_
    rintro e w7 ⟨rfl, hb7⟩
    go_wp2_with fail
    refine (F4.out _ hb7).mono ?_
    rintro e w8 ⟨rfl, hb8⟩
    go_wp2_with fail
    refine (G4.out _ hb8).mono ?_
    rintro e w9 ⟨rfl, hb9⟩
    go_wp2
    go_ret
    exact ⟨rfl, hb9⟩
end SpanReads
end Go.Proofs.YtapibalcekedfaaGreatDoor
