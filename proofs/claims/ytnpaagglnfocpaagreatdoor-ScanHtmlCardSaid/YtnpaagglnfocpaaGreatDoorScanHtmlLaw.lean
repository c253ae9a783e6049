/- ScanHtml: the law's walk. -/
import Derived.Test.YtnpaagglnfocpaaGreatDoorScV
namespace Go.Proofs.YtnpaagglnfocpaaGreatDoor
open Go Go.RowKit
namespace ScanHtml
open Sc
set_option maxRecDepth 100000
set_option linter.unusedVariables false
set_option linter.unusedSimpArgs false

set_option maxHeartbeats 8000000 in
theorem law_any (s : ByteArray) (kind : Int) (w : World) (hL : LaidS w) (hs : s.size ≤ maxLen) :
    Calls Tryz.prog 5 #[.string s, .int .i64 kind] w fun e w' => e = .returned (.bool true) ∧ Below w.heap.size w w' := by
  unfold maxLen at hs
  have HA := Lib.hid (frm_awake hL)
  have hb0 := Below.refl w.heap.size w
  by_cases hbig : 1000 < s.size
  · have hb' : (1000 : Int) < (s.size : Int) := by omega
    clear hL
    go_enter Tryz.func5, Tryz.ntmps5
    go_wp2_with fail
    refine (HA.out _ hb0).mono ?_
    rintro e w1 ⟨rfl, hb1⟩
    go_wp2
    go_ret
    exact ⟨rfl, hb1⟩
  · have hb' : (s.size : Int) ≤ 1000 := by omega
    have hz : s.size ≤ 100000 := by omega
    obtain ⟨a, ha⟩ : ∃ a, htmlS s.data.toList = a := ⟨_, rfl⟩
    obtain ⟨b, hb⟩ : ∃ b, endsP s.data.toList (bits .and .i64 kind 7) = b := ⟨_, rfl⟩
    have F1 := Lib.hid (frm_html hL hz ha)
    have G1 := Lib.hid (frm_rhtml hL hz ha)
    have F2 := Lib.hid (frm_ends hL hz hb)
    have G2 := Lib.hid (frm_rends hL hz hb)
    by_cases hk1 : 1 ≤ kind
    · by_cases hk7 : kind ≤ 7
      · clear hL ha hb hbig
        go_enter Tryz.func5, Tryz.ntmps5
        go_wp2_with fail
        refine (HA.out _ hb0).mono ?_
        rintro e w1 ⟨rfl, hb1⟩
        go_wp2_with fail
        refine (F1.out _ hb1).mono ?_
        rintro e w2 ⟨rfl, hb2⟩
        go_wp2_with fail
        refine (G1.out _ hb2).mono ?_
        rintro e w3 ⟨rfl, hb3⟩
        go_wp2_with fail
        refine (F2.out _ hb3).mono ?_
        rintro e w4 ⟨rfl, hb4⟩
        go_wp2_with fail
        refine (G2.out _ hb4).mono ?_
        rintro e w5 ⟨rfl, hb5⟩
        go_wp2
        go_ret
        exact ⟨rfl, hb5⟩
      · have F3 := Lib.hid (frm_ends hL hz (k := kind) (b := false) (by unfold endsP; rw [if_neg (by omega), if_neg (by omega), if_neg (by omega), if_neg (by omega), if_neg (by omega), if_neg (by omega)]))
        have hk8 : 7 < kind := by omega
        clear hL ha hb hbig hk7
        go_enter Tryz.func5, Tryz.ntmps5
        go_wp2_with fail
        refine (HA.out _ hb0).mono ?_
        rintro e w1 ⟨rfl, hb1⟩
        go_wp2_with fail
        refine (F1.out _ hb1).mono ?_
        rintro e w2 ⟨rfl, hb2⟩
        go_wp2_with fail
        refine (G1.out _ hb2).mono ?_
        rintro e w3 ⟨rfl, hb3⟩
        go_wp2_with fail
        refine (F2.out _ hb3).mono ?_
        rintro e w4 ⟨rfl, hb4⟩
        go_wp2_with fail
        refine (G2.out _ hb4).mono ?_
        rintro e w5 ⟨rfl, hb5⟩
        go_wp2_with fail
        refine (F3.out _ hb5).mono ?_
        rintro e w6 ⟨rfl, hb6⟩
        go_wp2
        go_ret
        exact ⟨rfl, hb6⟩
    · have F3 := Lib.hid (frm_ends hL hz (k := kind) (b := false) (by unfold endsP; rw [if_neg (by omega), if_neg (by omega), if_neg (by omega), if_neg (by omega), if_neg (by omega), if_neg (by omega)]))
      have hk8 : kind < 1 := by omega
      clear hL ha hb hbig hk1
      go_enter Tryz.func5, Tryz.ntmps5
      go_wp2_with fail
      refine (HA.out _ hb0).mono ?_
      rintro e w1 ⟨rfl, hb1⟩
      go_wp2_with fail
      refine (F1.out _ hb1).mono ?_
      rintro e w2 ⟨rfl, hb2⟩
      go_wp2_with fail
      refine (G1.out _ hb2).mono ?_
      rintro e w3 ⟨rfl, hb3⟩
      go_wp2_with fail
      refine (F2.out _ hb3).mono ?_
      rintro e w4 ⟨rfl, hb4⟩
      go_wp2_with fail
      refine (G2.out _ hb4).mono ?_
      rintro e w5 ⟨rfl, hb5⟩
      go_wp2_with fail
      refine (F3.out _ hb5).mono ?_
      rintro e w6 ⟨rfl, hb6⟩
      go_wp2
      go_ret
      exact ⟨rfl, hb6⟩
end ScanHtml
end Go.Proofs.YtnpaagglnfocpaaGreatDoor
