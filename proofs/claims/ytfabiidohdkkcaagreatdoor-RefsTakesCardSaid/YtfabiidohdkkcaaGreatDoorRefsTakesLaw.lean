/- RefsTakes: Take and All, the program's and the document's. -/
import Derived.Test.YtfabiidohdkkcaaGreatDoorRfXa
import Derived.Test.YtfabiidohdkkcaaGreatDoorRfXb
namespace Go.Proofs.YtfabiidohdkkcaaGreatDoor
open Go Go.RowKit Rf
namespace RefsTakes
set_option maxRecDepth 100000
set_option linter.unusedVariables false
set_option linter.unusedSimpArgs false

set_option maxHeartbeats 8000000 in
theorem law_any (s : ByteArray) (w : World) (hP : Prog10 w) :
    Calls Tryz.prog 3 #[.string s] w fun e w' => e = .returned (.bool true) ∧ Below w.heap.size w w' := by
  have HA := Lib.hid (awake_any w hP)
  by_cases h2 : (2000 : Int) < (s.size : Int)
  · clear hP
    go_enter Tryz.func3, Tryz.ntmps3
    go_wp2_with fail
    refine HA.out.mono ?_
    rintro e w1 ⟨rfl, hb1⟩
    go_wp2
    go_ret
    exact ⟨rfl, hb1⟩
  have hz : s.size ≤ 100000 := by omega
  obtain ⟨b, hb⟩ := Rb.of (takeP s.data.toList).1
  obtain ⟨n, hn⟩ : ∃ n, (takeP s.data.toList).2 = n := ⟨_, rfl⟩
  have ht : takeP s.data.toList = (b.r, n) := by rw [hb, ← hn]
  obtain ⟨L, hL⟩ := Rb.list (allP s.data.toList).1
  obtain ⟨S', hS⟩ : ∃ S' : ByteArray, S'.data.toList = (allP s.data.toList).2 := ⟨⟨(allP s.data.toList).2.toArray⟩, rfl⟩
  have ha : allP s.data.toList = (L.map Rb.r, S'.data.toList) := by rw [hL, hS]
  have HT := Lib.hid (fun W hW => hP.take W hW s b n hz ht)
  have HR := Lib.hid (fun W => rtake_any s W hz b n ht)
  have HAl := Lib.hid (fun W hW => hP.all W hW s L S' hz ha)
  have HRl := Lib.hid (fun W => rall_any s W hz L S' ha)
  have HS := Lib.hid (fun (l : List Rb) v v' W h h' => rsame_self l v v' W h h')
  unfold refV refC at HT HR
  clear hP hb hn ht hL hS ha
  go_enter Tryz.func3, Tryz.ntmps3
  go_wp2_with fail
  refine HA.out.mono ?_
  rintro e w1 ⟨rfl, hb1⟩
  have W1 := Lib.hid hb1
  clear hb1 HA
  go_wp2_with fail
  refine (HT.out _ W1.out).mono ?_
  rintro e w2 ⟨rfl, hb2⟩
  have K2 : Hid (Blk (w2.alloc (.cells (refC b) 24)) w2.heap.size (refC b) 24) := Lib.hid (Blk.new _ _ _)
  have W2 : Hid (Below w.heap.size w (w2.alloc (.cells (refC b) 24))) := Lib.hid (by
    have := below_later W1.out hb2
    exact this.alloc this.size _)
  unfold refC at K2 W2
  clear hb2 HT W1
  go_wp2_with fail
  refine (HR.out _).mono ?_
  rintro e w3 ⟨rfl, hb3⟩
  have K3 : Hid (Blk (w3.alloc (.cells (refC b) 24)) w3.heap.size (refC b) 24) := Lib.hid (Blk.new _ _ _)
  have K2' := Lib.hid ((K2.out.below hb3).alloc (.cells (refC b) 24))
  have W3 : Hid (Below w.heap.size w (w3.alloc (.cells (refC b) 24))) := Lib.hid (by
    have := below_later W2.out hb3
    exact this.alloc this.size _)
  unfold refC at K3 W3 K2'
  clear hb3 HR W2 K2
  go_wp2_with fail
  refine (HAl.out _ W3.out).mono ?_
  rintro e w4 ⟨v4, rfl, hr4, hb4⟩
  have K2 := Lib.hid (K2'.out.below hb4)
  have K4 := Lib.hid (K3.out.below hb4)
  have W4 := Lib.hid (below_later W3.out hb4)
  have R4 := Lib.hid hr4
  clear hb4 hr4 HAl W3 K3 K2'
  go_wp2_with fail
  refine (HRl.out _).mono ?_
  rintro e w5 ⟨v5, rfl, hr5, hb5⟩
  have K5 := Lib.hid (K2.out.below hb5)
  have K6 := Lib.hid (K4.out.below hb5)
  have W5 := Lib.hid (below_later W4.out hb5)
  have R5 := Lib.hid hr5
  have R6 := Lib.hid (R4.out.keep hb5)
  have c0 := K5.out.cell 0 rfl
  have c1 := K5.out.cell 1 rfl
  have c2 := K5.out.cell 2 rfl
  have K7 := K6.out.alloc (.cells #[.string b.lab, .string b.dst, .string b.tit] 24)
  have d0 := K7.cell 0 rfl
  have d1 := K7.cell 1 rfl
  have d2 := K7.cell 2 rfl
  have HX := Lib.hid (two_rows w5 b)
  have HB6 : Hid (Below w5.heap.size w5 ((w5.alloc (.cells (refC b) 24)).alloc (.cells (refC b) 24))) := Lib.hid (((Below.refl _ w5).alloc (Nat.le_refl _) _).alloc (by simp) _)
  unfold refC at HX HB6
  clear hb5 hr5 HRl W4 R4 K2 K4 K5 K6 K7
  go_wp2_with fail
  refine (HS.out [b] _ _ _ HX.out.1 HX.out.2).mono ?_
  rintro e w6 ⟨rfl, hb6⟩
  have HB7 := Lib.hid (below_later HB6.out hb6)
  have R7 := Lib.hid (R5.out.keep HB7.out)
  have R8 := Lib.hid (R6.out.keep HB7.out)
  clear hb6 HX HB6 R5 R6 c0 c1 c2 d0 d1 d2
  go_wp2_with fail
  refine (HS.out L _ _ _ R8.out R7.out).mono ?_
  rintro e w7 ⟨rfl, hb7⟩
  go_wp2
  go_ret
  exact ⟨rfl, below_later W5.out (below_later HB7.out hb7)⟩
end RefsTakes
end Go.Proofs.YtfabiidohdkkcaaGreatDoor
