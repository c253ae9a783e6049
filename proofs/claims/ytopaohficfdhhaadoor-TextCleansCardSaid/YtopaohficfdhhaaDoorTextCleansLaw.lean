/- TextCleans: the law's walk. -/
import Derived.Test.YtopaohficfdhhaaDoorTextS
namespace Go.Proofs.YtopaohficfdhhaaDoor
open Go Go.RowKit
namespace TextCleans
open Tx
set_option maxRecDepth 100000
set_option linter.unusedVariables false
set_option linter.unusedSimpArgs false

/-- string(b). -/
theorem conv_bs (l : List UInt8) (v : Value) (w : World) (hv : Sl w v l) : (convert 22 9 v).run Tryd.prog w = .ok (.string ⟨l.toArray⟩) w := by
  obtain ⟨ao, cap, rfl, hlc, hcm, hrow⟩ := hv
  by_cases hne : l = []
  · subst hne
    cases ao with
    | none =>
      rw [run_convert_bytes_string (P := Tryd.prog) w 22 9 5 none _ _ Tryd.underlying22 Tryd.underlying5 Tryd.underlying9]; rfl
    | some a => exact run_convert_bytes_back w 22 9 5 a cap [] Tryd.underlying22 Tryd.underlying5 Tryd.underlying9 (by intro j hj; simp at hj)
  · obtain ⟨b, off, rfl, hr⟩ := hrow hne
    refine run_convert_bytes_back w 22 9 5 ⟨b, off, none⟩ cap l Tryd.underlying22 Tryd.underlying5 Tryd.underlying9 ?_
    intro j hj
    rw [add_eq, hr j hj]
    simp [at', List.getD, List.getElem?_eq_getElem hj]

set_option maxHeartbeats 2000000 in
theorem law_any (l : List UInt8) (v : Value) (w : World) (hv : Sl w v l) :
    Calls Tryd.prog 3 #[v] w fun e w' => e = .returned (.bool true) ∧ Below w.heap.size w w' := by
  have HA := Lib.hid (awake_any w)
  have HV := Lib.hid hv
  obtain ⟨ao, cap, rfl, hlc, hcm, hrow⟩ := hv
  unfold maxLen at hcm
  clear hrow
  by_cases h1 : l.length > 3000
  · go_enter Tryd.func3, Tryd.ntmps3
    go_wp2_with (go_at_call 10; refine HA.out.mono ?_; rintro e w1 ⟨rfl, hb1⟩)
    go_ret
    exact ⟨rfl, hb1⟩
  have h1' : l.length ≤ 3000 := by omega
  clear h1
  go_enter Tryd.func3, Tryd.ntmps3
  go_wp2_with fail
  refine HA.out.mono ?_
  rintro e w1 ⟨rfl, hb1⟩
  have HV1 := Lib.hid (HV.out.below hb1)
  have hc1 := conv_bs l _ _ HV1.out
  go_wp2_with fail
  refine (runes_any ⟨l.toArray⟩ _ (by rw [size_mk]; omega)).mono ?_
  rintro e w2 ⟨v2, rfl, hr2, hb2⟩
  rw [show (⟨l.toArray⟩ : ByteArray).data.toList = l from rfl] at hr2
  have HV2 := Lib.hid (HV1.out.below hb2)
  have hc2 := conv_bs l _ _ HV2.out
  have hbw2 := hb1.trans (hb2.mono hb1.size)
  clear hc1 hb2
  go_wp2_with fail
  refine (rrunes_any ⟨l.toArray⟩ _ (by rw [size_mk]; omega)).mono ?_
  rintro e w3 ⟨v3, rfl, hr3, hb3⟩
  rw [show (⟨l.toArray⟩ : ByteArray).data.toList = l from rfl] at hr3
  have HV3 := Lib.hid (HV2.out.below hb3)
  have hr2' := hr2.below hb3
  have hbw3 := hbw2.trans (hb3.mono hbw2.size)
  clear hc2 hb3 hr2
  obtain ⟨ro, rcap, rfl, _, hrr⟩ := hr2'
  obtain ⟨qo, qcap, rfl, _, hqq⟩ := hr3
  have Hrr := Lib.hid hrr
  have Hqq := Lib.hid hqq
  clear hrr hqq
  have hrl : (runes l).length ≤ l.length := by have := chars_length l; simp [runes]; exact this
  generalize hns : runes l = ns at *
  have Hns := Lib.hid hns
  clear hns
  go_wp2
  go_loopg [6] ns.length (fun g s6 wx => ∃ (k n : Nat), k + g = ns.length ∧ s6 = .int .i64 k ∧ wx = w3.drewN n)
  case atStart => exact ⟨0, 0, by omega, rfl, rfl⟩
  case round =>
    obtain ⟨k, n, hkg, rfl, rfl⟩ := hrel
    cases gk with
    | zero =>
      have hkl : ¬ ((k : Int) < (ns.length : Int)) := by omega
      have hb4 : Below w.heap.size w (w3.drewN n) := below_drewN hbw3 n
      have HV4 : Hid (Sl (w3.drewN n) (.slice ao l.length cap) l) := Lib.hid (HV3.out.below (below_drewN (Below.refl _ _) n))
      go_wp2_with fail
      refine (clean_any l _ _ HV4.out (by omega)).mono ?_
      rintro e w5 ⟨rfl, hb5⟩
      have HV5 := Lib.hid (HV4.out.below hb5)
      have hbw5 := hb4.trans (hb5.mono hb4.size)
      clear hb5 hb4
      go_wp2_with fail
      refine (rclean_any l _ _ HV5.out (by omega)).mono ?_
      rintro e w6 ⟨rfl, hb6⟩
      have hbw6 := hbw5.trans (hb6.mono hbw5.size)
      clear hb6 hbw5
      go_wp2
      go_ret
      exact ⟨rfl, hbw6⟩
    | succ g =>
      have hkl : (k : Int) < (ns.length : Int) := by omega
      have hk2 : k < ns.length := by omega
      obtain ⟨b, off, rfl, hcr⟩ := Hrr.out (by intro e; rw [e] at hk2; simp at hk2)
      obtain ⟨b2, off2, rfl, hcq⟩ := Hqq.out (by intro e; rw [e] at hk2; simp at hk2)
      have hc := hcr k hk2
      have hc2 := hcq k hk2
      clear hcr hcq
      generalize ns[k] = x at *
      go_wp2
      go_quiet (fail)
      go_wp2
      go_roundg g
      case rel => exact ⟨k + 1, _, by omega, by go_num, rfl⟩
      case measure => omega
end TextCleans
end Go.Proofs.YtopaohficfdhhaaDoor
