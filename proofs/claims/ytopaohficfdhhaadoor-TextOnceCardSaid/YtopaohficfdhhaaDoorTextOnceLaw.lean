/- TextOnce: the law's walk. -/
import Derived.Test.YtopaohficfdhhaaDoorTextR
namespace Go.Proofs.YtopaohficfdhhaaDoor
open Go Go.RowKit
namespace TextOnce
open Tx
set_option maxRecDepth 100000
set_option linter.unusedVariables false
set_option linter.unusedSimpArgs false

theorem runes_clean (l : List UInt8) : runes (clean l) = runes l := by unfold runes; rw [chars_clean]
theorem runes_range (l : List UInt8) : ∀ n ∈ runes l, 0 < n ∧ n ≤ 1114111 ∧ (n < 55296 ∨ 57343 < n) := by
  intro n hn
  obtain ⟨c, hc, rfl⟩ := List.mem_map.1 hn
  exact val_range c (chars_isChar l c hc)

set_option maxHeartbeats 2000000 in
theorem law_any (l : List UInt8) (v : Value) (w : World) (hv : Sl w v l) :
    Calls Tryd.prog 5 #[v] w fun e w' => e = .returned (.bool true) ∧ Below w.heap.size w w' := by
  have HA := Lib.hid (awake_any w)
  have HV := Lib.hid hv
  obtain ⟨ao, cap, rfl, hlc, hcm, hrow⟩ := hv
  unfold maxLen at hcm
  clear hrow
  by_cases h1 : l.length > 3000
  · go_enter Tryd.func5, Tryd.ntmps5
    go_wp2_with (go_at_call 10; refine HA.out.mono ?_; rintro e w1 ⟨rfl, hb1⟩)
    go_ret
    exact ⟨rfl, hb1⟩
  have h1' : l.length ≤ 3000 := by omega
  clear h1
  have hcl := clean_length l
  have hrn := chars_length l
  have hrl : (runes l).length ≤ l.length := by simp [runes]; exact hrn
  have Hr := Lib.hid (runes_range l)
  have Hcc := Lib.hid (clean_clean l)
  go_enter Tryd.func5, Tryd.ntmps5
  go_wp2_with (go_at_call 10; refine HA.out.mono ?_; rintro e w1 ⟨rfl, hb1⟩)
  refine (clean_any l _ _ (HV.out.below hb1) (by omega)).mono ?_
  rintro e w2 ⟨rfl, hb2⟩
  have hbw2 := hb1.trans (hb2.mono hb1.size)
  clear hb2
  go_wp2_with fail
  refine (runes_any ⟨(clean l).toArray⟩ _ (by rw [size_mk]; omega)).mono ?_
  rintro e w3 ⟨v3, rfl, hr3, hb3⟩
  rw [show (⟨(clean l).toArray⟩ : ByteArray).data.toList = clean l from rfl, runes_clean] at hr3
  have hbw3 := hbw2.trans (hb3.mono hbw2.size)
  clear hb3
  have HR3 := Lib.hid hr3
  have HS3 := Lib.hid (conv_rs l v3 w3 hr3)
  obtain ⟨ro, rcap, rfl, _, hrr⟩ := hr3
  have Hrr := Lib.hid hrr
  clear hrr
  go_wp2
  go_loop [6] (fun s6 => ∃ (k : Nat), k ≤ (runes l).length ∧ s6 = .int .i64 k) (fun s6 => (runes l).length - (intOf s6).toNat)
  case atStart => exact ⟨0, Nat.zero_le _, rfl⟩
  case round =>
    obtain ⟨k, hk, rfl⟩ := hrel
    by_cases hlt : k < (runes l).length
    · have hkl : (k : Int) < ((runes l).length : Int) := by omega
      obtain ⟨b, off, rfl, hcr⟩ := Hrr.out (by intro e; rw [e] at hlt; simp at hlt)
      have hc := hcr k hlt
      obtain ⟨g1, g2, g3⟩ := Hr.out _ (List.getElem_mem hlt)
      clear hcr
      generalize (runes l)[k] = x at *
      obtain ⟨z, hz⟩ : ∃ z : Int, (x : Int) = z := ⟨_, rfl⟩
      have i1 : (0 : Int) < z := by omega
      have i2 : z ≤ 1114111 := by omega
      rw [hz] at hc
      have hz2 : z < 55296 ∨ 57343 < z := by omega
      clear g1 g2 g3 hz
      rcases hz2 with i3 | i3
      · go_wp2
        go_round
        case rel => exact ⟨k + 1, by omega, by go_num⟩
        case measure => simp [intOf]; omega
      · have i4 : (55296 : Int) ≤ z := by omega
        go_wp2
        go_round
        case rel => exact ⟨k + 1, by omega, by go_num⟩
        case measure => simp [intOf]; omega
    · have hkl : ¬ ((k : Int) < ((runes l).length : Int)) := by omega
      obtain ⟨v4, w4, hcv4, hsl4, hb4⟩ := conv_sb ⟨(clean l).toArray⟩ w3 (by rw [size_mk]; unfold maxLen; omega)
      have Hsl := Lib.hid hsl4
      clear hsl4
      go_wp2_with fail
      refine (clean_any (clean l) _ _ Hsl.out (by omega)).mono ?_
      rintro e w5 ⟨rfl, hb5⟩
      rw [Hcc.out]
      have hbw4 := hbw3.trans (hb4.mono hbw3.size)
      have hbw5 := hbw4.trans (hb5.mono hbw4.size)
      have HR5 := (HR3.out.below hb4).below hb5
      have hcv5 := conv_rs l _ _ HR5
      unfold str at hcv5
      have hfin : ((runes l).length : Int) ≤ (l.length : Int) := by omega
      clear hcv4 HR5 hb4 hb5
      go_wp2
      go_ret
      exact ⟨rfl, hbw5⟩
end TextOnce
end Go.Proofs.YtopaohficfdhhaaDoor
