/- TextSums: the law's walk. -/
import Derived.Test.YtopaohficfdhhaaDoorTextR
import Derived.Deep.RegionWith
import Derived.Deep.RegionHeld
import Derived.Deep.DrawnRows
namespace Go.Proofs.YtopaohficfdhhaaDoor
open Go Go.RowKit
namespace TextSums
open Tx
set_option maxRecDepth 100000
attribute [local go_sem ↓] Go.wp_at_zero Go.wp_at_succ
set_option linter.unusedVariables false
set_option linter.unusedSimpArgs false

theorem runes_str (l : List UInt8) (w0 W : World) (hl : l.length ≤ 100000) (hb : Below w0.heap.size w0 W) :
    Calls Tryd.prog 11 #[.string ⟨l.toArray⟩] W fun e w' => ∃ v, e = .returned v ∧ RSl w' v (runes l) ∧ Below W.heap.size W w' ∧ Below w0.heap.size w0 w' :=
  (runes_any ⟨l.toArray⟩ W (by rw [size_mk]; omega)).mono fun e w' ⟨v, h1, h2, h3⟩ => ⟨v, h1, h2, h3, hb.trans (h3.mono hb.size)⟩

theorem runes_clean (l : List UInt8) : runes (clean l) = runes l := by unfold runes; rw [chars_clean]
theorem runes_app (a b : List UInt8) : runes (clean a ++ clean b) = runes a ++ runes b := by
  unfold runes; rw [chars_clean_app, chars_clean]; simp

set_option maxHeartbeats 16000000 in
theorem law_any (a : List UInt8) (va : Value) (b : List UInt8) (vb : Value) (w : World) (ha : Sl w va a) (hb : Sl w vb b) :
    Calls Tryd.prog 8 #[va, vb] w fun e w' => e = .returned (.bool true) ∧ Below w.heap.size w w' := by
  have HA := Lib.hid (awake_any w)
  have Ha := Lib.hid ha
  have Hb := Lib.hid hb
  obtain ⟨ao, cap, rfl, hlc, hcm, hrow⟩ := ha
  obtain ⟨bo, cap2, rfl, hlc2, hcm2, hrow2⟩ := hb
  unfold maxLen at hcm hcm2
  clear hrow hrow2
  by_cases h1 : a.length > 1000
  · go_enter Tryd.func8, Tryd.ntmps8
    go_wp2_with (go_at_call 10; refine HA.out.mono ?_; rintro e w1 ⟨rfl, hb1⟩)
    go_ret
    exact ⟨rfl, hb1⟩
  by_cases h2 : b.length > 1000
  · go_enter Tryd.func8, Tryd.ntmps8
    go_wp2_with (go_at_call 10; refine HA.out.mono ?_; rintro e w1 ⟨rfl, hb1⟩)
    go_ret
    exact ⟨rfl, hb1⟩
  have h1' : a.length ≤ 1000 := by omega
  have h2' : b.length ≤ 1000 := by omega
  have d1 : decide (1000 < (a.length : Int)) = false := by simp; omega
  have d2 : decide (1000 < (b.length : Int)) = false := by simp; omega
  clear h1 h2
  have hca := clean_length a
  have hcb := clean_length b
  go_enter Tryd.func8, Tryd.ntmps8
  go_wp2_with fail
  refine HA.out.mono ?_
  rintro e w1 ⟨rfl, hb1⟩
  go_wp2_with fail
  refine (clean_any a _ _ (Ha.out.below hb1) (by omega)).mono ?_
  rintro e w2 ⟨rfl, hb2⟩
  have B2 := Lib.hid ((Hb.out.below hb1).below hb2)
  have hbw2 := hb1.trans (hb2.mono hb1.size)
  go_wp2_with fail
  refine (clean_any b _ _ B2.out (by omega)).mono ?_
  rintro e w3 ⟨rfl, hb3⟩
  have hbw3 := hbw2.trans (hb3.mono hbw2.size)
  clear hb1 hb2 hb3 hbw2 B2
  obtain ⟨X, hX⟩ : ∃ X : ByteArray, (⟨(clean a).toArray⟩ : ByteArray) = X := ⟨_, rfl⟩
  obtain ⟨Y, hY⟩ : ∃ Y : ByteArray, (⟨(clean b).toArray⟩ : ByteArray) = Y := ⟨_, rfl⟩
  rw [hX, hY]
  have hXY : (⟨(clean a ++ clean b).toArray⟩ : ByteArray) = X ++ Y := by
    rw [← hX, ← hY]; apply ByteArray.ext; rw [ByteArray.data_append]; simp
  have hsz : X.size ≤ 3000 := by rw [← hX, size_mk]; omega
  have hsy : Y.size ≤ 3000 := by rw [← hY, size_mk]; omega
  have R1 := Lib.hid (fun W hb => by have := runes_str (clean a ++ clean b) w3 W (by simp; omega) hb; rw [hXY] at this; exact this)
  have R2 := Lib.hid (fun W hb => by have := runes_str (clean a) w3 W (by omega) hb; rw [hX] at this; exact this)
  have R3 := Lib.hid (fun W hb => by have := runes_str (clean b) w3 W (by omega) hb; rw [hY] at this; exact this)
  have C1 := Lib.hid (fun v W (h : RSl W v (runes (clean a ++ clean b))) => by have := conv_rs (clean a ++ clean b) v W h; rw [clean_app, clean_clean, show str (clean a ++ clean b) = .string (X ++ Y) from by rw [← hXY]; rfl] at this; exact this)
  have C2 := Lib.hid (fun v W (h : RSl W v (runes (clean a))) => by have := conv_rs (clean a) v W h; rw [clean_clean, show str (clean a) = .string X from by rw [← hX]; rfl] at this; exact this)
  have C3 := Lib.hid (fun v W (h : RSl W v (runes (clean b))) => by have := conv_rs (clean b) v W h; rw [clean_clean, show str (clean b) = .string Y from by rw [← hY]; rfl] at this; exact this)
  have HCC : Hid ((⟨(clean (X ++ Y).data.toList).toArray⟩ : ByteArray) = X ++ Y) := Lib.hid (by rw [← hXY]; show (⟨(clean (clean a ++ clean b)).toArray⟩ : ByteArray) = _; rw [clean_app, clean_clean])
  have Hbw3 := Lib.hid hbw3
  have b00 := drew_below w3
  clear hX hY hXY hbw3 hca hcb
  have hXYs : (X ++ Y).size ≤ maxLen := by rw [ByteArray.size_append]; unfold maxLen; omega
  have HS := Lib.hid (fun W => conv_sb (X ++ Y) W hXYs)
  have HCL : Hid (∀ v W, Sl W v (X ++ Y).data.toList → Below w3.heap.size w3 W → Calls Tryd.prog 13 #[v] W fun e w' => e = .returned (.string (X ++ Y)) ∧ Below w3.heap.size w3 w') := Lib.hid (fun v W h hb => by
    refine (clean_any _ v W h ?_).mono ?_
    · have : (X ++ Y).data.toList.length = (X ++ Y).size := by rw [Array.length_toList]; rfl
      rw [this, ByteArray.size_append]; omega
    · rintro e w' ⟨h1, h2⟩
      refine ⟨?_, hb.trans (h2.mono hb.size)⟩
      rw [h1]
      have := HCC.out
      rw [this])
  go_wp2_with fail
  go_region_held (fun _ => True) (trivial) ((first
    | (go_at_call_of 11 (Value.string (X ++ Y)); refine (R1.out _ b00).mono ?_; rintro e wa ⟨va, rfl, hra, hba, hwa⟩; have ca := C1.out _ _ hra; have Ra := Lib.hid hra; clear hra)
    | (go_at_call_of 11 (Value.string X); refine (R2.out _ hwa).mono ?_; rintro e wb ⟨vb, rfl, hrb, hbb, hwb⟩; have ca2 := C1.out _ _ (Ra.out.below hbb); have cb := C2.out _ _ hrb; have Rb := Lib.hid hrb; clear hrb)
    | (go_at_call_of 11 (Value.string Y); refine (R3.out _ hwb).mono ?_; rintro e wc ⟨vc, rfl, hrc, hbc, hwc⟩; have ca3 := C1.out _ _ ((Ra.out.below hbb).below hbc); have cb2 := C2.out _ _ (Rb.out.below hbc); have cc := C3.out _ _ hrc; obtain ⟨vs, ws, ecs, hsl, hbs⟩ := HS.out wc; have Hsl := Lib.hid hsl; clear hsl hrc)
    | (go_at_call 13; refine (HCL.out _ _ Hsl.out (hwc.trans (hbs.mono hwc.size))).mono ?_; rintro e wd ⟨rfl, hwd⟩)))
  all_goals go_wp2
  all_goals go_ret
  all_goals exact ⟨rfl, Hbw3.out.trans (hwd.mono Hbw3.out.size)⟩
end TextSums
end Go.Proofs.YtopaohficfdhhaaDoor
