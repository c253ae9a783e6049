/- ClassIs: the law's walk. -/
import Derived.Test.YtbfmbhilkgnkeaaDoorClassG
namespace Go.Proofs.YtbfmbhilkgnkeaaDoor
open Go Go.RowKit
namespace ClassIs
open Tx Ks
set_option maxRecDepth 100000
set_option linter.unusedVariables false
set_option linter.unusedSimpArgs false

/-- What the calls of the law return. -/
structure Fx (w : World) (r b : Int) (A P l d : Bool) : Prop where
  aw : Frm w 9 #[] (.bool true)
  s1 : Frm w 10 #[.int .i32 r] (.bool A)
  s2 : Frm w 11 #[.int .i32 r] (.bool A)
  p1 : Frm w 12 #[.int .i32 r] (.bool P)
  p2 : Frm w 13 #[.int .i32 r] (.bool P)
  lt : Frm w 14 #[.int .u8 b] (.bool l)
  dg : Frm w 15 #[.int .u8 b] (.bool d)
theorem fx {w : World} (hL : Laid w) (r b : Int) : Fx w r b (amg whites r) (amg signs r) (lett b) (digi b) :=
  ⟨frm_awake hL, frm_space hL r, frm_rspace hL r, frm_punct hL r, frm_rpunct hL r, frm_letter hL b, frm_digit hL b⟩
theorem apart (r : Int) : (amg whites r && amg signs r) = false := by
  rw [← white_amg, ← sign_amg, Bool.and_eq_false_iff, decide_eq_false_iff_not, decide_eq_false_iff_not]
  omega

set_option maxHeartbeats 2000000 in
theorem walk0 (r b : Int) (w : World) (A P : Bool) (HF : Hid (Fx w r b A P false false)) (hap : (A && P) = false) (h1 : b < 48) :
    Calls Tryd.prog 3 #[.int .i32 r, .int .u8 b] w fun e w' => e = .returned (.bool true) ∧ Below w.heap.size w w' := by
  have hb0 := Below.refl w.heap.size w
  cases A <;> cases P <;> simp at hap <;>
  (go_enter Tryd.func3, Tryd.ntmps3
   go_wp2_with (first
     | (go_at_call 9; refine (HF.out.aw _ (by assumption)).mono ?_; rintro e w' ⟨rfl, hb⟩)
     | (go_at_call 10; refine (HF.out.s1 _ (by assumption)).mono ?_; rintro e w' ⟨rfl, hb⟩)
     | (go_at_call 11; refine (HF.out.s2 _ (by assumption)).mono ?_; rintro e w' ⟨rfl, hb⟩)
     | (go_at_call 12; refine (HF.out.p1 _ (by assumption)).mono ?_; rintro e w' ⟨rfl, hb⟩)
     | (go_at_call 13; refine (HF.out.p2 _ (by assumption)).mono ?_; rintro e w' ⟨rfl, hb⟩)
     | (go_at_call 14; refine (HF.out.lt _ (by assumption)).mono ?_; rintro e w' ⟨rfl, hb⟩)
     | (go_at_call 15; refine (HF.out.dg _ (by assumption)).mono ?_; rintro e w' ⟨rfl, hb⟩))
   go_ret
   refine ⟨ret_bool' ?_, by assumption⟩
   first | rfl | (simp; omega))

set_option maxHeartbeats 2000000 in
theorem walk1 (r b : Int) (w : World) (A P : Bool) (HF : Hid (Fx w r b A P false true)) (hap : (A && P) = false) (h1 : 48 ≤ b) (h2 : b ≤ 57) :
    Calls Tryd.prog 3 #[.int .i32 r, .int .u8 b] w fun e w' => e = .returned (.bool true) ∧ Below w.heap.size w w' := by
  have hb0 := Below.refl w.heap.size w
  cases A <;> cases P <;> simp at hap <;>
  (go_enter Tryd.func3, Tryd.ntmps3
   go_wp2_with (first
     | (go_at_call 9; refine (HF.out.aw _ (by assumption)).mono ?_; rintro e w' ⟨rfl, hb⟩)
     | (go_at_call 10; refine (HF.out.s1 _ (by assumption)).mono ?_; rintro e w' ⟨rfl, hb⟩)
     | (go_at_call 11; refine (HF.out.s2 _ (by assumption)).mono ?_; rintro e w' ⟨rfl, hb⟩)
     | (go_at_call 12; refine (HF.out.p1 _ (by assumption)).mono ?_; rintro e w' ⟨rfl, hb⟩)
     | (go_at_call 13; refine (HF.out.p2 _ (by assumption)).mono ?_; rintro e w' ⟨rfl, hb⟩)
     | (go_at_call 14; refine (HF.out.lt _ (by assumption)).mono ?_; rintro e w' ⟨rfl, hb⟩)
     | (go_at_call 15; refine (HF.out.dg _ (by assumption)).mono ?_; rintro e w' ⟨rfl, hb⟩))
   go_ret
   refine ⟨ret_bool' ?_, by assumption⟩
   first | rfl | (simp; omega))

set_option maxHeartbeats 2000000 in
theorem walk2 (r b : Int) (w : World) (A P : Bool) (HF : Hid (Fx w r b A P false false)) (hap : (A && P) = false) (h1 : 57 < b) (h2 : b < 65) :
    Calls Tryd.prog 3 #[.int .i32 r, .int .u8 b] w fun e w' => e = .returned (.bool true) ∧ Below w.heap.size w w' := by
  have hb0 := Below.refl w.heap.size w
  cases A <;> cases P <;> simp at hap <;>
  (go_enter Tryd.func3, Tryd.ntmps3
   go_wp2_with (first
     | (go_at_call 9; refine (HF.out.aw _ (by assumption)).mono ?_; rintro e w' ⟨rfl, hb⟩)
     | (go_at_call 10; refine (HF.out.s1 _ (by assumption)).mono ?_; rintro e w' ⟨rfl, hb⟩)
     | (go_at_call 11; refine (HF.out.s2 _ (by assumption)).mono ?_; rintro e w' ⟨rfl, hb⟩)
     | (go_at_call 12; refine (HF.out.p1 _ (by assumption)).mono ?_; rintro e w' ⟨rfl, hb⟩)
     | (go_at_call 13; refine (HF.out.p2 _ (by assumption)).mono ?_; rintro e w' ⟨rfl, hb⟩)
     | (go_at_call 14; refine (HF.out.lt _ (by assumption)).mono ?_; rintro e w' ⟨rfl, hb⟩)
     | (go_at_call 15; refine (HF.out.dg _ (by assumption)).mono ?_; rintro e w' ⟨rfl, hb⟩))
   go_ret
   refine ⟨ret_bool' ?_, by assumption⟩
   first | rfl | (simp; omega))

set_option maxHeartbeats 2000000 in
theorem walk3 (r b : Int) (w : World) (A P : Bool) (HF : Hid (Fx w r b A P true false)) (hap : (A && P) = false) (h1 : 65 ≤ b) (h2 : b ≤ 90) :
    Calls Tryd.prog 3 #[.int .i32 r, .int .u8 b] w fun e w' => e = .returned (.bool true) ∧ Below w.heap.size w w' := by
  have hb0 := Below.refl w.heap.size w
  cases A <;> cases P <;> simp at hap <;>
  (go_enter Tryd.func3, Tryd.ntmps3
   go_wp2_with (first
     | (go_at_call 9; refine (HF.out.aw _ (by assumption)).mono ?_; rintro e w' ⟨rfl, hb⟩)
     | (go_at_call 10; refine (HF.out.s1 _ (by assumption)).mono ?_; rintro e w' ⟨rfl, hb⟩)
     | (go_at_call 11; refine (HF.out.s2 _ (by assumption)).mono ?_; rintro e w' ⟨rfl, hb⟩)
     | (go_at_call 12; refine (HF.out.p1 _ (by assumption)).mono ?_; rintro e w' ⟨rfl, hb⟩)
     | (go_at_call 13; refine (HF.out.p2 _ (by assumption)).mono ?_; rintro e w' ⟨rfl, hb⟩)
     | (go_at_call 14; refine (HF.out.lt _ (by assumption)).mono ?_; rintro e w' ⟨rfl, hb⟩)
     | (go_at_call 15; refine (HF.out.dg _ (by assumption)).mono ?_; rintro e w' ⟨rfl, hb⟩))
   go_ret
   refine ⟨ret_bool' ?_, by assumption⟩
   first | rfl | (simp; omega))

set_option maxHeartbeats 2000000 in
theorem walk4 (r b : Int) (w : World) (A P : Bool) (HF : Hid (Fx w r b A P false false)) (hap : (A && P) = false) (h1 : 90 < b) (h2 : b < 97) :
    Calls Tryd.prog 3 #[.int .i32 r, .int .u8 b] w fun e w' => e = .returned (.bool true) ∧ Below w.heap.size w w' := by
  have hb0 := Below.refl w.heap.size w
  cases A <;> cases P <;> simp at hap <;>
  (go_enter Tryd.func3, Tryd.ntmps3
   go_wp2_with (first
     | (go_at_call 9; refine (HF.out.aw _ (by assumption)).mono ?_; rintro e w' ⟨rfl, hb⟩)
     | (go_at_call 10; refine (HF.out.s1 _ (by assumption)).mono ?_; rintro e w' ⟨rfl, hb⟩)
     | (go_at_call 11; refine (HF.out.s2 _ (by assumption)).mono ?_; rintro e w' ⟨rfl, hb⟩)
     | (go_at_call 12; refine (HF.out.p1 _ (by assumption)).mono ?_; rintro e w' ⟨rfl, hb⟩)
     | (go_at_call 13; refine (HF.out.p2 _ (by assumption)).mono ?_; rintro e w' ⟨rfl, hb⟩)
     | (go_at_call 14; refine (HF.out.lt _ (by assumption)).mono ?_; rintro e w' ⟨rfl, hb⟩)
     | (go_at_call 15; refine (HF.out.dg _ (by assumption)).mono ?_; rintro e w' ⟨rfl, hb⟩))
   go_ret
   refine ⟨ret_bool' ?_, by assumption⟩
   first | rfl | (simp; omega))

set_option maxHeartbeats 2000000 in
theorem walk5 (r b : Int) (w : World) (A P : Bool) (HF : Hid (Fx w r b A P true false)) (hap : (A && P) = false) (h1 : 97 ≤ b) (h2 : b ≤ 122) :
    Calls Tryd.prog 3 #[.int .i32 r, .int .u8 b] w fun e w' => e = .returned (.bool true) ∧ Below w.heap.size w w' := by
  have hb0 := Below.refl w.heap.size w
  cases A <;> cases P <;> simp at hap <;>
  (go_enter Tryd.func3, Tryd.ntmps3
   go_wp2_with (first
     | (go_at_call 9; refine (HF.out.aw _ (by assumption)).mono ?_; rintro e w' ⟨rfl, hb⟩)
     | (go_at_call 10; refine (HF.out.s1 _ (by assumption)).mono ?_; rintro e w' ⟨rfl, hb⟩)
     | (go_at_call 11; refine (HF.out.s2 _ (by assumption)).mono ?_; rintro e w' ⟨rfl, hb⟩)
     | (go_at_call 12; refine (HF.out.p1 _ (by assumption)).mono ?_; rintro e w' ⟨rfl, hb⟩)
     | (go_at_call 13; refine (HF.out.p2 _ (by assumption)).mono ?_; rintro e w' ⟨rfl, hb⟩)
     | (go_at_call 14; refine (HF.out.lt _ (by assumption)).mono ?_; rintro e w' ⟨rfl, hb⟩)
     | (go_at_call 15; refine (HF.out.dg _ (by assumption)).mono ?_; rintro e w' ⟨rfl, hb⟩))
   go_ret
   refine ⟨ret_bool' ?_, by assumption⟩
   first | rfl | (simp; omega))

set_option maxHeartbeats 2000000 in
theorem walk6 (r b : Int) (w : World) (A P : Bool) (HF : Hid (Fx w r b A P false false)) (hap : (A && P) = false) (h1 : 122 < b) :
    Calls Tryd.prog 3 #[.int .i32 r, .int .u8 b] w fun e w' => e = .returned (.bool true) ∧ Below w.heap.size w w' := by
  have hb0 := Below.refl w.heap.size w
  cases A <;> cases P <;> simp at hap <;>
  (go_enter Tryd.func3, Tryd.ntmps3
   go_wp2_with (first
     | (go_at_call 9; refine (HF.out.aw _ (by assumption)).mono ?_; rintro e w' ⟨rfl, hb⟩)
     | (go_at_call 10; refine (HF.out.s1 _ (by assumption)).mono ?_; rintro e w' ⟨rfl, hb⟩)
     | (go_at_call 11; refine (HF.out.s2 _ (by assumption)).mono ?_; rintro e w' ⟨rfl, hb⟩)
     | (go_at_call 12; refine (HF.out.p1 _ (by assumption)).mono ?_; rintro e w' ⟨rfl, hb⟩)
     | (go_at_call 13; refine (HF.out.p2 _ (by assumption)).mono ?_; rintro e w' ⟨rfl, hb⟩)
     | (go_at_call 14; refine (HF.out.lt _ (by assumption)).mono ?_; rintro e w' ⟨rfl, hb⟩)
     | (go_at_call 15; refine (HF.out.dg _ (by assumption)).mono ?_; rintro e w' ⟨rfl, hb⟩))
   go_ret
   refine ⟨ret_bool' ?_, by assumption⟩
   first | rfl | (simp; omega))

theorem law_any (r b : Int) (w : World) (hL : Laid w) :
    Calls Tryd.prog 3 #[.int .i32 r, .int .u8 b] w fun e w' => e = .returned (.bool true) ∧ Below w.heap.size w w' := by
  have HF := Lib.hid (fx hL r b)
  have hap := apart r
  have hc : (b < 48) ∨ (48 ≤ b ∧ b ≤ 57) ∨ (57 < b ∧ b < 65) ∨ (65 ≤ b ∧ b ≤ 90) ∨ (90 < b ∧ b < 97) ∨ (97 ≤ b ∧ b ≤ 122) ∨ (122 < b) := by omega
  have el : lett b = decide ((97 ≤ b ∧ b ≤ 122) ∨ (65 ≤ b ∧ b ≤ 90)) := by simp [lett]
  have ed : digi b = decide (48 ≤ b ∧ b ≤ 57) := by simp [digi]
  rw [el, ed] at HF
  rcases hc with h1 | ⟨h1, h2⟩ | ⟨h1, h2⟩ | ⟨h1, h2⟩ | ⟨h1, h2⟩ | ⟨h1, h2⟩ | h1
  · rw [decide_eq_false (by omega), decide_eq_false (by omega)] at HF
    exact walk0 r b w _ _ HF hap h1
  · rw [decide_eq_false (by omega), decide_eq_true (by omega)] at HF
    exact walk1 r b w _ _ HF hap h1 h2
  · rw [decide_eq_false (by omega), decide_eq_false (by omega)] at HF
    exact walk2 r b w _ _ HF hap h1 h2
  · rw [decide_eq_true (by omega), decide_eq_false (by omega)] at HF
    exact walk3 r b w _ _ HF hap h1 h2
  · rw [decide_eq_false (by omega), decide_eq_false (by omega)] at HF
    exact walk4 r b w _ _ HF hap h1 h2
  · rw [decide_eq_true (by omega), decide_eq_false (by omega)] at HF
    exact walk5 r b w _ _ HF hap h1 h2
  · rw [decide_eq_false (by omega), decide_eq_false (by omega)] at HF
    exact walk6 r b w _ _ HF hap h1
end ClassIs
end Go.Proofs.YtbfmbhilkgnkeaaDoor
