/- ClassSigns: the law's walk. -/
import Derived.Test.YtbfmbhilkgnkeaaDoorClassG
namespace Go.Proofs.YtbfmbhilkgnkeaaDoor
open Go Go.RowKit
namespace ClassSigns
open Tx Ks
set_option maxRecDepth 100000
set_option linter.unusedVariables false
set_option linter.unusedSimpArgs false

theorem sign_facts : ∀ c : Fin 128, (amg signs ((c.val : Nat) : Int) = ((decide (32 < c.val) && decide (c.val < 127)) && !lett ((c.val : Nat) : Int) && !digi ((c.val : Nat) : Int))) ∧ (lett ((c.val : Nat) : Int) = true → lett (((c.val ^^^ 32 : Nat)) : Int) = true) ∧ (lett ((c.val : Nat) : Int) && digi ((c.val : Nat) : Int)) = false := by decide +kernel

set_option maxHeartbeats 2000000 in
theorem law_any (b : Int) (w : World) (hL : Laid w) (h0 : 0 ≤ b) (h1 : b ≤ 255) :
    Calls Tryd.prog 7 #[.int .u8 b] w fun e w' => e = .returned (.bool true) ∧ Below w.heap.size w w' := by
  have HA := Lib.hid (frm_awake hL)
  have hb0 := Below.refl w.heap.size w
  have hand := u8_and b 127 h0 (by omega) (by decide) (by decide)
  obtain ⟨c, hc⟩ : ∃ c : Nat, b.toNat &&& (127 : Int).toNat = c := ⟨_, rfl⟩
  have hc128 : c < 128 := by
    rw [← hc]
    exact Nat.and_lt_two_pow (n := 7) _ (by decide)
  rw [hc] at hand
  have hxor := u8_xor (c : Int) 32 (by omega) (by omega) (by decide) (by decide)
  rw [Int.toNat_natCast, show (32 : Int).toNat = 32 from rfl] at hxor
  obtain ⟨f1, f2, f3⟩ := sign_facts ⟨c, hc128⟩
  simp only at f1 f2 f3
  have HP := Lib.hid (frm_punct hL (c : Int))
  have HLt := Lib.hid (fun z => frm_letter hL z)
  have HD := Lib.hid (frm_digit hL (c : Int))
  have hz0 : 0 ≤ ((c : Nat) : Int) := by omega
  have hz1 : ((c : Nat) : Int) ≤ 127 := by omega
  have e1 : decide (32 < c) = decide ((32 : Int) < (c : Int)) := by rw [decide_eq_decide]; omega
  have e2 : decide (c < 127) = decide ((c : Int) < 127) := by rw [decide_eq_decide]; omega
  rw [e1, e2] at f1
  clear hL hc hc128 e1 e2 h0 h1
  generalize amg signs (c : Int) = P at *
  generalize digi (c : Int) = dg at *
  generalize ((c ^^^ 32 : Nat) : Int) = x at *
  generalize (c : Int) = z at *
  obtain ⟨lt, hlt⟩ : ∃ lt, lett z = lt := ⟨_, rfl⟩
  obtain ⟨lx, hlx⟩ : ∃ lx, lett x = lx := ⟨_, rfl⟩
  rw [hlt] at f1 f2 f3
  rw [hlx] at f2
  have hcase : z ≤ 32 ∨ (32 < z ∧ z < 127) ∨ (32 < z ∧ 127 ≤ z) := by omega
  rcases hcase with hz | ⟨hz, hz2⟩ | ⟨hz, hz2⟩
  · rw [decide_eq_false (by omega : ¬ 32 < z)] at f1
    simp only [Bool.false_and] at f1
    subst f1
    cases lt <;> cases dg <;> cases lx <;> simp at f2 f3 <;>
    (clear f2 f3
     go_enter Tryd.func7, Tryd.ntmps7
     go_wp2_with (first
       | (go_at_call 9; refine (HA.out _ (by assumption)).mono ?_; rintro e w' ⟨rfl, hb⟩)
       | (go_at_call 12; refine (HP.out _ (by assumption)).mono ?_; rintro e w' ⟨rfl, hb⟩)
       | (go_at_call 14; refine (HLt.out _ _ (by assumption)).mono ?_; rintro e w' ⟨rfl, hb⟩; first | rw [hlt] | rw [hlx])
       | (go_at_call 15; refine (HD.out _ (by assumption)).mono ?_; rintro e w' ⟨rfl, hb⟩))
     go_ret
     exact ⟨rfl, by assumption⟩)
  · rw [decide_eq_true hz, decide_eq_true hz2] at f1
    simp only [Bool.true_and] at f1
    subst f1
    cases lt <;> cases dg <;> cases lx <;> simp at f2 f3 <;>
    (clear f2 f3
     go_enter Tryd.func7, Tryd.ntmps7
     go_wp2_with (first
       | (go_at_call 9; refine (HA.out _ (by assumption)).mono ?_; rintro e w' ⟨rfl, hb⟩)
       | (go_at_call 12; refine (HP.out _ (by assumption)).mono ?_; rintro e w' ⟨rfl, hb⟩)
       | (go_at_call 14; refine (HLt.out _ _ (by assumption)).mono ?_; rintro e w' ⟨rfl, hb⟩; first | rw [hlt] | rw [hlx])
       | (go_at_call 15; refine (HD.out _ (by assumption)).mono ?_; rintro e w' ⟨rfl, hb⟩))
     go_ret
     exact ⟨rfl, by assumption⟩)
  · rw [decide_eq_true hz, decide_eq_false (by omega : ¬ z < 127)] at f1
    simp only [Bool.and_false, Bool.false_and] at f1
    subst f1
    cases lt <;> cases dg <;> cases lx <;> simp at f2 f3 <;>
    (clear f2 f3
     go_enter Tryd.func7, Tryd.ntmps7
     go_wp2_with (first
       | (go_at_call 9; refine (HA.out _ (by assumption)).mono ?_; rintro e w' ⟨rfl, hb⟩)
       | (go_at_call 12; refine (HP.out _ (by assumption)).mono ?_; rintro e w' ⟨rfl, hb⟩)
       | (go_at_call 14; refine (HLt.out _ _ (by assumption)).mono ?_; rintro e w' ⟨rfl, hb⟩; first | rw [hlt] | rw [hlx])
       | (go_at_call 15; refine (HD.out _ (by assumption)).mono ?_; rintro e w' ⟨rfl, hb⟩))
     go_ret
     exact ⟨rfl, by assumption⟩)
end ClassSigns
end Go.Proofs.YtbfmbhilkgnkeaaDoor
