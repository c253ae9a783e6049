/- EscapePlain: the law's walk. -/
import Derived.Test.YtimmifoicihadaaDoorEscI
namespace Go.Proofs.YtimmifoicihadaaDoor
open Go Go.RowKit
namespace EscapePlain
open En Es
set_option maxRecDepth 100000
set_option linter.unusedVariables false
set_option linter.unusedSimpArgs false

def plI (x : Int) : Bool := decide (97 ≤ x ∧ x ≤ 122) || decide (65 ≤ x ∧ x ≤ 90) || decide (48 ≤ x ∧ x ≤ 57) || decide (x = 45) || decide (x = 95) || decide (x = 46) || decide (x = 47) || decide (x = 58)
theorem plI_eq (c : UInt8) : (plB c == plI (c.toNat : Int)) = true := all_u8 (p := fun c => plB c == plI (c.toNat : Int)) (by decide +kernel) c
theorem plB_of {c : UInt8} {x : Int} (h : (c.toNat : Int) = x) (hx : (97 ≤ x ∧ x ≤ 122) ∨ (65 ≤ x ∧ x ≤ 90) ∨ (48 ≤ x ∧ x ≤ 57) ∨ x = 45 ∨ x = 95 ∨ x = 46 ∨ x = 47 ∨ x = 58) : plB c = true := by
  have := plI_eq c
  rw [beq_iff_eq] at this
  rw [this, h]
  unfold plI
  simp only [Bool.or_eq_true, decide_eq_true_eq]
  omega

set_option maxHeartbeats 4000000 in
theorem law_any (s : ByteArray) (w : World) (hL : LaidK w) (hs : s.size ≤ maxLen) :
    Calls Tryd.prog 8 #[.string s] w fun e w' => e = .returned (.bool true) ∧ Below w.heap.size w w' := by
  unfold maxLen at hs
  have HA := Lib.hid (Es.frm_awake hL)
  have hb0 := Below.refl w.heap.size w
  by_cases hbig : 1000 < s.size
  · have hb' : (1000 : Int) < (s.size : Int) := by omega
    clear hL
    go_enter Tryd.func8, Tryd.ntmps8
    go_wp2_with fail
    refine (HA.out _ hb0).mono ?_
    rintro e w1 ⟨rfl, hb1⟩
    go_wp2
    go_ret
    exact ⟨rfl, hb1⟩
  · have hb' : (s.size : Int) ≤ 1000 := by omega
    have hl : s.data.toList.length ≤ 100000 := by rw [sz]; omega
    have F1 := Lib.hid (fun (h : ∀ c ∈ s.data.toList, plB c = true) => frm_str (s := s) (frm_html hL (s := s) rfl (html_plain h) hl) (mk_self s))
    have F2 := Lib.hid (fun (h : ∀ c ∈ s.data.toList, plB c = true) => frm_str (s := s) (frm_href hL (s := s) rfl (href_plain h) hl) (mk_self s))
    have F3 := Lib.hid (fun (h : ∀ c ∈ s.data.toList, plB c = true) => frm_str (s := s) (frm_une hL (s := s) rfl (une_plains h) hl) (mk_self s))
    have hdl := Lib.hid (sz s)
    clear hL hbig hl
    go_enter Tryd.func8, Tryd.ntmps8
    go_wp2_with fail
    refine (HA.out _ hb0).mono ?_
    rintro e w1 ⟨rfl, hb1⟩
    have HB := Lib.hid hb1
    clear hb1 hb0 HA
    go_wp2
    go_loop [4] (fun v4 => ∃ (k : Nat), k ≤ s.size ∧ v4 = .int .i64 (k : Int) ∧ Hid (AllTo (fun c => plB c = true) s.data.toList k)) (fun v4 => s.size - (intOf v4).toNat)
    case atStart => exact ⟨0, by omega, rfl, Lib.hid (allTo_zero _ _)⟩
    case round =>
      obtain ⟨k, hk, rfl, HS⟩ := hrel
      by_cases hlt : k < s.size
      · obtain ⟨c, t, hd, hck, ht⟩ := cons_at hlt
        obtain ⟨x, hx⟩ : ∃ x : Int, (c.toNat : Int) = x := ⟨_, rfl⟩
        have hsx : (s[k].toNat : Int) = x := by rw [hck]; exact hx
        have HS2 := Lib.hid (fun h => HS.out.step hd (plB_of hx h))
        clear hd ht hck hx
        have hr : ((97 ≤ x ∧ x ≤ 122) ∨ (65 ≤ x ∧ x ≤ 90) ∨ (48 ≤ x ∧ x ≤ 57) ∨ x = 45 ∨ x = 95 ∨ x = 46 ∨ x = 47 ∨ x = 58) ∨ (x < 45 ∨ (58 < x ∧ x < 65) ∨ (90 < x ∧ x < 95) ∨ (95 < x ∧ x < 97) ∨ 122 < x) := by omega
        rcases hr with h | h
        · have HS3 := Lib.hid (HS2.out h)
          clear HS2
          rcases h with h | h | h | h | h | h | h | h <;> (try obtain ⟨ha, hb⟩ := h) <;> (try subst h) <;>
          (go_wp2
           go_round
           case rel => exact ⟨k + 1, by omega, by go_num, HS3⟩
           case measure => simp [intOf]; omega)
        · clear HS2
          have b1 : (x == 45) = false := by simp only [beq_eq_false_iff_ne]; omega
          have b2 : (x == 95) = false := by simp only [beq_eq_false_iff_ne]; omega
          have b3 : (x == 46) = false := by simp only [beq_eq_false_iff_ne]; omega
          have b4 : (x == 47) = false := by simp only [beq_eq_false_iff_ne]; omega
          have b5 : (x == 58) = false := by simp only [beq_eq_false_iff_ne]; omega
          rcases h with h | h | h | h | h <;> (try obtain ⟨ha, hb⟩ := h) <;>
          (try have d1 : decide (x ≤ 57) = false := decide_eq_false (by omega)
           try have d2 : decide (x ≤ 90) = false := decide_eq_false (by omega)
           try have d3 : decide (x ≤ 122) = false := decide_eq_false (by omega)
           go_wp2
           go_ret
           exact ⟨rfl, HB.out⟩)
      · have hall := HS.out.all (by rw [hdl.out]; omega)
        have G1 := Lib.hid (F1.out hall)
        have G2 := Lib.hid (F2.out hall)
        have G3 := Lib.hid (F3.out hall)
        clear hall
        go_wp2_with fail
        refine (G1.out _ HB.out).mono ?_
        rintro e w2 ⟨rfl, hb2⟩
        go_wp2_with fail
        refine (G2.out _ hb2).mono ?_
        rintro e w3 ⟨rfl, hb3⟩
        go_wp2_with fail
        refine (G3.out _ hb3).mono ?_
        rintro e w4 ⟨rfl, hb4⟩
        go_wp2
        go_ret
        exact ⟨rfl, hb4⟩
end EscapePlain
end Go.Proofs.YtimmifoicihadaaDoor
