/- Walks of layer 12, the second part: the reference's runs, and what is an address. -/
import Derived.Test.YtapibalcekedfaaGreatDoorSpA
import Derived.Deep.CutBlock
import Derived.Laws.DeepStrings4
import Derived.OwnWalk
namespace Go.Proofs.YtapibalcekedfaaGreatDoor
open Go Go.RowKit
namespace Sp
open Sc
set_option maxRecDepth 100000
set_option linter.unusedVariables false
set_option linter.unusedSimpArgs false

theorem below_drewN {B : Nat} {a w : World} (h : Below B a w) (n : Nat) : Below B a (w.drewN n) := ⟨h.os, h.tape, h.output, h.size, h.block⟩
theorem emp_t {S : ByteArray} (h : S.data.toList = []) : S.toList.isEmpty = true := by rw [Go.ByteArray.toList_eq, h]; rfl
theorem emp_f {S : ByteArray} (h : 0 < S.size) : S.toList.isEmpty = false := by
  rw [Go.ByteArray.toList_eq]
  cases hl : S.data.toList with
  | nil => have := congrArg List.length hl; rw [sz, List.length_nil] at this; omega
  | cons _ _ => rfl
theorem nil_ofS {s : ByteArray} (h : ¬ 0 < s.size) : s.data.toList = [] := List.length_eq_zero_iff.1 (by rw [sz]; omega)
theorem int_eqS {a b : Nat} (h : a = b) : (Value.int .i64 (a : Int)) = .int .i64 (b : Int) := by rw [h]

theorem runP_head (s : ByteArray) : ∃ c : UInt8, (∀ h : 0 < s.size, s[0] = c) ∧ runP s.data.toList = Sc.runN c s.data.toList := by
  by_cases h0 : 0 < s.size
  · obtain ⟨c, t, hd, hck, ht⟩ := cons_at h0
    rw [List.drop_zero] at hd
    exact ⟨c, fun _ => hck, by rw [hd]; rfl⟩
  · exact ⟨0, fun h => absurd h h0, by rw [nil_ofS h0]; rfl⟩

set_option maxHeartbeats 2000000 in
theorem rrun_any (s : ByteArray) (w : World) (hs : s.size ≤ 1000000) :
    Calls Tryz.prog 17 #[.string s] w fun e w' => e = .returned (.int .i64 (runP s.data.toList : Nat)) ∧ Below w.heap.size w w' := by
  obtain ⟨c, hc0, hr⟩ := runP_head s
  have HR0 := Lib.hid hr
  have HC0 := Lib.hid hc0
  have hs' : (s.size : Int) ≤ 1000000 := by omega
  clear hr hc0
  go_enter Tryz.func17, Tryz.ntmps17
  go_wp2_with fail
  go_loopg [3] s.size (fun g s3 wr => ∃ k : Nat, k + g = s.size ∧ s3 = .int .i64 (k : Int) ∧ Hid (Below w.heap.size w wr) ∧ Hid (runP s.data.toList = k + Sc.runN c (s.data.toList.drop k)))
  case atStart => exact ⟨0, by omega, rfl, Lib.hid (Below.refl _ _), Lib.hid (by rw [HR0.out]; simp)⟩
  case round =>
    obtain ⟨k, hkg, rfl, HB, HF⟩ := hrel
    by_cases hlt : k < s.size
    · obtain ⟨x, t, hd, hck, ht⟩ := cons_at hlt
      have hlt' : (k : Int) < (s.size : Int) := by omega
      have h0' : (0 : Int) < (s.size : Int) := by omega
      have hdec : decide ((k : Int) < (s.size : Int)) = true := by simp; omega
      have h00 := HC0.out (by omega)
      by_cases hx : x = c
      · have hxc : ((x.toNat : Int) == (c.toNat : Int)) = true := by rw [hx]; simp
        have HY : Hid (runP s.data.toList = (k + 1) + Sc.runN c (s.data.toList.drop (k + 1))) := Lib.hid (by rw [HF.out, hd, ht, hx, Sc.runN_hit]; omega)
        clear hd ht hx
        go_wp2_with fail
        go_big_quiet (fail)
        go_wp2
        go_roundg (gk - 1)
        case rel => exact ⟨k + 1, by omega, by go_num, Lib.hid (below_drewN HB.out nq), HY⟩
        case measure => omega
      · have hxc : ((x.toNat : Int) == (c.toNat : Int)) = false := by
          rw [beq_eq_false_iff_ne]; intro e; exact hx (UInt8.toNat_inj.1 (Int.ofNat.inj e))
        have HN : Hid (runP s.data.toList = k) := Lib.hid (by rw [HF.out, hd, Sc.runN_miss t hx]; rfl)
        clear hd ht hx
        go_wp2_with fail
        go_big_quiet (fail)
        go_wp2
        go_ret
        rw [HN.out]
        exact ⟨rfl, below_drewN HB.out nq⟩
    · have hlt' : ¬ (k : Int) < (s.size : Int) := by omega
      have hdec : decide ((k : Int) < (s.size : Int)) = false := by simp; omega
      have HN : Hid (runP s.data.toList = k) := Lib.hid (by rw [HF.out, drop_all (by omega), Sc.runN_nil]; rfl)
      go_wp2_with fail
      go_big_quiet (fail)
      go_wp2
      go_ret
      rw [HN.out]
      exact ⟨rfl, below_drewN HB.out nq⟩

theorem rlet_any (b : Int) (w : World) :
    Calls Tryz.prog 35 #[.int .u8 b] w fun e w' => e = .returned (.bool (lett b)) ∧ w = w' := by
  go_enter Tryz.func35, Tryz.ntmps35
  go_wp2
  all_goals (go_ret; refine ⟨ret_bool' ?_, rfl⟩; unfold lett; simp [*] <;> omega)
theorem rdig_any (b : Int) (w : World) :
    Calls Tryz.prog 48 #[.int .u8 b] w fun e w' => e = .returned (.bool (digi b)) ∧ w = w' := by
  go_enter Tryz.func48, Tryz.ntmps48
  go_wp2
  all_goals (go_ret; refine ⟨ret_bool' ?_, rfl⟩; unfold digi; simp [*] <;> omega)
theorem rletU_any (c : UInt8) (w : World) :
    Calls Tryz.prog 35 #[.int .u8 (c.toNat : Int)] w fun e w' => e = .returned (.bool (letU c)) ∧ w = w' := rlet_any _ w
theorem rdigU_any (c : UInt8) (w : World) :
    Calls Tryz.prog 48 #[.int .u8 (c.toNat : Int)] w fun e w' => e = .returned (.bool (digU c)) ∧ w = w' := rdig_any _ w

/-! ### an address -/
def kR (x : List UInt8) : Nat := match x with
  | [] => 0
  | c :: t => if letU c = true then cnt (made signA) (c :: t) else 0
theorem made_inA (c : UInt8) : made signA c = true → inA c = true := by
  have := all_u8 (p := fun c => !made signA c || inA c) (by decide +kernel) c
  intro h
  rw [h] at this
  simpa using this
theorem let_made {g : List UInt8} {c : UInt8} (h : letU c = true) : made g c = true := by unfold made; rw [h]; rfl
theorem kR_le (x : List UInt8) : kR x ≤ x.length := by
  cases x with
  | nil => exact Nat.le_refl _
  | cons c t =>
    unfold kR
    simp only
    split
    · exact cnt_le _ _
    · exact Nat.zero_le _
theorem all_drop_cnt {p q : UInt8 → Bool} (hpq : ∀ c, p c = true → q c = true) (x : List UInt8) : x.all q = (x.drop (cnt p x)).all q := by
  conv => lhs; rw [← List.take_append_drop (cnt p x) x]
  rw [List.all_append]
  have : (x.take (cnt p x)).all q = true := by
    rw [List.all_eq_true]
    intro c hc
    exact hpq c (List.all_eq_true.1 (take_all p x) c hc)
  rw [this, Bool.true_and]
/-- The reference's way. -/
theorem addr_ref (x : List UInt8) : (schP x && x.all inA) = (decide (2 ≤ kR x) && decide (kR x ≤ 32) && decide ((x.drop (kR x)).head? = some 58) && (x.drop (kR x)).all inA) := by
  cases x with
  | nil => rfl
  | cons c t =>
    unfold kR schP
    simp only
    by_cases hl : letU c = true
    · simp only [if_pos hl]
      rw [← all_drop_cnt made_inA (c :: t), hl]
      simp only [Bool.and_true]
    · simp only [if_neg hl]
      rw [show letU c = false by simpa using hl]
      simp

theorem six : ∀ l d p q r : Bool, (l = true) ∨ (l = false ∧ d = true) ∨ (l = false ∧ d = false ∧ p = true) ∨ (l = false ∧ d = false ∧ p = false ∧ q = true) ∨ (l = false ∧ d = false ∧ p = false ∧ q = false ∧ r = true) ∨ (l = false ∧ d = false ∧ p = false ∧ q = false ∧ r = false) := by decide
theorem made_A (c : UInt8) : made signA c = (letU c || digU c || c == 43 || c == 46 || c == 45) := eq_of_beq (all_u8 (p := fun c => made signA c == (letU c || digU c || c == 43 || c == 46 || c == 45)) (by decide +kernel) c)
theorem inA_not (c : UInt8) : inA c = !(decide ((c.toNat : Int) ≤ 32) || c == 127 || c == 60 || c == 62) := eq_of_beq (all_u8 (p := fun c => inA c == !(decide ((c.toNat : Int) ≤ 32) || c == 127 || c == 60 || c == 62)) (by decide +kernel) c)
theorem five : ∀ u p q r : Bool, (u = true) ∨ (u = false ∧ p = true) ∨ (u = false ∧ p = false ∧ q = true) ∨ (u = false ∧ p = false ∧ q = false ∧ r = true) ∨ (u = false ∧ p = false ∧ q = false ∧ r = false) := by decide

set_option maxHeartbeats 8000000 in
theorem raddr_any (s : ByteArray) (w : World) (hs : s.size ≤ 1000000) :
    Calls Tryz.prog 27 #[.string s] w fun e w' => e = .returned (.bool (schP s.data.toList && s.data.toList.all inA)) ∧ w = w' := by
  rw [addr_ref]
  have hs' : (s.size : Int) ≤ 1000000 := by omega
  obtain ⟨K, hK⟩ : ∃ K, kR s.data.toList = K := ⟨_, rfl⟩
  have hKs : K ≤ s.size := by rw [← hK, ← sz]; exact kR_le _
  rw [hK]
  have HK := Lib.hid hK
  obtain ⟨B, hB⟩ : ∃ B : Bool, (decide (2 ≤ K) && decide (K ≤ 32) && decide ((s.data.toList.drop K).head? = some 58) && (s.data.toList.drop K).all inA) = B := ⟨_, rfl⟩
  rw [hB]
  have HB := Lib.hid hB
  clear hK hB
  go_enter Tryz.func27, Tryz.ntmps27
  go_upto_block 0 with fail
  go_cut [3] (fun v3 wx => v3 = .int .i64 (K : Int) ∧ w = wx)
  case first =>
    go_wp2_with fail
    go_loopg [3] s.size (fun g v3 wr => ∃ k : Nat, k + g = s.size ∧ v3 = .int .i64 (k : Int) ∧ w = wr ∧ Hid (0 < k → K = k + cnt (made signA) (s.data.toList.drop k)))
    case atStart => exact ⟨0, by omega, rfl, rfl, Lib.hid (fun h => by omega)⟩
    case round =>
      obtain ⟨k, hkg, rfl, rfl, HR⟩ := hrel
      by_cases hlt : k < s.size
      · obtain ⟨c, t, hd, hck, ht⟩ := cons_at hlt
        have hlt' : (k : Int) < (s.size : Int) := by omega
        have HL := Lib.hid (rletU_any c w)
        have HG := Lib.hid (rdigU_any c w)
        have e43 : ((c.toNat : Int) == 43) = (c == 43) := eq_u8 c 43 (by decide)
        have e46 : ((c.toNat : Int) == 46) = (c == 46) := eq_u8 c 46 (by decide)
        have e45 : ((c.toNat : Int) == 45) = (c == 45) := eq_u8 c 45 (by decide)
        have HM := Lib.hid (made_A c)
        by_cases hk0 : k = 0
        · subst hk0
          have hk1 : ¬ (0 : Int) < ((0 : Nat) : Int) := by omega
          rw [List.drop_zero] at hd
          have HE : Hid (K = if letU c = true then cnt (made signA) (c :: t) else 0) := Lib.hid (by rw [← HK.out, hd]; rfl)
          have HS : Hid (letU c = true → K = 1 + cnt (made signA) (s.data.toList.drop 1)) := Lib.hid (fun h => by rw [HE.out, if_pos h, cnt_hit t (let_made h), ht]; omega)
          clear hd ht e43 e46 e45
          cases hl : letU c with
          | true =>
            have HS2 := Lib.hid (HS.out hl)
            rw [hl] at HL
            clear hl
            go_wp2_with (first | (go_at_call 35; refine HL.out.mono ?_; rintro e w' ⟨rfl, rfl⟩))
            go_roundg (gk - 1)
            case rel => exact ⟨1, by omega, by go_num, rfl, Lib.hid (fun _ => HS2.out)⟩
            case measure => omega
          | false =>
            have HS2 : Hid (K = 0) := Lib.hid (by rw [HE.out, hl]; rfl)
            rw [hl] at HL
            clear hl
            go_wp2_with (first | (go_at_call 35; refine HL.out.mono ?_; rintro e w' ⟨rfl, rfl⟩))
            go_meet
            exact ⟨by rw [HS2.out]; rfl, rfl⟩
        · have hk1 : (0 : Int) < (k : Int) := by omega
          have HR2 := Lib.hid (HR.out (by omega))
          have HY : Hid (made signA c = true → K = (k + 1) + cnt (made signA) (s.data.toList.drop (k + 1))) := Lib.hid (fun h => by rw [HR2.out, hd, cnt_hit t h, ht]; omega)
          have HN : Hid (made signA c = false → K = k) := Lib.hid (fun h => by rw [HR2.out, hd, cnt_miss t h]; rfl)
          clear hd ht
          generalize letU c = l at *
          generalize digU c = d at *
          generalize (c == 43) = p at *
          generalize (c == 46) = q at *
          generalize (c == 45) = r at *
          rcases six l d p q r with rfl | ⟨rfl, rfl⟩ | ⟨rfl, rfl, rfl⟩ | ⟨rfl, rfl, rfl, rfl⟩ | ⟨rfl, rfl, rfl, rfl, rfl⟩ | ⟨rfl, rfl, rfl, rfl, rfl⟩
          case _ | _ | _ | _ | _ =>
            have HY2 := Lib.hid (HY.out (by rw [HM.out]; rfl))
            go_wp2_with (first | (go_at_call 35; refine HL.out.mono ?_; rintro e w' ⟨rfl, rfl⟩) | (go_at_call 48; refine HG.out.mono ?_; rintro e w' ⟨rfl, rfl⟩))
            go_roundg (gk - 1)
            case rel => exact ⟨k + 1, by omega, by go_num, rfl, Lib.hid (fun _ => HY2.out)⟩
            case measure => omega
          case _ =>
            have HN2 := Lib.hid (HN.out (by rw [HM.out]; rfl))
            go_wp2_with (first | (go_at_call 35; refine HL.out.mono ?_; rintro e w' ⟨rfl, rfl⟩) | (go_at_call 48; refine HG.out.mono ?_; rintro e w' ⟨rfl, rfl⟩))
            go_meet
            exact ⟨by rw [HN2.out], rfl⟩
      · have hlt' : ¬ (k : Int) < (s.size : Int) := by omega
        have HN : Hid (K = k) := Lib.hid (by
          by_cases hk0 : 0 < k
          · rw [HR.out hk0, drop_all (by omega), cnt_nil]; rfl
          · have : s.data.toList = [] := nil_ofS (by omega)
            rw [← HK.out, this]
            show 0 = k
            omega)
        go_wp2
        go_meet
        exact ⟨by rw [HN.out], rfl⟩
  case rest =>
    obtain ⟨rfl, rfl⟩ := hcut
    by_cases h1 : 2 ≤ K
    · by_cases h2 : K ≤ 32
      · by_cases h3 : K < s.size
        · obtain ⟨c, t, hd, hck, ht⟩ := cons_at h3
          have e58 : ((c.toNat : Int) != 58) = !(c == 58) := by unfold bne; rw [show ((58 : Int)) = ((58 : Nat) : Int) from rfl, eq_u8 c 58 (by decide)]; rfl
          have g1 : ¬ (K : Int) < 2 := by omega
          have g2 : ¬ (32 : Int) < (K : Int) := by omega
          have g3 : ((K : Int) == (s.size : Int)) = false := by simp; omega
          have g4 : (K : Int) < (s.size : Int) := by omega
          have HV : Hid (B = ((c == 58) && (s.data.toList.drop K).all inA)) := Lib.hid (by
            rw [← HB.out, decide_eq_true h1, decide_eq_true h2, hd]
            simp only [List.head?_cons, Option.some.injEq, Bool.true_and]
            congr 1)
          clear hd ht h1 h2
          cases hc : (c == 58) with
          | false =>
            rw [hc] at e58 HV
            clear hc
            go_wp2
            go_ret
            rw [HV.out]
            exact ⟨rfl, rfl⟩
          | true =>
            rw [hc, Bool.true_and] at HV
            rw [hc] at e58
            clear hc
            go_wp2_with fail
            go_loopg [4] (s.size - K) (fun g v4 wr => ∃ k : Nat, k + g = s.size ∧ K ≤ k ∧ v4 = .int .i64 (k : Int) ∧ w = wr ∧ Hid ((s.data.toList.drop K).all inA = (s.data.toList.drop k).all inA))
            case atStart => exact ⟨K, by omega, by omega, rfl, rfl, Lib.hid rfl⟩
            case round =>
              obtain ⟨k, hkg, hKk, rfl, rfl, HR⟩ := hrel
              by_cases hlt : k < s.size
              · clear hck e58
                obtain ⟨c, t, hd, hck, ht⟩ := cons_at hlt
                have hlt' : (k : Int) < (s.size : Int) := by omega
                have e127 : ((c.toNat : Int) == 127) = (c == 127) := eq_u8 c 127 (by decide)
                have e60 : ((c.toNat : Int) == 60) = (c == 60) := eq_u8 c 60 (by decide)
                have e62 : ((c.toNat : Int) == 62) = (c == 62) := eq_u8 c 62 (by decide)
                have HI := Lib.hid (inA_not c)
                have HY : Hid ((s.data.toList.drop K).all inA = (inA c && (s.data.toList.drop (k + 1)).all inA)) := Lib.hid (by rw [HR.out, hd, ht, List.all_cons])
                clear hd ht
                obtain ⟨u, hu⟩ : ∃ u, decide ((c.toNat : Int) ≤ 32) = u := ⟨_, rfl⟩
                rw [hu] at HI
                generalize (c == 127) = p at *
                generalize (c == 60) = q at *
                generalize (c == 62) = r at *
                rcases five u p q r with rfl | ⟨rfl, rfl⟩ | ⟨rfl, rfl, rfl⟩ | ⟨rfl, rfl, rfl, rfl⟩ | ⟨rfl, rfl, rfl, rfl⟩
                case _ =>
                  have hu2 : (c.toNat : Int) ≤ 32 := of_decide_eq_true hu
                  have HN2 : Hid ((s.data.toList.drop K).all inA = false) := Lib.hid (by rw [HY.out, HI.out]; rfl)
                  clear hu
                  go_wp2
                  go_ret
                  rw [HV.out, HN2.out]
                  exact ⟨rfl, rfl⟩
                case _ | _ | _ =>
                  have hu2 : ¬ (c.toNat : Int) ≤ 32 := of_decide_eq_false hu
                  have HN2 : Hid ((s.data.toList.drop K).all inA = false) := Lib.hid (by rw [HY.out, HI.out]; rfl)
                  clear hu
                  go_wp2
                  go_ret
                  rw [HV.out, HN2.out]
                  exact ⟨rfl, rfl⟩
                case _ =>
                  have hu2 : ¬ (c.toNat : Int) ≤ 32 := of_decide_eq_false hu
                  have HY2 : Hid ((s.data.toList.drop K).all inA = (s.data.toList.drop (k + 1)).all inA) := Lib.hid (by rw [HY.out, HI.out]; rfl)
                  clear hu
                  go_wp2
                  go_roundg (gk - 1)
                  case rel => exact ⟨k + 1, by omega, by omega, by go_num, rfl, HY2⟩
                  case measure => omega
              · have hlt' : ¬ (k : Int) < (s.size : Int) := by omega
                have HN2 : Hid ((s.data.toList.drop K).all inA = true) := Lib.hid (by rw [HR.out, drop_all (by omega)]; rfl)
                go_wp2
                go_ret
                rw [HV.out, HN2.out]
                exact ⟨rfl, rfl⟩
        · have g1 : ¬ (K : Int) < 2 := by omega
          have g2 : ¬ (32 : Int) < (K : Int) := by omega
          have g3 : ((K : Int) == (s.size : Int)) = true := by simp; omega
          have HV : Hid (B = false) := Lib.hid (by rw [← HB.out, drop_all (by omega)]; simp)
          go_wp2
          go_ret
          rw [HV.out]
          exact ⟨rfl, rfl⟩
      · have g1 : ¬ (K : Int) < 2 := by omega
        have g2 : (32 : Int) < (K : Int) := by omega
        have HV : Hid (B = false) := Lib.hid (by rw [← HB.out, decide_eq_false h2]; simp)
        go_wp2
        go_ret
        rw [HV.out]
        exact ⟨rfl, rfl⟩
    · have g1 : (K : Int) < 2 := by omega
      have HV : Hid (B = false) := Lib.hid (by rw [← HB.out, decide_eq_false h1]; simp)
      go_wp2
      go_ret
      rw [HV.out]
      exact ⟨rfl, rfl⟩
end Sp
end Go.Proofs.YtapibalcekedfaaGreatDoor
