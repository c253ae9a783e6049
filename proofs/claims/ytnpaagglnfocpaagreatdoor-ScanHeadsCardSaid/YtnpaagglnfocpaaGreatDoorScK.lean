/- Walks of layer 8, the eleventh part: Bullet, Rule. -/
import Derived.Test.YtnpaagglnfocpaaGreatDoorScJ
namespace Go.Proofs.YtnpaagglnfocpaaGreatDoor
open Go Go.RowKit
namespace Sc
set_option maxRecDepth 100000
set_option linter.unusedVariables false
set_option linter.unusedSimpArgs false

theorem idx_any (cs : ByteArray) (c : UInt8) (w : World) :
    Calls Tryz.prog 43 #[.string cs, .int .u8 (c.toNat : Int)] w fun e w' => e = .returned (.int .i64 (Lib.indexByte cs.data.toList c)) ∧ w = w' := by
  have := Tryz.strings_IndexByte cs (c.toNat : Int) w
  rw [show ((c.toNat : Int).toNat.toUInt8) = c by rw [Int.toNat_natCast]; exact UInt8.ofNat_toNat] at this
  exact this.mono fun _ _ ⟨a, b⟩ => ⟨a, b.symm⟩

theorem bullet_any (s : ByteArray) (w : World) (hs : s.size ≤ 1000000) :
    Calls Tryz.prog 23 #[.string s] w fun e w' => e = .returned (.int .i64 (bulP s.data.toList : Nat)) ∧ w = w' := by
  by_cases h0 : 0 < s.size
  · obtain ⟨c, t, hd, hck, ht, hsz⟩ := cons_of h0
    have he := emp_false h0
    have hs0 : (0 : Int) < (s.size : Int) := by omega
    have hs1 : (1 : Int) ≤ (s.size : Int) := by omega
    have HI := Lib.hid (idx_any ⟨#[45, 43, 42]⟩ c w)
    have HA := Lib.hid (atEnd_any (s.extract 1 s.size) w)
    rw [ht] at HA
    have HC : Hid (([45, 43, 42] : List UInt8).contains c = decide (0 ≤ Lib.indexByte [45, 43, 42] c)) := Lib.hid (idx_mem _ _)
    have HV : Hid (bulP s.data.toList = if ([45, 43, 42] : List UInt8).contains c = true ∧ atE t = true then 1 else 0) := Lib.hid (by rw [hd]; rfl)
    clear hd ht hsz
    rw [show (⟨#[45, 43, 42]⟩ : ByteArray).data.toList = [45, 43, 42] from rfl] at HI
    generalize Lib.indexByte [45, 43, 42] c = z at *
    generalize atE t = a at *
    by_cases hz : 0 ≤ z
    · have HC2 : Hid (([45, 43, 42] : List UInt8).contains c = true) := Lib.hid (by rw [HC.out, decide_eq_true hz])
      have hz2 : ¬ z < 0 := by omega
      cases a with
      | true =>
        go_enter Tryz.func23, Tryz.ntmps23
        go_wp2_with (first | (go_at_call 43; refine HI.out.mono ?_; rintro e w1 ⟨rfl, rfl⟩) | (go_at_call 32; refine HA.out.mono ?_; rintro e w1 ⟨rfl, rfl⟩))
        go_ret
        have h1 := HV.out
        rw [HC2.out] at h1
        rw [h1]
        exact ⟨rfl, rfl⟩
      | false =>
        go_enter Tryz.func23, Tryz.ntmps23
        go_wp2_with (first | (go_at_call 43; refine HI.out.mono ?_; rintro e w1 ⟨rfl, rfl⟩) | (go_at_call 32; refine HA.out.mono ?_; rintro e w1 ⟨rfl, rfl⟩))
        go_ret
        rw [HV.out, if_neg (by simp)]
        exact ⟨rfl, rfl⟩
    · have HC2 : Hid (([45, 43, 42] : List UInt8).contains c = false) := Lib.hid (by rw [HC.out, decide_eq_false hz])
      have hz2 : z < 0 := by omega
      clear hz
      go_enter Tryz.func23, Tryz.ntmps23
      go_wp2_with (first | (go_at_call 43; refine HI.out.mono ?_; rintro e w1 ⟨rfl, rfl⟩) | (go_at_call 32; refine HA.out.mono ?_; rintro e w1 ⟨rfl, rfl⟩))
      go_ret
      rw [HV.out, if_neg (by rw [HC2.out]; simp)]
      exact ⟨rfl, rfl⟩
  · have hn := nil_of h0
    have he := emp_true hn
    have HV : Hid (bulP s.data.toList = 0) := Lib.hid (by rw [hn]; rfl)
    clear hn
    go_enter Tryz.func23, Tryz.ntmps23
    go_wp2
    go_ret
    rw [HV.out]
    exact ⟨rfl, rfl⟩

theorem rbullet_any (s : ByteArray) (w : World) (hs : s.size ≤ 1000000) :
    Calls Tryz.prog 24 #[.string s] w fun e w' => e = .returned (.int .i64 (bulP s.data.toList : Nat)) ∧ w = w' := by
  by_cases h0 : 0 < s.size
  · obtain ⟨c, t, hd, hck, ht, hsz⟩ := cons_of h0
    have he := emp_false h0
    have hs0 : (0 : Int) < (s.size : Int) := by omega
    have hs1 : (1 : Int) ≤ (s.size : Int) := by omega
    have HA := Lib.hid (rend_any (s.extract 1 s.size) w)
    rw [ht] at HA
    have e45 : ((c.toNat : Int) == 45) = (c == 45) := eq_u8 c 45 (by decide)
    have e43 : ((c.toNat : Int) == 43) = (c == 43) := eq_u8 c 43 (by decide)
    have e42 : ((c.toNat : Int) == 42) = (c == 42) := eq_u8 c 42 (by decide)
    have HC : Hid (([45, 43, 42] : List UInt8).contains c = (c == 45 || c == 43 || c == 42)) := Lib.hid (eq_of_beq (all_u8 (p := fun c => ([45, 43, 42] : List UInt8).contains c == (c == 45 || c == 43 || c == 42)) (by decide +kernel) c))
    have HV : Hid (bulP s.data.toList = if ([45, 43, 42] : List UInt8).contains c = true ∧ atE t = true then 1 else 0) := Lib.hid (by rw [hd]; rfl)
    clear hd ht hsz
    generalize (c == 45) = x at *
    generalize (c == 43) = y at *
    generalize (c == 42) = z at *
    generalize atE t = a at *
    cases x <;> cases y <;> cases z <;> cases a <;>
    · go_enter Tryz.func24, Tryz.ntmps24
      go_wp2_with (first | (go_at_call 37; refine HA.out.mono ?_; rintro e w1 ⟨rfl, rfl⟩))
      go_ret
      rw [HV.out, HC.out]
      exact ⟨rfl, rfl⟩
  · have hn := nil_of h0
    have he := emp_true hn
    have HV : Hid (bulP s.data.toList = 0) := Lib.hid (by rw [hn]; rfl)
    clear hn
    go_enter Tryz.func24, Tryz.ntmps24
    go_wp2
    go_ret
    rw [HV.out]
    exact ⟨rfl, rfl⟩

/-- What is left to see of a rule. -/
def ruleT (c : UInt8) (d : List UInt8) (n : Nat) : Bool := d.all (fun x => x == c || blk x) && decide (3 ≤ n + d.count c)
theorem ruleT_nil (c : UInt8) (n : Nat) : ruleT c [] n = decide (3 ≤ n) := by
  show (true && decide (3 ≤ n + List.count c [])) = decide (3 ≤ n)
  rw [Bool.true_and]
  exact decide_eq_decide.2 (by rw [List.count_nil]; omega)
theorem ruleT_hit (c : UInt8) (d : List UInt8) (n : Nat) : ruleT c (c :: d) n = ruleT c d (n + 1) := by
  unfold ruleT
  rw [List.count_cons_self, show n + (d.count c + 1) = n + 1 + d.count c by omega]
  simp
theorem ruleT_blk {c x : UInt8} (d : List UInt8) (n : Nat) (h : x ≠ c) (hb : blk x = true) : ruleT c (x :: d) n = ruleT c d n := by
  unfold ruleT
  rw [List.count_cons_of_ne h]
  simp [hb]
theorem ruleT_no {c x : UInt8} (d : List UInt8) (n : Nat) (h : x ≠ c) (hb : blk x = false) : ruleT c (x :: d) n = false := by
  have : (x == c) = false := by simpa using h
  simp [ruleT, hb, this]
theorem ruleP_cons (c : UInt8) (t : List UInt8) : ruleP (c :: t) = (([42, 45, 95] : List UInt8).contains c && ruleT c (c :: t) 0) := by
  unfold ruleP ruleT
  simp only [Nat.zero_add]
  rw [Bool.and_assoc]

set_option maxHeartbeats 4000000 in
theorem rule_any (s : ByteArray) (w : World) (hs : s.size ≤ 1000000) :
    Calls Tryz.prog 17 #[.string s] w fun e w' => e = .returned (.bool (ruleP s.data.toList)) ∧ Below w.heap.size w w' := by
  by_cases h0 : 0 < s.size
  · obtain ⟨c, t, hd, hck, ht, hsz⟩ := cons_of h0
    have he := emp_false h0
    have hs0 : (0 : Int) < (s.size : Int) := by omega
    have HI := Lib.hid (idx_any ⟨#[42, 45, 95]⟩ c w)
    have HC : Hid (([42, 45, 95] : List UInt8).contains c = decide (0 ≤ Lib.indexByte [42, 45, 95] c)) := Lib.hid (idx_mem _ _)
    have HV0 : Hid (ruleP s.data.toList = (([42, 45, 95] : List UInt8).contains c && ruleT c (s.data.toList.drop 0) 0)) := Lib.hid (by rw [List.drop_zero, hd]; exact ruleP_cons c t)
    clear hd ht hsz
    rw [show (⟨#[42, 45, 95]⟩ : ByteArray).data.toList = [42, 45, 95] from rfl] at HI
    generalize Lib.indexByte [42, 45, 95] c = z at *
    by_cases hz : 0 ≤ z
    · have HV : Hid (ruleP s.data.toList = ruleT c (s.data.toList.drop 0) 0) := Lib.hid (by rw [HV0.out, HC.out, decide_eq_true hz, Bool.true_and])
      have hz2 : ¬ z < 0 := by omega
      go_enter Tryz.func17, Tryz.ntmps17
      go_wp2_with (first | (go_at_call 43; refine HI.out.mono ?_; rintro e w1 ⟨rfl, rfl⟩))
      all_goals
      · go_loopg [3, 15] s.size (fun G v3 vk wr => ∃ m n : Nat, m + G = s.size ∧ n ≤ m ∧ vk = .int .i64 (m : Int) ∧ v3 = .int .i64 (n : Int) ∧ Hid (∃ q, wr = w.drewN q) ∧ Hid (ruleP s.data.toList = ruleT c (s.data.toList.drop m) n))
        case atStart => exact ⟨0, 0, by omega, by omega, rfl, rfl, Lib.hid ⟨0, rfl⟩, HV⟩
        case round =>
          obtain ⟨m, n, hm, hnm, rfl, rfl, HQ, HR⟩ := hrel
          obtain ⟨q, rfl⟩ := HQ.out
          by_cases hlt : m < s.size
          · obtain ⟨x, d, hd, hck2, hdt⟩ := cons_at hlt
            have hlt' : (m : Int) < (s.size : Int) := by omega
            by_cases hx : x = c
            · have hxe : ((x.toNat : Int) == (c.toNat : Int)) = true := by rw [hx]; simp
              have HY : Hid (ruleP s.data.toList = ruleT c (s.data.toList.drop (m + 1)) (n + 1)) := Lib.hid (by rw [HR.out, hd, hx, ruleT_hit, hdt])
              clear hd hdt hx
              go_wp2_with fail
              go_quiet (fail)
              go_wp2
              go_roundg (gk - 1)
              case rel => exact ⟨m + 1, n + 1, by omega, by omega, by go_num, by go_num, Lib.hid ⟨q + nq, rfl⟩, HY⟩
              case measure => omega
            · have hxe : ((x.toNat : Int) == (c.toNat : Int)) = false := by
                rw [beq_eq_false_iff_ne]; intro e; exact hx (UInt8.toNat_inj.1 (Int.ofNat.inj e))
              have HB := Lib.hid (does_blank.2 x)
              cases hb : blk x with
              | true =>
                have HY : Hid (ruleP s.data.toList = ruleT c (s.data.toList.drop (m + 1)) n) := Lib.hid (by rw [HR.out, hd, ruleT_blk d n hx hb, hdt])
                rw [hb] at HB
                clear hd hdt hx hb
                go_wp2_with fail
                go_quiet (fail)
                go_wp2_with (first | (go_at_call 44; refine (HB.out _).mono ?_; rintro e w1 ⟨rfl, rfl⟩))
                go_roundg (gk - 1)
                case rel => exact ⟨m + 1, n, by omega, by omega, by go_num, by go_num, Lib.hid ⟨q + nq, rfl⟩, HY⟩
                case measure => omega
              | false =>
                have HY : Hid (ruleP s.data.toList = false) := Lib.hid (by rw [HR.out, hd, ruleT_no d n hx hb])
                rw [hb] at HB
                clear hd hdt hx hb
                go_wp2_with fail
                go_quiet (fail)
                go_wp2_with (first | (go_at_call 44; refine (HB.out _).mono ?_; rintro e w1 ⟨rfl, rfl⟩))
                go_ret
                rw [HY.out]
                exact ⟨rfl, ⟨rfl, rfl, rfl, Nat.le_refl _, fun _ _ => rfl⟩⟩
          · have hlt' : ¬ (m : Int) < (s.size : Int) := by omega
            have HY : Hid (ruleP s.data.toList = decide (3 ≤ n)) := Lib.hid (by rw [HR.out, drop_all (by omega), ruleT_nil])
            by_cases h3 : 3 ≤ n
            · have h3' : (3 : Int) ≤ (n : Int) := by omega
              have HZ := Lib.hid (decide_eq_true h3)
              go_wp2
              go_ret
              exact ⟨ret_bool' (by rw [HY.out]; first | exact HZ.out.symm | exact decide_eq_decide.2 (by omega) | (simp; omega)), ⟨rfl, rfl, rfl, Nat.le_refl _, fun _ _ => rfl⟩⟩
            · have h3' : (n : Int) < 3 := by omega
              have HZ := Lib.hid (decide_eq_false h3)
              go_wp2
              go_ret
              exact ⟨ret_bool' (by rw [HY.out]; first | exact HZ.out.symm | exact decide_eq_decide.2 (by omega) | (simp; omega)), ⟨rfl, rfl, rfl, Nat.le_refl _, fun _ _ => rfl⟩⟩

    · have HV : Hid (ruleP s.data.toList = false) := Lib.hid (by rw [HV0.out, HC.out, decide_eq_false hz, Bool.false_and])
      have hz2 : z < 0 := by omega
      clear hz
      go_enter Tryz.func17, Tryz.ntmps17
      go_wp2_with (first | (go_at_call 43; refine HI.out.mono ?_; rintro e w1 ⟨rfl, rfl⟩))
      go_ret
      rw [HV.out]
      exact ⟨rfl, Below.refl _ _⟩
  · have hn := nil_of h0
    have he := emp_true hn
    have HV : Hid (ruleP s.data.toList = false) := Lib.hid (by rw [hn]; rfl)
    clear hn
    go_enter Tryz.func17, Tryz.ntmps17
    go_wp2
    go_ret
    rw [HV.out]
    exact ⟨rfl, Below.refl _ _⟩

set_option maxHeartbeats 4000000 in
theorem rrule_any (s : ByteArray) (w : World) (hs : s.size ≤ 1000000) :
    Calls Tryz.prog 18 #[.string s] w fun e w' => e = .returned (.bool (ruleP s.data.toList)) ∧ Below w.heap.size w w' := by
  by_cases h0 : 0 < s.size
  · obtain ⟨c, t, hd, hck, ht, hsz⟩ := cons_of h0
    have he := emp_false h0
    have hs0 : (0 : Int) < (s.size : Int) := by omega
    have e42 : ((c.toNat : Int) != 42) = !(c == 42) := by have : ((c.toNat : Int) == 42) = (c == 42) := eq_u8 c 42 (by decide); unfold bne; rw [this]
    have e45 : ((c.toNat : Int) != 45) = !(c == 45) := by have : ((c.toNat : Int) == 45) = (c == 45) := eq_u8 c 45 (by decide); unfold bne; rw [this]
    have e95 : ((c.toNat : Int) != 95) = !(c == 95) := by have : ((c.toNat : Int) == 95) = (c == 95) := eq_u8 c 95 (by decide); unfold bne; rw [this]
    have HC : Hid (([42, 45, 95] : List UInt8).contains c = (c == 42 || c == 45 || c == 95)) := Lib.hid (eq_of_beq (all_u8 (p := fun c => ([42, 45, 95] : List UInt8).contains c == (c == 42 || c == 45 || c == 95)) (by decide +kernel) c))
    have HV0 : Hid (ruleP s.data.toList = (([42, 45, 95] : List UInt8).contains c && ruleT c (s.data.toList.drop 0) 0)) := Lib.hid (by rw [List.drop_zero, hd]; exact ruleP_cons c t)
    clear hd ht hsz
    generalize (c == 42) = x at *
    generalize (c == 45) = y at *
    generalize (c == 95) = z at *
    have AL : Hid ((x = true ∨ x = false ∧ y = true ∨ x = false ∧ y = false ∧ z = true) ∨ x = false ∧ y = false ∧ z = false) := Lib.hid (by cases x <;> cases y <;> cases z <;> decide)
    rcases AL.out with AL2 | ⟨rfl, rfl, rfl⟩
    · have HV : Hid (ruleP s.data.toList = ruleT c (s.data.toList.drop 0) 0) := Lib.hid (by
        rw [HV0.out, HC.out]
        rcases AL2 with rfl | ⟨rfl, rfl⟩ | ⟨rfl, rfl, rfl⟩ <;> simp)
      clear AL
      rcases AL2 with rfl | ⟨rfl, rfl⟩ | ⟨rfl, rfl, rfl⟩
      all_goals
        go_enter Tryz.func18, Tryz.ntmps18
        go_wp2_with fail
      all_goals
      · go_loopg [3, 4] s.size (fun G v3 vk wr => ∃ m n : Nat, m + G = s.size ∧ n ≤ m ∧ vk = .int .i64 (m : Int) ∧ v3 = .int .i64 (n : Int) ∧ Hid (∃ q, wr = w.drewN q) ∧ Hid (ruleP s.data.toList = ruleT c (s.data.toList.drop m) n))
        case atStart => exact ⟨0, 0, by omega, by omega, rfl, rfl, Lib.hid ⟨0, rfl⟩, HV⟩
        case round =>
          obtain ⟨m, n, hm, hnm, rfl, rfl, HQ, HR⟩ := hrel
          obtain ⟨q, rfl⟩ := HQ.out
          by_cases hlt : m < s.size
          · obtain ⟨x, d, hd, hck2, hdt⟩ := cons_at hlt
            have hlt' : (m : Int) < (s.size : Int) := by omega
            by_cases hx : x = c
            · have hxe : ((x.toNat : Int) == (c.toNat : Int)) = true := by rw [hx]; simp
              have HY : Hid (ruleP s.data.toList = ruleT c (s.data.toList.drop (m + 1)) (n + 1)) := Lib.hid (by rw [HR.out, hd, hx, ruleT_hit, hdt])
              clear hd hdt hx
              go_wp2_with fail
              go_quiet (fail)
              go_wp2
              go_roundg (gk - 1)
              case rel => exact ⟨m + 1, n + 1, by omega, by omega, by go_num, by go_num, Lib.hid ⟨q + nq, rfl⟩, HY⟩
              case measure => omega
            · have hxe : ((x.toNat : Int) == (c.toNat : Int)) = false := by
                rw [beq_eq_false_iff_ne]; intro e; exact hx (UInt8.toNat_inj.1 (Int.ofNat.inj e))
              have HB := Lib.hid (does_rblank.2 x)
              cases hb : blk x with
              | true =>
                have HY : Hid (ruleP s.data.toList = ruleT c (s.data.toList.drop (m + 1)) n) := Lib.hid (by rw [HR.out, hd, ruleT_blk d n hx hb, hdt])
                rw [hb] at HB
                clear hd hdt hx hb
                go_wp2_with fail
                go_quiet (fail)
                go_wp2_with (first | (go_at_call 39; refine (HB.out _).mono ?_; rintro e w1 ⟨rfl, rfl⟩))
                go_roundg (gk - 1)
                case rel => exact ⟨m + 1, n, by omega, by omega, by go_num, by go_num, Lib.hid ⟨q + nq, rfl⟩, HY⟩
                case measure => omega
              | false =>
                have HY : Hid (ruleP s.data.toList = false) := Lib.hid (by rw [HR.out, hd, ruleT_no d n hx hb])
                rw [hb] at HB
                clear hd hdt hx hb
                go_wp2_with fail
                go_quiet (fail)
                go_wp2_with (first | (go_at_call 39; refine (HB.out _).mono ?_; rintro e w1 ⟨rfl, rfl⟩))
                go_ret
                rw [HY.out]
                exact ⟨rfl, ⟨rfl, rfl, rfl, Nat.le_refl _, fun _ _ => rfl⟩⟩
          · have hlt' : ¬ (m : Int) < (s.size : Int) := by omega
            have HY : Hid (ruleP s.data.toList = decide (3 ≤ n)) := Lib.hid (by rw [HR.out, drop_all (by omega), ruleT_nil])
            by_cases h3 : 3 ≤ n
            · have h3' : (3 : Int) ≤ (n : Int) := by omega
              have HZ := Lib.hid (decide_eq_true h3)
              go_wp2
              go_ret
              exact ⟨ret_bool' (by rw [HY.out]; first | exact HZ.out.symm | exact decide_eq_decide.2 (by omega) | (simp; omega)), ⟨rfl, rfl, rfl, Nat.le_refl _, fun _ _ => rfl⟩⟩
            · have h3' : (n : Int) < 3 := by omega
              have HZ := Lib.hid (decide_eq_false h3)
              go_wp2
              go_ret
              exact ⟨ret_bool' (by rw [HY.out]; first | exact HZ.out.symm | exact decide_eq_decide.2 (by omega) | (simp; omega)), ⟨rfl, rfl, rfl, Nat.le_refl _, fun _ _ => rfl⟩⟩

    · have HV : Hid (ruleP s.data.toList = false) := Lib.hid (by rw [HV0.out, HC.out]; rfl)
      go_enter Tryz.func18, Tryz.ntmps18
      go_wp2
      go_ret
      rw [HV.out]
      exact ⟨rfl, Below.refl _ _⟩
  · have hn := nil_of h0
    have he := emp_true hn
    have HV : Hid (ruleP s.data.toList = false) := Lib.hid (by rw [hn]; rfl)
    clear hn
    go_enter Tryz.func18, Tryz.ntmps18
    go_wp2
    go_ret
    rw [HV.out]
    exact ⟨rfl, Below.refl _ _⟩

end Sc
end Go.Proofs.YtnpaagglnfocpaaGreatDoor
