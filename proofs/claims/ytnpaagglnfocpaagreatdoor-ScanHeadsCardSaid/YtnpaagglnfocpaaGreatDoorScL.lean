/- Walks of layer 8, the twelfth part: Ordered. -/
import Derived.Test.YtnpaagglnfocpaaGreatDoorScK
namespace Go.Proofs.YtnpaagglnfocpaaGreatDoor
open Go Go.RowKit
namespace Sc
set_option maxRecDepth 100000
set_option linter.unusedVariables false
set_option linter.unusedSimpArgs false

theorem digN_nil : digN [] = 0 := rfl
theorem digN_hit {c : UInt8} (t : List UInt8) (h : digU c = true) : digN (c :: t) = digN t + 1 := by simp [digN, List.takeWhile, h]
theorem digN_miss {c : UInt8} (t : List UInt8) (h : digU c = false) : digN (c :: t) = 0 := by simp [digN, List.takeWhile, h]
theorem valN_snoc (l : List UInt8) (c : UInt8) : valN (l ++ [c]) = valN l * 10 + (c.toNat - 48) := by simp [valN]
theorem dig_range {c : UInt8} (h : digU c = true) : 48 ≤ c.toNat ∧ c.toNat ≤ 57 := by
  unfold digU digi at h
  simp at h
  omega
theorem snocI {P : List UInt8 → Prop} (l : List UInt8) (nil : P []) (snoc : ∀ l c, P l → P (l ++ [c])) : P l := by
  have : ∀ (r : List UInt8), P r.reverse := by
    intro r
    induction r with
    | nil => exact nil
    | cons c t ih => rw [List.reverse_cons]; exact snoc _ _ ih
  have h := this l.reverse
  rwa [List.reverse_reverse] at h
theorem valN_bound (l : List UInt8) : (∀ c ∈ l, digU c = true) → valN l + 1 ≤ 10 ^ l.length := by
  refine snocI (P := fun l => (∀ c ∈ l, digU c = true) → valN l + 1 ≤ 10 ^ l.length) l (fun _ => by simp [valN]) ?_
  · intro l c ih h
    have h1 := ih (fun x hx => h x (by simp [hx]))
    have h2 := dig_range (h c (by simp))
    rw [valN_snoc, List.length_append, List.length_singleton, Nat.pow_succ]
    omega
theorem dig_take (l : List UInt8) : ∀ c ∈ l.take (digN l), digU c = true := by
  have : l.take (digN l) = l.takeWhile digU := by
    unfold digN
    have h := List.takeWhile_append_dropWhile (p := digU) (l := l)
    conv => lhs; rw [← h]
    rw [List.takeWhile_append_dropWhile]
    conv => lhs; arg 2; rw [← h]
    rw [List.take_left']
    rfl
  rw [this]
  exact takeWhile_all digU l
theorem dig_take_le {l : List UInt8} {m : Nat} (h : m ≤ digN l) : ∀ c ∈ l.take m, digU c = true := fun c hc => dig_take l c (by
  have : l.take m = (l.take (digN l)).take m := by rw [List.take_take, Nat.min_eq_left h]
  rw [this] at hc
  exact List.mem_of_mem_take hc)
theorem digN_le (l : List UInt8) : digN l ≤ l.length := by
  unfold digN
  have h := congrArg List.length (List.takeWhile_append_dropWhile (p := digU) (l := l))
  rw [List.length_append] at h
  omega
theorem val_small {l : List UInt8} {m k : Nat} (h : m ≤ digN l) (hk : m ≤ k) : valN (l.take m) + 1 ≤ 10 ^ k := by
  have h1 := valN_bound _ (dig_take_le h)
  have h2 : (l.take m).length ≤ k := by rw [List.length_take]; omega
  exact Nat.le_trans h1 (Nat.pow_le_pow_right (by decide) h2)
theorem val_step {s : ByteArray} {m : Nat} {c : UInt8} (hlt : m < s.size) (hc : s[m] = c) : valN (s.data.toList.take (m + 1)) = valN (s.data.toList.take m) * 10 + (c.toNat - 48) := by
  have hl : m < s.data.toList.length := by rw [sz]; exact hlt
  rw [List.take_succ_eq_append_getElem hl, valN_snoc]
  congr 2
  rw [← hc]
  rfl

theorem ord_zero {l : List UInt8} (h : digN l = 0) : ordP l = (0, 0, 0) := by
  unfold ordP
  split
  · rfl
  · rw [if_neg]; omega
theorem ord_end {l : List UInt8} (h : l.drop (digN l) = []) : ordP l = (0, 0, 0) := by
  unfold ordP
  rw [h]
theorem ord_big {l : List UInt8} (h : 9 < digN l) : ordP l = (0, 0, 0) := by
  unfold ordP
  split
  · rfl
  · rw [if_neg]; omega
theorem ord_x {l t : List UInt8} {x : UInt8} {m : Nat} (hm : digN l = m) (h : l.drop m = x :: t) (h1 : 1 ≤ m) (h9 : m ≤ 9) : ordP l = if ((x == 46) || (x == 41)) = true ∧ atE t = true then (valN (l.take m), x, m + 1) else (0, 0, 0) := by
  unfold ordP
  rw [hm, h]
  simp only
  by_cases hx : x = 46 ∨ x = 41
  · have : ((x == 46) || (x == 41)) = true := by rcases hx with rfl | rfl <;> decide
    by_cases ha : atE t = true
    · rw [if_pos ⟨h1, h9, hx, ha⟩, if_pos ⟨this, ha⟩]
    · rw [if_neg (fun e => ha e.2.2.2), if_neg (fun e => ha e.2)]
  · have : ((x == 46) || (x == 41)) = false := by
      rw [Bool.or_eq_false_iff]
      constructor
      · rw [beq_eq_false_iff_ne]; exact fun e => hx (.inl e)
      · rw [beq_eq_false_iff_ne]; exact fun e => hx (.inr e)
    rw [if_neg (fun e => hx e.2.2.1), if_neg (fun e => by rw [this] at e; cases e.1)]
/-- What the call answers. -/
def ordV (p : Nat × UInt8 × Nat) : Value := .tuple #[.int .i64 (p.1 : Int), .int .u8 (p.2.1.toNat : Int), .int .i64 (p.2.2 : Int)]
theorem ret_val {a b : Value} (h : a = b) : Ending.returned a = .returned b := by rw [h]
theorem dig_not {x : UInt8} (h : digU x = true) : ((x.toNat : Int) != 46) = true ∧ ((x.toNat : Int) != 41) = true := by
  have := dig_range h
  simp only [bne_iff_ne, ne_eq]
  omega
set_option maxHeartbeats 8000000 in
theorem ordered_any (s : ByteArray) (w : World) (hs : s.size ≤ 1000000) :
    Calls Tryz.prog 15 #[.string s] w fun e w' => e = .returned (ordV (ordP s.data.toList)) ∧ Below w.heap.size w w' := by
  have HDo := Lib.hid (does_digit.2)
  go_enter Tryz.func15, Tryz.ntmps15
  go_wp2_with fail
  go_loopg [5, 6] s.size (fun G v5 v6 wr => ∃ (m : Nat) (V : Int), m + G = s.size ∧ m ≤ 9 ∧ v6 = .int .i64 (m : Int) ∧ v5 = .int .i64 V ∧ w = wr ∧ Hid (digN s.data.toList = m + digN (s.data.toList.drop m)) ∧ Hid (V = (valN (s.data.toList.take m) : Nat)))
  case atStart => exact ⟨0, 0, by omega, by omega, rfl, rfl, rfl, Lib.hid (by simp), Lib.hid rfl⟩
  case round =>
    obtain ⟨m, V, hm, hmc, rfl, rfl, rfl, HR, HV⟩ := hrel
    by_cases hlt : m < s.size
    · obtain ⟨c, d, hd, hck, hdt⟩ := cons_at hlt
      have hlt' : (m : Int) < (s.size : Int) := by omega
      have HD := Lib.hid (HDo.out c)
      by_cases hcap0 : m < 9
      · have hcap : (m : Int) < 9 := by omega
        cases hg : digU c with
        | true =>
          have HY : Hid (digN s.data.toList = (m + 1) + digN (s.data.toList.drop (m + 1))) := Lib.hid (by rw [HR.out, hd, digN_hit d hg, hdt]; omega)
          obtain ⟨g1, g2⟩ := dig_range hg
          have hvb : 0 ≤ V ∧ V ≤ 99999999 := by
            have h1 := val_small (l := s.data.toList) (m := m) (k := 8) (by rw [HR.out]; omega) (by omega)
            have h2 := HV.out
            omega
          obtain ⟨hv1, hv2⟩ := hvb
          obtain ⟨C, hC⟩ : ∃ C : Int, (c.toNat : Int) = C := ⟨_, rfl⟩
          have HVN : Hid (V * 10 + (C - 48) = (valN (s.data.toList.take (m + 1)) : Nat)) := Lib.hid (by
            rw [val_step hlt hck, HV.out, ← hC]; omega)
          have hc1 : 48 ≤ C := by omega
          have hc2 : C ≤ 57 := by omega
          rw [hg, hC] at HD
          have hck2 : Hid (s[m] = c) := Lib.hid hck
          clear hd hdt hg g1 g2
          have HA : Hid True := Lib.hid trivial
          go_wp2_with (first | (go_at_call 41; refine (HD.out _).mono ?_; rintro e w1 ⟨rfl, rfl⟩))
          go_roundg (gk - 1)
          case rel => exact ⟨m + 1, _, by omega, by omega, by go_num, by go_num, rfl, HY, HVN⟩
          case measure => omega
        | false =>
          have HDM : Hid (digN s.data.toList = m) := Lib.hid (by rw [HR.out, hd, digN_miss d hg]; rfl)
          have HDD := Lib.hid hd
          have HDT := Lib.hid hdt
          rw [hg] at HD
          have hm9c : m ≤ 9 := by omega
          clear hd hdt hg
          have hne0 : ((m : Int) == (s.size : Int)) = false := by simp; omega
          have e46 : ((c.toNat : Int) != 46) = !(c == 46) := by have : ((c.toNat : Int) == 46) = (c == 46) := eq_u8 c 46 (by decide); unfold bne; rw [this]
          have e41 : ((c.toNat : Int) != 41) = !(c == 41) := by have : ((c.toNat : Int) == 41) = (c == 41) := eq_u8 c 41 (by decide); unfold bne; rw [this]
          have HA := Lib.hid (atEnd_any (s.extract (m + 1) s.size))
          rw [ext_rest, HDT.out] at HA
          by_cases hm0 : m = 0
          · have hmz : ((m : Int) == 0) = true := by rw [hm0]; decide
            have hm1 : (m : Int) < 1 := by omega
            have HZ : Hid (ordP s.data.toList = (0, 0, 0)) := Lib.hid (ord_zero (by rw [HDM.out, hm0]))
            clear hm0
            go_wp2_with (first | (go_at_call 41; refine (HD.out _).mono ?_; rintro e w1 ⟨rfl, rfl⟩) | (go_at_call 32; refine (HA.out _).mono ?_; rintro e w1 ⟨rfl, rfl⟩))
            go_ret3
            rw [HZ.out]
            exact ⟨rfl, ⟨rfl, rfl, rfl, Nat.le_refl _, fun _ _ => rfl⟩⟩
          · have hmz : ((m : Int) == 0) = false := by simp; omega
            have hm1 : (1 : Int) ≤ (m : Int) := by omega
            have hm9' : (m : Int) ≤ 9 := by omega
            have hms : (m : Int) + 1 ≤ (s.size : Int) := by omega
            have HO := Lib.hid (ord_x HDM.out HDD.out (by omega) (by omega))
            clear hm0
            generalize atE d = a at *
            generalize (c == 46) = y46 at *
            generalize (c == 41) = y41 at *
            have AL : Hid ((a = true ∧ (y46 = true ∨ y46 = false ∧ y41 = true)) ∨ (y46 = false ∧ y41 = false) ∨ (a = false ∧ (y46 = true ∨ y46 = false ∧ y41 = true))) := Lib.hid (by cases a <;> cases y46 <;> cases y41 <;> decide)
            rcases AL.out with ⟨rfl, AL2⟩ | ⟨rfl, rfl⟩ | ⟨rfl, AL2⟩
            · have HZ : Hid (ordP s.data.toList = (valN (s.data.toList.take m), c, m + 1)) := Lib.hid (by
                rw [HO.out, if_pos]
                rcases AL2 with rfl | ⟨rfl, rfl⟩ <;> simp)
              clear AL HO
              rcases AL2 with rfl | ⟨rfl, rfl⟩
              all_goals
              · go_wp2_with (first | (go_at_call 41; refine (HD.out _).mono ?_; rintro e w1 ⟨rfl, rfl⟩) | (go_at_call 32; refine (HA.out _).mono ?_; rintro e w1 ⟨rfl, rfl⟩))
                go_ret3
                rw [HZ.out]
                refine ⟨ret_val ?_, ⟨rfl, rfl, rfl, Nat.le_refl _, fun _ _ => rfl⟩⟩
                unfold ordV
                simp only
                rw [← HV.out]
                first | rfl | (congr 3; push_cast; rfl)
            · have HZ : Hid (ordP s.data.toList = (0, 0, 0)) := Lib.hid (by rw [HO.out, if_neg (by simp)])
              clear AL HO
              go_wp2_with (first | (go_at_call 41; refine (HD.out _).mono ?_; rintro e w1 ⟨rfl, rfl⟩) | (go_at_call 32; refine (HA.out _).mono ?_; rintro e w1 ⟨rfl, rfl⟩))
              go_ret3
              rw [HZ.out]
              exact ⟨rfl, ⟨rfl, rfl, rfl, Nat.le_refl _, fun _ _ => rfl⟩⟩
            · have HZ : Hid (ordP s.data.toList = (0, 0, 0)) := Lib.hid (by rw [HO.out, if_neg (by simp)])
              clear AL HO
              rcases AL2 with rfl | ⟨rfl, rfl⟩
              all_goals
              · go_wp2_with (first | (go_at_call 41; refine (HD.out _).mono ?_; rintro e w1 ⟨rfl, rfl⟩) | (go_at_call 32; refine (HA.out _).mono ?_; rintro e w1 ⟨rfl, rfl⟩))
                go_ret3
                rw [HZ.out]
                exact ⟨rfl, ⟨rfl, rfl, rfl, Nat.le_refl _, fun _ _ => rfl⟩⟩
      · have hcap : ¬ (m : Int) < 9 := by omega
        have hm9e : m = 9 := by omega
        have hmz : ((m : Int) == 0) = false := by simp; omega
        cases hg : digU c with
        | true =>
          have HZ : Hid (ordP s.data.toList = (0, 0, 0)) := Lib.hid (ord_big (by rw [HR.out, hd, digN_hit d hg]; omega))
          obtain ⟨e46, e41⟩ := dig_not hg
          have hne0 : ((m : Int) == (s.size : Int)) = false := by simp; omega
          have HA := Lib.hid (atEnd_any (s.extract (m + 1) s.size))
          clear hd hdt hg hm9e
          go_wp2_with (first | (go_at_call 41; refine (HD.out _).mono ?_; rintro e w1 ⟨rfl, rfl⟩) | (go_at_call 32; refine (HA.out _).mono ?_; rintro e w1 ⟨rfl, rfl⟩))
          go_ret3
          rw [HZ.out]
          exact ⟨rfl, ⟨rfl, rfl, rfl, Nat.le_refl _, fun _ _ => rfl⟩⟩
        | false =>
          have HDM : Hid (digN s.data.toList = m) := Lib.hid (by rw [HR.out, hd, digN_miss d hg]; omega)
          have HDD := Lib.hid hd
          have HDT := Lib.hid hdt
          clear hd hdt hg hm9e hmz
          have hne0 : ((m : Int) == (s.size : Int)) = false := by simp; omega
          have e46 : ((c.toNat : Int) != 46) = !(c == 46) := by have : ((c.toNat : Int) == 46) = (c == 46) := eq_u8 c 46 (by decide); unfold bne; rw [this]
          have e41 : ((c.toNat : Int) != 41) = !(c == 41) := by have : ((c.toNat : Int) == 41) = (c == 41) := eq_u8 c 41 (by decide); unfold bne; rw [this]
          have HA := Lib.hid (atEnd_any (s.extract (m + 1) s.size))
          rw [ext_rest, HDT.out] at HA
          by_cases hm0 : m = 0
          · have hmz : ((m : Int) == 0) = true := by rw [hm0]; decide
            have hm1 : (m : Int) < 1 := by omega
            have HZ : Hid (ordP s.data.toList = (0, 0, 0)) := Lib.hid (ord_zero (by rw [HDM.out, hm0]))
            clear hm0
            go_wp2_with (first | (go_at_call 41; refine (HD.out _).mono ?_; rintro e w1 ⟨rfl, rfl⟩) | (go_at_call 32; refine (HA.out _).mono ?_; rintro e w1 ⟨rfl, rfl⟩))
            go_ret3
            rw [HZ.out]
            exact ⟨rfl, ⟨rfl, rfl, rfl, Nat.le_refl _, fun _ _ => rfl⟩⟩
          · have hmz : ((m : Int) == 0) = false := by simp; omega
            have hm1 : (1 : Int) ≤ (m : Int) := by omega
            have hm9' : (m : Int) ≤ 9 := by omega
            have hms : (m : Int) + 1 ≤ (s.size : Int) := by omega
            have HO := Lib.hid (ord_x HDM.out HDD.out (by omega) (by omega))
            clear hm0
            generalize atE d = a at *
            generalize (c == 46) = y46 at *
            generalize (c == 41) = y41 at *
            have AL : Hid ((a = true ∧ (y46 = true ∨ y46 = false ∧ y41 = true)) ∨ (y46 = false ∧ y41 = false) ∨ (a = false ∧ (y46 = true ∨ y46 = false ∧ y41 = true))) := Lib.hid (by cases a <;> cases y46 <;> cases y41 <;> decide)
            rcases AL.out with ⟨rfl, AL2⟩ | ⟨rfl, rfl⟩ | ⟨rfl, AL2⟩
            · have HZ : Hid (ordP s.data.toList = (valN (s.data.toList.take m), c, m + 1)) := Lib.hid (by
                rw [HO.out, if_pos]
                rcases AL2 with rfl | ⟨rfl, rfl⟩ <;> simp)
              clear AL HO
              rcases AL2 with rfl | ⟨rfl, rfl⟩
              all_goals
              · go_wp2_with (first | (go_at_call 41; refine (HD.out _).mono ?_; rintro e w1 ⟨rfl, rfl⟩) | (go_at_call 32; refine (HA.out _).mono ?_; rintro e w1 ⟨rfl, rfl⟩))
                go_ret3
                rw [HZ.out]
                refine ⟨ret_val ?_, ⟨rfl, rfl, rfl, Nat.le_refl _, fun _ _ => rfl⟩⟩
                unfold ordV
                simp only
                rw [← HV.out]
                first | rfl | (congr 3; push_cast; rfl)
            · have HZ : Hid (ordP s.data.toList = (0, 0, 0)) := Lib.hid (by rw [HO.out, if_neg (by simp)])
              clear AL HO
              go_wp2_with (first | (go_at_call 41; refine (HD.out _).mono ?_; rintro e w1 ⟨rfl, rfl⟩) | (go_at_call 32; refine (HA.out _).mono ?_; rintro e w1 ⟨rfl, rfl⟩))
              go_ret3
              rw [HZ.out]
              exact ⟨rfl, ⟨rfl, rfl, rfl, Nat.le_refl _, fun _ _ => rfl⟩⟩
            · have HZ : Hid (ordP s.data.toList = (0, 0, 0)) := Lib.hid (by rw [HO.out, if_neg (by simp)])
              clear AL HO
              rcases AL2 with rfl | ⟨rfl, rfl⟩
              all_goals
              · go_wp2_with (first | (go_at_call 41; refine (HD.out _).mono ?_; rintro e w1 ⟨rfl, rfl⟩) | (go_at_call 32; refine (HA.out _).mono ?_; rintro e w1 ⟨rfl, rfl⟩))
                go_ret3
                rw [HZ.out]
                exact ⟨rfl, ⟨rfl, rfl, rfl, Nat.le_refl _, fun _ _ => rfl⟩⟩
    · have hlt' : ¬ (m : Int) < (s.size : Int) := by omega
      have HDM : Hid (digN s.data.toList = m) := Lib.hid (by rw [HR.out, drop_all (by omega)]; rfl)
      have HD := Lib.hid (HDo.out 0)
      have HZ : Hid (ordP s.data.toList = (0, 0, 0)) := Lib.hid (by
        by_cases hm9 : digN s.data.toList ≤ 9
        · exact ord_end (drop_all (by rw [HDM.out]; omega))
        · exact ord_big (by omega))
      have HA := Lib.hid (atEnd_any (s.extract (m + 1) s.size))
      have hne0 : ((m : Int) == (s.size : Int)) = true := by simp; omega
      by_cases hm0 : m = 0
      · have hmz : ((m : Int) == 0) = true := by rw [hm0]; decide
        clear hm0
        go_wp2_with (first | (go_at_call 41; refine (HD.out _).mono ?_; rintro e w1 ⟨rfl, rfl⟩) | (go_at_call 32; refine (HA.out _).mono ?_; rintro e w1 ⟨rfl, rfl⟩))
        go_ret3
        rw [HZ.out]
        exact ⟨rfl, ⟨rfl, rfl, rfl, Nat.le_refl _, fun _ _ => rfl⟩⟩
      · have hmz : ((m : Int) == 0) = false := by simp; omega
        clear hm0
        go_wp2_with (first | (go_at_call 41; refine (HD.out _).mono ?_; rintro e w1 ⟨rfl, rfl⟩) | (go_at_call 32; refine (HA.out _).mono ?_; rintro e w1 ⟨rfl, rfl⟩))
        go_ret3
        rw [HZ.out]
        exact ⟨rfl, ⟨rfl, rfl, rfl, Nat.le_refl _, fun _ _ => rfl⟩⟩
set_option maxHeartbeats 8000000 in
theorem rordered_any (s : ByteArray) (w : World) (hs : s.size ≤ 1000000) :
    Calls Tryz.prog 16 #[.string s] w fun e w' => e = .returned (ordV (ordP s.data.toList)) ∧ Below w.heap.size w w' := by
  have HDo := Lib.hid (does_rdigit.2)
  go_enter Tryz.func16, Tryz.ntmps16
  go_wp2_with fail
  go_loopg [5, 6] s.size (fun G v5 v6 wr => ∃ (m : Nat) (V : Int), m + G = s.size ∧ m ≤ 10 ∧ v5 = .int .i64 (m : Int) ∧ v6 = .int .i64 V ∧ w = wr ∧ Hid (digN s.data.toList = m + digN (s.data.toList.drop m)) ∧ Hid (V = (valN (s.data.toList.take m) : Nat)))
  case atStart => exact ⟨0, 0, by omega, by omega, rfl, rfl, rfl, Lib.hid (by simp), Lib.hid rfl⟩
  case round =>
    obtain ⟨m, V, hm, hmc, rfl, rfl, rfl, HR, HV⟩ := hrel
    by_cases hlt : m < s.size
    · obtain ⟨c, d, hd, hck, hdt⟩ := cons_at hlt
      have hlt' : (m : Int) < (s.size : Int) := by omega
      have HD := Lib.hid (HDo.out c)
      by_cases hcap0 : m < 10
      · have hcap : (m : Int) < 10 := by omega
        cases hg : digU c with
        | true =>
          have HY : Hid (digN s.data.toList = (m + 1) + digN (s.data.toList.drop (m + 1))) := Lib.hid (by rw [HR.out, hd, digN_hit d hg, hdt]; omega)
          obtain ⟨g1, g2⟩ := dig_range hg
          have hvb : 0 ≤ V ∧ V ≤ 999999999 := by
            have h1 := val_small (l := s.data.toList) (m := m) (k := 9) (by rw [HR.out]; omega) (by omega)
            have h2 := HV.out
            omega
          obtain ⟨hv1, hv2⟩ := hvb
          obtain ⟨C, hC⟩ : ∃ C : Int, (c.toNat : Int) = C := ⟨_, rfl⟩
          have HVN : Hid (V * 10 + (C - 48) = (valN (s.data.toList.take (m + 1)) : Nat)) := Lib.hid (by
            rw [val_step hlt hck, HV.out, ← hC]; omega)
          have hc1 : 48 ≤ C := by omega
          have hc2 : C ≤ 57 := by omega
          rw [hg, hC] at HD
          have hck2 : Hid (s[m] = c) := Lib.hid hck
          clear hd hdt hg g1 g2
          have HA : Hid True := Lib.hid trivial
          go_wp2_with (first | (go_at_call 42; refine (HD.out _).mono ?_; rintro e w1 ⟨rfl, rfl⟩))
          go_roundg (gk - 1)
          case rel => exact ⟨m + 1, _, by omega, by omega, by go_num, by go_num, rfl, HY, HVN⟩
          case measure => omega
        | false =>
          have HDM : Hid (digN s.data.toList = m) := Lib.hid (by rw [HR.out, hd, digN_miss d hg]; rfl)
          have HDD := Lib.hid hd
          have HDT := Lib.hid hdt
          rw [hg] at HD
          have hm9c : m ≤ 9 := by omega
          clear hd hdt hg
          have hne0 : ((m : Int) == (s.size : Int)) = false := by simp; omega
          have e46 : ((c.toNat : Int) != 46) = !(c == 46) := by have : ((c.toNat : Int) == 46) = (c == 46) := eq_u8 c 46 (by decide); unfold bne; rw [this]
          have e41 : ((c.toNat : Int) != 41) = !(c == 41) := by have : ((c.toNat : Int) == 41) = (c == 41) := eq_u8 c 41 (by decide); unfold bne; rw [this]
          have HA := Lib.hid (rend_any (s.extract (m + 1) s.size))
          rw [ext_rest, HDT.out] at HA
          by_cases hm0 : m = 0
          · have hmz : ((m : Int) == 0) = true := by rw [hm0]; decide
            have hm1 : (m : Int) < 1 := by omega
            have HZ : Hid (ordP s.data.toList = (0, 0, 0)) := Lib.hid (ord_zero (by rw [HDM.out, hm0]))
            clear hm0
            go_wp2_with (first | (go_at_call 42; refine (HD.out _).mono ?_; rintro e w1 ⟨rfl, rfl⟩) | (go_at_call 37; refine (HA.out _).mono ?_; rintro e w1 ⟨rfl, rfl⟩))
            go_ret3
            rw [HZ.out]
            exact ⟨rfl, ⟨rfl, rfl, rfl, Nat.le_refl _, fun _ _ => rfl⟩⟩
          · have hmz : ((m : Int) == 0) = false := by simp; omega
            have hm1 : (1 : Int) ≤ (m : Int) := by omega
            have hm9' : (m : Int) ≤ 9 := by omega
            have hms : (m : Int) + 1 ≤ (s.size : Int) := by omega
            have HO := Lib.hid (ord_x HDM.out HDD.out (by omega) (by omega))
            clear hm0
            generalize atE d = a at *
            generalize (c == 46) = y46 at *
            generalize (c == 41) = y41 at *
            have AL : Hid ((a = true ∧ (y46 = true ∨ y46 = false ∧ y41 = true)) ∨ (y46 = false ∧ y41 = false) ∨ (a = false ∧ (y46 = true ∨ y46 = false ∧ y41 = true))) := Lib.hid (by cases a <;> cases y46 <;> cases y41 <;> decide)
            rcases AL.out with ⟨rfl, AL2⟩ | ⟨rfl, rfl⟩ | ⟨rfl, AL2⟩
            · have HZ : Hid (ordP s.data.toList = (valN (s.data.toList.take m), c, m + 1)) := Lib.hid (by
                rw [HO.out, if_pos]
                rcases AL2 with rfl | ⟨rfl, rfl⟩ <;> simp)
              clear AL HO
              rcases AL2 with rfl | ⟨rfl, rfl⟩
              all_goals
              · go_wp2_with (first | (go_at_call 42; refine (HD.out _).mono ?_; rintro e w1 ⟨rfl, rfl⟩) | (go_at_call 37; refine (HA.out _).mono ?_; rintro e w1 ⟨rfl, rfl⟩))
                go_quiet (fail)
                go_wp2
                go_ret3
                rw [HZ.out]
                refine ⟨ret_val ?_, ⟨rfl, rfl, rfl, Nat.le_refl _, fun _ _ => rfl⟩⟩
                unfold ordV
                simp only
                rw [← HV.out]
                first | rfl | (congr 3; push_cast; rfl)
            · have HZ : Hid (ordP s.data.toList = (0, 0, 0)) := Lib.hid (by rw [HO.out, if_neg (by simp)])
              clear AL HO
              go_wp2_with (first | (go_at_call 42; refine (HD.out _).mono ?_; rintro e w1 ⟨rfl, rfl⟩) | (go_at_call 37; refine (HA.out _).mono ?_; rintro e w1 ⟨rfl, rfl⟩))
              go_ret3
              rw [HZ.out]
              exact ⟨rfl, ⟨rfl, rfl, rfl, Nat.le_refl _, fun _ _ => rfl⟩⟩
            · have HZ : Hid (ordP s.data.toList = (0, 0, 0)) := Lib.hid (by rw [HO.out, if_neg (by simp)])
              clear AL HO
              rcases AL2 with rfl | ⟨rfl, rfl⟩
              all_goals
              · go_wp2_with (first | (go_at_call 42; refine (HD.out _).mono ?_; rintro e w1 ⟨rfl, rfl⟩) | (go_at_call 37; refine (HA.out _).mono ?_; rintro e w1 ⟨rfl, rfl⟩))
                go_ret3
                rw [HZ.out]
                exact ⟨rfl, ⟨rfl, rfl, rfl, Nat.le_refl _, fun _ _ => rfl⟩⟩
      · have hcap : ¬ (m : Int) < 10 := by omega
        have hm9 : (9 : Int) < (m : Int) := by omega
        have hm1 : ¬ (m : Int) < 1 := by omega
        have HZ : Hid (ordP s.data.toList = (0, 0, 0)) := Lib.hid (ord_big (by rw [HR.out]; omega))
        have HA := Lib.hid (rend_any (s.extract (m + 1) s.size))
        clear hd hdt
        go_wp2_with (first | (go_at_call 42; refine (HD.out _).mono ?_; rintro e w1 ⟨rfl, rfl⟩) | (go_at_call 37; refine (HA.out _).mono ?_; rintro e w1 ⟨rfl, rfl⟩))
        go_ret3
        rw [HZ.out]
        exact ⟨rfl, ⟨rfl, rfl, rfl, Nat.le_refl _, fun _ _ => rfl⟩⟩
    · have hlt' : ¬ (m : Int) < (s.size : Int) := by omega
      have HDM : Hid (digN s.data.toList = m) := Lib.hid (by rw [HR.out, drop_all (by omega)]; rfl)
      have HD := Lib.hid (HDo.out 0)
      have HZ : Hid (ordP s.data.toList = (0, 0, 0)) := Lib.hid (by
        by_cases hm9 : digN s.data.toList ≤ 9
        · exact ord_end (drop_all (by rw [HDM.out]; omega))
        · exact ord_big (by omega))
      have HA := Lib.hid (rend_any (s.extract (m + 1) s.size))
      have hne0 : ((m : Int) == (s.size : Int)) = true := by simp; omega
      by_cases hm0 : m = 0
      · have hm1 : (m : Int) < 1 := by omega
        clear hm0
        go_wp2_with (first | (go_at_call 42; refine (HD.out _).mono ?_; rintro e w1 ⟨rfl, rfl⟩) | (go_at_call 37; refine (HA.out _).mono ?_; rintro e w1 ⟨rfl, rfl⟩))
        go_ret3
        rw [HZ.out]
        exact ⟨rfl, ⟨rfl, rfl, rfl, Nat.le_refl _, fun _ _ => rfl⟩⟩
      · have hm1 : (1 : Int) ≤ (m : Int) := by omega
        clear hm0
        by_cases hm9 : m ≤ 9
        · have hm9' : (m : Int) ≤ 9 := by omega
          go_wp2_with (first | (go_at_call 42; refine (HD.out _).mono ?_; rintro e w1 ⟨rfl, rfl⟩) | (go_at_call 37; refine (HA.out _).mono ?_; rintro e w1 ⟨rfl, rfl⟩))
          go_ret3
          rw [HZ.out]
          exact ⟨rfl, ⟨rfl, rfl, rfl, Nat.le_refl _, fun _ _ => rfl⟩⟩
        · have hm9' : (9 : Int) < (m : Int) := by omega
          go_wp2_with (first | (go_at_call 42; refine (HD.out _).mono ?_; rintro e w1 ⟨rfl, rfl⟩) | (go_at_call 37; refine (HA.out _).mono ?_; rintro e w1 ⟨rfl, rfl⟩))
          go_ret3
          rw [HZ.out]
          exact ⟨rfl, ⟨rfl, rfl, rfl, Nat.le_refl _, fun _ _ => rfl⟩⟩
end Sc
end Go.Proofs.YtnpaagglnfocpaaGreatDoor
