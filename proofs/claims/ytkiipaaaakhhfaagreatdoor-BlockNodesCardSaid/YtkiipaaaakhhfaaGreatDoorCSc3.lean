import Derived.Test.YtkiipaaaakhhfaaGreatDoorCSc2
import Derived.Deep.RegionHeld3
import Derived.Deep.DrawnRows
import Derived.Test.YtkiipaaaakhhfaaGreatDoorCClass1
import Derived.Lib.IndexMore
section
namespace Go.Proofs.YtkiipaaaakhhfaaGreatDoor
open Go Go.RowKit
namespace Sc
set_option maxRecDepth 100000
set_option linter.unusedVariables false
set_option linter.unusedSimpArgs false
theorem digN_hit {c : UInt8} (t : List UInt8) (h : digU c = true) : digN (c :: t) = digN t + 1 := by simp [digN, List.takeWhile, h]
theorem digN_miss {c : UInt8} (t : List UInt8) (h : digU c = false) : digN (c :: t) = 0 := by simp [digN, List.takeWhile, h]
theorem valN_snoc (l : List UInt8) (c : UInt8) : valN (l ++ [c]) = valN l * 10 + (c.toNat - 48) := by simp [valN]
theorem dig_range {c : UInt8} (h : digU c = true) : 48 ≤ c.toNat ∧ c.toNat ≤ 57 := by
 unfold digU digi at h
 simp at h
 omega
theorem snocI {P : List UInt8 → Prop} (l : List UInt8) (nil : P []) (snoc : ∀ l c, P l → P (l ++ [c])) : P l := by
 have : ∀ (r : List UInt8), P r.reverse := by
  intro r
  induction r with
  | nil => exact nil
  | cons c t ih => rw [List.reverse_cons]; exact snoc _ _ ih
 have h := this l.reverse
 rwa [List.reverse_reverse] at h
theorem valN_bound (l : List UInt8) : (∀ c ∈ l, digU c = true) → valN l + 1 ≤ 10 ^ l.length := by
 refine snocI (P := fun l => (∀ c ∈ l, digU c = true) → valN l + 1 ≤ 10 ^ l.length) l (fun _ => by simp [valN]) ?_
 ·intro l c ih h
  have h1 := ih (fun x hx => h x (by simp [hx]))
  have h2 := dig_range (h c (by simp))
  rw [valN_snoc, List.length_append, List.length_singleton, Nat.pow_succ]
  omega
theorem dig_take (l : List UInt8) : ∀ c ∈ l.take (digN l), digU c = true := by
 have : l.take (digN l) = l.takeWhile digU := by
  unfold digN
  have h := List.takeWhile_append_dropWhile (p := digU) (l := l)
  conv => lhs; rw [← h]
  rw [List.takeWhile_append_dropWhile]
  conv => lhs; arg 2; rw [← h]
  rw [List.take_left']
  rfl
 rw [this]
 exact takeWhile_all digU l
theorem dig_take_le {l : List UInt8} {m : Nat} (h : m ≤ digN l) : ∀ c ∈ l.take m, digU c = true := fun c hc => dig_take l c (by
 have : l.take m = (l.take (digN l)).take m := by rw [List.take_take, Nat.min_eq_left h]
 rw [this] at hc
 exact List.mem_of_mem_take hc)
theorem val_small {l : List UInt8} {m k : Nat} (h : m ≤ digN l) (hk : m ≤ k) : valN (l.take m) + 1 ≤ 10 ^ k := by
 have h1 := valN_bound _ (dig_take_le h)
 have h2 : (l.take m).length ≤ k := by rw [List.length_take]; omega
 exact Nat.le_trans h1 (Nat.pow_le_pow_right (by decide) h2)
theorem val_step {s : ByteArray} {m : Nat} {c : UInt8} (hlt : m < s.size) (hc : s[m] = c) : valN (s.data.toList.take (m + 1)) = valN (s.data.toList.take m) * 10 + (c.toNat - 48) := by
 have hl : m < s.data.toList.length := by rw [sz]; exact hlt
 rw [List.take_succ_eq_append_getElem hl, valN_snoc]
 congr 2
 rw [← hc]
 rfl
theorem ord_zero {l : List UInt8} (h : digN l = 0) : ordP l = (0, 0, 0) := by
 unfold ordP
 split
 ·rfl
 ·rw [if_neg]; omega
theorem ord_end {l : List UInt8} (h : l.drop (digN l) = []) : ordP l = (0, 0, 0) := by
 unfold ordP
 rw [h]
theorem ord_big {l : List UInt8} (h : 9 < digN l) : ordP l = (0, 0, 0) := by
 unfold ordP
 split
 ·rfl
 ·rw [if_neg]; omega
theorem ord_x {l t : List UInt8} {x : UInt8} {m : Nat} (hm : digN l = m) (h : l.drop m = x :: t) (h1 : 1 ≤ m) (h9 : m ≤ 9) : ordP l = if ((x == 46) || (x == 41)) = true ∧ atE t = true then (valN (l.take m), x, m + 1) else (0, 0, 0) := by
 unfold ordP
 rw [hm, h]
 simp only
 by_cases hx : x = 46 ∨ x = 41
 ·have : ((x == 46) || (x == 41)) = true := by rcases hx with rfl | rfl <;> decide
  by_cases ha : atE t = true
  ·rw [if_pos ⟨h1, h9, hx, ha⟩, if_pos ⟨this, ha⟩]
  ·rw [if_neg (fun e => ha e.2.2.2), if_neg (fun e => ha e.2)]
 ·have : ((x == 46) || (x == 41)) = false := by
   rw [Bool.or_eq_false_iff]
   constructor
   ·rw [beq_eq_false_iff_ne]; exact fun e => hx (.inl e)
   ·rw [beq_eq_false_iff_ne]; exact fun e => hx (.inr e)
  rw [if_neg (fun e => hx e.2.2.1), if_neg (fun e => by rw [this] at e; cases e.1)]
def ordV (p : Nat × UInt8 × Nat) : Value := .tuple #[.int .i64 (p.1 : Int), .int .u8 (p.2.1.toNat : Int), .int .i64 (p.2.2 : Int)]
theorem ret_val {a b : Value} (h : a = b) : Ending.returned a = .returned b := by rw [h]
theorem dig_not {x : UInt8} (h : digU x = true) : ((x.toNat : Int) != 46) = true ∧ ((x.toNat : Int) != 41) = true := by
 have := dig_range h
 simp only [bne_iff_ne, ne_eq]
 omega
set_option maxHeartbeats 8000000 in
theorem ordered_any (s : ByteArray) (w : World) (hs : s.size ≤ 1000000) :
  Calls Tryz.prog 139 #[.string s] w fun e w' => e = .returned (ordV (ordP s.data.toList)) ∧ Below w.heap.size w w' := by
 have HDo := Lib.hid (does_digit.2)
 go_enter Tryz.func139, Tryz.ntmps139
 go_wp2_with fail
 go_loopg [5, 6] s.size (fun G v5 v6 wr => ∃ (m : Nat) (V : Int), m + G = s.size ∧ m ≤ 9 ∧ v6 = .int .i64 (m : Int) ∧ v5 = .int .i64 V ∧ w = wr ∧ Hid (digN s.data.toList = m + digN (s.data.toList.drop m)) ∧ Hid (V = (valN (s.data.toList.take m) : Nat)))
 case atStart => exact ⟨0, 0, by omega, by omega, rfl, rfl, rfl, Lib.hid (by simp), Lib.hid rfl⟩
 case round =>
  obtain ⟨m, V, hm, hmc, rfl, rfl, rfl, HR, HV⟩ := hrel
  by_cases hlt : m < s.size
  ·obtain ⟨c, d, hd, hck, hdt⟩ := cons_at hlt
   have hlt' : (m : Int) < (s.size : Int) := by omega
   have HD := Lib.hid (HDo.out c)
   by_cases hcap0 : m < 9
   ·have hcap : (m : Int) < 9 := by omega
    cases hg : digU c with
    | true =>
     have HY : Hid (digN s.data.toList = (m + 1) + digN (s.data.toList.drop (m + 1))) := Lib.hid (by rw [HR.out, hd, digN_hit d hg, hdt]; omega)
     obtain ⟨g1, g2⟩ := dig_range hg
     have hvb : 0 ≤ V ∧ V ≤ 99999999 := by
      have h1 := val_small (l := s.data.toList) (m := m) (k := 8) (by rw [HR.out]; omega) (by omega)
      have h2 := HV.out
      omega
     obtain ⟨hv1, hv2⟩ := hvb
     obtain ⟨C, hC⟩ : ∃ C : Int, (c.toNat : Int) = C := ⟨_, rfl⟩
     have HVN : Hid (V * 10 + (C - 48) = (valN (s.data.toList.take (m + 1)) : Nat)) := Lib.hid (by
      rw [val_step hlt hck, HV.out, ← hC]; omega)
     have hc1 : 48 ≤ C := by omega
     have hc2 : C ≤ 57 := by omega
     rw [hg, hC] at HD
     have hck2 : Hid (s[m] = c) := Lib.hid hck
     clear hd hdt hg g1 g2
     have HA : Hid True := Lib.hid trivial
     go_wp2_with (first | (go_at_call 160; refine (HD.out _).mono ?_; rintro e w1 ⟨rfl, rfl⟩))
     go_roundg (gk - 1)
     case rel => exact ⟨m + 1, _, by omega, by omega, by go_num, by go_num, rfl, HY, HVN⟩
     case measure => omega
    | false =>
     have HDM : Hid (digN s.data.toList = m) := Lib.hid (by rw [HR.out, hd, digN_miss d hg]; rfl)
     have HDD := Lib.hid hd
     have HDT := Lib.hid hdt
     rw [hg] at HD
     have hm9c : m ≤ 9 := by omega
     clear hd hdt hg
     have hne0 : ((m : Int) == (s.size : Int)) = false := by simp; omega
     have e46 : ((c.toNat : Int) != 46) = !(c == 46) := by have : ((c.toNat : Int) == 46) = (c == 46) := eq_u8 c 46 (by decide); unfold bne; rw [this]
     have e41 : ((c.toNat : Int) != 41) = !(c == 41) := by have : ((c.toNat : Int) == 41) = (c == 41) := eq_u8 c 41 (by decide); unfold bne; rw [this]
     have HA := Lib.hid (atEnd_any (s.extract (m + 1) s.size))
     rw [ext_rest, HDT.out] at HA
     by_cases hm0 : m = 0
     ·have hmz : ((m : Int) == 0) = true := by rw [hm0]; decide
      have hm1 : (m : Int) < 1 := by omega
      have HZ : Hid (ordP s.data.toList = (0, 0, 0)) := Lib.hid (ord_zero (by rw [HDM.out, hm0]))
      clear hm0
      go_wp2_with (first | (go_at_call 160; refine (HD.out _).mono ?_; rintro e w1 ⟨rfl, rfl⟩) | (go_at_call 127; refine (HA.out _).mono ?_; rintro e w1 ⟨rfl, rfl⟩))
      go_ret3
      rw [HZ.out]
      exact ⟨rfl, ⟨rfl, rfl, rfl, Nat.le_refl _, fun _ _ => rfl⟩⟩
     ·have hmz : ((m : Int) == 0) = false := by simp; omega
      have hm1 : (1 : Int) ≤ (m : Int) := by omega
      have hm9' : (m : Int) ≤ 9 := by omega
      have hms : (m : Int) + 1 ≤ (s.size : Int) := by omega
      have HO := Lib.hid (ord_x HDM.out HDD.out (by omega) (by omega))
      clear hm0
      generalize atE d = a at *
      generalize (c == 46) = y46 at *
      generalize (c == 41) = y41 at *
      have AL : Hid ((a = true ∧ (y46 = true ∨ y46 = false ∧ y41 = true)) ∨ (y46 = false ∧ y41 = false) ∨ (a = false ∧ (y46 = true ∨ y46 = false ∧ y41 = true))) := Lib.hid (by cases a <;> cases y46 <;> cases y41 <;> decide)
      rcases AL.out with ⟨rfl, AL2⟩ | ⟨rfl, rfl⟩ | ⟨rfl, AL2⟩
      ·have HZ : Hid (ordP s.data.toList = (valN (s.data.toList.take m), c, m + 1)) := Lib.hid (by
        rw [HO.out, if_pos]
        rcases AL2 with rfl | ⟨rfl, rfl⟩ <;> simp)
       clear AL HO
       rcases AL2 with rfl | ⟨rfl, rfl⟩
       all_goals
       ·go_wp2_with (first | (go_at_call 160; refine (HD.out _).mono ?_; rintro e w1 ⟨rfl, rfl⟩) | (go_at_call 127; refine (HA.out _).mono ?_; rintro e w1 ⟨rfl, rfl⟩))
        go_ret3
        rw [HZ.out]
        refine ⟨ret_val ?_, ⟨rfl, rfl, rfl, Nat.le_refl _, fun _ _ => rfl⟩⟩
        unfold ordV
        simp only
        rw [← HV.out]
        first | rfl | (congr 3; push_cast; rfl)
      ·have HZ : Hid (ordP s.data.toList = (0, 0, 0)) := Lib.hid (by rw [HO.out, if_neg (by simp)])
       clear AL HO
       go_wp2_with (first | (go_at_call 160; refine (HD.out _).mono ?_; rintro e w1 ⟨rfl, rfl⟩) | (go_at_call 127; refine (HA.out _).mono ?_; rintro e w1 ⟨rfl, rfl⟩))
       go_ret3
       rw [HZ.out]
       exact ⟨rfl, ⟨rfl, rfl, rfl, Nat.le_refl _, fun _ _ => rfl⟩⟩
      ·have HZ : Hid (ordP s.data.toList = (0, 0, 0)) := Lib.hid (by rw [HO.out, if_neg (by simp)])
       clear AL HO
       rcases AL2 with rfl | ⟨rfl, rfl⟩
       all_goals
       ·go_wp2_with (first | (go_at_call 160; refine (HD.out _).mono ?_; rintro e w1 ⟨rfl, rfl⟩) | (go_at_call 127; refine (HA.out _).mono ?_; rintro e w1 ⟨rfl, rfl⟩))
        go_ret3
        rw [HZ.out]
        exact ⟨rfl, ⟨rfl, rfl, rfl, Nat.le_refl _, fun _ _ => rfl⟩⟩
   ·have hcap : ¬ (m : Int) < 9 := by omega
    have hm9e : m = 9 := by omega
    have hmz : ((m : Int) == 0) = false := by simp; omega
    cases hg : digU c with
    | true =>
     have HZ : Hid (ordP s.data.toList = (0, 0, 0)) := Lib.hid (ord_big (by rw [HR.out, hd, digN_hit d hg]; omega))
     obtain ⟨e46, e41⟩ := dig_not hg
     have hne0 : ((m : Int) == (s.size : Int)) = false := by simp; omega
     have HA := Lib.hid (atEnd_any (s.extract (m + 1) s.size))
     clear hd hdt hg hm9e
     go_wp2_with (first | (go_at_call 160; refine (HD.out _).mono ?_; rintro e w1 ⟨rfl, rfl⟩) | (go_at_call 127; refine (HA.out _).mono ?_; rintro e w1 ⟨rfl, rfl⟩))
     go_ret3
     rw [HZ.out]
     exact ⟨rfl, ⟨rfl, rfl, rfl, Nat.le_refl _, fun _ _ => rfl⟩⟩
    | false =>
     have HDM : Hid (digN s.data.toList = m) := Lib.hid (by rw [HR.out, hd, digN_miss d hg]; omega)
     have HDD := Lib.hid hd
     have HDT := Lib.hid hdt
     clear hd hdt hg hm9e hmz
     have hne0 : ((m : Int) == (s.size : Int)) = false := by simp; omega
     have e46 : ((c.toNat : Int) != 46) = !(c == 46) := by have : ((c.toNat : Int) == 46) = (c == 46) := eq_u8 c 46 (by decide); unfold bne; rw [this]
     have e41 : ((c.toNat : Int) != 41) = !(c == 41) := by have : ((c.toNat : Int) == 41) = (c == 41) := eq_u8 c 41 (by decide); unfold bne; rw [this]
     have HA := Lib.hid (atEnd_any (s.extract (m + 1) s.size))
     rw [ext_rest, HDT.out] at HA
     by_cases hm0 : m = 0
     ·have hmz : ((m : Int) == 0) = true := by rw [hm0]; decide
      have hm1 : (m : Int) < 1 := by omega
      have HZ : Hid (ordP s.data.toList = (0, 0, 0)) := Lib.hid (ord_zero (by rw [HDM.out, hm0]))
      clear hm0
      go_wp2_with (first | (go_at_call 160; refine (HD.out _).mono ?_; rintro e w1 ⟨rfl, rfl⟩) | (go_at_call 127; refine (HA.out _).mono ?_; rintro e w1 ⟨rfl, rfl⟩))
      go_ret3
      rw [HZ.out]
      exact ⟨rfl, ⟨rfl, rfl, rfl, Nat.le_refl _, fun _ _ => rfl⟩⟩
     ·have hmz : ((m : Int) == 0) = false := by simp; omega
      have hm1 : (1 : Int) ≤ (m : Int) := by omega
      have hm9' : (m : Int) ≤ 9 := by omega
      have hms : (m : Int) + 1 ≤ (s.size : Int) := by omega
      have HO := Lib.hid (ord_x HDM.out HDD.out (by omega) (by omega))
      clear hm0
      generalize atE d = a at *
      generalize (c == 46) = y46 at *
      generalize (c == 41) = y41 at *
      have AL : Hid ((a = true ∧ (y46 = true ∨ y46 = false ∧ y41 = true)) ∨ (y46 = false ∧ y41 = false) ∨ (a = false ∧ (y46 = true ∨ y46 = false ∧ y41 = true))) := Lib.hid (by cases a <;> cases y46 <;> cases y41 <;> decide)
      rcases AL.out with ⟨rfl, AL2⟩ | ⟨rfl, rfl⟩ | ⟨rfl, AL2⟩
      ·have HZ : Hid (ordP s.data.toList = (valN (s.data.toList.take m), c, m + 1)) := Lib.hid (by
        rw [HO.out, if_pos]
        rcases AL2 with rfl | ⟨rfl, rfl⟩ <;> simp)
       clear AL HO
       rcases AL2 with rfl | ⟨rfl, rfl⟩
       all_goals
       ·go_wp2_with (first | (go_at_call 160; refine (HD.out _).mono ?_; rintro e w1 ⟨rfl, rfl⟩) | (go_at_call 127; refine (HA.out _).mono ?_; rintro e w1 ⟨rfl, rfl⟩))
        go_ret3
        rw [HZ.out]
        refine ⟨ret_val ?_, ⟨rfl, rfl, rfl, Nat.le_refl _, fun _ _ => rfl⟩⟩
        unfold ordV
        simp only
        rw [← HV.out]
        first | rfl | (congr 3; push_cast; rfl)
      ·have HZ : Hid (ordP s.data.toList = (0, 0, 0)) := Lib.hid (by rw [HO.out, if_neg (by simp)])
       clear AL HO
       go_wp2_with (first | (go_at_call 160; refine (HD.out _).mono ?_; rintro e w1 ⟨rfl, rfl⟩) | (go_at_call 127; refine (HA.out _).mono ?_; rintro e w1 ⟨rfl, rfl⟩))
       go_ret3
       rw [HZ.out]
       exact ⟨rfl, ⟨rfl, rfl, rfl, Nat.le_refl _, fun _ _ => rfl⟩⟩
      ·have HZ : Hid (ordP s.data.toList = (0, 0, 0)) := Lib.hid (by rw [HO.out, if_neg (by simp)])
       clear AL HO
       rcases AL2 with rfl | ⟨rfl, rfl⟩
       all_goals
       ·go_wp2_with (first | (go_at_call 160; refine (HD.out _).mono ?_; rintro e w1 ⟨rfl, rfl⟩) | (go_at_call 127; refine (HA.out _).mono ?_; rintro e w1 ⟨rfl, rfl⟩))
        go_ret3
        rw [HZ.out]
        exact ⟨rfl, ⟨rfl, rfl, rfl, Nat.le_refl _, fun _ _ => rfl⟩⟩
  ·have hlt' : ¬ (m : Int) < (s.size : Int) := by omega
   have HDM : Hid (digN s.data.toList = m) := Lib.hid (by rw [HR.out, drop_all (by omega)]; rfl)
   have HD := Lib.hid (HDo.out 0)
   have HZ : Hid (ordP s.data.toList = (0, 0, 0)) := Lib.hid (by
    by_cases hm9 : digN s.data.toList ≤ 9
    ·exact ord_end (drop_all (by rw [HDM.out]; omega))
    ·exact ord_big (by omega))
   have HA := Lib.hid (atEnd_any (s.extract (m + 1) s.size))
   have hne0 : ((m : Int) == (s.size : Int)) = true := by simp; omega
   by_cases hm0 : m = 0
   ·have hmz : ((m : Int) == 0) = true := by rw [hm0]; decide
    clear hm0
    go_wp2_with (first | (go_at_call 160; refine (HD.out _).mono ?_; rintro e w1 ⟨rfl, rfl⟩) | (go_at_call 127; refine (HA.out _).mono ?_; rintro e w1 ⟨rfl, rfl⟩))
    go_ret3
    rw [HZ.out]
    exact ⟨rfl, ⟨rfl, rfl, rfl, Nat.le_refl _, fun _ _ => rfl⟩⟩
   ·have hmz : ((m : Int) == 0) = false := by simp; omega
    clear hm0
    go_wp2_with (first | (go_at_call 160; refine (HD.out _).mono ?_; rintro e w1 ⟨rfl, rfl⟩) | (go_at_call 127; refine (HA.out _).mono ?_; rintro e w1 ⟨rfl, rfl⟩))
    go_ret3
    rw [HZ.out]
    exact ⟨rfl, ⟨rfl, rfl, rfl, Nat.le_refl _, fun _ _ => rfl⟩⟩
end Sc
end Go.Proofs.YtkiipaaaakhhfaaGreatDoor
end
section
namespace Go.Proofs.YtkiipaaaakhhfaaGreatDoor
open Go Go.RowKit
namespace Sc
set_option maxRecDepth 100000
set_option linter.unusedVariables false
set_option linter.unusedSimpArgs false
theorem below_drewN' {B : Nat} {a w : World} (h : Below B a w) (n : Nat) : Below B a (w.drewN n) := h.trans ⟨rfl, rfl, rfl, Nat.le_refl _, fun _ _ => rfl⟩
theorem trimh_any (s : ByteArray) (w : World) (hs : s.size ≤ 1000000) :
  Calls Tryz.prog 53 #[.string s, .string ⟨#[35]⟩] w fun e w' => e = .returned (.string ⟨(ahead s.data.toList).toArray⟩) ∧ w = w' := by
 have := Tryz.strings_TrimRight_one s 35 (by decide) w (by omega)
 exact this.mono fun _ _ ⟨a, b⟩ => ⟨a, b.symm⟩
theorem ahead_len (l : List UInt8) : (ahead l).length ≤ l.length := by
 obtain ⟨k, hk⟩ := ahead_cut l
 have := congrArg List.length hk
 rw [List.length_append] at this
 omega
set_option maxHeartbeats 1000000 in
theorem wo_any (s : ByteArray) (w : World) (hs : s.size ≤ 1000000) :
  Calls Tryz.prog 128 #[.string s] w fun e w' => e = .returned (.string ⟨(woP s.data.toList).toArray⟩) ∧ Below w.heap.size w w' := by
 obtain ⟨A, hA⟩ := ba_mk (ahead s.data.toList)
 have HT := Lib.hid (fun w => trimh_any s w hs)
 rw [hA, ba_self] at HT
 have hAs : A.size ≤ 1000000 := by
  have := ahead_len s.data.toList
  rw [hA, sz, sz] at this
  omega
 have HR := Lib.hid (fun w => trimr_any A w hAs)
 by_cases h0 : 0 < A.size
 ·obtain ⟨M, c, t, hM, hd, ⟨hlt9, hck⟩, ht, hsz⟩ := last_of h0
  have he := emp_false h0
  have h0' : (0 : Int) < (A.size : Int) := by omega
  have hM2 : (A.size : Int) - 1 = (M : Int) := by omega
  have hM3 : (M : Int) < (A.size : Int) := by omega
  have HB := Lib.hid (does_blank.2 c)
  have HV : Hid (woP s.data.toList = if blk c = true then trimR A.data.toList else s.data.toList) := Lib.hid (by
   unfold woP
   rw [hA, hd]
   simp)
  have HM := Lib.hid hM
  clear hd ht hsz hA hM
  cases hb : blk c with
  | true =>
   have HV2 : Hid (woP s.data.toList = trimR A.data.toList) := Lib.hid (HV.out.trans (if_pos hb))
   rw [hb] at HB
   clear hb HV
   go_enter Tryz.func128, Tryz.ntmps128
   go_wp2_with fail
   refine (HT.out _).mono ?_
   rintro e w1 ⟨rfl, rfl⟩
   go_wp2_with fail
   refine (HB.out _).mono ?_
   rintro e w1 ⟨rfl, rfl⟩
   go_wp2_with fail
   refine (HR.out _).mono ?_
   rintro e w1 ⟨rfl, hb1⟩
   go_wp2
   go_ret
   rw [HV2.out]
   exact ⟨rfl, hb1⟩
  | false =>
   have HV2 : Hid (woP s.data.toList = s.data.toList) := Lib.hid (HV.out.trans (if_neg (by rw [hb]; simp)))
   rw [hb] at HB
   clear hb HV
   go_enter Tryz.func128, Tryz.ntmps128
   go_wp2_with fail
   refine (HT.out _).mono ?_
   rintro e w1 ⟨rfl, rfl⟩
   go_wp2_with fail
   refine (HB.out _).mono ?_
   rintro e w1 ⟨rfl, rfl⟩
   go_wp2
   go_ret
   rw [HV2.out]
   exact ⟨ret_str (ba_self s).symm, Below.refl _ _⟩
 ·have hn := nil_of h0
  have he := emp_true hn
  have HV : Hid (woP s.data.toList = trimR A.data.toList) := Lib.hid (by unfold woP; rw [hA, hn]; rfl)
  clear hn hA
  go_enter Tryz.func128, Tryz.ntmps128
  go_wp2_with fail
  refine (HT.out _).mono ?_
  rintro e w1 ⟨rfl, rfl⟩
  go_wp2_with fail
  refine (HR.out _).mono ?_
  rintro e w1 ⟨rfl, hb1⟩
  go_wp2
  go_ret
  rw [HV.out]
  exact ⟨rfl, hb1⟩
def atxV (p : Nat × List UInt8) : Value := .tuple #[.int .i64 (p.1 : Int), .string ⟨p.2.toArray⟩]
theorem woP_len (l : List UInt8) : (woP l).length ≤ l.length := by
 unfold woP
 split
 ·simp
 ·split
  ·exact Nat.le_trans (trimR_len _) (ahead_len _)
  ·exact Nat.le_refl _
set_option maxHeartbeats 1000000 in
theorem atx_any (s : ByteArray) (w : World) (hs : s.size ≤ 1000000) :
  Calls Tryz.prog 98 #[.string s] w fun e w' => e = .returned (atxV (atxP s.data.toList)) ∧ Below w.heap.size w w' := by
 obtain ⟨K, hK⟩ : ∃ K, runN 35 s.data.toList = K := ⟨_, rfl⟩
 have hks : K ≤ s.size := by rw [← hK, ← sz]; exact runN_le _ _
 have HR := Lib.hid (fun w => run_any s 35 w hs)
 rw [hK, show (((35 : UInt8).toNat : Nat) : Int) = 35 from rfl] at HR
 have hks' : (K : Int) ≤ (s.size : Int) := by omega
 have HV0 : Hid (atxP s.data.toList = if 1 ≤ K ∧ K ≤ 6 ∧ atE (s.data.toList.drop K) = true then (K, woP (trimB (s.data.toList.drop K))) else (0, [])) := Lib.hid (by unfold atxP; rw [hK])
 have HA := Lib.hid (fun w => atEnd_any (s.extract K s.size) w)
 rw [ext_rest] at HA
 have hes : (s.extract K s.size).size ≤ 1000000 := by rw [ext_size]; omega
 have HT := Lib.hid (fun w => trim_any (s.extract K s.size) w hes)
 rw [ext_rest] at HT
 obtain ⟨T, hT⟩ := ba_mk (trimB (s.data.toList.drop K))
 rw [hT, ba_self] at HT
 have hTs : T.size ≤ 1000000 := by
  have := trimB_len (s.data.toList.drop K)
  rw [hT, sz, List.length_drop, sz] at this
  omega
 have HW := Lib.hid (fun w => wo_any T w hTs)
 obtain ⟨U, hU⟩ := ba_mk (woP T.data.toList)
 rw [hU, ba_self] at HW
 have hUs : U.size ≤ 281474976710656 := by
  have := woP_len T.data.toList
  rw [hU, sz, sz] at this
  omega
 have HC := Lib.hid (fun w => clone_any U w hUs)
 have HU : Hid (woP (trimB (s.data.toList.drop K)) = U.data.toList) := Lib.hid (by rw [hT, hU])
 clear hK hT hU
 by_cases h1 : 1 ≤ K
 ·have h1' : (1 : Int) ≤ (K : Int) := by omega
  by_cases h6 : K ≤ 6
  ·have h6' : (K : Int) ≤ 6 := by omega
   generalize hat : atE (s.data.toList.drop K) = at1 at *
   cases at1 with
   | true =>
    have HV : Hid (atxP s.data.toList = (K, U.data.toList)) := Lib.hid (by rw [HV0.out, if_pos ⟨h1, h6, rfl⟩, HU.out])
    clear hat
    go_enter Tryz.func98, Tryz.ntmps98
    go_wp2_with fail
    refine (HR.out _).mono ?_
    rintro e w1 ⟨rfl, rfl⟩
    go_wp2_with fail
    refine (HA.out _).mono ?_
    rintro e w1 ⟨rfl, rfl⟩
    go_wp2_with fail
    refine (HT.out _).mono ?_
    rintro e w1 ⟨rfl, hb1⟩
    go_wp2_with fail
    refine (HW.out _).mono ?_
    rintro e w2 ⟨rfl, hb2⟩
    go_wp2_with fail
    refine (HC.out _).mono ?_
    rintro e w3 ⟨rfl, hb3⟩
    go_wp2
    go_ret2
    rw [HV.out]
    have h12 := hb1.trans (hb2.mono hb1.size)
    exact ⟨ret_val (by unfold atxV; simp only; rw [ba_self]; rfl), h12.trans (hb3.mono h12.size)⟩
   | false =>
    have HV : Hid (atxP s.data.toList = (0, [])) := Lib.hid (by rw [HV0.out, if_neg (by simp)])
    clear hat
    go_enter Tryz.func98, Tryz.ntmps98
    go_wp2_with fail
    refine (HR.out _).mono ?_
    rintro e w1 ⟨rfl, rfl⟩
    go_wp2_with fail
    refine (HA.out _).mono ?_
    rintro e w1 ⟨rfl, rfl⟩
    go_wp2
    go_ret2
    rw [HV.out]
    exact ⟨rfl, Below.refl _ _⟩
  ·have h6' : (6 : Int) < (K : Int) := by omega
   have HV : Hid (atxP s.data.toList = (0, [])) := Lib.hid (by rw [HV0.out, if_neg (fun e => h6 e.2.1)])
   clear h6
   go_enter Tryz.func98, Tryz.ntmps98
   go_wp2_with fail
   refine (HR.out _).mono ?_
   rintro e w1 ⟨rfl, rfl⟩
   go_wp2
   go_ret2
   rw [HV.out]
   exact ⟨rfl, Below.refl _ _⟩
 ·have h1' : (K : Int) < 1 := by omega
  have HV : Hid (atxP s.data.toList = (0, [])) := Lib.hid (by rw [HV0.out, if_neg (fun e => h1 e.1)])
  clear h1
  go_enter Tryz.func98, Tryz.ntmps98
  go_wp2_with fail
  refine (HR.out _).mono ?_
  rintro e w1 ⟨rfl, rfl⟩
  go_wp2
  go_ret2
  rw [HV.out]
  exact ⟨rfl, Below.refl _ _⟩
theorem idx_contains (l : List UInt8) (c : UInt8) : decide (0 ≤ Lib.indexByte l c) = decide (c ∈ l) := by
 rw [← idx_mem, Bool.eq_iff_iff]
 simp
def fenV (p : UInt8 × Nat × List UInt8) : Value := .tuple #[.int .u8 (p.1.toNat : Int), .int .i64 (p.2.1 : Int), .string ⟨p.2.2.toArray⟩]
theorem fen_cons (c : UInt8) (t : List UInt8) : fenceP (c :: t) = if (c = 96 ∨ c = 126) ∧ 3 ≤ runN c (c :: t) ∧ ¬ (c = 96 ∧ 96 ∈ (c :: t).drop (runN c (c :: t))) then (c, runN c (c :: t), trimB ((c :: t).drop (runN c (c :: t)))) else (0, 0, []) := rfl
attribute [local go_sem ↓] Go.wp_at_zero Go.wp_at_succ
set_option maxHeartbeats 4000000 in
theorem fence_any (s : ByteArray) (w : World) (hs : s.size ≤ 1000000) :
  Calls Tryz.prog 101 #[.string s] w fun e w' => e = .returned (fenV (fenceP s.data.toList)) ∧ Below w.heap.size w w' := by
 by_cases h0 : 0 < s.size
 ·obtain ⟨c, t, hd, hck, ht, hsz⟩ := cons_of h0
  have he := emp_false h0
  have hs0 : (0 : Int) < (s.size : Int) := by omega
  obtain ⟨K, hK⟩ : ∃ K, runN c s.data.toList = K := ⟨_, rfl⟩
  have hks : K ≤ s.size := by rw [← hK, ← sz]; exact runN_le _ _
  have HR := Lib.hid (fun w => run_any s c w hs)
  rw [hK] at HR
  have hks' : (K : Int) ≤ (s.size : Int) := by omega
  have HV0 : Hid (fenceP s.data.toList = if (c = 96 ∨ c = 126) ∧ 3 ≤ K ∧ ¬ (c = 96 ∧ 96 ∈ s.data.toList.drop K) then (c, K, trimB (s.data.toList.drop K)) else (0, 0, [])) := Lib.hid (by
   rw [← hK, hd]; exact fen_cons c t)
  have hes : (s.extract K s.size).size ≤ 1000000 := by rw [ext_size]; omega
  have HT := Lib.hid (fun w => trim_any (s.extract K s.size) w hes)
  rw [ext_rest] at HT
  have HCo := Lib.hid (fun w => Tryz.strings_Contains_one (s.extract K s.size) 96 w)
  rw [ext_rest, idx_contains] at HCo
  obtain ⟨T, hT⟩ := ba_mk (trimB (s.data.toList.drop K))
  rw [hT, ba_self] at HT
  have hTs : T.size ≤ 281474976710656 := by
   have := trimB_len (s.data.toList.drop K)
   rw [hT, sz, List.length_drop, sz] at this
   omega
  have HC := Lib.hid (fun w => clone_any T w hTs)
  have HTT := Lib.hid hT
  have e96 : ((c.toNat : Int) == 96) = (c == 96) := eq_u8 c 96 (by decide)
  have n96 : ((c.toNat : Int) != 96) = !(c == 96) := by unfold bne; rw [e96]
  have n126 : ((c.toNat : Int) != 126) = !(c == 126) := by have : ((c.toNat : Int) == 126) = (c == 126) := eq_u8 c 126 (by decide); unfold bne; rw [this]
  clear hd ht hsz hK hT
  by_cases hc : c = 96 ∨ c = 126
  ·have HC96 : Hid ((c == 96) = true ∧ c = 96 ∨ (c == 96) = false ∧ (c == 126) = true ∧ ¬ c = 96) := Lib.hid (by
    rcases hc with rfl | rfl
    ·left; decide
    ·right; decide)
   generalize hy : (c == 96) = y at *
   generalize hz : (c == 126) = z at *
   clear hy hz
   by_cases h3 : 3 ≤ K
   ·have h3' : (3 : Int) ≤ (K : Int) := by omega
    by_cases hin : 96 ∈ s.data.toList.drop K
    ·have hdd : decide (96 ∈ s.data.toList.drop K) = true := decide_eq_true hin
     rw [hdd] at HCo
     clear hdd
     rcases HC96.out with ⟨rfl, h⟩ | ⟨rfl, rfl, h⟩
     ·have HV : Hid (fenceP s.data.toList = (0, 0, [])) := Lib.hid (by rw [HV0.out, if_neg (fun e => e.2.2 ⟨h, hin⟩)])
      clear hin hc h h3 HC96
      go_enter Tryz.func101, Tryz.ntmps101
      go_wp2_with (first | (go_at_call 123; refine (HR.out _).mono ?_; rintro e w1 ⟨rfl, rfl⟩) | (go_at_call 126; refine (HCo.out _).mono ?_; rintro e w1 ⟨rfl, rfl⟩))
      go_ret3
      rw [HV.out]
      exact ⟨rfl, Below.refl _ _⟩
     ·have HV : Hid (fenceP s.data.toList = (c, K, T.data.toList)) := Lib.hid (by rw [HV0.out, if_pos ⟨hc, h3, fun e => h e.1⟩, HTT.out])
      clear hin hc h h3 HC96
      go_enter Tryz.func101, Tryz.ntmps101
      go_wp2_with (first | (go_at_call 123; refine (HR.out _).mono ?_; rintro e w1 ⟨rfl, rfl⟩))
      go_region_held3 (fun _ => True) (trivial) (first | (go_at_call 129; refine (HT.out _).mono ?_; rintro e w2 ⟨rfl, hb2⟩) | (go_at_call 31; refine (HC.out _).mono ?_; rintro e w3 ⟨rfl, hb3⟩))
      all_goals
       go_wp2
       go_ret3
       rw [HV.out]
       exact ⟨ret_val (by unfold fenV; simp only; rw [ba_self]; rfl), by first | exact hb2.trans (hb3.mono hb2.size) | exact ((Below.refl _ _).drew.trans hb2).trans (hb3.mono hb2.size)⟩
    ·have hdd : decide (96 ∈ s.data.toList.drop K) = false := decide_eq_false hin
     rw [hdd] at HCo
     clear hdd
     have HV : Hid (fenceP s.data.toList = (c, K, T.data.toList)) := Lib.hid (by rw [HV0.out, if_pos ⟨hc, h3, fun e => hin e.2⟩, HTT.out])
     rcases HC96.out with ⟨rfl, h⟩ | ⟨rfl, rfl, h⟩
     all_goals
     ·clear hin hc h h3 HC96
      go_enter Tryz.func101, Tryz.ntmps101
      go_wp2_with (first | (go_at_call 123; refine (HR.out _).mono ?_; rintro e w1 ⟨rfl, rfl⟩) | (go_at_call 126; refine (HCo.out _).mono ?_; rintro e w1 ⟨rfl, rfl⟩))
      go_region_held3 (fun _ => True) (trivial) (first | (go_at_call 129; refine (HT.out _).mono ?_; rintro e w2 ⟨rfl, hb2⟩) | (go_at_call 31; refine (HC.out _).mono ?_; rintro e w3 ⟨rfl, hb3⟩))
      all_goals
       go_wp2
       go_ret3
       rw [HV.out]
       exact ⟨ret_val (by unfold fenV; simp only; rw [ba_self]; rfl), by first | exact hb2.trans (hb3.mono hb2.size) | exact ((Below.refl _ _).drew.trans hb2).trans (hb3.mono hb2.size)⟩
   ·have h3' : (K : Int) < 3 := by omega
    have HV : Hid (fenceP s.data.toList = (0, 0, [])) := Lib.hid (by rw [HV0.out, if_neg (fun e => h3 e.2.1)])
    rcases HC96.out with ⟨rfl, h⟩ | ⟨rfl, rfl, h⟩
    all_goals
    ·clear hc h h3 HC96
     go_enter Tryz.func101, Tryz.ntmps101
     go_wp2_with (first | (go_at_call 123; refine (HR.out _).mono ?_; rintro e w1 ⟨rfl, rfl⟩))
     go_ret3
     rw [HV.out]
     exact ⟨rfl, Below.refl _ _⟩
  ·have HV : Hid (fenceP s.data.toList = (0, 0, [])) := Lib.hid (by rw [HV0.out, if_neg (fun e => hc e.1)])
   have f96 : (c == 96) = false := by rw [beq_eq_false_iff_ne]; exact fun e => hc (.inl e)
   have f126 : (c == 126) = false := by rw [beq_eq_false_iff_ne]; exact fun e => hc (.inr e)
   rw [f96] at e96 n96
   rw [f126] at n126
   clear hc f96 f126
   go_enter Tryz.func101, Tryz.ntmps101
   go_wp2
   go_ret3
   rw [HV.out]
   exact ⟨rfl, Below.refl _ _⟩
 ·have hn := nil_of h0
  have he := emp_true hn
  have HV : Hid (fenceP s.data.toList = (0, 0, [])) := Lib.hid (by rw [hn]; rfl)
  clear hn
  go_enter Tryz.func101, Tryz.ntmps101
  go_wp2
  go_ret3
  rw [HV.out]
  exact ⟨rfl, Below.refl _ _⟩
end Sc
end Go.Proofs.YtkiipaaaakhhfaaGreatDoor
end
section
namespace Go.Proofs.YtkiipaaaakhhfaaGreatDoor
open Go Go.RowKit
namespace Sc
set_option maxRecDepth 100000
set_option linter.unusedVariables false
set_option linter.unusedSimpArgs false
def lowB (c : UInt8) : UInt8 := if 65 ≤ c.toNat ∧ c.toNat ≤ 90 then c + 32 else c
def low (l : List UInt8) : List UInt8 := l.map lowB
theorem low_cons (c : UInt8) (t : List UInt8) : low (c :: t) = lowB c :: low t := rfl
theorem lowN : ∀ n : Nat, n < 128 → Tx.encN (Ks.sm n) = [lowB (UInt8.ofNat n)] := by decide +kernel
theorem encN_one {n : Nat} (h : n < 128) : Tx.encN n = [UInt8.ofNat n] := by unfold Tx.encN; rw [if_pos h]
theorem enc_toNat (l : List UInt8) (h : ∀ c ∈ l, c.toNat < 128) : Ks.enc (l.map (·.toNat)) = l := by
 induction l with
 | nil => rfl
 | cons c t ih =>
  rw [List.map_cons, Ks.enc_cons, ih (fun x hx => h x (by simp [hx])), encN_one (h c (by simp)), UInt8.ofNat_toNat]
  rfl
theorem fold_low (l : List UInt8) (h : ∀ c ∈ l, 0 < c.toNat ∧ c.toNat < 128) : Ks.fold l = low l := by
 have hv : Ks.AllV (l.map (·.toNat)) := by
  intro n hn
  obtain ⟨c, hc, rfl⟩ := List.mem_map.1 hn
  have := h c hc
  unfold Ks.Valid; omega
 have he := enc_toNat l (fun c hc => (h c hc).2)
 unfold Ks.fold
 conv => lhs; rw [← he]
 rw [Ks.runes_enc _ hv]
 clear hv he
 induction l with
 | nil => rfl
 | cons c t ih =>
  have hc := h c (by simp)
  rw [List.map_cons, Ks.foldRs_cons, Ks.enc_app, ih (fun x hx => h x (by simp [hx])), low_cons]
  have hf : Ks.foldN c.toNat = [Ks.sm c.toNat] := by unfold Ks.foldN; rw [if_neg (by omega)]
  rw [hf, Ks.enc_cons, lowN _ hc.2, UInt8.ofNat_toNat]
  rfl
theorem inN_range (c : UInt8) : inN c = true → 0 < c.toNat ∧ c.toNat < 128 ∧ c ≠ 60 := by
 have := all_u8 (p := fun c => !inN c || (decide (0 < c.toNat) && decide (c.toNat < 128) && !(c == 60))) (by decide +kernel) c
 intro h
 rw [h] at this
 simp at this
 exact ⟨this.1.1, this.1.2, this.2⟩
theorem letU_inN {c : UInt8} (h : letU c = true) : inN c = true := by unfold inN; rw [h]; rfl
theorem nameS_cons {c : UInt8} (t : List UInt8) (h : letU c = true) : nameS (c :: t) = (c :: t.takeWhile inN, t.dropWhile inN) := by
 unfold nameS
 have hn : name (c :: t) = some (t.dropWhile inN) := by simp [name, word, h]
 rw [hn]
 simp only [Prod.mk.injEq, and_true]
 have hl := congrArg List.length (List.takeWhile_append_dropWhile (p := inN) (l := t))
 rw [List.length_append] at hl
 have e : (c :: t).length - (t.dropWhile inN).length = (t.takeWhile inN).length + 1 := by simp only [List.length_cons]; omega
 rw [e, List.take_succ_cons]
 congr 1
 conv => lhs; arg 2; rw [← List.takeWhile_append_dropWhile (p := inN) (l := t)]
 exact List.take_left' rfl
theorem nameS_no {c : UInt8} (t : List UInt8) (h : letU c = false) : nameS (c :: t) = ([], c :: t) := by
 unfold nameS; rw [name_not t h]
theorem nameS_split (l : List UInt8) : (nameS l).1 ++ (nameS l).2 = l := by
 cases l with
 | nil => rfl
 | cons c t =>
  cases h : letU c with
  | true => rw [nameS_cons t h]; simp only [List.cons_append, List.takeWhile_append_dropWhile]
  | false => rw [nameS_no t h]; rfl
theorem nameS_in (l : List UInt8) : ∀ c ∈ (nameS l).1, inN c = true := by
 cases l with
 | nil => intro c hc; cases hc
 | cons c t =>
  cases h : letU c with
  | true =>
   rw [nameS_cons t h]
   intro x hx
   rcases List.mem_cons.1 hx with e | e
   ·rw [e]; exact letU_inN h
   ·exact takeWhile_all inN t x e
  | false => rw [nameS_no t h]; intro x hx; cases hx
theorem nameS_fold (l : List UInt8) : Ks.fold (nameS l).1 = low (nameS l).1 := fold_low _ (fun c hc => by
 have := inN_range c (nameS_in l c hc)
 exact ⟨this.1, this.2.1⟩)
theorem nameS_len (l : List UInt8) : (nameS l).1.length + (nameS l).2.length = l.length := by
 have := congrArg List.length (nameS_split l)
 rwa [List.length_append] at this
def rawsL : List (List UInt8) := [[115, 99, 114, 105, 112, 116], [112, 114, 101], [115, 116, 121, 108, 101], [116, 101, 120, 116, 97, 114, 101, 97]]
def blocksL : List (List UInt8) := [[97, 100, 100, 114, 101, 115, 115], [97, 114, 116, 105, 99, 108, 101], [97, 115, 105, 100, 101], [98, 97, 115, 101], [98, 97, 115, 101, 102, 111, 110, 116], [98, 108, 111, 99, 107, 113, 117, 111, 116, 101], [98, 111, 100, 121], [99, 97, 112, 116, 105, 111, 110], [99, 101, 110, 116, 101, 114], [99, 111, 108], [99, 111, 108, 103, 114, 111, 117, 112], [100, 100], [100, 101, 116, 97, 105, 108, 115], [100, 105, 97, 108, 111, 103], [100, 105, 114], [100, 105, 118], [100, 108], [100, 116], [102, 105, 101, 108, 100, 115, 101, 116], [102, 105, 103, 99, 97, 112, 116, 105, 111, 110], [102, 105, 103, 117, 114, 101], [102, 111, 111, 116, 101, 114], [102, 111, 114, 109], [102, 114, 97, 109, 101], [102, 114, 97, 109, 101, 115, 101, 116], [104, 49], [104, 50], [104, 51], [104, 52], [104, 53], [104, 54], [104, 101, 97, 100], [104, 101, 97, 100, 101, 114], [104, 114], [104, 116, 109, 108], [105, 102, 114, 97, 109, 101], [108, 101, 103, 101, 110, 100], [108, 105], [108, 105, 110, 107], [109, 97, 105, 110], [109, 101, 110, 117], [109, 101, 110, 117, 105, 116, 101, 109], [110, 97, 118], [110, 111, 102, 114, 97, 109, 101, 115], [111, 108], [111, 112, 116, 103, 114, 111, 117, 112], [111, 112, 116, 105, 111, 110], [112], [112, 97, 114, 97, 109], [115, 101, 97, 114, 99, 104], [115, 101, 99, 116, 105, 111, 110], [115, 117, 109, 109, 97, 114, 121], [116, 97, 98, 108, 101], [116, 98, 111, 100, 121], [116, 100], [116, 102, 111, 111, 116], [116, 104], [116, 104, 101, 97, 100], [116, 105, 116, 108, 101], [116, 114], [116, 114, 97, 99, 107], [117, 108]]
def headIs (r : List UInt8) (c : UInt8) : Bool := match r with
 | x :: _ => x == c
 | [] => false
def atG (r : List UInt8) : Bool := atE r || headIs r 62
def verP (l : List UInt8) : Bool := match sgn 60 l with
 | none => false
 | some t => rawsL.contains (low (nameS t).1) && atG (nameS t).2
def tailS (t : List UInt8) : List UInt8 := (sgn 47 t).getD t
def tagName (l : List UInt8) : List UInt8 × List UInt8 := match sgn 60 l with
 | none => ([], l)
 | some t => (low (nameS (tailS t)).1, (nameS (tailS t)).2)
def knownP (l : List UInt8) : Bool := blocksL.contains (tagName l).1 && (atG (tagName l).2 || Lib.hasPrefix (tagName l).2 [47, 62])
def otherP (l : List UInt8) : Bool := !(tagName l).1.isEmpty && !rawsL.contains (tagName l).1 && (decide (0 < tagN l) && (l.drop (tagN l)).all blk)
def isLet : Option UInt8 → Bool
 | some c => letU c
 | none => false
def declP (l : List UInt8) : Bool := Lib.hasPrefix l [60, 33] && isLet l[2]?
def htmlS (l : List UInt8) : Nat := if verP l = true then 1 else if Lib.hasPrefix l [60, 33, 45, 45] = true then 2 else if Lib.hasPrefix l [60, 63] = true then 3 else if declP l = true then 4
 else if Lib.hasPrefix l [60, 33, 91, 67, 68, 65, 84, 65, 91] = true then 5 else if knownP l = true then 6 else if otherP l = true then 7 else 0
def closeT (t : List UInt8) : Bool := rawsL.contains (low (nameS t).1) && headIs (nameS t).2 62
def closeV (d : List UInt8) : Bool := match sgn 60 d with
 | none => false
 | some u => match sgn 47 u with
  | none => false
  | some t => closeT t
def anyC : List UInt8 → Bool
 | [] => false
 | c :: t => closeV (c :: t) || anyC t
def endsP (l : List UInt8) (kind : Int) : Bool := if kind = 1 then anyC l else if kind = 2 then Lib.contains l [45, 45, 62] else if kind = 3 then Lib.contains l [63, 62] else if kind = 4 then Lib.contains l [62]
 else if kind = 5 then Lib.contains l [93, 93, 62] else if kind = 6 ∨ kind = 7 then l.all blk else false
theorem closeV_not {c : UInt8} (t : List UInt8) (h : c ≠ 60) : closeV (c :: t) = false := by unfold closeV; rw [sgn_no t h]
theorem anyC_skip (n r : List UInt8) (h : ∀ c ∈ n, c ≠ 60) : anyC (n ++ r) = anyC r := by
 induction n with
 | nil => rfl
 | cons c t ih =>
  rw [List.cons_append, anyC, closeV_not _ (h c (by simp)), Bool.false_or]
  exact ih (fun x hx => h x (by simp [hx]))
theorem closeV_two (t : List UInt8) : closeV (60 :: 47 :: t) = closeT t := by
 unfold closeV
 rw [sgn_self]
 simp only
 rw [sgn_self]
theorem pre_two (d : List UInt8) : ([60, 47] : List UInt8).isPrefixOf d = true ↔ ∃ t, d = 60 :: 47 :: t := by
 rw [List.isPrefixOf_iff_prefix]
 constructor
 ·rintro ⟨t, rfl⟩; exact ⟨t, rfl⟩
 ·rintro ⟨t, rfl⟩; exact ⟨t, rfl⟩
theorem closeV_pre {d : List UInt8} (h : ([60, 47] : List UInt8).isPrefixOf d = false) : closeV d = false := by
 unfold closeV
 cases h1 : sgn 60 d with
 | none => rfl
 | some u =>
  simp only
  cases h2 : sgn 47 u with
  | none => rfl
  | some t =>
   exfalso
   have e1 := sgn_some h1
   have e2 := sgn_some h2
   have := (pre_two d).2 ⟨t, by rw [e1, e2]⟩
   rw [this] at h; cases h
theorem cut_any : ∀ (S : List UInt8), ((Lib.cut S [60, 47]).2.2 = false ∧ anyC S = false) ∨
  ((Lib.cut S [60, 47]).2.2 = true ∧ (Lib.cut S [60, 47]).2.1.length + 2 ≤ S.length ∧ anyC S = (closeT (Lib.cut S [60, 47]).2.1 || anyC (Lib.cut S [60, 47]).2.1))
 | [] => .inl ⟨rfl, rfl⟩
 | c :: t => by
  cases hp : ([60, 47] : List UInt8).isPrefixOf (c :: t) with
  | true =>
   obtain ⟨u, hu⟩ := (pre_two _).1 hp
   right
   have hi : Lib.index (c :: t) [60, 47] = 0 := by unfold Lib.index; rw [if_pos hp]
   have hc : Lib.cut (c :: t) [60, 47] = ([], u, true) := by
    unfold Lib.cut
    rw [hi, hu]
    rfl
   rw [hc]
   refine ⟨rfl, by rw [hu]; simp, ?_⟩
   rw [hu, anyC, closeV_two, anyC, closeV_not _ (by decide), Bool.false_or]
  | false =>
   have hv := closeV_pre hp
   have ha : anyC (c :: t) = anyC t := by rw [anyC, hv, Bool.false_or]
   have hi : Lib.index (c :: t) [60, 47] = if Lib.index t [60, 47] == -1 then -1 else Lib.index t [60, 47] + 1 := by
    conv => lhs; unfold Lib.index
    rw [if_neg (by rw [hp]; simp)]
   have hge := Lib.index_ge t [60, 47]
   rcases cut_any t with ⟨h1, h2⟩ | ⟨h1, h2, h3⟩
   ·left
    have hneg : ¬ 0 ≤ Lib.index t [60, 47] := by
     intro h
     unfold Lib.cut at h1
     rw [if_pos h] at h1
     cases h1
    have e1 : Lib.index t [60, 47] = -1 := by omega
    rw [e1] at hi
    refine ⟨?_, by rw [ha, h2]⟩
    unfold Lib.cut
    rw [hi]
    rfl
   ·right
    have hpos : 0 ≤ Lib.index t [60, 47] := by
     rcases Int.lt_or_le (Lib.index t [60, 47]) 0 with h | h
     ·exfalso
      unfold Lib.cut at h1
      rw [if_neg (by omega)] at h1
      cases h1
     ·exact h
    have e1 : (Lib.index t [60, 47] == -1) = false := by rw [beq_eq_false_iff_ne]; omega
    rw [e1, if_neg (by simp)] at hi
    have hc : (Lib.cut (c :: t) [60, 47]).2 = (Lib.cut t [60, 47]).2 := by
     unfold Lib.cut
     rw [hi, if_pos hpos, if_pos (by omega)]
     have : (Lib.index t [60, 47] + 1).toNat = (Lib.index t [60, 47]).toNat + 1 := by omega
     rw [this]
     simp only
     congr 1
    rw [hc]
    refine ⟨h1, ?_, by rw [ha, h3]⟩
    simp only [List.length_cons]
    omega
theorem any_rest (t : List UInt8) : anyC t = anyC (nameS t).2 := by
 conv => lhs; rw [← nameS_split t]
 exact anyC_skip _ _ (fun c hc => (inN_range c (nameS_in t c hc)).2.2)
theorem contains_nil {t : List UInt8} (h : t ≠ []) : Lib.contains [] t = false := by
 cases t with
 | nil => exact absurd rfl h
 | cons _ _ => rfl
theorem contains_cons (b : UInt8) (l t : List UInt8) : Lib.contains (b :: l) t = (t.isPrefixOf (b :: l) || Lib.contains l t) := by
 unfold Lib.contains
 have hge := Lib.index_ge l t
 have hi : Lib.index (b :: l) t = if t.isPrefixOf (b :: l) then 0 else if Lib.index l t == -1 then -1 else Lib.index l t + 1 := by
  conv => lhs; unfold Lib.index
 rw [hi]
 cases hp : t.isPrefixOf (b :: l) with
 | true => rfl
 | false =>
  rw [if_neg (by simp), Bool.false_or]
  by_cases h : Lib.index l t = -1
  ·rw [h]; rfl
  ·have e : (Lib.index l t == -1) = false := by rw [beq_eq_false_iff_ne]; exact h
   rw [e, if_neg (by simp), decide_eq_decide]
   omega
end Sc
end Go.Proofs.YtkiipaaaakhhfaaGreatDoor
end
section
namespace Go.Proofs.YtkiipaaaakhhfaaGreatDoor
open Go Go.RowKit
namespace Sc
set_option maxRecDepth 100000
set_option linter.unusedVariables false
set_option linter.unusedSimpArgs false
attribute [local go_sem ↓] Go.wp_at_zero Go.wp_at_succ
theorem isVerbatim_any (s : ByteArray) (w : World) :
  Calls Tryz.prog 150 #[.string s] w fun e w' => e = .returned (.bool (rawsL.contains s.data.toList)) ∧ w = w' := by
 rw [← toList_eq]
 go_enter Tryz.func150, Tryz.ntmps150
 go_wp2
 all_goals go_ret
 all_goals refine ⟨ret_bool' ?_, rfl⟩
 all_goals simp only [rawsL, List.contains_cons, List.contains_nil, *, Bool.false_or, Bool.true_or, Bool.or_true, Bool.or_false]
 all_goals (exfalso; rename_i h1 h2; rw [h1] at h2; cases h2)
set_option maxHeartbeats 8000000 in
theorem isKnown_any (s : ByteArray) (w : World) :
  Calls Tryz.prog 156 #[.string s] w fun e w' => e = .returned (.bool (blocksL.contains s.data.toList)) ∧ w = w' := by
 rw [← toList_eq]
 go_enter Tryz.func156, Tryz.ntmps156
 go_wp2
 all_goals go_ret
 all_goals refine ⟨ret_bool' ?_, rfl⟩
 all_goals simp only [blocksL, List.contains_cons, List.contains_nil, *, Bool.false_or, Bool.true_or, Bool.or_true, Bool.or_false]
 all_goals (exfalso; rename_i h1 h2; rw [h1] at h2; cases h2)
def cutV (l : List UInt8) : Value := .tuple #[.string ⟨(low (nameS l).1).toArray⟩, .string ⟨(nameS l).2.toArray⟩]
theorem nameS_drop {s : ByteArray} {k : Nat} (hk : k ≤ s.size) (h : (name s.data.toList).getD s.data.toList = s.data.toList.drop k) : nameS s.data.toList = (s.data.toList.take k, s.data.toList.drop k) := by
 unfold nameS
 cases hn : name s.data.toList with
 | some r =>
  rw [hn, Option.getD_some] at h
  subst h
  simp only [Prod.mk.injEq, and_true]
  congr 1
  rw [List.length_drop, sz]; omega
 | none =>
  rw [hn, Option.getD_none] at h
  have : k = 0 ∨ s.size = 0 := by
   have := congrArg List.length h
   rw [List.length_drop, sz] at this
   omega
  have hk0 : k = 0 := by omega
  subst hk0
  simp
set_option maxHeartbeats 2000000 in
theorem cutName_any (s : ByteArray) (w : World) (hs : s.size ≤ 1000000) (hL : Ks.Laid w) :
  Calls Tryz.prog 149 #[.string s] w fun e w' => e = .returned (cutV s.data.toList) ∧ Below w.heap.size w w' := by
 have hRK : Hid (RK (w.alloc (.cells #[.string s, .int .i64 0] 159)) w.heap.size s 0) := Lib.hid (new_block _ _)
 have HL := Lib.hid hL
 clear hL
 go_enter Tryz.func149, Tryz.ntmps149
 go_wp2_with fail
 refine (does_name.2 _ w.heap.size s s.data.toList hs ⟨0, Nat.zero_le _, rfl, hRK.out⟩).mono ?_
 rintro e w1 ⟨rfl, h1, h2⟩
 obtain ⟨k, hk, hl, hr⟩ := h1
 have HN := Lib.hid (nameS_drop hk hl)
 have c0 := hr.c0
 have c1 := hr.c1
 have hb0 : Below w.heap.size w w1 := ((Below.refl _ w).alloc (Nat.le_refl _) _).trans (h2.below (Nat.le_refl _) (by rw [alloc_size]; omega))
 have hlt := hr.lt
 have HS0 : Hid (∀ W, Below w1.heap.size w1 W → W.cell? ⟨w.heap.size, 1, none⟩ = some (.int .i64 (k : Int)) ∧ W.cell? ⟨w.heap.size, 0, none⟩ = some (.string s)) := Lib.hid (fun W hW => ⟨by rw [hW.cell (p := ⟨w.heap.size, 1, none⟩) hlt]; exact c1, by rw [hW.cell (p := ⟨w.heap.size, 0, none⟩) hlt]; exact c0⟩)
 have HF : Hid (∀ W, Below w1.heap.size w1 W → Calls Tryz.prog 165 #[.string (s.extract 0 k)] W fun e w' => e = .returned (.string ⟨(low (nameS s.data.toList).1).toArray⟩) ∧ Below w1.heap.size w1 w') := Lib.hid (fun W hW => by
  have hz : (s.extract 0 k).size ≤ 100000000 := by simp; omega
  have := Ks.fold_any (s.extract 0 k) W hz ((HL.out.below hb0).below hW)
  rw [ext_to] at this
  have e2 : s.data.toList.take k = (nameS s.data.toList).1 := by rw [HN.out]
  rw [e2, nameS_fold] at this
  exact this.mono fun e w' ⟨h1, h2⟩ => ⟨h1, hW.trans (h2.mono hW.size)⟩)
 have HE : Hid ((⟨(nameS s.data.toList).2.toArray⟩ : ByteArray) = s.extract k s.size) := Lib.hid (by rw [HN.out]; exact (ba_eq (by rw [ext_rest])).symm)
 have HB := Lib.hid hb0
 have hk' : (k : Int) ≤ (s.size : Int) := by omega
 have hk0 : (0 : Int) ≤ (k : Int) := by omega
 obtain ⟨N, hN⟩ : ∃ N : ByteArray, (⟨(low (nameS s.data.toList).1).toArray⟩ : ByteArray) = N := ⟨_, rfl⟩
 rw [hN] at HF
 have HNN := Lib.hid hN
 clear hl hr h2 hb0 hlt HN HL hRK hN
 go_wp2_with fail
 go_region_held3 (fun W => W.cell? ⟨w.heap.size, 1, none⟩ = some (.int .i64 (k : Int)) ∧ W.cell? ⟨w.heap.size, 0, none⟩ = some (.string s)) (first | exact HS0.out _ (Below.refl _ _).drew | exact HS0.out _ hb5) ((go_at_call 165; refine (HF.out _ (Below.refl _ _).drew).mono ?_; rintro e w5 ⟨rfl, hb5⟩))
 all_goals
  go_wp2
  go_ret2
  exact ⟨ret_val (by unfold cutV; rw [HE.out, HNN.out]; rfl), HB.out.trans (hb5.mono HB.out.size)⟩
theorem cutP_pre (c : UInt8) (l : List UInt8) : Lib.hasPrefix l [c] = (sgn c l).isSome ∧ Lib.trimPrefix l [c] = (sgn c l).getD l := by
 cases l with
 | nil => exact ⟨rfl, rfl⟩
 | cons x t =>
  by_cases h : x = c
  ·subst h
   rw [sgn_self]
   have : Lib.hasPrefix (x :: t) [x] = true := by simp [Lib.hasPrefix]
   refine ⟨this, ?_⟩
   unfold Lib.trimPrefix
   rw [if_pos this]; rfl
  ·rw [sgn_no t h]
   have : Lib.hasPrefix (x :: t) [c] = false := by
    unfold Lib.hasPrefix
    rw [List.isPrefixOf_cons_cons]
    have : (c == x) = false := by rw [beq_eq_false_iff_ne]; exact Ne.symm h
    rw [this]; rfl
   refine ⟨this, ?_⟩
   unfold Lib.trimPrefix
   rw [if_neg (by rw [this]; simp)]; rfl
theorem cutPre_any (s : ByteArray) (c : UInt8) (w : World) :
  Calls Tryz.prog 28 #[.string s, .string ⟨#[c]⟩] w fun e w' => e = .returned (.tuple #[.string ⟨((sgn c s.data.toList).getD s.data.toList).toArray⟩, .bool (sgn c s.data.toList).isSome]) ∧ w = w' := by
 have := Tryz.strings_CutPrefix s ⟨#[c]⟩ w
 rw [show (⟨#[c]⟩ : ByteArray).data.toList = [c] from rfl, (cutP_pre c _).1, (cutP_pre c _).2] at this
 exact this.mono fun _ _ ⟨a, b⟩ => ⟨a, b.symm⟩
theorem trimPre_any (s : ByteArray) (c : UInt8) (w : World) :
  Calls Tryz.prog 171 #[.string s, .string ⟨#[c]⟩] w fun e w' => e = .returned (.string ⟨((sgn c s.data.toList).getD s.data.toList).toArray⟩) ∧ w = w' := by
 have := Tryz.strings_TrimPrefix s ⟨#[c]⟩ w
 rw [show (⟨#[c]⟩ : ByteArray).data.toList = [c] from rfl, (cutP_pre c _).2] at this
 exact this.mono fun _ _ ⟨a, b⟩ => ⟨a, b.symm⟩
theorem pre_any (s p : ByteArray) (w : World) :
  Calls Tryz.prog 30 #[.string s, .string p] w fun e w' => e = .returned (.bool (Lib.hasPrefix s.data.toList p.data.toList)) ∧ w = w' :=
 (Tryz.strings_HasPrefix s p w).mono fun _ _ ⟨a, b⟩ => ⟨a, b.symm⟩
theorem sgn_size {s T : ByteArray} {c : UInt8} (h : (sgn c s.data.toList).getD s.data.toList = T.data.toList) : T.size ≤ s.size := by
 rw [← sz, ← sz, ← h]
 cases hs : sgn c s.data.toList with
 | none => exact Nat.le_refl _
 | some r => rw [sgn_some hs, Option.getD_some]; simp
theorem cut_at {s N R : ByteArray} (h1 : low (nameS s.data.toList).1 = N.data.toList) (h2 : (nameS s.data.toList).2 = R.data.toList) (w : World) (hs : s.size ≤ 1000000) (hL : Ks.Laid w) :
  Calls Tryz.prog 149 #[.string s] w fun e w' => e = .returned (.tuple #[.string N, .string R]) ∧ Below w.heap.size w w' := by
 have := cutName_any s w hs hL
 unfold cutV at this
 rw [h1, h2, ba_self, ba_self] at this
 exact this
theorem cut_size {s R : ByteArray} (h2 : (nameS s.data.toList).2 = R.data.toList) : R.size ≤ s.size := by
 have := nameS_len s.data.toList
 rw [h2, sz, sz] at this
 omega
theorem cutTag_any {s N R : ByteArray} (h1 : (tagName s.data.toList).1 = N.data.toList) (h2 : (tagName s.data.toList).2 = R.data.toList) (w : World) (hs : s.size ≤ 1000000) (hL : Ks.Laid w) :
  Calls Tryz.prog 155 #[.string s] w fun e w' => e = .returned (.tuple #[.string N, .string R]) ∧ Below w.heap.size w w' := by
 obtain ⟨T, hT⟩ := ba_mk ((sgn 60 s.data.toList).getD s.data.toList)
 have HC := Lib.hid (fun w => cutPre_any s 60 w)
 rw [hT, ba_self] at HC
 have hTs := sgn_size hT
 obtain ⟨U, hU⟩ := ba_mk ((sgn 47 T.data.toList).getD T.data.toList)
 have HT := Lib.hid (fun w => trimPre_any T 47 w)
 rw [hU, ba_self] at HT
 have hUs := sgn_size hU
 cases hs60 : sgn 60 s.data.toList with
 | none =>
  have HN : Hid (N = ByteArray.empty) := Lib.hid (by unfold tagName at h1; rw [hs60] at h1; exact ba_eq h1.symm)
  have HR : Hid (R = s) := Lib.hid (by unfold tagName at h2; rw [hs60] at h2; rw [ba_eq h2.symm, ba_self])
  rw [hs60] at HC
  clear h1 h2 hs60 hT hU
  go_enter Tryz.func155, Tryz.ntmps155
  go_wp2_with fail
  refine (HC.out _).mono ?_
  rintro e w1 ⟨rfl, rfl⟩
  go_wp2
  go_ret2
  rw [HN.out, HR.out]
  exact ⟨rfl, Below.refl _ _⟩
 | some t =>
  rw [hs60, Option.getD_some] at hT
  have e1 : low (nameS U.data.toList).1 = N.data.toList := by
   rw [← h1]; unfold tagName; rw [hs60]; simp only; unfold tailS; rw [hT, hU]
  have e2 : (nameS U.data.toList).2 = R.data.toList := by
   rw [← h2]; unfold tagName; rw [hs60]; simp only; unfold tailS; rw [hT, hU]
  have HCut := Lib.hid (cut_at e1 e2 w (by omega) hL)
  rw [hs60] at HC
  clear h1 h2 hs60 hT hU e1 e2
  go_enter Tryz.func155, Tryz.ntmps155
  go_wp2_with fail
  refine (HC.out _).mono ?_
  rintro e w1 ⟨rfl, rfl⟩
  go_wp2_with fail
  refine (HT.out _).mono ?_
  rintro e w1 ⟨rfl, rfl⟩
  go_wp2_with fail
  refine HCut.out.mono ?_
  rintro e w1 ⟨rfl, hb⟩
  go_wp2
  go_ret2
  exact ⟨rfl, hb⟩
theorem headIs_at {R : ByteArray} (h0 : 0 < R.size) (h : atE R.data.toList = false) : ∃ c, (∃ h : 0 < R.size, R[0] = c) ∧ headIs R.data.toList 62 = (c == 62) := by
 obtain ⟨c, t, hd, hck, ht, hsz⟩ := cons_of h0
 exact ⟨c, ⟨h0, hck⟩, by rw [hd]; rfl⟩
theorem atE_pos {R : ByteArray} (h : atE R.data.toList = false) : 0 < R.size := by
 rcases Nat.eq_zero_or_pos R.size with e | e
 ·rw [nil_of (by omega)] at h; cases h
 ·exact e
set_option maxHeartbeats 1000000 in
theorem begVer_any (s : ByteArray) (w : World) (hs : s.size ≤ 1000000) (hL : Ks.Laid w) :
  Calls Tryz.prog 132 #[.string s] w fun e w' => e = .returned (.bool (verP s.data.toList)) ∧ Below w.heap.size w w' := by
 obtain ⟨T, hT⟩ := ba_mk ((sgn 60 s.data.toList).getD s.data.toList)
 have HC := Lib.hid (fun w => cutPre_any s 60 w)
 rw [hT, ba_self] at HC
 have hTs := sgn_size hT
 cases hs60 : sgn 60 s.data.toList with
 | none =>
  have HV : Hid (verP s.data.toList = false) := Lib.hid (by unfold verP; rw [hs60])
  rw [hs60] at HC
  clear hs60 hT
  go_enter Tryz.func132, Tryz.ntmps132
  go_wp2_with fail
  refine (HC.out _).mono ?_
  rintro e w1 ⟨rfl, rfl⟩
  go_wp2
  go_ret
  rw [HV.out]
  exact ⟨rfl, Below.refl _ _⟩
 | some t =>
  rw [hs60, Option.getD_some] at hT
  obtain ⟨N, hN⟩ := ba_mk (low (nameS T.data.toList).1)
  obtain ⟨R, hR⟩ := ba_mk (nameS T.data.toList).2
  have HV : Hid (verP s.data.toList = (rawsL.contains N.data.toList && (atE R.data.toList || headIs R.data.toList 62))) := Lib.hid (by unfold verP; rw [hs60]; simp only; rw [hT, hN, hR]; rfl)
  have HCut := Lib.hid (cut_at hN hR w (by omega) hL)
  have HI := Lib.hid (isVerbatim_any N)
  have HA := Lib.hid (atEnd_any R)
  rw [hs60] at HC
  clear hs60 hT hN hR
  have HP : Hid (atE R.data.toList = false → ∃ c, (∃ h : 0 < R.size, R[0] = c) ∧ headIs R.data.toList 62 = (c == 62)) := Lib.hid (fun h => headIs_at (atE_pos h) h)
  generalize rawsL.contains N.data.toList = b1 at *
  generalize atE R.data.toList = b2 at *
  cases b1 with
  | false =>
   go_enter Tryz.func132, Tryz.ntmps132
   go_wp2_with fail
   refine (HC.out _).mono ?_
   rintro e w1 ⟨rfl, rfl⟩
   go_wp2_with fail
   refine HCut.out.mono ?_
   rintro e w1 ⟨rfl, hb⟩
   go_wp2_with fail
   refine (HI.out _).mono ?_
   rintro e w2 ⟨rfl, rfl⟩
   go_wp2
   go_ret
   rw [HV.out]
   exact ⟨rfl, hb⟩
  | true =>
  cases b2 with
  | true =>
   go_enter Tryz.func132, Tryz.ntmps132
   go_wp2_with fail
   refine (HC.out _).mono ?_
   rintro e w1 ⟨rfl, rfl⟩
   go_wp2_with fail
   refine HCut.out.mono ?_
   rintro e w1 ⟨rfl, hb⟩
   go_wp2_with fail
   refine (HI.out _).mono ?_
   rintro e w2 ⟨rfl, rfl⟩
   go_wp2_with fail
   refine (HA.out _).mono ?_
   rintro e w2 ⟨rfl, rfl⟩
   go_wp2
   go_ret
   rw [HV.out]
   exact ⟨rfl, hb⟩
  | false =>
   obtain ⟨c, ⟨h0, hck⟩, hh⟩ := HP.out rfl
   have hr0 : (0 : Int) < (R.size : Int) := by omega
   have e62 : ((c.toNat : Int) == 62) = (c == 62) := eq_u8 c 62 (by decide)
   rw [hh] at HV
   clear hh HP
   generalize (c == 62) = b3 at *
   cases b3 <;>
   ·go_enter Tryz.func132, Tryz.ntmps132
    go_wp2_with fail
    refine (HC.out _).mono ?_
    rintro e w1 ⟨rfl, rfl⟩
    go_wp2_with fail
    refine HCut.out.mono ?_
    rintro e w1 ⟨rfl, hb⟩
    go_wp2_with fail
    refine (HI.out _).mono ?_
    rintro e w2 ⟨rfl, rfl⟩
    go_wp2_with fail
    refine (HA.out _).mono ?_
    rintro e w2 ⟨rfl, rfl⟩
    go_wp2
    go_ret
    rw [HV.out]
    exact ⟨rfl, hb⟩
end Sc
end Go.Proofs.YtkiipaaaakhhfaaGreatDoor
end
