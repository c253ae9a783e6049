/- Walks of layer 8, the sixth part: the reference's value, attribute, Tag. -/
import Derived.Test.YtapibalcekedfaaGreatDoorScE
namespace Go.Proofs.YtapibalcekedfaaGreatDoor
open Go Go.RowKit
namespace Sc
set_option maxRecDepth 100000
set_option linter.unusedVariables false
set_option linter.unusedSimpArgs false

/-- Up to the next sign. -/
def qF (x : UInt8) (d : List UInt8) : Option (List UInt8) := if x ∈ d then some ((d.dropWhile (fun y => y != x)).drop 1) else none
theorem qF_nil (x : UInt8) : qF x [] = none := by simp [qF]
theorem qF_hit (x : UInt8) (d : List UInt8) : qF x (x :: d) = some d := by simp [qF]
theorem qF_miss {x c : UInt8} (d : List UInt8) (h : c ≠ x) : qF x (c :: d) = qF x d := by
  have h2 : (c != x) = true := by simpa using h
  have hm : x ∈ c :: d ↔ x ∈ d := by simp [Ne.symm h]
  unfold qF
  by_cases hx : x ∈ d
  · rw [if_pos (hm.2 hx), if_pos hx]
    simp only [List.dropWhile, h2]
  · rw [if_neg (fun e => hx (hm.1 e)), if_neg hx]
theorem quo_q (x : UInt8) (t : List UInt8) : quo x (x :: t) = qF x t := by simp [quo, qF]
theorem quo_miss {x c : UInt8} (t : List UInt8) (h : c ≠ x) : quo x (c :: t) = none := by simp [quo, h]

theorem value_q {x : UInt8} (t : List UInt8) (h : x = 34 ∨ x = 39) : value (x :: t) = qF x t := by
  have hb : bareB x = false := by rcases h with rfl | rfl <;> decide
  unfold value
  have : bare (x :: t) = none := by simp [bare, word, hb]
  rw [this]
  rcases h with rfl | rfl
  · rw [quo_miss t (by decide), quo_q]
  · rw [quo_q]
    cases qF 39 t with
    | some r => rfl
    | none => rw [quo_miss t (by decide)]
theorem value_b {c : UInt8} (t : List UInt8) (h1 : c ≠ 34) (h2 : c ≠ 39) : value (c :: t) = if bareB c = true then some (t.dropWhile bareB) else none := by
  unfold value
  by_cases hb : bareB c = true
  · have : bare (c :: t) = some (t.dropWhile bareB) := by simp [bare, word, hb]
    rw [this, if_pos hb]
  · have : bare (c :: t) = none := by simp [bare, word, hb]
    rw [this, quo_miss t h2, quo_miss t h1, if_neg hb]
theorem value_n : value [] = none := rfl
theorem ret_sb {a b : ByteArray} {x y : Bool} (h1 : a = b) (h2 : x = y) : Ending.returned (.tuple #[.string a, .bool x]) = .returned (.tuple #[.string b, .bool y]) := by rw [h1, h2]
/-- What is left of what may stand without quotes. -/
def bareL (l : List UInt8) : List UInt8 := l.dropWhile bareB
theorem bare_stop {s : ByteArray} {m : Nat} (hm : m ≤ s.size) (hq : ∀ c t, s.data.toList = c :: t → c ≠ 34 ∧ c ≠ 39) (h : s.data.toList.drop m = bareL s.data.toList) :
    (value s.data.toList).getD s.data.toList = s.data.toList.drop m ∧ (value s.data.toList).isSome = decide (0 < m) := by
  cases hl : s.data.toList with
  | nil =>
    have : s.size = 0 := by rw [← sz, hl]; rfl
    obtain rfl : m = 0 := by omega
    exact ⟨rfl, rfl⟩
  | cons c t =>
    obtain ⟨q1, q2⟩ := hq c t hl
    rw [hl] at h
    rw [value_b t q1 q2]
    by_cases hb : bareB c = true
    · rw [if_pos hb]
      unfold bareL at h
      simp only [List.dropWhile, hb] at h
      refine ⟨h.symm, ?_⟩
      have : 0 < m := by
        rcases Nat.eq_zero_or_pos m with e | e
        · subst e
          have h1 := congrArg List.length h
          have h2 := dropWhile_len bareB t
          simp only [List.drop_zero, List.length_cons] at h1
          omega
        · exact e
      rw [decide_eq_true (show 0 < m by omega)]; rfl
    · rw [if_neg hb]
      have hb' : bareB c = false := by simpa using hb
      unfold bareL at h
      simp only [List.dropWhile, hb'] at h
      have : m = 0 := by
        have h1 := congrArg List.length h
        rw [List.length_drop] at h1
        simp only [List.length_cons] at h1
        omega
      subst this
      exact ⟨rfl, rfl⟩

set_option maxHeartbeats 8000000 in
theorem rvalue_any (s : ByteArray) (w : World) (hs : s.size ≤ 1000000) :
    Calls Tryz.prog 82 #[.string s] w fun e w' => e = .returned (.tuple #[.string ⟨((value s.data.toList).getD s.data.toList).toArray⟩, .bool (value s.data.toList).isSome]) ∧ Below w.heap.size w w' := by
  have HWw := Lib.hid does_rwhite.2
  by_cases hq : ∃ x t, s.data.toList = x :: t ∧ (x = 34 ∨ x = 39)
  · obtain ⟨x, t, hl, hx⟩ := hq
    have h0 : 0 < s.size := by rw [← sz, hl]; simp
    obtain ⟨c, t', hd, hck, ht, hsz⟩ := cons_of h0
    have hcx : c = x ∧ t' = t := by rw [hd] at hl; simpa using hl
    obtain ⟨rfl, rfl⟩ := hcx
    have he := emp_false h0
    have HV : Hid (value s.data.toList = qF c (s.data.toList.drop 1)) := Lib.hid (by rw [hd, value_q t' hx]; rfl)
    have hsz0 : (0 : Int) < (s.size : Int) := by omega
    have h34 : ((c.toNat : Int) == 34) = (c == 34) := eq_u8 c 34 (by decide)
    have h39 : ((c.toNat : Int) == 39) = (c == 39) := eq_u8 c 39 (by decide)
    have HX : Hid ((c == 34) = true ∨ (c == 34) = false ∧ (c == 39) = true) := Lib.hid (by rcases hx with rfl | rfl <;> decide)
    clear hd hl ht hsz hx
    go_enter Tryz.func82, Tryz.ntmps82
    generalize (c == 34) = y at *
    generalize (c == 39) = z at *
    rcases HX.out with rfl | ⟨rfl, rfl⟩
    all_goals
    · go_wp2_with fail
      go_loopg [4] (s.size - 1) (fun G v4 wr => ∃ m : Nat, 1 ≤ m ∧ m + G = s.size ∧ v4 = .int .i64 (m : Int) ∧ Hid (∃ n, wr = w.drewN n) ∧ Hid (value s.data.toList = qF c (s.data.toList.drop m)))
      case atStart => exact ⟨1, by omega, by omega, rfl, Lib.hid ⟨0, rfl⟩, HV⟩
      case round =>
        obtain ⟨m, hm1, hm2, rfl, HN, HR⟩ := hrel
        obtain ⟨n, rfl⟩ := HN.out
        by_cases hlt : m < s.size
        · obtain ⟨c2, t2, hd2, hck2, ht2⟩ := cons_at hlt
          have hlt' : (m : Int) < (s.size : Int) := by omega
          have hle' : (m : Int) + 1 ≤ (s.size : Int) := by omega
          by_cases hc : c2 = c
          · have HF : Hid (value s.data.toList = some (s.data.toList.drop (m + 1))) := Lib.hid (by rw [HR.out, hd2, hc, qF_hit, ht2])
            have he2 : ((c2.toNat : Int) == (c.toNat : Int)) = true := by rw [hc]; simp
            have HG : Hid (s.extract (m + 1) s.size = ⟨(s.data.toList.drop (m + 1)).toArray⟩) := Lib.hid (ba_eq (ext_rest s (m + 1)))
            clear hd2 ht2 hc
            go_wp2_with fail
            go_quiet (fail)
            go_wp2
            go_ret2
            rw [HF.out]
            exact ⟨ret_sb HG.out rfl, ⟨rfl, rfl, rfl, Nat.le_refl _, fun _ _ => rfl⟩⟩
          · have HF : Hid (value s.data.toList = qF c (s.data.toList.drop (m + 1))) := Lib.hid (by rw [HR.out, hd2, qF_miss t2 hc, ht2])
            have he2 : ((c2.toNat : Int) == (c.toNat : Int)) = false := by
              rw [beq_eq_false_iff_ne]
              intro e
              exact hc (UInt8.toNat_inj.1 (Int.ofNat.inj e))
            clear hd2 ht2 hc
            go_wp2_with fail
            go_quiet (fail)
            go_wp2
            go_roundg (gk - 1)
            case rel => exact ⟨m + 1, by omega, by omega, by go_num, Lib.hid ⟨n + nq, rfl⟩, HF⟩
            case measure => omega
        · have hlt' : ¬ (m : Int) < (s.size : Int) := by omega
          have HF : Hid (value s.data.toList = none) := Lib.hid (by rw [HR.out, drop_all (by omega), qF_nil])
          go_wp2
          go_ret2
          rw [HF.out]
          exact ⟨ret_sb (ba_self s).symm rfl, ⟨rfl, rfl, rfl, Nat.le_refl _, fun _ _ => rfl⟩⟩
  · have HQ : Hid (∀ c t, s.data.toList = c :: t → c ≠ 34 ∧ c ≠ 39) := Lib.hid (fun c t h => ⟨fun e => hq ⟨c, t, h, .inl e⟩, fun e => hq ⟨c, t, h, .inr e⟩⟩)
    clear hq
    have FIN : Hid (∀ m, m ≤ s.size → s.data.toList.drop m = bareL s.data.toList → (⟨((value s.data.toList).getD s.data.toList).toArray⟩ : ByteArray) = s.extract m s.size ∧ (value s.data.toList).isSome = decide (0 < m)) := Lib.hid (fun m hm h => by
      obtain ⟨e1, e2⟩ := bare_stop hm HQ.out h
      exact ⟨(ba_eq (by rw [ext_rest, e1])).symm, e2⟩)
    by_cases h0 : 0 < s.size
    · obtain ⟨c, t, hd, hck, ht, hsz⟩ := cons_of h0
      obtain ⟨q1, q2⟩ := HQ.out c t hd
      have he := emp_false h0
      have hsz0 : (0 : Int) < (s.size : Int) := by omega
      have h34 : ((c.toNat : Int) == 34) = false := u8_ne (n := 34) (by decide) q1
      have h39 : ((c.toNat : Int) == 39) = false := u8_ne (n := 39) (by decide) q2
      clear hd ht hsz q1 q2
      go_enter Tryz.func82, Tryz.ntmps82
      go_wp2_with fail
      go_loopg [5] s.size (fun G v5 wr => ∃ m : Nat, m + G = s.size ∧ v5 = .int .i64 (m : Int) ∧ w = wr ∧ Hid (bareL (s.data.toList.drop m) = bareL s.data.toList))
      case atStart => exact ⟨0, by omega, rfl, rfl, Lib.hid rfl⟩
      case round =>
        obtain ⟨m, hm2, rfl, rfl, HR⟩ := hrel
        clear hck h34 h39
        have hml : (m : Int) ≤ (s.size : Int) := by omega
        by_cases hlt : m < s.size
        · obtain ⟨c2, t2, hd2, hck2, ht2⟩ := cons_at hlt
          have hlt' : (m : Int) < (s.size : Int) := by omega
          have HA := Lib.hid (HWw.out c2 w)
          have h34 : ((c2.toNat : Int) != 34) = !(c2 == 34) := by have : ((c2.toNat : Int) == 34) = (c2 == 34) := eq_u8 c2 34 (by decide); unfold bne; rw [this]
          have h39 : ((c2.toNat : Int) != 39) = !(c2 == 39) := by have : ((c2.toNat : Int) == 39) = (c2 == 39) := eq_u8 c2 39 (by decide); unfold bne; rw [this]
          have h61 : ((c2.toNat : Int) != 61) = !(c2 == 61) := by have : ((c2.toNat : Int) == 61) = (c2 == 61) := eq_u8 c2 61 (by decide); unfold bne; rw [this]
          have h60 : ((c2.toNat : Int) != 60) = !(c2 == 60) := by have : ((c2.toNat : Int) == 60) = (c2 == 60) := eq_u8 c2 60 (by decide); unfold bne; rw [this]
          have h62 : ((c2.toNat : Int) != 62) = !(c2 == 62) := by have : ((c2.toNat : Int) == 62) = (c2 == 62) := eq_u8 c2 62 (by decide); unfold bne; rw [this]
          have h96 : ((c2.toNat : Int) != 96) = !(c2 == 96) := by have : ((c2.toNat : Int) == 96) = (c2 == 96) := eq_u8 c2 96 (by decide); unfold bne; rw [this]
          have HE : Hid (bareB c2 = (!wht c2 && !(c2 == 34 || c2 == 39 || c2 == 61 || c2 == 60 || c2 == 62 || c2 == 96))) := Lib.hid (eq_of_beq (all_u8 (p := fun c2 => bareB c2 == (!wht c2 && !(c2 == 34 || c2 == 39 || c2 == 61 || c2 == 60 || c2 == 62 || c2 == 96))) (by decide +kernel) c2))
          have HY : Hid (bareB c2 = true → bareL (s.data.toList.drop (m + 1)) = bareL s.data.toList) := Lib.hid (fun h => by rw [← HR.out, hd2, ht2]; simp [bareL, List.dropWhile, h])
          have HN : Hid (bareB c2 = false → s.data.toList.drop m = bareL s.data.toList) := Lib.hid (fun h => by rw [← HR.out, hd2]; simp [bareL, List.dropWhile, h])
          clear hd2 ht2
          generalize wht c2 = x at *
          generalize (c2 == 34) = y34 at *
          generalize (c2 == 39) = y39 at *
          generalize (c2 == 61) = y61 at *
          generalize (c2 == 60) = y60 at *
          generalize (c2 == 62) = y62 at *
          generalize (c2 == 96) = y96 at *
          cases x with
          | true =>
            have HF := Lib.hid (FIN.out m (by omega) (HN.out (by rw [HE.out]; simp)))
            go_wp2_with (first | (go_at_call 83; refine HA.out.mono ?_; rintro e w' ⟨rfl, rfl⟩))
            go_ret2
            rw [HF.out.1, HF.out.2]
            exact ⟨ret_sb rfl rfl, Below.refl _ _⟩
          | false =>
          cases y34 with
          | true =>
            have HF := Lib.hid (FIN.out m (by omega) (HN.out (by rw [HE.out]; simp)))
            go_wp2_with (first | (go_at_call 83; refine HA.out.mono ?_; rintro e w' ⟨rfl, rfl⟩))
            go_ret2
            rw [HF.out.1, HF.out.2]
            exact ⟨ret_sb rfl rfl, Below.refl _ _⟩
          | false =>
          cases y39 with
          | true =>
            have HF := Lib.hid (FIN.out m (by omega) (HN.out (by rw [HE.out]; simp)))
            go_wp2_with (first | (go_at_call 83; refine HA.out.mono ?_; rintro e w' ⟨rfl, rfl⟩))
            go_ret2
            rw [HF.out.1, HF.out.2]
            exact ⟨ret_sb rfl rfl, Below.refl _ _⟩
          | false =>
          cases y61 with
          | true =>
            have HF := Lib.hid (FIN.out m (by omega) (HN.out (by rw [HE.out]; simp)))
            go_wp2_with (first | (go_at_call 83; refine HA.out.mono ?_; rintro e w' ⟨rfl, rfl⟩))
            go_ret2
            rw [HF.out.1, HF.out.2]
            exact ⟨ret_sb rfl rfl, Below.refl _ _⟩
          | false =>
          cases y60 with
          | true =>
            have HF := Lib.hid (FIN.out m (by omega) (HN.out (by rw [HE.out]; simp)))
            go_wp2_with (first | (go_at_call 83; refine HA.out.mono ?_; rintro e w' ⟨rfl, rfl⟩))
            go_ret2
            rw [HF.out.1, HF.out.2]
            exact ⟨ret_sb rfl rfl, Below.refl _ _⟩
          | false =>
          cases y62 with
          | true =>
            have HF := Lib.hid (FIN.out m (by omega) (HN.out (by rw [HE.out]; simp)))
            go_wp2_with (first | (go_at_call 83; refine HA.out.mono ?_; rintro e w' ⟨rfl, rfl⟩))
            go_ret2
            rw [HF.out.1, HF.out.2]
            exact ⟨ret_sb rfl rfl, Below.refl _ _⟩
          | false =>
          cases y96 with
          | true =>
            have HF := Lib.hid (FIN.out m (by omega) (HN.out (by rw [HE.out]; simp)))
            go_wp2_with (first | (go_at_call 83; refine HA.out.mono ?_; rintro e w' ⟨rfl, rfl⟩))
            go_ret2
            rw [HF.out.1, HF.out.2]
            exact ⟨ret_sb rfl rfl, Below.refl _ _⟩
          | false =>
            go_wp2_with (first | (go_at_call 83; refine HA.out.mono ?_; rintro e w' ⟨rfl, rfl⟩))
            go_roundg (gk - 1)
            case rel => exact ⟨m + 1, by omega, by go_num, rfl, Lib.hid (HY.out (by rw [HE.out]; rfl))⟩
            case measure => omega
        · have hlt' : ¬ (m : Int) < (s.size : Int) := by omega
          have HF := Lib.hid (FIN.out m (by omega) (by rw [← HR.out, drop_all (by omega)]; rfl))
          go_wp2
          go_ret2
          rw [HF.out.1, HF.out.2]
          exact ⟨ret_sb rfl rfl, Below.refl _ _⟩
    · have he := nil_of h0
      have HV : Hid (value s.data.toList = none) := Lib.hid (by rw [he]; rfl)
      obtain rfl : s = ByteArray.empty := ba_eq he
      clear h0 he
      go_enter Tryz.func82, Tryz.ntmps82
      go_wp2_with fail
      go_loopg [5] 0 (fun G v5 wr => v5 = .int .i64 0 ∧ w = wr)
      case atStart => exact ⟨rfl, rfl⟩
      case round =>
        obtain ⟨rfl, rfl⟩ := hrel
        go_wp2
        go_ret2
        rw [HV.out]
        exact ⟨rfl, Below.refl _ _⟩
end Sc
end Go.Proofs.YtapibalcekedfaaGreatDoor
