/- Walks of layer 8, the seventh part: the reference's attribute. -/
import Derived.Test.YtapibalcekedfaaGreatDoorScF
namespace Go.Proofs.YtapibalcekedfaaGreatDoor
open Go Go.RowKit
namespace Sc
set_option maxRecDepth 100000
set_option linter.unusedVariables false
set_option linter.unusedSimpArgs false

theorem emp_true {S : ByteArray} (h : S.data.toList = []) : S.toList.isEmpty = true := by rw [toList_eq, h]; rfl
theorem rskip_at {s S : ByteArray} (hS : S.data.toList = gap s.data.toList) (w : World) (hs : s.size ≤ 1000000) :
    Calls Tryz.prog 56 #[.string s] w fun e w' => e = .returned (.string S) ∧ w = w' := by
  have := rskip_any s w hs
  rw [← hS, ba_self] at this
  exact this
theorem gap_size {s S : ByteArray} (hS : S.data.toList = gap s.data.toList) : S.size ≤ s.size := by
  rw [← sz, ← sz, hS]; exact gap_len _
theorem gap_mk (s : ByteArray) : ∃ S : ByteArray, S.data.toList = gap s.data.toList := ⟨⟨(gap s.data.toList).toArray⟩, by simp⟩

/-- What an attribute's reading answers. -/
def AnsA (s : ByteArray) (X : ByteArray) (b1 b2 : Bool) : Prop := match refA s.data.toList with
  | none => X = s ∧ b1 = false ∧ b2 = false
  | some (some r) => X.data.toList = r ∧ b1 = true ∧ b2 = false
  | some none => b1 = false ∧ b2 = true

theorem refA_no {l : List UInt8} (h : white l = none ∨ ∃ r, white l = some r ∧ key r = none) : refA l = none := by
  unfold refA
  rcases h with h | ⟨r, h1, h2⟩
  · rw [h]; rfl
  · rw [h1, Option.bind_some, h2]
theorem refA_key {l : List UInt8} {c : UInt8} {t : List UInt8} (hg : gap l = c :: t) (hne : gap l ≠ l) (hk : keyB c = true) :
    refA l = match sgn 61 (gap (t.dropWhile keyG)) with | none => some (some (t.dropWhile keyG)) | some w => some (value (gap w)) := by
  unfold refA
  cases hw : white l with
  | none => exact absurd (white_none hw) hne
  | some r =>
    obtain ⟨rfl, _⟩ := white_gap hw
    rw [Option.bind_some, hg]
    have : key (c :: t) = some (t.dropWhile keyG) := by simp [key, word, hk]
    rw [this]
    rfl

set_option maxHeartbeats 8000000 in
theorem rattr_any (s : ByteArray) (w : World) (hs : s.size ≤ 1000000) :
    Calls Tryz.prog 55 #[.string s] w fun e w' => (∃ X b1 b2, e = .returned (.tuple #[.string X, .bool b1, .bool b2]) ∧ AnsA s X b1 b2) ∧ Below w.heap.size w w' := by
  have HWl := Lib.hid does_rletter.2
  have HWd := Lib.hid does_rdigit.2
  obtain ⟨T, hT⟩ := gap_mk s
  have HS1 := Lib.hid (fun w => rskip_at hT w hs)
  have hTs := gap_size hT
  by_cases hA : gap s.data.toList = s.data.toList
  · have HV : Hid (refA s.data.toList = none) := Lib.hid (refA_no (by
      cases hw : white s.data.toList with
      | none => exact .inl rfl
      | some r =>
        obtain ⟨e, h⟩ := white_gap hw
        rw [e, hA] at h
        exact absurd h (Nat.lt_irrefl _)))
    obtain rfl : T = s := by rw [ba_eq (hT.trans hA), ba_self]
    have he : (T.toList == T.toList) = true := by simp
    clear hA hT
    go_enter Tryz.func55, Tryz.ntmps55
    go_wp2_with (first | (go_at_call 56; refine (HS1.out _).mono ?_; rintro e w' ⟨rfl, rfl⟩))
    go_ret3
    exact ⟨⟨_, _, _, rfl, by unfold AnsA; rw [HV.out]; exact ⟨rfl, rfl, rfl⟩⟩, Below.refl _ _⟩
  · have hne : ¬ T.toList = s.toList := by
      intro e
      rw [toList_eq, toList_eq, hT] at e
      exact hA e
    have hne2 : (T.toList == s.toList) = false := by simpa using hne
    by_cases h0 : 0 < T.size
    · obtain ⟨c, t, hd, hck, ht, hsz⟩ := cons_of h0
      have he := emp_false h0
      have hT0 : (0 : Int) < (T.size : Int) := by omega
      have HL := Lib.hid (HWl.out c)
      have h95 : ((c.toNat : Int) != 95) = !(c == 95) := by have : ((c.toNat : Int) == 95) = (c == 95) := eq_u8 c 95 (by decide); unfold bne; rw [this]
      have h58 : ((c.toNat : Int) != 58) = !(c == 58) := by have : ((c.toNat : Int) == 58) = (c == 58) := eq_u8 c 58 (by decide); unfold bne; rw [this]
      have hwd : gap s.data.toList = c :: t := by rw [← hT, hd]
      cases hkb : keyB c with
      | false =>
        have HV : Hid (refA s.data.toList = none) := Lib.hid (refA_no (by
          cases hw : white s.data.toList with
          | none => exact .inl rfl
          | some r =>
            obtain ⟨e, h⟩ := white_gap hw
            refine .inr ⟨r, rfl, ?_⟩
            rw [e, hwd]
            simp [key, word, hkb]))
        have hk2 : letU c = false ∧ (c == 95) = false ∧ (c == 58) = false := by
          unfold keyB at hkb
          simpa [Bool.or_eq_false_iff, and_assoc] using hkb
        obtain ⟨k1, k2, k3⟩ := hk2
        rw [k1] at HL
        rw [k2] at h95
        rw [k3] at h58
        clear hkb hA hT hd ht hsz hwd k1 k2 k3
        go_enter Tryz.func55, Tryz.ntmps55
        go_wp2_with (first | (go_at_call 56; refine (HS1.out _).mono ?_; rintro e w' ⟨rfl, rfl⟩) | (go_at_call 80; refine (HL.out _).mono ?_; rintro e w' ⟨rfl, rfl⟩))
        go_ret3
        exact ⟨⟨_, _, _, rfl, by unfold AnsA; rw [HV.out]; exact ⟨rfl, rfl, rfl⟩⟩, Below.refl _ _⟩
      | true =>
        have HV := Lib.hid (refA_key hwd hA hkb)
        have HD := Lib.hid hd
        have HT0 : Hid (T.data.toList.drop 1 = t) := Lib.hid (by rw [hd]; rfl)
        have HKB : Hid (keyB c = (letU c || c == 95 || c == 58)) := Lib.hid rfl
        rw [hkb] at HKB
        have htl := ht
        clear hkb hA hT hd ht hsz hwd
        generalize letU c = b1 at *
        generalize (c == 95) = b2 at *
        generalize (c == 58) = b3 at *
        have HB : Hid (b1 = true ∨ b1 = false ∧ b2 = true ∨ b1 = false ∧ b2 = false ∧ b3 = true) := Lib.hid (by
          have := HKB.out
          revert this
          cases b1 <;> cases b2 <;> cases b3 <;> decide)
        clear htl
        rcases HB.out with rfl | ⟨rfl, rfl⟩ | ⟨rfl, rfl, rfl⟩
        all_goals
        · go_enter Tryz.func55, Tryz.ntmps55
          go_wp2_with (first | (go_at_call 56; refine (HS1.out _).mono ?_; rintro e w' ⟨rfl, rfl⟩) | (go_at_call 80; refine (HL.out _).mono ?_; rintro e w' ⟨rfl, rfl⟩))
          go_loopg [6] (T.size - 1) (fun G v6 wr => ∃ m : Nat, 1 ≤ m ∧ m + G = T.size ∧ v6 = .int .i64 (m : Int) ∧ w = wr ∧ Hid ((T.data.toList.drop m).dropWhile keyG = t.dropWhile keyG))
          case atStart => exact ⟨1, by omega, by omega, rfl, rfl, Lib.hid (by rw [HT0.out])⟩
          case round =>
            obtain ⟨m, hm1, hm2, rfl, rfl, HR⟩ := hrel
            clear hck HL h95 h58
            have hml : (m : Int) ≤ (T.size : Int) := by omega
            by_cases hlt : m < T.size
            · obtain ⟨c2, t2, hd2, hck2, ht2⟩ := cons_at hlt
              have hlt' : (m : Int) < (T.size : Int) := by omega
              have HA := Lib.hid (HWl.out c2 w)
              have HDg := Lib.hid (HWd.out c2 w)
              have h95 : ((c2.toNat : Int) == 95) = (c2 == 95) := eq_u8 c2 95 (by decide)
              have h46 : ((c2.toNat : Int) == 46) = (c2 == 46) := eq_u8 c2 46 (by decide)
              have h58 : ((c2.toNat : Int) == 58) = (c2 == 58) := eq_u8 c2 58 (by decide)
              have h45 : ((c2.toNat : Int) == 45) = (c2 == 45) := eq_u8 c2 45 (by decide)
              have HE : Hid (keyG c2 = (letU c2 || digU c2 || c2 == 95 || c2 == 46 || c2 == 58 || c2 == 45)) := Lib.hid (eq_of_beq (all_u8 (p := fun c2 => keyG c2 == (letU c2 || digU c2 || c2 == 95 || c2 == 46 || c2 == 58 || c2 == 45)) (by decide +kernel) c2))
              have HY : Hid (keyG c2 = true → (T.data.toList.drop (m + 1)).dropWhile keyG = t.dropWhile keyG) := Lib.hid (fun h => by rw [← HR.out, hd2, ht2]; simp [List.dropWhile, h])
              have HN : Hid (keyG c2 = false → T.data.toList.drop m = t.dropWhile keyG) := Lib.hid (fun h => by rw [← HR.out, hd2]; simp [List.dropWhile, h])
              clear hd2 ht2
              generalize letU c2 = x at *
              generalize digU c2 = y at *
              generalize (c2 == 95) = z95 at *
              generalize (c2 == 46) = z46 at *
              generalize (c2 == 58) = z58 at *
              generalize (c2 == 45) = z45 at *
              cases x with
              | true =>
                go_wp2_with (first | (go_at_call 80; refine HA.out.mono ?_; rintro e w1 ⟨rfl, rfl⟩) | (go_at_call 81; refine HDg.out.mono ?_; rintro e w1 ⟨rfl, rfl⟩))
                go_roundg (gk - 1)
                case rel => exact ⟨m + 1, by omega, by omega, by go_num, rfl, Lib.hid (HY.out (by rw [HE.out]; simp))⟩
                case measure => omega
              | false =>
              cases y with
              | true =>
                go_wp2_with (first | (go_at_call 80; refine HA.out.mono ?_; rintro e w1 ⟨rfl, rfl⟩) | (go_at_call 81; refine HDg.out.mono ?_; rintro e w1 ⟨rfl, rfl⟩))
                go_roundg (gk - 1)
                case rel => exact ⟨m + 1, by omega, by omega, by go_num, rfl, Lib.hid (HY.out (by rw [HE.out]; simp))⟩
                case measure => omega
              | false =>
              cases z95 with
              | true =>
                go_wp2_with (first | (go_at_call 80; refine HA.out.mono ?_; rintro e w1 ⟨rfl, rfl⟩) | (go_at_call 81; refine HDg.out.mono ?_; rintro e w1 ⟨rfl, rfl⟩))
                go_roundg (gk - 1)
                case rel => exact ⟨m + 1, by omega, by omega, by go_num, rfl, Lib.hid (HY.out (by rw [HE.out]; simp))⟩
                case measure => omega
              | false =>
              cases z46 with
              | true =>
                go_wp2_with (first | (go_at_call 80; refine HA.out.mono ?_; rintro e w1 ⟨rfl, rfl⟩) | (go_at_call 81; refine HDg.out.mono ?_; rintro e w1 ⟨rfl, rfl⟩))
                go_roundg (gk - 1)
                case rel => exact ⟨m + 1, by omega, by omega, by go_num, rfl, Lib.hid (HY.out (by rw [HE.out]; simp))⟩
                case measure => omega
              | false =>
              cases z58 with
              | true =>
                go_wp2_with (first | (go_at_call 80; refine HA.out.mono ?_; rintro e w1 ⟨rfl, rfl⟩) | (go_at_call 81; refine HDg.out.mono ?_; rintro e w1 ⟨rfl, rfl⟩))
                go_roundg (gk - 1)
                case rel => exact ⟨m + 1, by omega, by omega, by go_num, rfl, Lib.hid (HY.out (by rw [HE.out]; simp))⟩
                case measure => omega
              | false =>
              cases z45 with
              | true =>
                go_wp2_with (first | (go_at_call 80; refine HA.out.mono ?_; rintro e w1 ⟨rfl, rfl⟩) | (go_at_call 81; refine HDg.out.mono ?_; rintro e w1 ⟨rfl, rfl⟩))
                go_roundg (gk - 1)
                case rel => exact ⟨m + 1, by omega, by omega, by go_num, rfl, Lib.hid (HY.out (by rw [HE.out]; simp))⟩
                case measure => omega
              | false =>
                have HFin := Lib.hid (HN.out (by rw [HE.out]; rfl))
                obtain ⟨U, hU⟩ : ∃ U : ByteArray, T.extract m T.size = U := ⟨_, rfl⟩
                have hUd : U.data.toList = t.dropWhile keyG := by rw [← hU, ext_rest]; exact HFin.out
                obtain ⟨G2, hG2⟩ := gap_mk U
                have hUs : U.size ≤ 1000000 := by rw [← hU]; simp; omega
                have HS2 := Lib.hid (fun w => rskip_at hG2 w hUs)
                have hG2s := gap_size hG2
                rw [← hUd, ← hG2] at HV
                have HUD := Lib.hid hUd
                clear hUd hG2
                by_cases g0 : 0 < G2.size
                · obtain ⟨d, t2, hd2, hck2, ht2, hsz2⟩ := cons_of g0
                  have he2 := emp_false g0
                  have hG0 : (0 : Int) < (G2.size : Int) := by omega
                  have hG1 : (1 : Int) ≤ (G2.size : Int) := by omega
                  by_cases h61 : d = 61
                  · have h61' : ((d.toNat : Int) != 61) = false := by rw [h61]; decide
                    obtain ⟨Wv, hWv⟩ : ∃ Wv : ByteArray, G2.extract 1 G2.size = Wv := ⟨_, rfl⟩
                    obtain ⟨G3, hG3⟩ := gap_mk Wv
                    have hWs : Wv.size ≤ 1000000 := by rw [← hWv]; simp; omega
                    have HS3 := Lib.hid (fun w => rskip_at hG3 w hWs)
                    have hG3s := gap_size hG3
                    have HV2 : Hid (refA s.data.toList = some (value G3.data.toList)) := Lib.hid (by
                      rw [HV.out, hd2, h61, sgn_self, hG3, ← hWv, ht2])
                    have HVal := Lib.hid (fun w => rvalue_any G3 w (by omega))
                    clear hd2 ht2 hsz2 h61 hG3 HV
                    generalize hX : (⟨((value G3.data.toList).getD G3.data.toList).toArray⟩ : ByteArray) = X at HVal
                    have HX : Hid (∀ r, value G3.data.toList = some r → X.data.toList = r) := Lib.hid (fun r hr => by rw [← hX, hr]; simp)
                    clear hX
                    generalize value G3.data.toList = ov at *
                    cases ov with
                    | none =>
                      simp only [Option.isSome_none] at HVal
                      go_wp2_with (first | (go_at_call 80; refine HA.out.mono ?_; rintro e w1 ⟨rfl, rfl⟩) | (go_at_call 81; refine HDg.out.mono ?_; rintro e w1 ⟨rfl, rfl⟩) | (go_at_call_of 56 (Value.string U); refine (HS2.out _).mono ?_; rintro e w1 ⟨rfl, rfl⟩) | (go_at_call_of 56 (Value.string Wv); refine (HS3.out _).mono ?_; rintro e w1 ⟨rfl, rfl⟩) | (go_at_call 82; refine (HVal.out _).mono ?_; rintro e w1 ⟨rfl, hb⟩))
                      go_ret3
                      exact ⟨⟨_, _, _, rfl, by unfold AnsA; rw [HV2.out]; exact ⟨rfl, rfl⟩⟩, hb⟩
                    | some r =>
                      simp only [Option.isSome_some] at HVal
                      go_wp2_with (first | (go_at_call 80; refine HA.out.mono ?_; rintro e w1 ⟨rfl, rfl⟩) | (go_at_call 81; refine HDg.out.mono ?_; rintro e w1 ⟨rfl, rfl⟩) | (go_at_call_of 56 (Value.string U); refine (HS2.out _).mono ?_; rintro e w1 ⟨rfl, rfl⟩) | (go_at_call_of 56 (Value.string Wv); refine (HS3.out _).mono ?_; rintro e w1 ⟨rfl, rfl⟩) | (go_at_call 82; refine (HVal.out _).mono ?_; rintro e w1 ⟨rfl, hb⟩))
                      go_ret3
                      exact ⟨⟨_, _, _, rfl, by unfold AnsA; rw [HV2.out]; exact ⟨HX.out r rfl, rfl, rfl⟩⟩, hb⟩
                  · have h61' : ((d.toNat : Int) != 61) = true := by
                      have : ((d.toNat : Int) == 61) = false := u8_ne (n := 61) (by decide) h61
                      unfold bne; rw [this]; rfl
                    have HV2 : Hid (refA s.data.toList = some (some U.data.toList)) := Lib.hid (by
                      rw [HV.out, hd2, sgn_no t2 h61, HUD.out])
                    clear hd2 ht2 hsz2 h61 HV
                    go_wp2_with (first | (go_at_call 80; refine HA.out.mono ?_; rintro e w1 ⟨rfl, rfl⟩) | (go_at_call 81; refine HDg.out.mono ?_; rintro e w1 ⟨rfl, rfl⟩) | (go_at_call 56; refine (HS2.out _).mono ?_; rintro e w1 ⟨rfl, rfl⟩))
                    go_ret3
                    exact ⟨⟨_, _, _, rfl, by unfold AnsA; rw [HV2.out]; exact ⟨rfl, rfl, rfl⟩⟩, Below.refl _ _⟩
                · have hn2 := nil_of g0
                  have he2 := emp_true hn2
                  have HV2 : Hid (refA s.data.toList = some (some U.data.toList)) := Lib.hid (by
                    rw [HV.out, hn2, HUD.out]; rfl)
                  clear hn2 HV
                  go_wp2_with (first | (go_at_call 80; refine HA.out.mono ?_; rintro e w1 ⟨rfl, rfl⟩) | (go_at_call 81; refine HDg.out.mono ?_; rintro e w1 ⟨rfl, rfl⟩) | (go_at_call 56; refine (HS2.out _).mono ?_; rintro e w1 ⟨rfl, rfl⟩))
                  go_ret3
                  exact ⟨⟨_, _, _, rfl, by unfold AnsA; rw [HV2.out]; exact ⟨rfl, rfl, rfl⟩⟩, Below.refl _ _⟩
            · have hlt2 : ¬ (m : Int) < (T.size : Int) := by omega
              have HFin : Hid (T.data.toList.drop m = t.dropWhile keyG) := Lib.hid (by rw [← HR.out, drop_all (by omega)]; rfl)
              obtain ⟨U, hU⟩ : ∃ U : ByteArray, T.extract m T.size = U := ⟨_, rfl⟩
              have hUd : U.data.toList = t.dropWhile keyG := by rw [← hU, ext_rest]; exact HFin.out
              obtain ⟨G2, hG2⟩ := gap_mk U
              have hUs : U.size ≤ 1000000 := by rw [← hU]; simp; omega
              have HS2 := Lib.hid (fun w => rskip_at hG2 w hUs)
              have hG2s := gap_size hG2
              rw [← hUd, ← hG2] at HV
              have HUD := Lib.hid hUd
              clear hUd hG2
              by_cases g0 : 0 < G2.size
              · obtain ⟨d, t2, hd2, hck2, ht2, hsz2⟩ := cons_of g0
                have he2 := emp_false g0
                have hG0 : (0 : Int) < (G2.size : Int) := by omega
                have hG1 : (1 : Int) ≤ (G2.size : Int) := by omega
                by_cases h61 : d = 61
                · have h61' : ((d.toNat : Int) != 61) = false := by rw [h61]; decide
                  obtain ⟨Wv, hWv⟩ : ∃ Wv : ByteArray, G2.extract 1 G2.size = Wv := ⟨_, rfl⟩
                  obtain ⟨G3, hG3⟩ := gap_mk Wv
                  have hWs : Wv.size ≤ 1000000 := by rw [← hWv]; simp; omega
                  have HS3 := Lib.hid (fun w => rskip_at hG3 w hWs)
                  have hG3s := gap_size hG3
                  have HV2 : Hid (refA s.data.toList = some (value G3.data.toList)) := Lib.hid (by
                    rw [HV.out, hd2, h61, sgn_self, hG3, ← hWv, ht2])
                  have HVal := Lib.hid (fun w => rvalue_any G3 w (by omega))
                  clear hd2 ht2 hsz2 h61 hG3 HV
                  generalize hX : (⟨((value G3.data.toList).getD G3.data.toList).toArray⟩ : ByteArray) = X at HVal
                  have HX : Hid (∀ r, value G3.data.toList = some r → X.data.toList = r) := Lib.hid (fun r hr => by rw [← hX, hr]; simp)
                  clear hX
                  generalize value G3.data.toList = ov at *
                  cases ov with
                  | none =>
                    simp only [Option.isSome_none] at HVal
                    go_wp2_with (first | (go_at_call_of 56 (Value.string U); refine (HS2.out _).mono ?_; rintro e w1 ⟨rfl, rfl⟩) | (go_at_call_of 56 (Value.string Wv); refine (HS3.out _).mono ?_; rintro e w1 ⟨rfl, rfl⟩) | (go_at_call 82; refine (HVal.out _).mono ?_; rintro e w1 ⟨rfl, hb⟩))
                    go_ret3
                    exact ⟨⟨_, _, _, rfl, by unfold AnsA; rw [HV2.out]; exact ⟨rfl, rfl⟩⟩, hb⟩
                  | some r =>
                    simp only [Option.isSome_some] at HVal
                    go_wp2_with (first | (go_at_call_of 56 (Value.string U); refine (HS2.out _).mono ?_; rintro e w1 ⟨rfl, rfl⟩) | (go_at_call_of 56 (Value.string Wv); refine (HS3.out _).mono ?_; rintro e w1 ⟨rfl, rfl⟩) | (go_at_call 82; refine (HVal.out _).mono ?_; rintro e w1 ⟨rfl, hb⟩))
                    go_ret3
                    exact ⟨⟨_, _, _, rfl, by unfold AnsA; rw [HV2.out]; exact ⟨HX.out r rfl, rfl, rfl⟩⟩, hb⟩
                · have h61' : ((d.toNat : Int) != 61) = true := by
                    have : ((d.toNat : Int) == 61) = false := u8_ne (n := 61) (by decide) h61
                    unfold bne; rw [this]; rfl
                  have HV2 : Hid (refA s.data.toList = some (some U.data.toList)) := Lib.hid (by
                    rw [HV.out, hd2, sgn_no t2 h61, HUD.out])
                  clear hd2 ht2 hsz2 h61 HV
                  go_wp2_with (first | (go_at_call 56; refine (HS2.out _).mono ?_; rintro e w1 ⟨rfl, rfl⟩))
                  go_ret3
                  exact ⟨⟨_, _, _, rfl, by unfold AnsA; rw [HV2.out]; exact ⟨rfl, rfl, rfl⟩⟩, Below.refl _ _⟩
              · have hn2 := nil_of g0
                have he2 := emp_true hn2
                have HV2 : Hid (refA s.data.toList = some (some U.data.toList)) := Lib.hid (by
                  rw [HV.out, hn2, HUD.out]; rfl)
                clear hn2 HV
                go_wp2_with (first | (go_at_call 56; refine (HS2.out _).mono ?_; rintro e w1 ⟨rfl, rfl⟩))
                go_ret3
                exact ⟨⟨_, _, _, rfl, by unfold AnsA; rw [HV2.out]; exact ⟨rfl, rfl, rfl⟩⟩, Below.refl _ _⟩
    · have hn := nil_of h0
      have HV : Hid (refA s.data.toList = none) := Lib.hid (refA_no (by
        cases hw : white s.data.toList with
        | none => exact .inl rfl
        | some r =>
          obtain ⟨e, h⟩ := white_gap hw
          refine .inr ⟨r, rfl, ?_⟩
          rw [e, ← hT, hn]
          rfl))
      have he := emp_true hn
      clear hA hT hn
      go_enter Tryz.func55, Tryz.ntmps55
      go_wp2_with (first | (go_at_call 56; refine (HS1.out _).mono ?_; rintro e w' ⟨rfl, rfl⟩))
      go_ret3
      exact ⟨⟨_, _, _, rfl, by unfold AnsA; rw [HV.out]; exact ⟨rfl, rfl, rfl⟩⟩, Below.refl _ _⟩
end Sc
end Go.Proofs.YtapibalcekedfaaGreatDoor
