/- Walks of layer 8, the second part: tests of a byte; word. -/
import Derived.Test.YtapibalcekedfaaGreatDoorScA
namespace Go.Proofs.YtapibalcekedfaaGreatDoor
open Go Go.RowKit
namespace Sc
set_option maxRecDepth 100000
set_option linter.unusedVariables false
set_option linter.unusedSimpArgs false

theorem letter_any (b : Int) (w : World) :
    Calls Tryz.prog 31 #[.int .u8 b] w fun e w' => e = .returned (.bool (lett b)) ∧ w = w' := by
  go_enter Tryz.func31, Tryz.ntmps31
  go_wp2
  all_goals (go_ret; refine ⟨ret_bool' ?_, rfl⟩; unfold lett; simp [*] <;> omega)
theorem digit_any (b : Int) (w : World) :
    Calls Tryz.prog 68 #[.int .u8 b] w fun e w' => e = .returned (.bool (digi b)) ∧ w = w' := by
  go_enter Tryz.func68, Tryz.ntmps68
  go_wp2
  all_goals (go_ret; refine ⟨ret_bool' ?_, rfl⟩; unfold digi; simp [*] <;> omega)
theorem does_letter : DoesB 31 letU := ⟨fun _ _ => by kernel_rfl, fun c W => letter_any _ W⟩
theorem does_digit : DoesB 68 digU := ⟨fun _ _ => by kernel_rfl, fun c W => digit_any _ W⟩

theorem eq_u8 (c : UInt8) (n : Nat) (hn : n < 256) : ((c.toNat : Int) == (n : Int)) = (c == UInt8.ofNat n) := by
  rw [Bool.eq_iff_iff, beq_iff_eq, beq_iff_eq]
  constructor
  · intro e
    have e2 : c.toNat = n := Int.ofNat.inj e
    rw [← e2, UInt8.ofNat_toNat]
  · intro e
    rw [e]; simp only [UInt8.toNat_ofNat']; omega

theorem does_blank : DoesB 119 blk := by
  refine ⟨fun _ _ => by kernel_rfl, ?_⟩
  intro c w
  have h1 : ((c.toNat : Int) == 32) = (c == 32) := eq_u8 c 32 (by decide)
  have h2 : ((c.toNat : Int) == 9) = (c == 9) := eq_u8 c 9 (by decide)
  have HV : Hid (blk c = (c == 32 || c == 9)) := Lib.hid rfl
  generalize (c == 32) = x at *
  generalize (c == 9) = y at *
  cases x <;> cases y <;>
  · go_enter Tryz.func119, Tryz.ntmps119
    go_wp2
    go_ret
    exact ⟨ret_bool' HV.out.symm, rfl⟩
theorem does_white : DoesB 111 wht := by
  refine ⟨fun _ _ => by kernel_rfl, ?_⟩
  intro c w
  have h1 := Lib.hid (does_blank.2 c w)
  have h2 : ((c.toNat : Int) == 10) = (c == 10) := eq_u8 c 10 (by decide)
  have HV : Hid (wht c = (blk c || c == 10)) := Lib.hid rfl
  generalize blk c = x at *
  generalize (c == 10) = y at *
  cases x <;> cases y <;>
  · go_enter Tryz.func111, Tryz.ntmps111
    go_wp2_with (first | (go_at_call 119; refine h1.out.mono ?_; rintro e w' ⟨rfl, rfl⟩))
    go_ret
    exact ⟨ret_bool' HV.out.symm, rfl⟩
theorem does_inName : DoesB 94 inN := by
  refine ⟨fun _ _ => by kernel_rfl, ?_⟩
  intro c w
  have h1 := Lib.hid (does_letter.2 c w)
  have h2 := Lib.hid (does_digit.2 c w)
  have h3 : ((c.toNat : Int) == 45) = (c == 45) := eq_u8 c 45 (by decide)
  have HV : Hid (inN c = (letU c || digU c || c == 45)) := Lib.hid rfl
  generalize letU c = x at *
  generalize digU c = y at *
  generalize (c == 45) = z at *
  cases x <;> cases y <;> cases z <;>
  · go_enter Tryz.func94, Tryz.ntmps94
    go_wp2_with (first | (go_at_call 31; refine h1.out.mono ?_; rintro e w' ⟨rfl, rfl⟩) | (go_at_call 68; refine h2.out.mono ?_; rintro e w' ⟨rfl, rfl⟩))
    go_ret
    exact ⟨ret_bool' HV.out.symm, rfl⟩
theorem does_beginsKey : DoesB 116 keyB := by
  refine ⟨fun _ _ => by kernel_rfl, ?_⟩
  intro c w
  have h1 := Lib.hid (does_letter.2 c w)
  have h2 : ((c.toNat : Int) == 95) = (c == 95) := eq_u8 c 95 (by decide)
  have h3 : ((c.toNat : Int) == 58) = (c == 58) := eq_u8 c 58 (by decide)
  have HV : Hid (keyB c = (letU c || c == 95 || c == 58)) := Lib.hid rfl
  generalize letU c = x at *
  generalize (c == 95) = y at *
  generalize (c == 58) = z at *
  cases x <;> cases y <;> cases z <;>
  · go_enter Tryz.func116, Tryz.ntmps116
    go_wp2_with (first | (go_at_call 31; refine h1.out.mono ?_; rintro e w' ⟨rfl, rfl⟩))
    go_ret
    exact ⟨ret_bool' HV.out.symm, rfl⟩
theorem does_inKey : DoesB 117 keyG := by
  refine ⟨fun _ _ => by kernel_rfl, ?_⟩
  intro c w
  have h1 := Lib.hid (does_beginsKey.2 c w)
  have h2 := Lib.hid (does_digit.2 c w)
  have h3 : ((c.toNat : Int) == 46) = (c == 46) := eq_u8 c 46 (by decide)
  have h4 : ((c.toNat : Int) == 45) = (c == 45) := eq_u8 c 45 (by decide)
  have HV : Hid (keyG c = (keyB c || digU c || c == 46 || c == 45)) := Lib.hid rfl
  generalize keyB c = x at *
  generalize digU c = y at *
  generalize (c == 46) = z at *
  generalize (c == 45) = u at *
  cases x <;> cases y <;> cases z <;> cases u <;>
  · go_enter Tryz.func117, Tryz.ntmps117
    go_wp2_with (first | (go_at_call 116; refine h1.out.mono ?_; rintro e w' ⟨rfl, rfl⟩) | (go_at_call 68; refine h2.out.mono ?_; rintro e w' ⟨rfl, rfl⟩))
    go_ret
    exact ⟨ret_bool' HV.out.symm, rfl⟩

theorem same_of {P : Program} {f : FuncId} {args : Array Value} {W : World} {v : Value} (h : Calls P f args W fun e W' => e = .returned v ∧ W = W') : Calls P f args W fun e W' => e = .returned v ∧ W' = W :=
  h.mono fun _ _ ⟨a, b⟩ => ⟨a, b.symm⟩

set_option maxHeartbeats 4000000 in
theorem word_any {fb fg : FuncId} {b g : UInt8 → Bool} (Hb : DoesB fb b) (Hg : DoesB fg g) (W : World) (B : Nat) (s : ByteArray) (l : List UInt8) (hs : s.size ≤ 1000000) (h : RD W B s l) :
    Calls Tryz.prog 93 #[.pointer (some ⟨B, 0, none⟩), .func (.func fb) #[] #[], .func (.func fg) #[] #[]] W fun e W' => e = .returned (.bool (word b g l).isSome) ∧ RD W' B s ((word b g l).getD l) ∧ Gr B W W' := by
  obtain ⟨k, hk, rfl, hr⟩ := h
  have c0 := hr.c0
  have c1 := hr.c1
  have f1 := hr.fr 1
  have HR := Lib.hid hr
  have hs2 : (s.size : Int) ≤ 1000000 := by omega
  have eb := Hb.1
  have eg := Hg.1
  unfold Ent at eb eg
  have HB := Lib.hid Hb.2
  have HG := Lib.hid Hg.2
  clear hr Hb Hg
  by_cases hlt : k < s.size
  · obtain ⟨c, t, hd, hck, ht⟩ := cons_at hlt
    have hlt' : (k : Int) < (s.size : Int) := by omega
    have hne : ((k : Int) == (s.size : Int)) = false := by simp; omega
    have hb1 := Lib.hid (fun W => HB.out c W)
    cases hbc : b c with
    | false =>
      have HV : Hid (word b g (s.data.toList.drop k) = none) := Lib.hid (by rw [hd]; simp [word, hbc])
      rw [hbc] at hb1
      clear hd ht hbc
      go_enter Tryz.func93, Tryz.ntmps93
      go_wp2_with fail
      go_big_quiet (exact Calls.quiet_of_same (same_of (hb1.out _)))
      go_wp2
      go_ret
      rw [HV.out]
      exact ⟨rfl, ⟨k, by omega, rfl, HR.out.drewN nq⟩, (Gr.refl B W).drewN nq⟩
    | true =>
      have HV : Hid (word b g (s.data.toList.drop k) = some ((s.data.toList.drop (k + 1)).dropWhile g)) := Lib.hid (by rw [hd, ht]; simp [word, hbc])
      rw [hbc] at hb1
      clear hd ht hbc
      go_enter Tryz.func93, Tryz.ntmps93
      go_wp2_with fail
      go_big_quiet (exact Calls.quiet_of_same (same_of (hb1.out _)))
      have HR1 := Lib.hid ((HR.out.drewN nq).set (k + 1))
      have HG1 := Lib.hid (((Gr.refl B W).drewN nq).set (B := B) (o := 1) (.int .i64 ((k + 1 : Nat) : Int)))
      clear hb1 HB HR
      go_wp2_with fail
      go_loopg [] (s.size - (k + 1)) (fun G wr => ∃ m : Nat, k + 1 ≤ m ∧ m + G = s.size ∧ Hid (RK wr B s m) ∧ Hid (Gr B W wr) ∧ Hid ((s.data.toList.drop m).dropWhile g = (s.data.toList.drop (k + 1)).dropWhile g))
      case atStart => exact ⟨k + 1, by omega, by omega, HR1, HG1, Lib.hid rfl⟩
      case round =>
        obtain ⟨m, hm1, hm2, HRm, HGm, HDm⟩ := hrel
        clear c0 c1 f1 HR1 HG1 hne hlt'
        have c0 := HRm.out.c0
        have c1 := HRm.out.c1
        have f1 := HRm.out.fr 1
        by_cases hltm : m < s.size
        · obtain ⟨c2, t2, hd2, hck2, ht2⟩ := cons_at hltm
          have hltm' : (m : Int) < (s.size : Int) := by omega
          have hg1 := Lib.hid (fun W => HG.out c2 W)
          cases hgc : g c2 with
          | false =>
            have HE : Hid (s.data.toList.drop m = (s.data.toList.drop (k + 1)).dropWhile g) := Lib.hid (by rw [← HDm.out, hd2]; simp [List.dropWhile, hgc])
            rw [hgc] at hg1
            clear hd2 ht2 hgc
            go_wp2_with fail
            go_big_quiet (exact Calls.quiet_of_same (same_of (hg1.out _)))
            go_wp2
            go_ret
            rw [HV.out]
            exact ⟨rfl, ⟨m, by omega, HE.out.symm, HRm.out.drewN nq⟩, HGm.out.drewN nq⟩
          | true =>
            have HE : Hid ((s.data.toList.drop (m + 1)).dropWhile g = (s.data.toList.drop (k + 1)).dropWhile g) := Lib.hid (by rw [← HDm.out, hd2, ht2]; simp [List.dropWhile, hgc])
            rw [hgc] at hg1
            clear hd2 ht2 hgc
            go_wp2_with fail
            go_big_quiet (exact Calls.quiet_of_same (same_of (hg1.out _)))
            have HR3 := Lib.hid ((HRm.out.drewN nq).set (m + 1))
            have HG3 := Lib.hid ((HGm.out.drewN nq).set (B := B) (o := 1) (.int .i64 ((m + 1 : Nat) : Int)))
            go_wp2
            go_roundg (gk - 1)
            case rel => exact ⟨m + 1, by omega, by omega, HR3, HG3, HE⟩
            case measure => omega
        · have hltm' : ¬ (m : Int) < (s.size : Int) := by omega
          have HE : Hid (s.data.toList.drop m = (s.data.toList.drop (k + 1)).dropWhile g) := Lib.hid (by rw [← HDm.out, drop_all (by omega)]; rfl)
          have hdec : decide ((m : Int) < (s.size : Int)) = false := by simp; omega
          go_wp2_with fail
          go_big_quiet (fail)
          go_wp2
          go_ret
          rw [HV.out]
          exact ⟨rfl, ⟨m, by omega, HE.out.symm, HRm.out.drewN nq⟩, HGm.out.drewN nq⟩
  · have he : ((k : Int) == (s.size : Int)) = true := by simp; omega
    have HV : Hid (word b g (s.data.toList.drop k) = none) := Lib.hid (by rw [drop_all (by omega)]; rfl)
    go_enter Tryz.func93, Tryz.ntmps93
    go_wp2_with fail
    go_big_quiet (fail)
    go_wp2
    go_ret
    rw [HV.out]
    exact ⟨rfl, ⟨k, by omega, rfl, HR.out.drewN nq⟩, (Gr.refl B W).drewN nq⟩
theorem does_name : Does 73 name := by
  refine ⟨fun _ _ => by kernel_rfl, ?_⟩
  intro W B s l hs h
  have HW := Lib.hid (word_any does_letter does_inName W B s l hs h)
  have HE : Hid (word letU inN = name) := Lib.hid rfl
  rw [HE.out] at HW
  clear h
  go_enter Tryz.func73, Tryz.ntmps73
  go_wp2_with fail
  refine HW.out.mono ?_
  rintro e w1 ⟨rfl, h1, h2⟩
  go_wp2
  go_ret
  exact ⟨rfl, h1, h2⟩
theorem does_key : Does 109 key := by
  refine ⟨fun _ _ => by kernel_rfl, ?_⟩
  intro W B s l hs h
  have HW := Lib.hid (word_any does_beginsKey does_inKey W B s l hs h)
  have HE : Hid (word keyB keyG = key) := Lib.hid rfl
  rw [HE.out] at HW
  clear h
  go_enter Tryz.func109, Tryz.ntmps109
  go_wp2_with fail
  refine HW.out.mono ?_
  rintro e w1 ⟨rfl, h1, h2⟩
  go_wp2
  go_ret
  exact ⟨rfl, h1, h2⟩
theorem does_whites : Does 98 white := by
  refine ⟨fun _ _ => by kernel_rfl, ?_⟩
  intro W B s l hs h
  have HW := Lib.hid (word_any does_white does_white W B s l hs h)
  have HE : Hid (word wht wht = white) := Lib.hid rfl
  rw [HE.out] at HW
  clear h
  go_enter Tryz.func98, Tryz.ntmps98
  go_wp2_with fail
  refine HW.out.mono ?_
  rintro e w1 ⟨rfl, h1, h2⟩
  go_wp2
  go_ret
  exact ⟨rfl, h1, h2⟩
theorem does_less : Does 72 (sgn 60) := by
  refine ⟨fun _ _ => by kernel_rfl, ?_⟩
  intro W B s l hs h
  have HW := Lib.hid (sign_any 60 W B s l hs h)
  rw [show (((60 : UInt8).toNat : Nat) : Int) = 60 from rfl] at HW
  clear h
  go_enter Tryz.func72, Tryz.ntmps72
  go_wp2_with fail
  refine HW.out.mono ?_
  rintro e w1 ⟨rfl, h1, h2⟩
  go_wp2
  go_ret
  exact ⟨rfl, h1, h2⟩
theorem does_greater : Does 77 (sgn 62) := by
  refine ⟨fun _ _ => by kernel_rfl, ?_⟩
  intro W B s l hs h
  have HW := Lib.hid (sign_any 62 W B s l hs h)
  rw [show (((62 : UInt8).toNat : Nat) : Int) = 62 from rfl] at HW
  clear h
  go_enter Tryz.func77, Tryz.ntmps77
  go_wp2_with fail
  refine HW.out.mono ?_
  rintro e w1 ⟨rfl, h1, h2⟩
  go_wp2
  go_ret
  exact ⟨rfl, h1, h2⟩
theorem does_slash : Does 78 (sgn 47) := by
  refine ⟨fun _ _ => by kernel_rfl, ?_⟩
  intro W B s l hs h
  have HW := Lib.hid (sign_any 47 W B s l hs h)
  rw [show (((47 : UInt8).toNat : Nat) : Int) = 47 from rfl] at HW
  clear h
  go_enter Tryz.func78, Tryz.ntmps78
  go_wp2_with fail
  refine HW.out.mono ?_
  rintro e w1 ⟨rfl, h1, h2⟩
  go_wp2
  go_ret
  exact ⟨rfl, h1, h2⟩
theorem does_equals : Does 120 (sgn 61) := by
  refine ⟨fun _ _ => by kernel_rfl, ?_⟩
  intro W B s l hs h
  have HW := Lib.hid (sign_any 61 W B s l hs h)
  rw [show (((61 : UInt8).toNat : Nat) : Int) = 61 from rfl] at HW
  clear h
  go_enter Tryz.func120, Tryz.ntmps120
  go_wp2_with fail
  refine HW.out.mono ?_
  rintro e w1 ⟨rfl, h1, h2⟩
  go_wp2
  go_ret
  exact ⟨rfl, h1, h2⟩
end Sc
end Go.Proofs.YtapibalcekedfaaGreatDoor
