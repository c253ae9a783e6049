/- Walks of layer 5, the seventh part: the reference's Unescape. -/
import Derived.Test.YtfabiidohdkkcaaGreatDoorEscDs
import Derived.Test.YtfabiidohdkkcaaGreatDoorEscEs
import Derived.Test.YtfabiidohdkkcaaGreatDoorEntI
namespace Go.Proofs.YtfabiidohdkkcaaGreatDoor
open Go Go.RowKit
namespace Es
open En
set_option maxRecDepth 100000
set_option linter.unusedVariables false
set_option linter.unusedSimpArgs false

/-- What has been told, and what is left. -/
def URel (s acc S : ByteArray) : Prop := ∃ a, acc = ⟨a.toArray⟩ ∧ a ++ une S.data.toList = une s.data.toList
theorem URel.step {s acc S b : ByteArray} {bl : List UInt8} {n : Nat} (h : URel s acc S) (h0 : 0 < S.size) (hf : fst S.data.toList = (bl, n)) (hb : b = ⟨bl.toArray⟩) : URel s (acc ++ b) (S.extract n S.size) := by
  obtain ⟨a, rfl, ha⟩ := h
  subst hb
  refine ⟨a ++ bl, mk_app _ _, ?_⟩
  rw [ext_rest, ← ha, une_step (l := S.data.toList) (by intro e; have := sz S; rw [e] at this; simp at this; omega), hf, List.append_assoc]
theorem URel.size {s acc S : ByteArray} (h : URel s acc S) : acc.size ≤ 4 * s.size := by
  obtain ⟨a, rfl, ha⟩ := h
  have := app_len ha
  have h2 := une_len s.data.toList
  rw [sz] at h2
  rw [size_mk]
  omega
theorem URel.done {s acc S : ByteArray} (h : URel s acc S) (h0 : S.size = 0) : acc = ⟨(une s.data.toList).toArray⟩ := by
  obtain ⟨a, rfl, ha⟩ := h
  have : S.data.toList = [] := List.length_eq_zero_iff.1 (by rw [sz]; exact h0)
  rw [this, une_nil, List.append_nil] at ha
  rw [ha]

set_option maxHeartbeats 4000000 in
theorem runescape_any (s : ByteArray) (w : World) (hs : s.size ≤ 100000) :
    Calls Tryz.prog 51 #[.string s] w fun e w' => e = .returned (str (une s.data.toList)) ∧ Below w.heap.size w w' := by
  have HR0 := Lib.hid (fun (S : ByteArray) W (h : S.size ≤ 1000000) => rread_any S W h)
  go_enter Tryz.func51, Tryz.ntmps51
  go_wp2
  go_loopg [0, 3] s.size (fun g s0 s3 wr => ∃ (S acc : ByteArray), Hid (S.size = g) ∧ s0 = .string S ∧ s3 = .string acc ∧ Hid (URel s acc S) ∧ g ≤ s.size ∧ Below w.heap.size w wr)
  case atStart => exact ⟨s, ⟨#[]⟩, Lib.hid rfl, rfl, rfl, Lib.hid ⟨[], rfl, rfl⟩, Nat.le_refl _, Below.refl _ _⟩
  case round =>
    obtain ⟨S, acc, HS, rfl, rfl, HU, hgs, hbw⟩ := hrel
    have hacc := HU.out.size
    cases gk with
    | zero =>
      have hS0 : ¬ (0 : Int) < (S.size : Int) := by rw [HS.out]; omega
      go_wp2
      go_ret
      exact ⟨ret_str (HU.out.done HS.out), hbw⟩
    | succ g =>
      have hS0 : (0 : Int) < (S.size : Int) := by rw [HS.out]; omega
      have h0 : 0 < S.size := by rw [HS.out]; omega
      have hS9 : (S.size : Int) ≤ 100000 := by rw [HS.out]; omega
      obtain ⟨c, t, hd, hck, _⟩ := cons_at h0
      rw [List.drop_zero] at hd
      have HE1 : Hid (S.extract 0 1 = ⟨[c].toArray⟩) := Lib.hid (ext_of S 0 1 [c] (by rw [hd]; rfl))
      have hle1 : (1 : Int) ≤ (S.size : Int) := by omega
      have HR := Lib.hid (HR0.out S wr (by omega))
      by_cases h1 : c = 92
      · subst h1
        have hrn : rread S.data.toList = none := by rw [hd]; exact rread_other (by decide)
        rw [hrn] at HR
        unfold resV at HR
        by_cases h2 : 1 < S.size
        · obtain ⟨c2, t2, hd2, hck2, _⟩ := cons_at h2
          have htt : t = c2 :: t2 := by
            rw [hd] at hd2
            simpa using hd2
          subst htt
          have HG := Lib.hid (fun W => rsign_any (c2.toNat : Int) W)
          have hlt : (1 : Int) < (S.size : Int) := by omega
          have h22 : (2 : Int) ≤ (S.size : Int) := by omega
          have HE2 : Hid (S.extract 1 2 = ⟨[c2].toArray⟩) := Lib.hid (ext_of S 1 2 [c2] (by rw [hd]; rfl))
          cases hsg : sgI (c2.toNat : Int) with
          | true =>
            have HV : Hid (fst S.data.toList = ([c2], 2)) := Lib.hid (by rw [hd]; exact fst_slash hsg)
            have HU2 := Lib.hid (HU.out.step h0 HV.out HE2.out)
            rw [hsg] at HG
            clear hd hd2 hsg hrn HR
            go_wp2_with fail
            refine (HG.out _).mono ?_
            rintro e w' ⟨rfl, rfl⟩
            go_wp2
            go_roundg (g - 1)
            case rel => exact ⟨_, _, Lib.hid (by rw [ByteArray.size_extract, HS.out]; omega), rfl, rfl, HU2, by omega, hbw⟩
            case measure => omega
          | false =>
            have HV : Hid (fst S.data.toList = ([92], 1)) := Lib.hid (by
              rw [hd, fst_self (by rw [esc1_slash, if_neg (by unfold sg; rw [hsg]; simp)]) (rread_other (by decide))]
              rfl)
            have HU2 := Lib.hid (HU.out.step h0 HV.out HE1.out)
            rw [hsg] at HG
            clear hd hd2 hsg hrn HE2
            go_wp2_with fail
            refine (HG.out _).mono ?_
            rintro e w' ⟨rfl, rfl⟩
            go_wp2_with fail
            refine HR.out.mono ?_
            rintro e w2 ⟨rfl, hb2⟩
            go_wp2
            go_roundg g
            case rel => exact ⟨_, _, Lib.hid (by rw [ByteArray.size_extract, HS.out]; omega), rfl, rfl, HU2, by omega, hbw.trans (hb2.mono hbw.size)⟩
            case measure => omega
        · have htn : t = [] := by
            have := congrArg List.length hd
            rw [sz] at this
            simp at this
            exact List.length_eq_zero_iff.1 (by omega)
          have HV : Hid (fst S.data.toList = ([92], 1)) := Lib.hid (by
            rw [hd, htn, fst_self (esc1_one 92) (rread_other (by decide))]
            rfl)
          have HU2 := Lib.hid (HU.out.step h0 HV.out HE1.out)
          have hlt : ¬ (1 : Int) < (S.size : Int) := by omega
          clear hd htn h2 hrn
          go_wp2_with fail
          refine HR.out.mono ?_
          rintro e w2 ⟨rfl, hb2⟩
          go_wp2
          go_roundg g
          case rel => exact ⟨_, _, Lib.hid (by rw [ByteArray.size_extract, HS.out]; omega), rfl, rfl, HU2, by omega, hbw.trans (hb2.mono hbw.size)⟩
          case measure => omega
      have e1 : ((c.toNat : Int) == 92) = false := u8_ne (n := 92) (by decide) h1
      have HO : Hid (esc1 S.data.toList = none) := Lib.hid (by rw [hd]; exact esc1_other h1)
      cases hr : rread S.data.toList with
      | some x =>
        obtain ⟨v, n⟩ := x
        have hn := (rread_pos hr).1
        have hn2 := (rread_pos hr).2
        rw [sz, HS.out] at hn2
        have HV := Lib.hid (fst_ref HO.out hr)
        have HU2 := Lib.hid (HU.out.step h0 HV.out (str_encB v).symm)
        have henc := encB_len v
        have henc2 : (Utf8.encode v).size ≤ 4 := by rw [← str_encB v]; exact henc
        rw [hr] at HR
        unfold resV at HR
        have hn' : (0 : Int) < (n : Int) := by omega
        have hnS : (n : Int) ≤ (S.size : Int) := by rw [HS.out]; omega
        clear hd hr henc h1
        go_wp2_with fail
        refine HR.out.mono ?_
        rintro e w2 ⟨rfl, hb2⟩
        go_wp2
        go_roundg (g + 1 - n)
        case rel => exact ⟨_, _, Lib.hid (by rw [ByteArray.size_extract, HS.out]; omega), rfl, rfl, HU2, by omega, hbw.trans (hb2.mono hbw.size)⟩
        case measure => omega
      | none =>
        have HV : Hid (fst S.data.toList = ([c], 1)) := Lib.hid (by rw [fst_self HO.out hr, hd]; rfl)
        have HU2 := Lib.hid (HU.out.step h0 HV.out HE1.out)
        rw [hr] at HR
        unfold resV at HR
        clear hd hr h1
        go_wp2_with fail
        refine HR.out.mono ?_
        rintro e w2 ⟨rfl, hb2⟩
        go_wp2
        go_roundg g
        case rel => exact ⟨_, _, Lib.hid (by rw [ByteArray.size_extract, HS.out]; omega), rfl, rfl, HU2, by omega, hbw.trans (hb2.mono hbw.size)⟩
        case measure => omega
end Es
end Go.Proofs.YtfabiidohdkkcaaGreatDoor
