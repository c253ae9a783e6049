/- Walks of layer 9, the eighth part: the reference's gap, Label. -/
import Derived.Test.YtilippcmdhkddaaDoorLkG
namespace Go.Proofs.YtilippcmdhkddaaDoor
open Go Go.RowKit
namespace Lk
open Es
set_option maxRecDepth 100000
set_option linter.unusedVariables false
set_option linter.unusedSimpArgs false

theorem gapP_cons (c : UInt8) (t : List UInt8) : gapP (c :: t) = (c == 10 && bare t || gapP t) := rfl
theorem bare_cons (c : UInt8) (t : List UInt8) : bare (c :: t) = if bl c = true then bare t else c == 10 := rfl
set_option maxHeartbeats 4000000 in
theorem rgap_any (s : ByteArray) (w : World) (hz : s.size ≤ 1000000) :
    Calls Tryd.prog 29 #[.string s] w fun e w' => e = .returned (.bool (gapP s.data.toList)) ∧ w = w' := by
  have hdl := Lib.hid (szL s)
  have HY0 : Hid (gapP s.data.toList = gapP (s.data.toList.drop 0)) := Lib.hid (by rw [List.drop_zero])
  generalize gapP s.data.toList = y at *
  go_enter Tryd.func29, Tryd.ntmps29
  go_wp2_with fail
  go_loopg [3] s.size (fun g s3 wr => ∃ i : Nat, i + g = s.size ∧ s3 = .int .i64 (i : Int) ∧ w = wr ∧ Hid (y = gapP (s.data.toList.drop i)))
  case atStart => exact ⟨0, by omega, rfl, rfl, HY0⟩
  case round =>
    obtain ⟨i, hig, rfl, rfl, HY⟩ := hrel
    clear HY0
    cases gk with
    | zero =>
      have hlt : ¬ (i : Int) < (s.size : Int) := by omega
      have HV : Hid (y = false) := Lib.hid (by rw [HY.out, List.drop_eq_nil_of_le (by rw [hdl.out]; omega)]; rfl)
      go_wp2
      go_ret
      exact ⟨retB HV.out.symm, rfl⟩
    | succ g =>
      have hlt : (i : Int) < (s.size : Int) := by omega
      obtain ⟨c, t, hd, hck, ht⟩ := consAt (show i < s.size by omega)
      by_cases hc : c = 10
      · subst hc
        have HY2 : Hid (y = (bare (s.data.toList.drop (i + 1)) || gapP (s.data.toList.drop (i + 1)))) := Lib.hid (by rw [HY.out, hd, gapP_cons, ht]; rfl)
        clear hd ht
        go_wp2_with fail
        go_loopg [4] (s.size - (i + 1)) (fun g s4 wr => ∃ k : Nat, k + g = s.size ∧ s4 = .int .i64 (k : Int) ∧ w = wr ∧ Hid (bare (s.data.toList.drop (i + 1)) = bare (s.data.toList.drop k)))
        case atStart => exact ⟨i + 1, by omega, by go_num, rfl, Lib.hid rfl⟩
        case round =>
          obtain ⟨k, hkg, rfl, rfl, HB⟩ := hrel
          cases gk with
          | zero =>
            have hkl : ¬ (k : Int) < (s.size : Int) := by omega
            have HV : Hid (y = gapP (s.data.toList.drop (i + 1))) := Lib.hid (by rw [HY2.out, HB.out, List.drop_eq_nil_of_le (show s.data.toList.length ≤ k by rw [hdl.out]; omega)]; rfl)
            go_wp2
            go_roundg g
            case rel => exact ⟨i + 1, by omega, by go_num, rfl, HV⟩
            case measure => omega
          | succ g2 =>
            have hkl : (k : Int) < (s.size : Int) := by omega
            obtain ⟨d, u, hd, hdk, hu⟩ := consAt (show k < s.size by omega)
            have e1 : ((d.toNat : Int) == 32) = (d == 32) := eqU d 32 (by decide)
            have e2 : ((d.toNat : Int) == 9) = (d == 9) := eqU d 9 (by decide)
            have e3 : ((d.toNat : Int) == 10) = (d == 10) := eqU d 10 (by decide)
            have HBL : Hid (bl d = (d == 32 || d == 9)) := Lib.hid rfl
            have HX : Hid (bare (s.data.toList.drop (i + 1)) = if bl d = true then bare (s.data.toList.drop (k + 1)) else d == 10) := Lib.hid (by rw [HB.out, hd, bare_cons, hu])
            clear hd hu
            generalize bl d = z at *
            generalize (d == 32) = z1 at *
            generalize (d == 9) = z2 at *
            generalize (d == 10) = z3 at *
            cases z1 with
            | true =>
              have HB2 : Hid (bare (s.data.toList.drop (i + 1)) = bare (s.data.toList.drop (k + 1))) := Lib.hid (by rw [HX.out, HBL.out]; rfl)
              go_wp2
              go_roundg g2
              case rel => exact ⟨k + 1, by omega, by go_num, rfl, HB2⟩
              case measure => omega
            | false =>
              cases z2 with
              | true =>
                have HB2 : Hid (bare (s.data.toList.drop (i + 1)) = bare (s.data.toList.drop (k + 1))) := Lib.hid (by rw [HX.out, HBL.out]; rfl)
                go_wp2
                go_roundg g2
                case rel => exact ⟨k + 1, by omega, by go_num, rfl, HB2⟩
                case measure => omega
              | false =>
                cases z3 with
                | true =>
                  have HV : Hid (y = true) := Lib.hid (by rw [HY2.out, HX.out, HBL.out]; rfl)
                  go_wp2
                  go_ret
                  exact ⟨retB HV.out.symm, rfl⟩
                | false =>
                  have HV : Hid (y = gapP (s.data.toList.drop (i + 1))) := Lib.hid (by rw [HY2.out, HX.out, HBL.out]; rfl)
                  go_wp2
                  go_roundg g
                  case rel => exact ⟨i + 1, by omega, by go_num, rfl, HV⟩
                  case measure => omega
      · have hcb : ((c.toNat : Int) != 10) = true := by
          rw [bne, show ((c.toNat : Int) == 10) = (c == 10) from eqU c 10 (by decide)]
          simpa using hc
        have HV : Hid (y = gapP (s.data.toList.drop (i + 1))) := Lib.hid (by
          rw [HY.out, hd, gapP_cons, ht, beq_eq_false_iff_ne.2 hc]; rfl)
        clear hd ht hc
        go_wp2
        go_roundg g
        case rel => exact ⟨i + 1, by omega, by go_num, rfl, HV⟩
        case measure => omega

theorem extract_one {s : ByteArray} {c : UInt8} {t : List UInt8} (h : s.data.toList = c :: t) (i : Nat) : (s.extract 1 (i + 1)).data.toList = t.take i := by
  rw [Lib.extract_data, h]; rfl

set_option maxHeartbeats 4000000 in
theorem rlabel_any (s : ByteArray) (w : World) (hz : s.size ≤ 1000000) :
    Calls Tryd.prog 11 #[.string s] w fun e w' => e = .returned (labV s.data.toList) ∧ Below w.heap.size w w' := by
  have hdl := Lib.hid (szL s)
  by_cases h0 : 0 < s.size
  · obtain ⟨c, t, hd, hck, _⟩ := consAt h0
    rw [List.drop_zero] at hd
    have he := empF h0
    have h01 : (0 : Int) < (s.size : Int) := by omega
    by_cases hc : c = 91
    · subst hc
      have HD := Lib.hid hd
      have HM := Lib.hid (marks_any s w hz)
      have HW := Lib.hid (fun (S : ByteArray) W (h : S.size ≤ 1000000) => rwhite_any S W h)
      have HP : Hid (labP s.data.toList = match labF false t with
        | none => ([], 0)
        | some i => if 999 < i ∨ whN (t.take i) = i then ([], 0) else (t.take i, i + 2)) := Lib.hid (by rw [hd]; rfl)
      have HF0 : Hid (labF false t = (find no (· == 91) (· == 93) (fl false s.data.toList 1) (s.data.toList.drop 1)).map (· + 0)) := Lib.hid (by
        rw [fl_succ 0 false s.data.toList (by rw [List.drop_zero]; exact hd), fl_zero, nf_other _ _ (by decide), hd, map_zero]; rfl)
      unfold labV
      generalize labP s.data.toList = r at *
      clear hd
      go_enter Tryd.func11, Tryd.ntmps11
      go_wp2_with fail
      refine HM.out.mono ?_
      rintro e w1 ⟨rfl, hm1, hb1⟩
      have HA := Lib.hid hm1
      have HB := Lib.hid hb1
      clear hm1 hb1 HM
      go_wp2_with fail
      go_loopg [5] (s.size - 1) (fun g s5 wr => ∃ j : Nat, j + 1 + g = s.size ∧ s5 = .int .i64 ((j : Int) + 1) ∧ w1 = wr ∧ Hid (labF false t = (find no (· == 91) (· == 93) (fl false s.data.toList (j + 1)) (s.data.toList.drop (j + 1))).map (· + j)))
      case atStart => exact ⟨0, by omega, by go_num, rfl, HF0⟩
      case round =>
        obtain ⟨j, hjg, rfl, rfl, HF⟩ := hrel
        clear HF0
        cases gk with
        | zero =>
          have hlt : ¬ (j : Int) + 1 < (s.size : Int) := by omega
          have HV : Hid (r = ([], 0)) := Lib.hid (by
            rw [HP.out, HF.out, List.drop_eq_nil_of_le (by rw [hdl.out]; omega), find_nil]; rfl)
          go_wp2
          go_ret2
          rw [HV.out]
          exact ⟨rfl, HB.out⟩
        | succ g =>
          have hlt : (j : Int) + 1 < (s.size : Int) := by omega
          obtain ⟨d, u, hd, hdk, hu⟩ := consAt (show j + 1 < s.size by omega)
          have hfn := fl_succ (j + 1) false s.data.toList hd
          have cm := HA.out.cell (i := j + 1) (by rw [hdl.out]; omega)
          have e91 : ((d.toNat : Int) == 91) = (d == 91) := eqU d 91 (by decide)
          have e93 : ((d.toNat : Int) == 93) = (d == 93) := eqU d 93 (by decide)
          have HF1 : Hid (labF false t = (find no (· == 91) (· == 93) (fl false s.data.toList (j + 1)) (d :: u)).map (· + j)) := Lib.hid (by rw [← hd]; exact HF.out)
          have HN : Hid (¬ (no d = true ∨ (fl false s.data.toList (j + 1) = false ∧ (d == 91) = true)) → ¬ (fl false s.data.toList (j + 1) = false ∧ (d == 93) = true) → labF false t = (find no (· == 91) (· == 93) (fl false s.data.toList (j + 1 + 1)) (s.data.toList.drop (j + 1 + 1))).map (· + (j + 1))) := Lib.hid (fun h1 h2 => by
            rw [HF1.out, find_next (H := no) (B := (· == 91)) (S := (· == 93)) h1 h2, hfn, hu])
          clear hd hu hfn HF
          generalize fl false s.data.toList (j + 1) = x at *
          cases x with
          | true =>
            have HV := Lib.hid (HN.out (by simp [no]) (by simp))
            clear HN
            go_wp2
            go_roundg g
            case rel => exact ⟨j + 1, by omega, by go_num, rfl, HV⟩
            case measure => omega
          | false =>
            by_cases h1 : d = 91
            · have hb1 : (d == 91) = true := by simpa using h1
              have HV : Hid (r = ([], 0)) := Lib.hid (by
                rw [HP.out, HF1.out, find_bad (H := no) (B := (· == 91)) (S := (· == 93)) (.inr ⟨rfl, hb1⟩)])
              rw [hb1] at e91
              clear HN HF1 h1
              go_wp2
              go_ret2
              rw [HV.out]
              exact ⟨rfl, HB.out⟩
            · have hb1 : (d == 91) = false := by simpa using h1
              rw [hb1] at e91
              by_cases h2 : d = 93
              · have hb2 : (d == 93) = true := by simpa using h2
                rw [hb2] at e93
                have HV : Hid (r = if 999 < j ∨ whN (t.take j) = j then ([], 0) else (t.take j, j + 2)) := Lib.hid (by
                  rw [HP.out, HF1.out, find_hit (H := no) (B := (· == 91)) (S := (· == 93)) (by rw [hb1]; simp [no]) ⟨rfl, hb2⟩])
                obtain ⟨I, hI⟩ : ∃ I, I = s.extract 1 (j + 1) := ⟨_, rfl⟩
                have hIl : I.data.toList = t.take j := by rw [hI]; exact extract_one HD.out j
                have HW1 := Lib.hid (fun W => HW.out I W (by
                  rw [hI]; simp; omega))
                rw [hIl] at HW1
                have HI := Lib.hid hI
                have HIl := Lib.hid hIl
                have b1 : (1 : Int) ≤ (j : Int) + 1 := by omega
                have b2 : (j : Int) + 1 ≤ (s.size : Int) := by omega
                have b3 : (j : Int) + 1 - 1 = (j : Int) := by omega
                clear HN HF1 h1 h2 hI hIl
                by_cases h9 : 999 < j
                · have hj9 : (1000 : Int) < (j : Int) + 1 := by omega
                  rw [if_pos (.inl h9)] at HV
                  go_wp2
                  go_ret2
                  rw [HV.out]
                  exact ⟨rfl, HB.out⟩
                · have hj9 : ¬ (1000 : Int) < (j : Int) + 1 := by omega
                  by_cases hw : whN (t.take j) = j
                  · rw [if_pos (.inr hw)] at HV
                    rw [hw] at HW1
                    clear hw
                    go_wp2_with fail
                    rw [← HI.out]
                    refine (HW1.out _).mono ?_
                    rintro e w2 ⟨rfl, rfl⟩
                    go_wp2
                    go_ret2
                    rw [HV.out]
                    exact ⟨rfl, HB.out⟩
                  · rw [if_neg (fun e => e.elim h9 hw)] at HV
                    have hwb : ((whN (t.take j) : Int) == (j : Int)) = false := by simp; omega
                    generalize whN (t.take j) = z at *
                    clear hw h9
                    go_wp2_with fail
                    rw [← HI.out]
                    refine (HW1.out _).mono ?_
                    rintro e w2 ⟨rfl, rfl⟩
                    go_wp2
                    go_ret2
                    rw [HV.out]
                    exact ⟨ret2 (by rw [← HI.out, ← HIl.out, ba_selfL]) (by first | rfl | omega), HB.out⟩
              · have hb2 : (d == 93) = false := by simpa using h2
                rw [hb2] at e93
                have HV := Lib.hid (HN.out (by rw [hb1]; simp [no]) (by rw [hb2]; simp))
                clear HN HF1 h1 h2
                go_wp2
                go_roundg g
                case rel => exact ⟨j + 1, by omega, by go_num, rfl, HV⟩
                case measure => omega
    · have hcb : ((c.toNat : Int) != 91) = true := by
        rw [bne, show ((c.toNat : Int) == 91) = (c == 91) from eqU c 91 (by decide)]
        simpa using hc
      have HV : Hid (labP s.data.toList = ([], 0)) := Lib.hid (by rw [hd]; exact lab_none t hc)
      unfold labV
      rw [HV.out]
      clear hd hc HV
      go_enter Tryd.func11, Tryd.ntmps11
      go_wp2
      go_ret2
      exact ⟨rfl, Below.refl _ _⟩
  · have hs : s = ⟨#[]⟩ := ba_eqL (l := []) (List.length_eq_zero_iff.1 (by rw [szL]; omega))
    subst hs
    clear h0
    unfold labV
    rw [show labP (⟨#[]⟩ : ByteArray).data.toList = ([], 0) from rfl]
    go_enter Tryd.func11, Tryd.ntmps11
    go_wp2
    go_ret2
    exact ⟨rfl, Below.refl _ _⟩
end Lk
end Go.Proofs.YtilippcmdhkddaaDoor
