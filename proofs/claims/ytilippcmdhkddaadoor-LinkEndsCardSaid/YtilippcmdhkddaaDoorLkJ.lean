/- Walks of layer 9, the tenth part: the reference's Title and Tail. -/
import Derived.Test.YtilippcmdhkddaaDoorLkI
namespace Go.Proofs.YtilippcmdhkddaaDoor
open Go Go.RowKit
namespace Lk
open Es
set_option maxRecDepth 100000
set_option linter.unusedVariables false
set_option linter.unusedSimpArgs false

set_option maxHeartbeats 8000000 in
theorem rtitle_any (s : ByteArray) (w : World) (hz : s.size ≤ 100000) :
    Calls Tryd.prog 15 #[.string s] w fun e w' => e = .returned (titV s.data.toList) ∧ Below w.heap.size w w' := by
  have hdl := Lib.hid (szL s)
  by_cases h0 : 0 < s.size
  · obtain ⟨c, t, hd, hck, _⟩ := consAt h0
    rw [List.drop_zero] at hd
    have he := empF h0
    have h01 : (0 : Int) < (s.size : Int) := by omega
    by_cases hc : c = 34 ∨ c = 39 ∨ c = 40
    · have HD := Lib.hid hd
      have HM := Lib.hid (marks_any s w (by omega))
      have HU := Lib.hid (fun (S : ByteArray) W (h : S.size ≤ 100000) => runescape_any S W h)
      have HG := Lib.hid (fun (S : ByteArray) W (h : S.size ≤ 100000) => rgap_any S W (by omega))
      have HP : Hid (titP s.data.toList = match titF c false t with
        | none => ([], 0)
        | some i => if gapP (t.take i) = true then ([], 0) else (une (t.take i), i + 2)) := Lib.hid (by rw [hd]; exact if_pos hc)
      have hc92 : c ≠ 92 := by rintro rfl; revert hc; decide
      have HF0 : Hid (titF c false t = (find no (fun d => c == 40 && d == 40) (· == endB c) (fl false s.data.toList 1) (s.data.toList.drop 1)).map (· + 0)) := Lib.hid (by
        rw [fl_succ 0 false s.data.toList (by rw [List.drop_zero]; exact hd), fl_zero, nf_other _ _ hc92, hd, map_zero]; rfl)
      unfold titV
      generalize titP s.data.toList = r at *
      clear hd
      rcases hc with rfl | rfl | rfl
      · simp only [show endB 34 = 34 from rfl, show ((34 : UInt8) == 40) = false from rfl, Bool.false_and] at HF0
        go_enter Tryd.func15, Tryd.ntmps15
        go_wp2_with fail
        refine HM.out.mono ?_
        rintro e w1 ⟨rfl, hm1, hb1⟩
        have HA := Lib.hid hm1
        have HB := Lib.hid hb1
        clear hm1 hb1 HM
        go_wp2_with fail
        have HFx : Hid (titF 34 false t = (find no (fun _ => false) (· == 34) (fl false s.data.toList 1) (s.data.toList.drop 1)).map (· + 0)) := HF0
        go_loopg [6] (s.size - 1) (fun g s6 wr => ∃ j : Nat, j + 1 + g = s.size ∧ s6 = .int .i64 ((j : Int) + 1) ∧ w1 = wr ∧ Hid (titF 34 false t = (find no (fun _ => false) (· == 34) (fl false s.data.toList (j + 1)) (s.data.toList.drop (j + 1))).map (· + j)))
        case atStart => exact ⟨0, by omega, by go_num, rfl, HFx⟩
        case round =>
          obtain ⟨j, hjg, rfl, rfl, HF⟩ := hrel
          clear HF0 HFx
          cases gk with
          | zero =>
            have hlt : ¬ (j : Int) + 1 < (s.size : Int) := by omega
            have HV : Hid (r = ([], 0)) := Lib.hid (by
              rw [HP.out, HF.out, List.drop_eq_nil_of_le (by rw [hdl.out]; omega), find_nil]; rfl)
            go_wp2
            go_ret2
            rw [HV.out]
            exact ⟨rfl, HB.out⟩
          | succ g =>
            have hlt : (j : Int) + 1 < (s.size : Int) := by omega
            obtain ⟨d, u, hd, hdk, hu⟩ := consAt (show j + 1 < s.size by omega)
            have hfn := fl_succ (j + 1) false s.data.toList hd
            have cm := HA.out.cell (i := j + 1) (by rw [hdl.out]; omega)
            have eE : ((d.toNat : Int) == 34) = (d == 34) := eqU d 34 (by decide)
            have e40 : ((d.toNat : Int) == 40) = (d == 40) := eqU d 40 (by decide)
            have HF1 : Hid (titF 34 false t = (find no (fun _ => false) (· == 34) (fl false s.data.toList (j + 1)) (d :: u)).map (· + j)) := Lib.hid (by rw [← hd]; exact HF.out)
            have HN : Hid (¬ (no d = true ∨ (fl false s.data.toList (j + 1) = false ∧ (fun _ => false) d = true)) → ¬ (fl false s.data.toList (j + 1) = false ∧ (d == 34) = true) → titF 34 false t = (find no (fun _ => false) (· == 34) (fl false s.data.toList (j + 1 + 1)) (s.data.toList.drop (j + 1 + 1))).map (· + (j + 1))) := Lib.hid (fun h1 h2 => by
              rw [HF1.out, find_next (H := no) (B := (fun _ => false)) (S := (· == 34)) h1 h2, hfn, hu])
            have HBad : Hid ((no d = true ∨ (fl false s.data.toList (j + 1) = false ∧ (fun _ => false) d = true)) → r = ([], 0)) := Lib.hid (fun h => by
              rw [HP.out, HF1.out, find_bad (H := no) (B := (fun _ => false)) (S := (· == 34)) h])
            have HHit : Hid (¬ (no d = true ∨ (fl false s.data.toList (j + 1) = false ∧ (fun _ => false) d = true)) → (fl false s.data.toList (j + 1) = false ∧ (d == 34) = true) → r = if gapP (t.take j) = true then ([], 0) else (une (t.take j), j + 2)) := Lib.hid (fun h1 h2 => by
              rw [HP.out, HF1.out, find_hit (H := no) (B := (fun _ => false)) (S := (· == 34)) h1 h2])
            clear hd hu hfn HF HF1
            generalize fl false s.data.toList (j + 1) = x at *
            cases x with
            | true =>
              have HV := Lib.hid (HN.out (by simp [no]) (by simp))
              clear HN HBad HHit
              go_wp2
              go_roundg g
              case rel => exact ⟨j + 1, by omega, by go_num, rfl, HV⟩
              case measure => omega
            | false =>
              by_cases hE : d = 34
              · have hEb : (d == 34) = true := by simpa using hE
                rw [hEb] at eE
                have HV := Lib.hid (HHit.out (by rw [hE]; simp [no]) ⟨rfl, hEb⟩)
                obtain ⟨I, hI⟩ : ∃ I, I = s.extract 1 (j + 1) := ⟨_, rfl⟩
                have hIl : I.data.toList = t.take j := by rw [hI]; exact extract_one HD.out j
                have hIs : I.size ≤ 100000 := by rw [hI]; simp; omega
                have HG1 := Lib.hid (fun W => HG.out I W hIs)
                have HU1 := Lib.hid (fun W => HU.out I W hIs)
                rw [hIl] at HG1 HU1
                have HI := Lib.hid hI
                have b1 : (1 : Int) ≤ (j : Int) + 1 := by omega
                have b2 : (j : Int) + 1 ≤ (s.size : Int) := by omega
                clear HN HBad HHit hI hIl hE
                generalize une (t.take j) = un at *
                unfold str at HU1
                generalize gapP (t.take j) = y at *
                cases y with
                | true =>
                  rw [if_pos rfl] at HV
                  go_wp2_with fail
                  rw [← HI.out]
                  refine (HG1.out _).mono ?_
                  rintro e w2 ⟨rfl, rfl⟩
                  go_wp2
                  go_ret2
                  rw [HV.out]
                  exact ⟨rfl, HB.out⟩
                | false =>
                  rw [if_neg (by simp)] at HV
                  go_wp2_with fail
                  rw [← HI.out]
                  refine (HG1.out _).mono ?_
                  rintro e w2 ⟨rfl, rfl⟩
                  go_wp2_with fail
                  rw [← HI.out]
                  refine (HU1.out _).mono ?_
                  rintro e w3 ⟨rfl, hb3⟩
                  go_wp2
                  go_ret2
                  rw [HV.out]
                  exact ⟨ret2 rfl (by first | rfl | omega), HB.out.trans (hb3.mono HB.out.size)⟩
              · have hEb : (d == 34) = false := by simpa using hE
                rw [hEb] at eE
                have HV := Lib.hid (HN.out (by simp [no]) (by rw [hEb]; simp))
                clear HN HBad HHit hE
                go_wp2
                go_roundg g
                case rel => exact ⟨j + 1, by omega, by go_num, rfl, HV⟩
                case measure => omega
      · simp only [show endB 39 = 39 from rfl, show ((39 : UInt8) == 40) = false from rfl, Bool.false_and] at HF0
        go_enter Tryd.func15, Tryd.ntmps15
        go_wp2_with fail
        refine HM.out.mono ?_
        rintro e w1 ⟨rfl, hm1, hb1⟩
        have HA := Lib.hid hm1
        have HB := Lib.hid hb1
        clear hm1 hb1 HM
        go_wp2_with fail
        have HFx : Hid (titF 39 false t = (find no (fun _ => false) (· == 39) (fl false s.data.toList 1) (s.data.toList.drop 1)).map (· + 0)) := HF0
        go_loopg [6] (s.size - 1) (fun g s6 wr => ∃ j : Nat, j + 1 + g = s.size ∧ s6 = .int .i64 ((j : Int) + 1) ∧ w1 = wr ∧ Hid (titF 39 false t = (find no (fun _ => false) (· == 39) (fl false s.data.toList (j + 1)) (s.data.toList.drop (j + 1))).map (· + j)))
        case atStart => exact ⟨0, by omega, by go_num, rfl, HFx⟩
        case round =>
          obtain ⟨j, hjg, rfl, rfl, HF⟩ := hrel
          clear HF0 HFx
          cases gk with
          | zero =>
            have hlt : ¬ (j : Int) + 1 < (s.size : Int) := by omega
            have HV : Hid (r = ([], 0)) := Lib.hid (by
              rw [HP.out, HF.out, List.drop_eq_nil_of_le (by rw [hdl.out]; omega), find_nil]; rfl)
            go_wp2
            go_ret2
            rw [HV.out]
            exact ⟨rfl, HB.out⟩
          | succ g =>
            have hlt : (j : Int) + 1 < (s.size : Int) := by omega
            obtain ⟨d, u, hd, hdk, hu⟩ := consAt (show j + 1 < s.size by omega)
            have hfn := fl_succ (j + 1) false s.data.toList hd
            have cm := HA.out.cell (i := j + 1) (by rw [hdl.out]; omega)
            have eE : ((d.toNat : Int) == 39) = (d == 39) := eqU d 39 (by decide)
            have e40 : ((d.toNat : Int) == 40) = (d == 40) := eqU d 40 (by decide)
            have HF1 : Hid (titF 39 false t = (find no (fun _ => false) (· == 39) (fl false s.data.toList (j + 1)) (d :: u)).map (· + j)) := Lib.hid (by rw [← hd]; exact HF.out)
            have HN : Hid (¬ (no d = true ∨ (fl false s.data.toList (j + 1) = false ∧ (fun _ => false) d = true)) → ¬ (fl false s.data.toList (j + 1) = false ∧ (d == 39) = true) → titF 39 false t = (find no (fun _ => false) (· == 39) (fl false s.data.toList (j + 1 + 1)) (s.data.toList.drop (j + 1 + 1))).map (· + (j + 1))) := Lib.hid (fun h1 h2 => by
              rw [HF1.out, find_next (H := no) (B := (fun _ => false)) (S := (· == 39)) h1 h2, hfn, hu])
            have HBad : Hid ((no d = true ∨ (fl false s.data.toList (j + 1) = false ∧ (fun _ => false) d = true)) → r = ([], 0)) := Lib.hid (fun h => by
              rw [HP.out, HF1.out, find_bad (H := no) (B := (fun _ => false)) (S := (· == 39)) h])
            have HHit : Hid (¬ (no d = true ∨ (fl false s.data.toList (j + 1) = false ∧ (fun _ => false) d = true)) → (fl false s.data.toList (j + 1) = false ∧ (d == 39) = true) → r = if gapP (t.take j) = true then ([], 0) else (une (t.take j), j + 2)) := Lib.hid (fun h1 h2 => by
              rw [HP.out, HF1.out, find_hit (H := no) (B := (fun _ => false)) (S := (· == 39)) h1 h2])
            clear hd hu hfn HF HF1
            generalize fl false s.data.toList (j + 1) = x at *
            cases x with
            | true =>
              have HV := Lib.hid (HN.out (by simp [no]) (by simp))
              clear HN HBad HHit
              go_wp2
              go_roundg g
              case rel => exact ⟨j + 1, by omega, by go_num, rfl, HV⟩
              case measure => omega
            | false =>
              by_cases hE : d = 39
              · have hEb : (d == 39) = true := by simpa using hE
                rw [hEb] at eE
                have HV := Lib.hid (HHit.out (by rw [hE]; simp [no]) ⟨rfl, hEb⟩)
                obtain ⟨I, hI⟩ : ∃ I, I = s.extract 1 (j + 1) := ⟨_, rfl⟩
                have hIl : I.data.toList = t.take j := by rw [hI]; exact extract_one HD.out j
                have hIs : I.size ≤ 100000 := by rw [hI]; simp; omega
                have HG1 := Lib.hid (fun W => HG.out I W hIs)
                have HU1 := Lib.hid (fun W => HU.out I W hIs)
                rw [hIl] at HG1 HU1
                have HI := Lib.hid hI
                have b1 : (1 : Int) ≤ (j : Int) + 1 := by omega
                have b2 : (j : Int) + 1 ≤ (s.size : Int) := by omega
                clear HN HBad HHit hI hIl hE
                generalize une (t.take j) = un at *
                unfold str at HU1
                generalize gapP (t.take j) = y at *
                cases y with
                | true =>
                  rw [if_pos rfl] at HV
                  go_wp2_with fail
                  rw [← HI.out]
                  refine (HG1.out _).mono ?_
                  rintro e w2 ⟨rfl, rfl⟩
                  go_wp2
                  go_ret2
                  rw [HV.out]
                  exact ⟨rfl, HB.out⟩
                | false =>
                  rw [if_neg (by simp)] at HV
                  go_wp2_with fail
                  rw [← HI.out]
                  refine (HG1.out _).mono ?_
                  rintro e w2 ⟨rfl, rfl⟩
                  go_wp2_with fail
                  rw [← HI.out]
                  refine (HU1.out _).mono ?_
                  rintro e w3 ⟨rfl, hb3⟩
                  go_wp2
                  go_ret2
                  rw [HV.out]
                  exact ⟨ret2 rfl (by first | rfl | omega), HB.out.trans (hb3.mono HB.out.size)⟩
              · have hEb : (d == 39) = false := by simpa using hE
                rw [hEb] at eE
                have HV := Lib.hid (HN.out (by simp [no]) (by rw [hEb]; simp))
                clear HN HBad HHit hE
                go_wp2
                go_roundg g
                case rel => exact ⟨j + 1, by omega, by go_num, rfl, HV⟩
                case measure => omega
      · simp only [show endB 40 = 41 from rfl, show ((40 : UInt8) == 40) = true from rfl, Bool.true_and] at HF0
        go_enter Tryd.func15, Tryd.ntmps15
        go_wp2_with fail
        refine HM.out.mono ?_
        rintro e w1 ⟨rfl, hm1, hb1⟩
        have HA := Lib.hid hm1
        have HB := Lib.hid hb1
        clear hm1 hb1 HM
        go_wp2_with fail
        have HFx : Hid (titF 40 false t = (find no (fun d => d == 40) (· == 41) (fl false s.data.toList 1) (s.data.toList.drop 1)).map (· + 0)) := HF0
        go_loopg [6] (s.size - 1) (fun g s6 wr => ∃ j : Nat, j + 1 + g = s.size ∧ s6 = .int .i64 ((j : Int) + 1) ∧ w1 = wr ∧ Hid (titF 40 false t = (find no (fun d => d == 40) (· == 41) (fl false s.data.toList (j + 1)) (s.data.toList.drop (j + 1))).map (· + j)))
        case atStart => exact ⟨0, by omega, by go_num, rfl, HFx⟩
        case round =>
          obtain ⟨j, hjg, rfl, rfl, HF⟩ := hrel
          clear HF0 HFx
          cases gk with
          | zero =>
            have hlt : ¬ (j : Int) + 1 < (s.size : Int) := by omega
            have HV : Hid (r = ([], 0)) := Lib.hid (by
              rw [HP.out, HF.out, List.drop_eq_nil_of_le (by rw [hdl.out]; omega), find_nil]; rfl)
            go_wp2
            go_ret2
            rw [HV.out]
            exact ⟨rfl, HB.out⟩
          | succ g =>
            have hlt : (j : Int) + 1 < (s.size : Int) := by omega
            obtain ⟨d, u, hd, hdk, hu⟩ := consAt (show j + 1 < s.size by omega)
            have hfn := fl_succ (j + 1) false s.data.toList hd
            have cm := HA.out.cell (i := j + 1) (by rw [hdl.out]; omega)
            have eE : ((d.toNat : Int) == 41) = (d == 41) := eqU d 41 (by decide)
            have e40 : ((d.toNat : Int) == 40) = (d == 40) := eqU d 40 (by decide)
            have HF1 : Hid (titF 40 false t = (find no (fun d => d == 40) (· == 41) (fl false s.data.toList (j + 1)) (d :: u)).map (· + j)) := Lib.hid (by rw [← hd]; exact HF.out)
            have HN : Hid (¬ (no d = true ∨ (fl false s.data.toList (j + 1) = false ∧ (fun d => d == 40) d = true)) → ¬ (fl false s.data.toList (j + 1) = false ∧ (d == 41) = true) → titF 40 false t = (find no (fun d => d == 40) (· == 41) (fl false s.data.toList (j + 1 + 1)) (s.data.toList.drop (j + 1 + 1))).map (· + (j + 1))) := Lib.hid (fun h1 h2 => by
              rw [HF1.out, find_next (H := no) (B := (fun d => d == 40)) (S := (· == 41)) h1 h2, hfn, hu])
            have HBad : Hid ((no d = true ∨ (fl false s.data.toList (j + 1) = false ∧ (fun d => d == 40) d = true)) → r = ([], 0)) := Lib.hid (fun h => by
              rw [HP.out, HF1.out, find_bad (H := no) (B := (fun d => d == 40)) (S := (· == 41)) h])
            have HHit : Hid (¬ (no d = true ∨ (fl false s.data.toList (j + 1) = false ∧ (fun d => d == 40) d = true)) → (fl false s.data.toList (j + 1) = false ∧ (d == 41) = true) → r = if gapP (t.take j) = true then ([], 0) else (une (t.take j), j + 2)) := Lib.hid (fun h1 h2 => by
              rw [HP.out, HF1.out, find_hit (H := no) (B := (fun d => d == 40)) (S := (· == 41)) h1 h2])
            clear hd hu hfn HF HF1
            generalize fl false s.data.toList (j + 1) = x at *
            cases x with
            | true =>
              have HV := Lib.hid (HN.out (by simp [no]) (by simp))
              clear HN HBad HHit
              go_wp2
              go_roundg g
              case rel => exact ⟨j + 1, by omega, by go_num, rfl, HV⟩
              case measure => omega
            | false =>
              by_cases hE : d = 41
              · have hEb : (d == 41) = true := by simpa using hE
                rw [hEb] at eE
                have HV := Lib.hid (HHit.out (by rw [hE]; simp [no]) ⟨rfl, hEb⟩)
                obtain ⟨I, hI⟩ : ∃ I, I = s.extract 1 (j + 1) := ⟨_, rfl⟩
                have hIl : I.data.toList = t.take j := by rw [hI]; exact extract_one HD.out j
                have hIs : I.size ≤ 100000 := by rw [hI]; simp; omega
                have HG1 := Lib.hid (fun W => HG.out I W hIs)
                have HU1 := Lib.hid (fun W => HU.out I W hIs)
                rw [hIl] at HG1 HU1
                have HI := Lib.hid hI
                have b1 : (1 : Int) ≤ (j : Int) + 1 := by omega
                have b2 : (j : Int) + 1 ≤ (s.size : Int) := by omega
                clear HN HBad HHit hI hIl hE
                generalize une (t.take j) = un at *
                unfold str at HU1
                generalize gapP (t.take j) = y at *
                cases y with
                | true =>
                  rw [if_pos rfl] at HV
                  go_wp2_with fail
                  rw [← HI.out]
                  refine (HG1.out _).mono ?_
                  rintro e w2 ⟨rfl, rfl⟩
                  go_wp2
                  go_ret2
                  rw [HV.out]
                  exact ⟨rfl, HB.out⟩
                | false =>
                  rw [if_neg (by simp)] at HV
                  go_wp2_with fail
                  rw [← HI.out]
                  refine (HG1.out _).mono ?_
                  rintro e w2 ⟨rfl, rfl⟩
                  go_wp2_with fail
                  rw [← HI.out]
                  refine (HU1.out _).mono ?_
                  rintro e w3 ⟨rfl, hb3⟩
                  go_wp2
                  go_ret2
                  rw [HV.out]
                  exact ⟨ret2 rfl (by first | rfl | omega), HB.out.trans (hb3.mono HB.out.size)⟩
              · have hEb : (d == 41) = false := by simpa using hE
                rw [hEb] at eE
                by_cases h40 : d = 40
                · have hz : (d == 40) = true := by simpa using h40
                  rw [hz] at e40
                  have HV := Lib.hid (HBad.out (.inr ⟨rfl, hz⟩))
                  clear HN HBad HHit hE h40
                  go_wp2
                  go_ret2
                  rw [HV.out]
                  exact ⟨rfl, HB.out⟩
                · have hz : (d == 40) = false := by simpa using h40
                  rw [hz] at e40
                  have HV := Lib.hid (HN.out (by simp [no, h40]) (by rw [hEb]; simp))
                  clear HN HBad HHit hE h40
                  go_wp2
                  go_roundg g
                  case rel => exact ⟨j + 1, by omega, by go_num, rfl, HV⟩
                  case measure => omega
    · have n34 : ((c.toNat : Int) != 34) = true := by
        rw [bne, show ((c.toNat : Int) == 34) = (c == 34) from eqU c 34 (by decide), beq_eq_false_iff_ne.2 (fun e => hc (.inl e))]; rfl
      have n39 : ((c.toNat : Int) != 39) = true := by
        rw [bne, show ((c.toNat : Int) == 39) = (c == 39) from eqU c 39 (by decide), beq_eq_false_iff_ne.2 (fun e => hc (.inr (.inl e)))]; rfl
      have n40 : ((c.toNat : Int) != 40) = true := by
        rw [bne, show ((c.toNat : Int) == 40) = (c == 40) from eqU c 40 (by decide), beq_eq_false_iff_ne.2 (fun e => hc (.inr (.inr e)))]; rfl
      have HV : Hid (titP s.data.toList = ([], 0)) := Lib.hid (by rw [hd]; exact if_neg hc)
      unfold titV
      rw [HV.out]
      clear hd hc HV
      go_enter Tryd.func15, Tryd.ntmps15
      go_wp2
      go_ret2
      exact ⟨rfl, Below.refl _ _⟩
  · have hs : s = ⟨#[]⟩ := ba_eqL (l := []) (List.length_eq_zero_iff.1 (by rw [szL]; omega))
    subst hs
    clear h0
    unfold titV
    rw [show titP (⟨#[]⟩ : ByteArray).data.toList = ([], 0) from rfl]
    go_enter Tryd.func15, Tryd.ntmps15
    go_wp2
    go_ret2
    exact ⟨rfl, Below.refl _ _⟩

theorem behind_one {t : List UInt8} {n p g : Nat} (hn : 0 < n) (hg : whN (t.drop p) = g) (h0 : 0 < g) (hT : (titP (t.drop (p + g))).2 = 0) : behind t n p = ([], p) := by
  unfold behind
  simp only [hg]
  rw [if_neg (by omega)]
theorem behind_two {t : List UInt8} {n p g : Nat} (hn : 0 < n) (hg : whN (t.drop p) = g) (h0 : 0 < g) (hT : 0 < (titP (t.drop (p + g))).2) : behind t n p = ((titP (t.drop (p + g))).1, p + g + (titP (t.drop (p + g))).2) := by
  unfold behind
  simp only [hg]
  rw [if_pos ⟨hn, h0, hT⟩]
theorem behind_white {t : List UInt8} {n p : Nat} (hg : whN (t.drop p) = 0) : behind t n p = ([], p) := by
  unfold behind
  simp only [hg]
  rw [if_neg (by omega)]

set_option maxHeartbeats 8000000 in
theorem rtail_any (s : ByteArray) (w : World) (hz : s.size ≤ 100000) :
    Calls Tryd.prog 17 #[.string s] w fun e w' => e = .returned (tailV s.data.toList) ∧ Below w.heap.size w w' := by
  unfold tailV
  by_cases h0 : 0 < s.size
  · obtain ⟨c, t, ht, hck, _⟩ := consAt h0
    rw [List.drop_zero] at ht
    have he := empF h0
    have h01 : (0 : Int) < (s.size : Int) := by omega
    by_cases hc : c = 40
    · subst hc
      have hts : t.length + 1 = s.size := by rw [← szL s, ht]; rfl
      have hx : ∀ k, (s.extract (1 + k) s.size).data.toList = t.drop k := fun k => by rw [ext_restL, ht, Nat.add_comm, List.drop_succ_cons]
      obtain ⟨a, ha⟩ : ∃ a, a = whN t := ⟨_, rfl⟩
      have hat : a ≤ t.length := by rw [ha]; exact whN_le t
      have HW1 := Lib.hid (fun W => rwhite_any (s.extract 1 s.size) W (by simp; omega))
      rw [show (s.extract 1 s.size).data.toList = t by have := hx 0; rw [List.drop_zero] at this; exact this, ← ha] at HW1
      obtain ⟨p1, hp1⟩ : ∃ p1, p1 = 1 + a := ⟨_, rfl⟩
      have HD := Lib.hid (fun W => rdest_any (s.extract p1 s.size) W (by simp; omega))
      rw [hp1, hx a, ← hp1] at HD
      obtain ⟨hdl, hd1, hd2⟩ := dest_le (t.drop a)
      rw [List.length_drop] at hdl
      have HT : Hid (tailP s.data.toList = if (t.drop ((behind t (destP (t.drop a)).2.1 (a + (destP (t.drop a)).2.1)).2 + whN (t.drop (behind t (destP (t.drop a)).2.1 (a + (destP (t.drop a)).2.1)).2))).head? = some 41 then ((destP (t.drop a)).1, (behind t (destP (t.drop a)).2.1 (a + (destP (t.drop a)).2.1)).1, (behind t (destP (t.drop a)).2.1 (a + (destP (t.drop a)).2.1)).2 + whN (t.drop (behind t (destP (t.drop a)).2.1 (a + (destP (t.drop a)).2.1)).2) + 2) else ([], [], 0)) := Lib.hid (by rw [ht, ha]; rfl)
      unfold dstV at HD
      obtain ⟨D, n, ok, hD⟩ : ∃ D n ok, destP (t.drop a) = (D, n, ok) := ⟨_, _, _, rfl⟩
      rw [hD] at HD HT hdl
      simp only at HD HT hdl
      unfold str at HD
      obtain ⟨p2, hp2⟩ : ∃ p2, p2 = p1 + n := ⟨_, rfl⟩
      have i1 : (1 : Int) + (a : Int) = (p1 : Int) := by omega
      have i2 : (p1 : Int) + (n : Int) = (p2 : Int) := by omega
      have b1 : (p1 : Int) ≤ (s.size : Int) := by omega
      have b2 : (p2 : Int) ≤ (s.size : Int) := by omega
      have b0 : (1 : Int) ≤ (s.size : Int) := by omega
      obtain ⟨g, hg⟩ : ∃ g, whN (t.drop (a + n)) = g := ⟨_, rfl⟩
      have hgl := whN_le (t.drop (a + n))
      rw [List.length_drop, hg] at hgl
      have HW2 := Lib.hid (fun W => rwhite_any (s.extract p2 s.size) W (by simp; omega))
      rw [show p2 = 1 + (a + n) by omega, hx (a + n), hg, show 1 + (a + n) = p2 by omega] at HW2
      obtain ⟨p3, hp3⟩ : ∃ p3, p3 = p2 + g := ⟨_, rfl⟩
      have i3 : (p2 : Int) + (g : Int) = (p3 : Int) := by omega
      have b3 : (p3 : Int) ≤ (s.size : Int) := by omega
      have HTi := Lib.hid (fun W => rtitle_any (s.extract p3 s.size) W (by simp; omega))
      rw [show p3 = 1 + (a + n + g) by omega, hx (a + n + g), show 1 + (a + n + g) = p3 by omega] at HTi
      have hml := tit_le (t.drop (a + n + g))
      rw [List.length_drop] at hml
      unfold titV at HTi
      have HBeh : Hid (((0 < n ∧ 0 < g) ∧ 0 < (titP (t.drop (a + n + g))).2 ∧ behind t n (a + n) = ((titP (t.drop (a + n + g))).1, a + n + g + (titP (t.drop (a + n + g))).2)) ∨ ((0 < n ∧ 0 < g) ∧ (titP (t.drop (a + n + g))).2 = 0 ∧ behind t n (a + n) = ([], a + n)) ∨ (¬ (0 < n ∧ 0 < g) ∧ behind t n (a + n) = ([], a + n))) := Lib.hid (by
        rcases Nat.eq_zero_or_pos n with h | h
        · exact .inr (.inr ⟨by omega, by subst h; exact behind_none t _⟩)
        · rcases Nat.eq_zero_or_pos g with h' | h'
          · exact .inr (.inr ⟨by omega, by subst h'; exact behind_white hg⟩)
          · rcases Nat.eq_zero_or_pos (titP (t.drop (a + n + g))).2 with h2 | h2
            · exact .inr (.inl ⟨⟨h, h'⟩, h2, behind_one h hg h' h2⟩)
            · exact .inl ⟨⟨h, h'⟩, h2, behind_two h hg h' h2⟩)
      obtain ⟨X, m, hXm⟩ : ∃ X m, behind t n (a + n) = (X, m) := ⟨_, _, rfl⟩
      rw [hXm] at HBeh HT
      simp only at HT
      obtain ⟨T1, T2, hTT⟩ : ∃ T1 T2, titP (t.drop (a + n + g)) = (T1, T2) := ⟨_, _, rfl⟩
      rw [hTT] at HTi HBeh hml
      simp only at HTi HBeh hml
      unfold str at HTi
      have hmt : m ≤ t.length := by
        rcases HBeh.out with ⟨_, _, e⟩ | ⟨_, _, e⟩ | ⟨_, e⟩ <;> · cases e; omega
      obtain ⟨p4, hp4⟩ : ∃ p4, p4 = 1 + m := ⟨_, rfl⟩
      have b4 : (p4 : Int) ≤ (s.size : Int) := by omega
      obtain ⟨q, hq⟩ : ∃ q, whN (t.drop m) = q := ⟨_, rfl⟩
      have hql := whN_le (t.drop m)
      rw [List.length_drop, hq] at hql
      have HW3 := Lib.hid (fun W => rwhite_any (s.extract p4 s.size) W (by simp; omega))
      rw [hp4, hx m, hq, ← hp4] at HW3
      rw [hq] at HT
      obtain ⟨p5, hp5⟩ : ∃ p5, p5 = p4 + q := ⟨_, rfl⟩
      have i5 : (p4 : Int) + (q : Int) = (p5 : Int) := by omega
      have hp5n : p5 = m + q + 1 := by omega
      have b5 : (p5 : Int) ≤ (s.size : Int) := by omega
      have HEnd : Hid (p5 < s.size → ∃ d u, t.drop (m + q) = d :: u ∧ s[p5]? = some d) := Lib.hid (fun h => by
        obtain ⟨d, u, hd, hdk, _⟩ := consAt h
        have : s.data.toList.drop p5 = t.drop (m + q) := by rw [ht, hp5n, List.drop_succ_cons]
        exact ⟨d, u, by rw [← this]; exact hd, by rw [getElem?_pos s p5 h, hdk]⟩)
      have HOut : Hid (s.size ≤ p5 → t.drop (m + q) = []) := Lib.hid (fun h => List.drop_eq_nil_of_le (by omega))
      generalize tailP s.data.toList = r at *
      have HM4 : Hid (p4 = 1 + m) := Lib.hid hp4
      have HP3 : Hid (p3 = 1 + (a + n + g)) := Lib.hid (by omega)
      have HP2 : Hid (p2 = 1 + (a + n)) := Lib.hid (by omega)
      have hT2b : (p3 : Int) + (T2 : Int) ≤ (s.size : Int) := by omega
      clear hml hd1 hd2 hD hg ha hx ht hXm hTT hq hdl hgl hql hmt hp1 hp2 hp3 hp4 hat hts
      go_enter Tryd.func17, Tryd.ntmps17
      go_wp2_with fail
      refine (HW1.out _).mono ?_
      rintro e w1 ⟨rfl, rfl⟩
      go_wp2_with fail
      refine (HD.out _).mono ?_
      rintro e w2 ⟨rfl, hb2⟩
      go_wp2_with fail
      refine (HW2.out _).mono ?_
      rintro e w3 ⟨rfl, rfl⟩
      go_upto_region 8 with fail
      obtain ⟨z, hz44⟩ : ∃ z : Bool, z = decide (0 < n ∧ 0 < g) := ⟨_, rfl⟩
      have HZ := Lib.hid hz44
      clear hz44
      go_cut [44] (fun v44 wx => v44 = .bool z ∧ w2 = wx)
      case first =>
        rcases Nat.eq_zero_or_pos n with h | h
        · have hzf : z = false := by rw [HZ.out]; simp [h]
          subst h
          go_wp2
          go_meet
          exact ⟨by rw [hzf], rfl⟩
        · have g1 : (0 : Int) < (n : Int) := by omega
          rcases Nat.eq_zero_or_pos g with h' | h'
          · have hzf : z = false := by rw [HZ.out]; simp [h']
            subst h'
            go_wp2
            go_meet
            exact ⟨by rw [hzf], rfl⟩
          · have g2 : (0 : Int) < (g : Int) := by omega
            have hzf : z = true := by rw [HZ.out]; simp [h, h']
            go_wp2
            go_meet
            exact ⟨by rw [hzf], rfl⟩
      obtain ⟨rfl, rfl⟩ := hcut
      go_upto_if 44 with fail
      go_cut [5, 10] (fun v5 v10 wx => v5 = .int .i64 (p4 : Int) ∧ v10 = .string ⟨X.toArray⟩ ∧ Below w.heap.size w wx)
      case first =>
        rcases HBeh.out with ⟨⟨h1, h2⟩, h3, e⟩ | ⟨⟨h1, h2⟩, h3, e⟩ | ⟨h1, e⟩
        · cases e
          obtain rfl : z = true := by rw [HZ.out]; simp [h1, h2]
          have g3 : (0 : Int) < (T2 : Int) := by omega
          have HQ : Hid ((p3 : Int) + (T2 : Int) = (p4 : Int)) := Lib.hid (by have := HM4.out; have := HP3.out; omega)
          go_wp2_with fail
          refine (HTi.out _).mono ?_
          rintro e w4 ⟨rfl, hb4⟩
          go_wp2
          go_meet
          exact ⟨by rw [HQ.out], rfl, hb2.trans (hb4.mono hb2.size)⟩
        · cases e
          obtain rfl : z = true := by rw [HZ.out]; simp [h1, h2]
          subst h3
          have HQ : Hid ((p2 : Int) = (p4 : Int)) := Lib.hid (by have := HM4.out; have := HP2.out; omega)
          go_wp2_with fail
          refine (HTi.out _).mono ?_
          rintro e w4 ⟨rfl, hb4⟩
          go_wp2
          go_meet
          exact ⟨by rw [HQ.out], rfl, hb2.trans (hb4.mono hb2.size)⟩
        · cases e
          have HQ : Hid ((p2 : Int) = (p4 : Int)) := Lib.hid (by have := HM4.out; have := HP2.out; omega)
          obtain rfl : z = false := by rw [HZ.out]; exact decide_eq_false h1
          go_wp2
          go_meet
          exact ⟨by rw [HQ.out], rfl, hb2⟩
      case rest =>
        obtain ⟨rfl, rfl, hb3⟩ := hcut
        have HB3 := Lib.hid hb3
        clear hb2 hb3 HBeh hT2b
        go_wp2_with fail
        refine (HW3.out _).mono ?_
        rintro e w5 ⟨rfl, rfl⟩
        by_cases hlt : p5 < s.size
        · obtain ⟨d, u, hd, hdk0⟩ := HEnd.out hlt
          have hdk : s[p5] = d := by rw [getElem?_pos s p5 hlt] at hdk0; exact Option.some.inj hdk0
          have hlt' : (p5 : Int) < (s.size : Int) := by omega
          by_cases h41 : d = 41
          · have hdb : ((d.toNat : Int) != 41) = false := by
              rw [bne, show ((d.toNat : Int) == 41) = (d == 41) from eqU d 41 (by decide), h41]; rfl
            have HV : Hid (r = (D, X, m + q + 2)) := Lib.hid (by rw [HT.out, hd, h41]; rfl)
            have HQ : Hid ((p5 : Int) + 1 = ((m + q + 2 : Nat) : Int)) := Lib.hid (by omega)
            clear hd hdk0 h41 HT hp5n hp5
            go_wp2
            go_ret3
            rw [HV.out]
            exact ⟨ret3s rfl rfl HQ.out, HB3.out⟩
          · have hdb : ((d.toNat : Int) != 41) = true := by
              rw [bne, show ((d.toNat : Int) == 41) = (d == 41) from eqU d 41 (by decide), beq_eq_false_iff_ne.2 h41]; rfl
            have HV : Hid (r = ([], [], 0)) := Lib.hid (by rw [HT.out, hd, if_neg (by simpa using h41)])
            clear hd hdk0 h41 HT hp5n hp5
            go_wp2
            go_ret3
            rw [HV.out]
            exact ⟨rfl, HB3.out⟩
        · have hlt' : ¬ (p5 : Int) < (s.size : Int) := by omega
          have hge : (s.size : Int) ≤ (p5 : Int) := by omega
          have HV : Hid (r = ([], [], 0)) := Lib.hid (by rw [HT.out, HOut.out (by omega), if_neg (by simp)])
          clear HT hp5n hp5 hlt
          go_wp2
          go_ret3
          rw [HV.out]
          exact ⟨rfl, HB3.out⟩
    · have hcb : ((c.toNat : Int) != 40) = true := by
        rw [bne, show ((c.toNat : Int) == 40) = (c == 40) from eqU c 40 (by decide)]
        simpa using hc
      have HV : Hid (tailP s.data.toList = ([], [], 0)) := Lib.hid (by rw [ht]; exact tail_none t hc)
      rw [HV.out]
      clear ht hc HV
      go_enter Tryd.func17, Tryd.ntmps17
      go_wp2
      go_ret3
      exact ⟨rfl, Below.refl _ _⟩
  · have hs : s = ⟨#[]⟩ := ba_eqL (l := []) (List.length_eq_zero_iff.1 (by rw [szL]; omega))
    subst hs
    clear h0
    rw [show tailP (⟨#[]⟩ : ByteArray).data.toList = ([], [], 0) from rfl]
    go_enter Tryd.func17, Tryd.ntmps17
    go_wp2
    go_ret3
    exact ⟨rfl, Below.refl _ _⟩
end Lk
end Go.Proofs.YtilippcmdhkddaaDoor
