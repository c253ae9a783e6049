/- Walks of layer 9, the ninth part: the reference's addresses. -/
import Derived.Test.YtilippcmdhkddaaDoorLkH
import Derived.Deep.CutBlock
namespace Go.Proofs.YtilippcmdhkddaaDoor
open Go Go.RowKit
namespace Lk
open Es
set_option maxRecDepth 100000
set_option linter.unusedVariables false
set_option linter.unusedSimpArgs false

set_option maxHeartbeats 4000000 in
theorem rangled_any (s : ByteArray) (t : List UInt8) (ht : s.data.toList = 60 :: t) (w : World) (hz : s.size ≤ 100000) :
    Calls Tryd.prog 26 #[.string s] w fun e w' => e = .returned (dstV s.data.toList) ∧ Below w.heap.size w w' := by
  have hdl := Lib.hid (szL s)
  have h0 : 0 < s.size := by rw [← szL, ht]; simp
  have HD := Lib.hid ht
  have HM := Lib.hid (marks_any s w (by omega))
  have HU := Lib.hid (fun (S : ByteArray) W (h : S.size ≤ 100000) => runescape_any S W h)
  have HP : Hid (destP s.data.toList = match angF false t with
    | none => ([], 0, false)
    | some i => (une (t.take i), i + 2, true)) := Lib.hid (by rw [ht]; rfl)
  have HF0 : Hid (angF false t = (find (· == 10) (· == 60) (· == 62) (fl false s.data.toList 1) (s.data.toList.drop 1)).map (· + 0)) := Lib.hid (by
    rw [fl_succ 0 false s.data.toList (by rw [List.drop_zero]; exact ht), fl_zero, nf_other _ _ (by decide), ht, map_zero]; rfl)
  unfold dstV
  generalize destP s.data.toList = r at *
  clear ht
  go_enter Tryd.func26, Tryd.ntmps26
  go_wp2_with fail
  refine HM.out.mono ?_
  rintro e w1 ⟨rfl, hm1, hb1⟩
  have HA := Lib.hid hm1
  have HB := Lib.hid hb1
  clear hm1 hb1 HM
  go_wp2_with fail
  go_loopg [6] (s.size - 1) (fun g s5 wr => ∃ j : Nat, j + 1 + g = s.size ∧ s5 = .int .i64 ((j : Int) + 1) ∧ w1 = wr ∧ Hid (angF false t = (find (· == 10) (· == 60) (· == 62) (fl false s.data.toList (j + 1)) (s.data.toList.drop (j + 1))).map (· + j)))
  case atStart => exact ⟨0, by omega, by go_num, rfl, HF0⟩
  case round =>
    obtain ⟨j, hjg, rfl, rfl, HF⟩ := hrel
    clear HF0
    cases gk with
    | zero =>
      have hlt : ¬ (j : Int) + 1 < (s.size : Int) := by omega
      have HV : Hid (r = ([], 0, false)) := Lib.hid (by
        rw [HP.out, HF.out, List.drop_eq_nil_of_le (by rw [hdl.out]; omega), find_nil]; rfl)
      go_wp2
      go_ret3
      rw [HV.out]
      exact ⟨rfl, HB.out⟩
    | succ g =>
      have hlt : (j : Int) + 1 < (s.size : Int) := by omega
      obtain ⟨d, u, hd, hdk, hu⟩ := consAt (show j + 1 < s.size by omega)
      have hfn := fl_succ (j + 1) false s.data.toList hd
      have cm := HA.out.cell (i := j + 1) (by rw [hdl.out]; omega)
      have e10 : ((d.toNat : Int) == 10) = (d == 10) := eqU d 10 (by decide)
      have e60 : ((d.toNat : Int) == 60) = (d == 60) := eqU d 60 (by decide)
      have e62 : ((d.toNat : Int) == 62) = (d == 62) := eqU d 62 (by decide)
      have HF1 : Hid (angF false t = (find (· == 10) (· == 60) (· == 62) (fl false s.data.toList (j + 1)) (d :: u)).map (· + j)) := Lib.hid (by rw [← hd]; exact HF.out)
      have HN : Hid (¬ ((d == 10) = true ∨ (fl false s.data.toList (j + 1) = false ∧ (d == 60) = true)) → ¬ (fl false s.data.toList (j + 1) = false ∧ (d == 62) = true) → angF false t = (find (· == 10) (· == 60) (· == 62) (fl false s.data.toList (j + 1 + 1)) (s.data.toList.drop (j + 1 + 1))).map (· + (j + 1))) := Lib.hid (fun h1 h2 => by
        rw [HF1.out, find_next (H := (· == 10)) (B := (· == 60)) (S := (· == 62)) h1 h2, hfn, hu])
      have HBad : Hid (((d == 10) = true ∨ (fl false s.data.toList (j + 1) = false ∧ (d == 60) = true)) → r = ([], 0, false)) := Lib.hid (fun h => by
        rw [HP.out, HF1.out, find_bad (H := (· == 10)) (B := (· == 60)) (S := (· == 62)) h])
      have HHit : Hid (¬ ((d == 10) = true ∨ (fl false s.data.toList (j + 1) = false ∧ (d == 60) = true)) → (fl false s.data.toList (j + 1) = false ∧ (d == 62) = true) → r = (une (t.take j), j + 2, true)) := Lib.hid (fun h1 h2 => by
        rw [HP.out, HF1.out, find_hit (H := (· == 10)) (B := (· == 60)) (S := (· == 62)) h1 h2])
      clear hd hu hfn HF HF1
      generalize fl false s.data.toList (j + 1) = x at *
      generalize (d == 10) = z1 at *
      cases z1 with
      | true =>
        have HV := Lib.hid (HBad.out (.inl rfl))
        clear HN HBad HHit
        go_wp2
        go_ret3
        rw [HV.out]
        exact ⟨rfl, HB.out⟩
      | false =>
        generalize (d == 60) = z2 at *
        generalize (d == 62) = z3 at *
        cases x with
        | true =>
          have HV := Lib.hid (HN.out (by simp) (by simp))
          clear HN HBad HHit
          cases z2 <;> cases z3 <;>
          · go_wp2
            go_roundg g
            case rel => exact ⟨j + 1, by omega, by go_num, rfl, HV⟩
            case measure => omega
        | false =>
          cases z2 with
          | true =>
            have HV := Lib.hid (HBad.out (.inr ⟨rfl, rfl⟩))
            clear HN HBad HHit
            go_wp2
            go_ret3
            rw [HV.out]
            exact ⟨rfl, HB.out⟩
          | false =>
            cases z3 with
            | true =>
              have HV := Lib.hid (HHit.out (by simp) ⟨rfl, rfl⟩)
              obtain ⟨I, hI⟩ : ∃ I, I = s.extract 1 (j + 1) := ⟨_, rfl⟩
              have hIl : I.data.toList = t.take j := by rw [hI]; exact extract_one HD.out j
              have HU1 := Lib.hid (fun W => HU.out I W (by
                rw [hI]; simp; omega))
              rw [hIl] at HU1
              have HI := Lib.hid hI
              have b1 : (1 : Int) ≤ (j : Int) + 1 := by omega
              have b2 : (j : Int) + 1 ≤ (s.size : Int) := by omega
              clear HN HBad HHit hI hIl
              generalize une (t.take j) = un at *
              unfold str at HU1
              go_wp2_with fail
              rw [← HI.out]
              refine (HU1.out _).mono ?_
              rintro e w2 ⟨rfl, hb2⟩
              go_wp2
              go_ret3
              rw [HV.out]
              exact ⟨ret3 rfl (by first | rfl | omega) rfl, HB.out.trans (hb2.mono HB.out.size)⟩
            | false =>
              have HV := Lib.hid (HN.out (by simp) (by simp))
              clear HN HBad HHit
              go_wp2
              go_roundg g
              case rel => exact ⟨j + 1, by omega, by go_num, rfl, HV⟩
              case measure => omega

/-- The bytes that an address without brackets may have. -/
theorem dst_over {o : Nat} {f : Bool} {l : List UInt8} (h : ∀ c ∈ l.head?, c.toNat ≤ 32 ∨ c = 127) : dst o f l = if o = 0 then some 0 else none := by
  cases l with
  | nil => exact dst_nil o f
  | cons c t => rw [dst_cons, if_pos (h c rfl)]

set_option maxHeartbeats 4000000 in
theorem rdest_any (s : ByteArray) (w : World) (hz : s.size ≤ 100000) :
    Calls Tryd.prog 13 #[.string s] w fun e w' => e = .returned (dstV s.data.toList) ∧ Below w.heap.size w w' := by
  have hdl := Lib.hid (szL s)
  by_cases hh : s.data.toList.head? = some 60
  · obtain ⟨t, ht⟩ := head_cons hh
    have h0 : 0 < s.size := by rw [← szL, ht]; simp
    obtain ⟨c, t', hd, hck, _⟩ := consAt h0
    rw [List.drop_zero, ht] at hd
    obtain rfl : (60 : UInt8) = c := (List.cons.inj hd).1
    have he := empF h0
    have h01 : (0 : Int) < (s.size : Int) := by omega
    have HAng := Lib.hid (rangled_any s t ht w hz)
    unfold dstV at HAng ⊢
    unfold str at HAng ⊢
    generalize destP s.data.toList = r at *
    clear hd ht hh
    go_enter Tryd.func13, Tryd.ntmps13
    go_wp2_with fail
    refine HAng.out.mono ?_
    rintro e w1 ⟨rfl, hb1⟩
    go_wp2
    go_ret3
    exact ⟨rfl, hb1⟩
  · have HM := Lib.hid (marks_any s w (by omega))
    by_cases h0 : 0 < s.size
    case neg =>
      have hs : s = ⟨#[]⟩ := ba_eqL (l := []) (List.length_eq_zero_iff.1 (by rw [szL]; omega))
      subst hs
      clear h0 hh
      unfold dstV
      rw [show destP (⟨#[]⟩ : ByteArray).data.toList = ([], 0, false) from rfl]
      go_enter Tryd.func13, Tryd.ntmps13
      go_wp2_with fail
      refine HM.out.mono ?_
      rintro e w1 ⟨rfl, hm1, hb1⟩
      have HB := Lib.hid hb1
      clear hm1 hb1 HM
      go_wp2_with fail
      go_loopg [6, 7] 0 (fun g v6 v7 wr => v6 = .int .i64 0 ∧ v7 = .int .i64 0 ∧ w1 = wr)
      case atStart => exact ⟨rfl, rfl, rfl⟩
      case round =>
        obtain ⟨rfl, rfl, rfl⟩ := hrel
        go_wp2
        go_ret3
        exact ⟨rfl, HB.out⟩
    have HU := Lib.hid (fun (S : ByteArray) W (h : S.size ≤ 100000) => runescape_any S W h)
    obtain ⟨c0, t0, hd0, hck0, _⟩ := consAt h0
    rw [List.drop_zero] at hd0
    have he := empF h0
    have h01 : (0 : Int) < (s.size : Int) := by omega
    have h60 : ((c0.toNat : Int) == 60) = false := (eqU c0 60 (by decide)).trans (beq_eq_false_iff_ne.2 fun e => hh (by rw [hd0, e]; rfl))
    have HP : Hid (destP s.data.toList = match dst 0 false s.data.toList with
      | none => ([], 0, false)
      | some n => if n = 0 then ([], 0, false) else (une (s.data.toList.take n), n, true)) := Lib.hid (by
      rw [hd0]; exact if_neg (fun e => hh (by rw [hd0, e]; rfl)))
    have HF0 : Hid (dst 0 false s.data.toList = (dst 0 (fl false s.data.toList 0) (s.data.toList.drop 0)).map (· + 0)) := Lib.hid (by rw [List.drop_zero, fl_zero, map_zero])
    unfold dstV
    generalize destP s.data.toList = r at *
    clear hh hd0
    go_enter Tryd.func13, Tryd.ntmps13
    go_wp2_with fail
    refine HM.out.mono ?_
    rintro e w1 ⟨rfl, hm1, hb1⟩
    have HA := Lib.hid hm1
    have HB := Lib.hid hb1
    clear hm1 hb1 HM
    go_upto_block 0 with fail
    go_cut [6, 7] (fun v6 v7 wx => ∃ n o : Nat, v6 = .int .i64 (o : Int) ∧ v7 = .int .i64 (n : Int) ∧ w1 = wx ∧ n ≤ s.size ∧ o ≤ 32 ∧ Hid (dst 0 false s.data.toList = if o = 0 then some n else none))
    case first =>
      go_wp2_with fail
      go_loopg [6, 7] s.size (fun g v6 v7 wr => ∃ n o : Nat, n + g = s.size ∧ v6 = .int .i64 (o : Int) ∧ v7 = .int .i64 (n : Int) ∧ w1 = wr ∧ o ≤ 32 ∧ Hid (dst 0 false s.data.toList = (dst o (fl false s.data.toList n) (s.data.toList.drop n)).map (· + n)))
      case atStart => exact ⟨0, 0, by omega, rfl, rfl, rfl, by omega, HF0⟩
      case round =>
        obtain ⟨n, o, hng, rfl, rfl, rfl, ho, HF⟩ := hrel
        clear HF0
        cases gk with
        | zero =>
          have hlt : ¬ (n : Int) < (s.size : Int) := by omega
          have HV : Hid (dst 0 false s.data.toList = if o = 0 then some n else none) := Lib.hid (by
            rw [HF.out, dst_over (by rw [List.drop_eq_nil_of_le (by rw [hdl.out]; omega)]; intro c hc; cases hc)]
            split <;> simp)
          go_wp2
          go_meet
          exact ⟨n, o, rfl, rfl, rfl, by omega, ho, HV⟩
        | succ g =>
          have hlt : (n : Int) < (s.size : Int) := by omega
          obtain ⟨d, u, hd, hdk, hu⟩ := consAt (show n < s.size by omega)
          have hfn := fl_succ n false s.data.toList hd
          have cm := HA.out.cell (i := n) (by rw [hdl.out]; omega)
          have e40 : ((d.toNat : Int) == 40) = (d == 40) := eqU d 40 (by decide)
          have e41 : ((d.toNat : Int) == 41) = (d == 41) := eqU d 41 (by decide)
          by_cases hend : d.toNat ≤ 32 ∨ d = 127
          · have HV : Hid (dst 0 false s.data.toList = if o = 0 then some n else none) := Lib.hid (by
              rw [HF.out, dst_over (by rw [hd]; intro c hc; rw [List.head?_cons, Option.mem_def, Option.some.injEq] at hc; rw [← hc]; exact hend)]
              split <;> simp)
            by_cases h32 : d.toNat ≤ 32
            · have h32' : ¬ (32 : Int) < (d.toNat : Int) := by omega
              clear hd hu hfn HF hend e40 e41
              go_wp2
              go_meet
              exact ⟨n, o, rfl, rfl, rfl, by omega, ho, HV⟩
            · have h32' : (32 : Int) < (d.toNat : Int) := by omega
              have h127 : ((d.toNat : Int) != 127) = false := by
                rw [bne, show ((d.toNat : Int) == 127) = (d == 127) from eqU d 127 (by decide), hend.resolve_left h32]; rfl
              clear hd hu hfn HF hend e40 e41 h32
              go_wp2
              go_meet
              exact ⟨n, o, rfl, rfl, rfl, by omega, ho, HV⟩
          · have h32' : (32 : Int) < (d.toNat : Int) := by omega
            have h127 : ((d.toNat : Int) != 127) = true := by
              rw [bne, show ((d.toNat : Int) == 127) = (d == 127) from eqU d 127 (by decide), beq_eq_false_iff_ne.2 (fun e => hend (.inr e))]; rfl
            have HS : Hid (dst 0 false s.data.toList = (if fl false s.data.toList n = false ∧ d = 40 then (if 32 ≤ o then none else (dst (o + 1) (fl false s.data.toList (n + 1)) (s.data.toList.drop (n + 1))).map (· + 1))
                else if fl false s.data.toList n = false ∧ d = 41 then (if o = 0 then some 0 else (dst (o - 1) (fl false s.data.toList (n + 1)) (s.data.toList.drop (n + 1))).map (· + 1))
                else (dst o (fl false s.data.toList (n + 1)) (s.data.toList.drop (n + 1))).map (· + 1)).map (· + n)) := Lib.hid (by
              rw [HF.out, hd, dst_cons, if_neg hend, hfn, hu])
            clear hd hu hfn HF hend
            generalize fl false s.data.toList n = x at *
            have HOth : Hid (¬ (x = false ∧ d = 40) → ¬ (x = false ∧ d = 41) → dst 0 false s.data.toList = (dst o (fl false s.data.toList (n + 1)) (s.data.toList.drop (n + 1))).map (· + (n + 1))) := Lib.hid (fun h1 h2 => by
              rw [HS.out, if_neg h1, if_neg h2, map_next])
            cases x with
            | true =>
              have HV := Lib.hid (HOth.out (by simp) (by simp))
              clear HS HOth
              generalize (d == 40) = z1 at *
              generalize (d == 41) = z2 at *
              cases z1 <;> cases z2 <;>
              · go_wp2
                go_roundg g
                case rel => exact ⟨n + 1, o, by omega, rfl, by go_num, rfl, ho, HV⟩
                case measure => omega
            | false =>
              by_cases h40 : d = 40
              · have hz1 : (d == 40) = true := by simpa using h40
                have hz2 : (d == 41) = false := by rw [h40]; rfl
                rw [hz1] at e40
                rw [hz2] at e41
                rw [if_pos ⟨rfl, h40⟩] at HS
                by_cases ho2 : 32 ≤ o
                · have ho3 : (32 : Int) < (o : Int) + 1 := by omega
                  have HV : Hid (r = ([], 0, false)) := Lib.hid (by rw [HP.out, HS.out, if_pos ho2]; rfl)
                  clear HS HOth h40
                  go_wp2
                  go_ret3
                  rw [HV.out]
                  exact ⟨rfl, HB.out⟩
                · have ho3 : ¬ (32 : Int) < (o : Int) + 1 := by omega
                  have HV : Hid (dst 0 false s.data.toList = (dst (o + 1) (fl false s.data.toList (n + 1)) (s.data.toList.drop (n + 1))).map (· + (n + 1))) := Lib.hid (by rw [HS.out, if_neg ho2, map_next])
                  clear HS HOth h40
                  go_wp2
                  go_roundg g
                  case rel => exact ⟨n + 1, o + 1, by omega, by go_num, by go_num, rfl, by omega, HV⟩
                  case measure => omega
              · have hz1 : (d == 40) = false := by simpa using h40
                rw [hz1] at e40
                by_cases h41 : d = 41
                · have hz2 : (d == 41) = true := by simpa using h41
                  rw [hz2] at e41
                  rw [if_neg (fun e => h40 e.2), if_pos ⟨rfl, h41⟩] at HS
                  by_cases ho2 : o = 0
                  · have HV : Hid (dst 0 false s.data.toList = if o = 0 then some n else none) := Lib.hid (by rw [HS.out, if_pos ho2, if_pos ho2]; simp)
                    subst ho2
                    clear HS HOth h40 h41
                    go_wp2
                    go_meet
                    exact ⟨n, 0, rfl, rfl, rfl, by omega, ho, HV⟩
                  · have ho3 : ((o : Int) == 0) = false := by simp; omega
                    have ho4 : (o : Int) - 1 = ((o - 1 : Nat) : Int) := by omega
                    have HV : Hid (dst 0 false s.data.toList = (dst (o - 1) (fl false s.data.toList (n + 1)) (s.data.toList.drop (n + 1))).map (· + (n + 1))) := Lib.hid (by rw [HS.out, if_neg ho2, map_next])
                    have HO4 := Lib.hid ho4
                    clear HS HOth h40 h41 ho4 ho2
                    go_wp2
                    go_roundg g
                    case rel => exact ⟨n + 1, o - 1, by omega, by rw [← HO4.out], by go_num, rfl, by omega, HV⟩
                    case measure => omega
                · have hz2 : (d == 41) = false := by simpa using h41
                  rw [hz2] at e41
                  have HV := Lib.hid (HOth.out (fun e => h40 e.2) (fun e => h41 e.2))
                  clear HS HOth h40 h41
                  go_wp2
                  go_roundg g
                  case rel => exact ⟨n + 1, o, by omega, rfl, by go_num, rfl, ho, HV⟩
                  case measure => omega
    case rest =>
      obtain ⟨n, o, rfl, rfl, rfl, hn, ho, HF⟩ := hcut
      clear HF0
      by_cases hn0 : n = 0
      · have HV : Hid (r = ([], 0, false)) := Lib.hid (by
          rw [HP.out, HF.out, hn0]
          by_cases ho0 : o = 0
          · rw [if_pos ho0]; rfl
          · rw [if_neg ho0])
        subst hn0
        go_wp2
        go_ret3
        rw [HV.out]
        exact ⟨rfl, HB.out⟩
      · have hnb : ((n : Int) == 0) = false := by simp; omega
        by_cases ho0 : o = 0
        · have HV : Hid (r = (une (s.data.toList.take n), n, true)) := Lib.hid (by
            rw [HP.out, HF.out, if_pos ho0]
            simp only [if_neg hn0])
          have hle : (n : Int) ≤ (s.size : Int) := by omega
          obtain ⟨I, hI⟩ : ∃ I, I = s.extract 0 n := ⟨_, rfl⟩
          have hIl : I.data.toList = s.data.toList.take n := by rw [hI, ext_toL]
          have HU1 := Lib.hid (fun W => HU.out I W (by rw [hI]; simp; omega))
          rw [hIl] at HU1
          have HI := Lib.hid hI
          subst ho0
          clear hI hIl hn0
          generalize une (s.data.toList.take n) = un at *
          unfold str at HU1
          go_wp2_with fail
          rw [← HI.out]
          refine (HU1.out _).mono ?_
          rintro e w2 ⟨rfl, hb2⟩
          go_wp2
          go_ret3
          rw [HV.out]
          exact ⟨ret3 rfl rfl rfl, HB.out.trans (hb2.mono HB.out.size)⟩
        · have HV : Hid (r = ([], 0, false)) := Lib.hid (by rw [HP.out, HF.out, if_neg ho0])
          have ho1 : (0 : Int) < (o : Int) := by omega
          clear hn0 ho0
          go_wp2
          go_ret3
          rw [HV.out]
          exact ⟨rfl, HB.out⟩
end Lk
end Go.Proofs.YtilippcmdhkddaaDoor
