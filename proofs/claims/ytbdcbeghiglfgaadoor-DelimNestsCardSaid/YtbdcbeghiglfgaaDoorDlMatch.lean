/- Layer 13: the program's Match is the document's pairs. -/
import Derived.Test.YtbdcbeghiglfgaaDoorDlClose
import Derived.Carry
namespace Go.Proofs.YtbdcbeghiglfgaaDoor
open Go Go.RowKit
namespace Dl
set_option maxRecDepth 100000
set_option linter.unusedVariables false
set_option linter.unusedSimpArgs false

theorem MM.start {w : World} {L : List Rn} {v : Value} (hr : Runs w v L) (hok : ∀ r ∈ L, RnOk r) {W : World}
    (hW : W = ((w.alloc (.map #[] 0)).alloc (.map #[] 0)).alloc (.cells (matC v (.pointer none) w.heap.size (w.heap.size + 1) (.slice none 0 0)) 51)) :
    MM w none L v (w.heap.size + 1 + 1) w.heap.size (w.heap.size + 1) (.slice none 0 0) 0 [] (fun _ _ _ => 0) [] W := by
  have hb1 : Below w.heap.size w (w.alloc (.map #[] 0)) := (Below.refl _ w).alloc (Nat.le_refl _) _
  have hb2 : Below w.heap.size w ((w.alloc (.map #[] 0)).alloc (.map #[] 0)) := hb1.alloc hb1.size _
  have hb3 : Below w.heap.size w W := by rw [hW]; exact hb2.alloc hb2.size _
  have h1 := LMap.made w
  have h2 := DMap.made (w.alloc (.map #[] 0))
  have h3 := Blk.new ((w.alloc (.map #[] 0)).alloc (.map #[] 0)) (matC v (.pointer none) w.heap.size (w.heap.size + 1) (.slice none 0 0)) 51
  have e1 : (w.alloc (.map #[] 0)).heap.size = w.heap.size + 1 := World.size_alloc _ _
  have e2 : ((w.alloc (.map #[] 0)).alloc (.map #[] 0)).heap.size = w.heap.size + 1 + 1 := by rw [World.size_alloc, e1]
  rw [e1] at h2
  rw [e2, ← hW] at h3
  have b13 : Below (w.alloc (.map #[] 0)).heap.size (w.alloc (.map #[] 0)) W := by rw [hW]; exact ((Below.refl _ _).alloc (Nat.le_refl _) _).alloc (by rw [World.size_alloc]; omega) _
  have b23 : Below ((w.alloc (.map #[] 0)).alloc (.map #[] 0)).heap.size ((w.alloc (.map #[] 0)).alloc (.map #[] 0)) W := by rw [hW]; exact (Below.refl _ _).alloc (Nat.le_refl _) _
  refine ⟨hr, hok, hb3, by omega, Nat.le_refl _, by omega, by omega, h3, ⟨0, (h1.below b13).congr fun k => rfl, by simp⟩, ⟨0, h2.below b23, Nat.le_refl _⟩, ?_, fun e => (by cases e), fun x hx => (by cases hx), trivial, List.Pairwise.nil, fun x hx => (by cases hx), fun x hx => (by cases hx), fun z wz e => (by cases e)⟩
  exact owns_keep (OwnG.nil 40 w) hb3

set_option maxHeartbeats 16000000 in
theorem match_any (l : List Rn) (v : Value) (w : World) (hr : Runs w v l) (hl : l.length ≤ 100) (hok : ∀ r ∈ l, RnOk r) (hp : (pairs l).length ≤ 100000) :
    Calls Tryd.prog 15 #[v] w fun e w' => ∃ u, e = .returned u ∧ Prs w' u (pairs l) ∧ Below w.heap.size w w' := by
  have hmm := @run_makeMap Tryd.prog
  have HM0 := Lib.hid (fun W => MM.start (W := W) hr hok)
  have HS0 := Lib.hid (St.start l)
  obtain ⟨a, cp, rfl, hlm, hcs⟩ := hr
  obtain ⟨N, hN⟩ : ∃ N, l.length = N := ⟨_, rfl⟩
  have HN := Lib.hid hN
  rw [hN] at hl HM0 ⊢
  have HC : Hid (∀ i, i < N → ∃ b off, a = some ⟨b, off, none⟩ ∧ ∀ W', Below w.heap.size w W' → AtG runE W' b (off + i * 4) (rn l i)) := Lib.hid (fun i hi => by
    have hil : i < l.length := by rw [hN]; exact hi
    obtain ⟨b, off, e, hc⟩ := hcs.resolve_left (fun e => by subst e; simp at hil)
    exact ⟨b, off, e, fun W' hb => (hc i _ (rn_at hil)).keep hb⟩)
  clear hcs hlm hN
  unfold matC at HM0
  go_enter Tryd.func15, Tryd.ntmps15
  go_wp2_with fail
  go_loopg [13] N (fun M s13 wr => ∃ (i : Nat) (f : Nat → Nat) (S : List Opn) (G : UInt8 × Int → Bool → Int → Nat) (P : List Pr) (pv : Value), i + M = N ∧ s13 = .int .i64 (i : Int) ∧ Hid (MM w none l (.slice a N cp) (w.heap.size + 1 + 1) w.heap.size (w.heap.size + 1) pv (3 * i) S G P wr) ∧ Hid (St l i f S G P) ∧ Hid (i < N → f i = cap (rn l i)))
  case atStart => exact ⟨0, caps l, [], _, [], _, by omega, rfl, Lib.hid (HM0.out _ rfl), HS0, Lib.hid (fun _ => rfl)⟩
  case round =>
    obtain ⟨i, f, S, G, P, pv, hiM, rfl, HM, HS, HF⟩ := hrel
    clear HM0 HS0
    cases gk with
    | zero =>
      have hlt : ¬ (i : Int) < (N : Int) := by omega
      have HE : Hid (P = pairs l) := Lib.hid (HS.out.end' (by rw [HN.out]; omega))
      obtain ⟨a3, c3, epv⟩ := HM.out.own.form
      subst epv
      have HR : Hid (Prs wr (.slice a3 P.length c3) (pairs l)) := Lib.hid (by rw [← HE.out]; exact RowsG.of_owns pairE_len HM.out.own)
      have d4 : wr.cell? ⟨w.heap.size + 1 + 1, 4, none⟩ = some (.slice a3 P.length c3) := HM.out.blk.cell 4 rfl
      have HB := Lib.hid HM.out.below
      clear HM HS HF
      generalize P.length = np at *
      go_wp2
      go_ret
      exact ⟨_, rfl, HR.out, HB.out⟩
    | succ M =>
      have hiN : i < N := by omega
      have hlt : (i : Int) < (N : Int) := by omega
      have hil : i < l.length := by rw [HN.out]; exact hiN
      obtain ⟨b, off, rfl, hc⟩ := HC.out i hiN
      obtain ⟨c0, c1, c2, c3⟩ := run_cells (hc wr HM.out.below)
      have HSg := Lib.hid (fun W => signs_any (rn l i) W)
      have HX : Hid (∀ W' : World, Below wr.heap.size wr W' → MM w none l (.slice (some ⟨b, off, none⟩) N cp) (w.heap.size + 1 + 1) w.heap.size (w.heap.size + 1) pv (3 * i) S G P W') := Lib.hid (fun W' h => HM.out.below' h)
      have HW1 : Hid (Below wr.heap.size wr (wr.alloc (.cells (runE (rn l i)).toArray 28)) ∧ Blk (wr.alloc (.cells (runE (rn l i)).toArray 28)) wr.heap.size (runE (rn l i)).toArray 28) := Lib.hid ⟨(Below.refl _ wr).alloc (Nat.le_refl _) _, Blk.new _ _ _⟩
      have HF1 := Lib.hid (HF.out hiN)
      obtain ⟨r, hrr⟩ : ∃ r, rn l i = r := ⟨_, rfl⟩
      have HRR := Lib.hid hrr
      rw [hrr] at c0 c1 c2 c3 HSg HW1 HF1
      clear HF hc hrr HM
      obtain ⟨⟨mc, mn, mo, mk⟩, hrE⟩ : ∃ x : Rn, r = x := ⟨_, rfl⟩
      subst hrE
      obtain ⟨cr, hcr⟩ : ∃ k, cap (⟨mc, mn, mo, mk⟩ : Rn) = k := ⟨_, rfl⟩
      have hcr9 : cr ≤ 1073741824 := by rw [← hcr]; exact cap_le _
      rw [hcr] at HSg HF1
      unfold runE at HSg HW1
      simp only at c0 c1 c2 c3 HSg HW1
      go_wp2_with fail
      refine (HSg.out _).mono ?_
      rintro e w2 ⟨rfl, hb2⟩
      obtain ⟨hbw, hbk⟩ := HW1.out
      have hM2 : MM w (some (wr.heap.size, w2)) l (.slice (some ⟨b, off, none⟩) N cp) (w.heap.size + 1 + 1) w.heap.size (w.heap.size + 1) pv (3 * i) S G P w2 := (HX.out wr (Below.refl _ _)).refr (Nat.le_refl _) (Nat.lt_of_lt_of_le hbk.lt hb2.size) (below_later hbw hb2)
      have hbx : Blk w2 wr.heap.size _ _ := hbk.below hb2
      have x2 : w2.cell? ⟨wr.heap.size, 2, none⟩ = some (.bool mo) := hbx.cell 2 rfl
      have x3 : w2.cell? ⟨wr.heap.size, 3, none⟩ = some (.bool mk) := hbx.cell 3 rfl
      have HBx : Hid (∀ pv' q' S' G' P' W', MM w (some (wr.heap.size, w2)) l (.slice (some ⟨b, off, none⟩) N cp) (w.heap.size + 1 + 1) w.heap.size (w.heap.size + 1) pv' q' S' G' P' W' → W'.cell? ⟨wr.heap.size, 2, none⟩ = some (.bool mo)) := Lib.hid (fun pv' q' S' G' P' W' h => by
        have := h.frn _ _ rfl
        rw [World.cell?_of_block this.eq]; exact x2)
      have HM2 := Lib.hid hM2
      clear hM2 hbx hbk hbw c0 c1 c2 c3 HX HW1 HSg
      have HI9 : Hid (i < 100000) := Lib.hid (by omega)
      cases mk with
      | true =>
        have HCl := Lib.hid (close_any HM2.out HS.out hil (by omega) (by omega) (by rw [HRR.out]) hp)
        rw [HF1.out] at HCl
        unfold ptr at HCl
        clear HM2 HS x2
        go_wp2_with fail
        refine HCl.out.mono ?_
        rintro e w3 ⟨f', G', S', P', pv', lf, rfl, hM3, hS3, hl9, hol⟩
        have x2 := HBx.out _ _ _ _ _ _ hM3
        have HM3 := Lib.hid hM3
        have HS3 := Lib.hid hS3
        have HOl : Hid (mo = true → f' i = lf) := Lib.hid (fun e => hol (by rw [HRR.out]; exact e))
        have HFn : Hid (i + 1 < N → f' (i + 1) = cap (rn l (i + 1))) := Lib.hid (fun _ => HS3.out.fut _ (Nat.lt_succ_self _))
        clear hM3 hS3 hol HCl HBx HF1 x3
        cases mo with
        | false =>
          have HSk := Lib.hid (HS3.out.skip (.inl (by rw [HRR.out])))
          go_wp2
          go_roundg M
          case rel => exact ⟨i + 1, f', S', G', P', pv', by omega, by go_num, Lib.hid (HM3.out.free.mono (by omega)), HSk, HFn⟩
          case measure => omega
        | true =>
          have HO2 := Lib.hid (HOl.out rfl)
          clear HOl
          by_cases hl0 : lf = 0
          · have hl0' : ¬ (0 : Int) < (lf : Int) := by omega
            have HSk := Lib.hid (HS3.out.skip (.inr (HO2.out.trans hl0)))
            go_wp2
            go_roundg M
            case rel => exact ⟨i + 1, f', S', G', P', pv', by omega, by go_num, Lib.hid (HM3.out.free.mono (by omega)), HSk, HFn⟩
            case measure => omega
          · have hl0' : (0 : Int) < (lf : Int) := by omega
            have HOp := Lib.hid (open_any HM3.out hil hl9 (by omega))
            have HPu := Lib.hid (fun g => HS3.out.push (by rw [HRR.out]) (by rw [HO2.out]; omega) g)
            unfold ptr at HOp
            rw [HO2.out] at HPu
            go_wp2_with fail
            refine HOp.out.mono ?_
            rintro e w4 ⟨rfl, g, hM4⟩
            have HM4 := Lib.hid hM4
            clear hM4 HOp HM3
            go_wp2
            go_roundg M
            case rel => exact ⟨i + 1, f', _, G', P', pv', by omega, by go_num, Lib.hid (HM4.out.free.mono (by omega)), Lib.hid (HPu.out g), HFn⟩
            case measure => omega
      | false =>
        have HS3 := Lib.hid (HS.out.pass hil (.inl (by rw [HRR.out])))
        have HFn : Hid (i + 1 < N → f (i + 1) = cap (rn l (i + 1))) := Lib.hid (fun _ => HS3.out.fut _ (Nat.lt_succ_self _))
        have HM3 := HM2
        clear HM2 HS HBx
        cases mo with
        | false =>
          have HSk := Lib.hid (HS3.out.skip (.inl (by rw [HRR.out])))
          go_wp2
          go_roundg M
          case rel => exact ⟨i + 1, f, S, G, P, pv, by omega, by go_num, Lib.hid (HM3.out.free.mono (by omega)), HSk, HFn⟩
          case measure => omega
        | true =>
          by_cases hl0 : cr = 0
          · have hl0' : ¬ (0 : Int) < (cr : Int) := by omega
            have HSk := Lib.hid (HS3.out.skip (.inr (HF1.out.trans hl0)))
            go_wp2
            go_roundg M
            case rel => exact ⟨i + 1, f, S, G, P, pv, by omega, by go_num, Lib.hid (HM3.out.free.mono (by omega)), HSk, HFn⟩
            case measure => omega
          · have hl0' : (0 : Int) < (cr : Int) := by omega
            have HOp := Lib.hid (open_any HM3.out hil hcr9 (by omega))
            have HPu := Lib.hid (fun g => HS3.out.push (by rw [HRR.out]) (by rw [HF1.out]; omega) g)
            unfold ptr at HOp
            rw [HF1.out] at HPu
            go_wp2_with fail
            refine HOp.out.mono ?_
            rintro e w4 ⟨rfl, g, hM4⟩
            have HM4 := Lib.hid hM4
            clear hM4 HOp HM3
            go_wp2
            go_roundg M
            case rel => exact ⟨i + 1, f, _, G, P, pv, by omega, by go_num, Lib.hid (HM4.out.free.mono (by omega)), Lib.hid (HPu.out g), HFn⟩
            case measure => omega
/-- What the laws ask of the program holds wherever the table of kinds lies. -/
theorem prog_of {w : World} (hL : Laid w) : Prog13 w :=
  ⟨fun b a c W hW => (flank_any b a c W (hL.below hW)).mono (by rintro e w' ⟨rfl, rfl⟩; exact ⟨rfl, Below.refl _ _⟩), fun l v W hW hr hl hok hp => match_any l v W hr hl hok hp⟩
end Dl
end Go.Proofs.YtbdcbeghiglfgaaDoor
