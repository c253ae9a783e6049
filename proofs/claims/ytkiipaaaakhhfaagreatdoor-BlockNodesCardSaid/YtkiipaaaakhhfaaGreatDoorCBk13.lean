import Derived.Test.YtkiipaaaakhhfaaGreatDoorCBk12
import Derived.Test.YtkiipaaaakhhfaaGreatDoorCBk7
import Derived.Test.YtkiipaaaakhhfaaGreatDoorCText1
import Derived.Deep.RegionHeld3
import Derived.Deep.DrawnRows
import Derived.WalkSpells
import Derived.Test.YtkiipaaaakhhfaaGreatDoorCBk11
import Derived.Test.YtkiipaaaakhhfaaGreatDoorCBk8
import Derived.Test.YtkiipaaaakhhfaaGreatDoorCRf3
import Derived.OwnWalk
import Derived.Test.YtkiipaaaakhhfaaGreatDoorCBk9
import Derived.Test.YtkiipaaaakhhfaaGreatDoorCBk3
import Derived.Test.YtkiipaaaakhhfaaGreatDoorCKit1
import Derived.Test.YtkiipaaaakhhfaaGreatDoorCRf2
import Derived.SliceStrings
import Derived.Lib.LaidU8
import Derived.Test.YtkiipaaaakhhfaaGreatDoorCRf1
import Derived.Deep.Upon
import Derived.Maps.AppendAt
import Derived.Deep.QuietTactic
import Derived.Deep.CutBlock
section
namespace Go.Proofs.YtkiipaaaakhhfaaGreatDoor
open Go Go.RowKit
namespace Bk
set_option maxRecDepth 100000
set_option linter.unusedVariables false
set_option linter.unusedSimpArgs false
theorem join_ended (l : List Str) : Tx.join l = ended l := by
  unfold Tx.join
  induction l with
  | nil => rfl
  | cons s l ih => rw [List.map_cons, List.flatten_cons, ih]; show (s ++ [10]) ++ ended l = s ++ 10 :: ended l; simp
theorem joinL_any {w : World} {v : Value} {l : List Str} (hv : SSl w v l) (hl : (ended l).length ≤ 1000000) :
    Calls Tryz.prog 79 #[v] w fun e w' => e = .returned (str (ended l)) ∧ Below w.heap.size w w' := by
  have h := Tx.join_any l v w hv (by rw [join_ended]; omega)
  rw [join_ended] at h
  exact h
theorem muS_unblank (l : List Str) : muS (unblank l) ≤ muS l := by
  have h : ∀ l : List Str, muS l = muS l.reverse := fun l => by
    induction l with
    | nil => rfl
    | cons s l ih => rw [List.reverse_cons, muS_snoc, ← ih]; unfold muS; simp; omega
  have h2 : ∀ l : List Str, muS (l.dropWhile blank) ≤ muS l := fun l => by
    induction l with
    | nil => exact Nat.le_refl _
    | cons s l ih =>
      rw [List.dropWhile_cons]
      split
      · unfold muS at ih ⊢; simp only [List.map_cons, List.sum_cons]; omega
      · exact Nat.le_refl _
  unfold unblank
  rw [← h, h l]
  exact h2 _
section
variable {X : Scan Rf.Rb}
set_option maxHeartbeats 16000000 in
theorem end_of {k : Nat} {s t : Str} {n1 m : Nat} {fen stx : Bool} {ls : List Str} {a z : Nat} {kids : List B} (hK : BlksOk X kids) : EndOk X (.mk k s t n1 m fen stx ls a z kids) := by
  intro w0 w tag H E fv R adr hi N n at' q hLow hd hL htr hE hw hn hp hN hf hR
  have htr0 := htr
  rw [TreeAt_mk] at htr0
  obtain ⟨p, h0, h1, h2, h3, h4, h5, h6, h7, h8, h9, h10, h11, h12, h13⟩ := htr0
  obtain ⟨hpt, hfew⟩ := hp adr p (Nat.le_refl _) h1 h0
  obtain ⟨pv, lv, c, hnl, g1, g2⟩ := hpt.cells
  have hw0 := hw
  rw [wOne_mk] at hw0
  obtain ⟨v1, v2, v3, v4, v5, v6⟩ := hw0
  have hown := hL.own adr p h0
  have hR0 := hR
  rw [muB_mk] at hR0
  have HBL := Lib.hid (hK w0 w tag H E fv R p.kids pv (adr + 1) hi N n a k hLow hd hL h13 hE v6 hn (hp.sub (Nat.le_succ _) (Nat.le_refl _)) hN hf (by omega) c.row (Nat.le_trans hfew.kids hN) (fun g hg => by
    have h5 := (g1 g hg).1
    refine ⟨by rw [h5]; exact Nat.lt_succ_self _, ?_⟩
    rcases Nat.lt_or_ge g E with h | h
    · exact h
    · have := hL.new g h
      rw [h5] at this
      have this : adr = g := this
      omega))
  have HEM := Lib.hid (fun w1 u hb => em_of (X := X) (w1 := w1) (u := u) (kids := kids) hL h0 hE h1 hpt hfew hN hf c.c9 c.c10 hb)
  have HZ0 : Hid (p.z = zOf k ls z) := Lib.hid h8
  have HKL : Hid (p.kids.length = kids.length) := Lib.hid h13.len
  have HLOW := Lib.hid hLow
  have HD := Lib.hid hd
  have HW := Lib.hid hw
  have HN := Lib.hid hn
  have HTR := Lib.hid htr
  have HR0 := Lib.hid hR0
  have HPK : Hid (p.k = k) := Lib.hid h2
  have HPS : Hid (p.s = s) := Lib.hid h3
  have HLS : Hid (p.ls = ls) := Lib.hid h9
  have HFEN := Lib.hid h10
  have HL7 := Lib.hid h11
  have HL8 := Lib.hid h12
  have HV5 := Lib.hid v5
  have HV6 := Lib.hid v6
  have HNL := Lib.hid hnl
  obtain ⟨pa, pc, e9, r1, r2⟩ := c.row.form
  obtain ⟨la, lc, e10, -, -⟩ := c.lines.form
  have k9 := c.c9
  have f8 := c.fr 8
  rw [List.length_map] at e9 e10 r1
  unfold maxLen at r2
  subst e9 e10
  obtain ⟨M, hM⟩ : ∃ M, p.kids.length = M := ⟨_, rfl⟩
  obtain ⟨ML, hML⟩ : ∃ M, p.ls.length = M := ⟨_, rfl⟩
  rw [hM] at HKL HBL HEM k9 r1
  rw [hML] at HEM HNL
  have HM := Lib.hid hM
  have HML := Lib.hid hML
  have hM6 : M ≤ 1000000 := by rw [← hM]; exact Nat.le_trans hfew.kids hN
  clear hK hL htr hE hw hn hp hf hR hR0 h0 h1 h2 h3 h4 h5 h6 h7 h8 h9 h10 h11 h12 h13 hpt hfew c hnl g1 g2 v1 v2 v3 v4 v5 v6 hown hd hLow hM hML hN
  unfold ptr at *
  go_enter Tryz.func42, Tryz.ntmps42
  go_wp2_with fail
  refine HBL.out.mono ?_
  rintro e w1 ⟨u, rfl, hb1⟩
  obtain ⟨fv1, em⟩ := HEM.out w1 u hb1
  have HE := Lib.hid em
  obtain ⟨ua, uc, e5, -⟩ := em.ins.form
  subst e5
  obtain ⟨UL, hUL⟩ : ∃ n, (outL X kids).length = n := ⟨_, rfl⟩
  rw [hUL] at HE em ⊢
  have x0 := em.blk
  have fr := em.blk.fr 8
  have x8 : w1.cell? ⟨adr, 8, none⟩ = some (.slice none 0 0) := em.blk.cell 8 rfl
  clear hb1 HEM HBL k9 f8 em hUL
  go_upto_region 1 with fail
  have x1 := x0.set 8 (.slice ua UL uc) rfl
  have o1 := (Only.refl (fun g => g = adr) w1).one (adr := adr) 8 (.slice ua UL uc)
  generalize w1.setCell ⟨adr, 8, none⟩ (.slice ua UL uc) = w2 at *
  have HX1 : Hid (Hb w2 adr (endC p p.s false p.z (.slice ua UL uc) (.slice pa M pc) (.slice la ML lc)) 53) := Lib.hid x1
  have HO1 := Lib.hid o1
  have k9 : w2.cell? ⟨adr, 9, none⟩ = some (.slice pa M pc) := HX1.out.cell 9 rfl
  clear x0 x1 o1 fr x8
  go_wp2_with fail
  clear k9
  go_loopg [21] M (fun G s21 wr => ∃ i : Nat, i + G = M ∧ s21 = .int .i64 (i : Int) ∧ Hid (Hb wr adr (endC p p.s false (zK (kids.take i) p.z) (.slice ua UL uc) (.slice pa M pc) (.slice la ML lc)) 53) ∧ Hid (Only (fun g => g = adr) w1 wr))
  case atStart => exact ⟨0, by omega, rfl, Lib.hid (by rw [List.take_zero, zK_nil]; exact HX1.out), HO1⟩
  case round =>
    obtain ⟨i, hig, rfl, HX, HO⟩ := hrel
    clear HX1 HO1
    cases gk with
    | zero =>
      have hlt : ¬ (i : Int) < (M : Int) := by omega
      have HZI : Hid (zK (kids.take i) p.z = zI (.mk k s t n1 m fen stx ls a z kids)) := Lib.hid (by rw [List.take_of_length_le (by rw [← HKL.out]; omega), zI_mk, HZ0.out])
      have HX3 := Lib.hid HX.out
      rw [HZI.out] at HX3
      clear HX
      obtain ⟨r1', r2', r3', r4'⟩ := em_row HE.out HO.out
      have a0 : wr.cell? ⟨adr, 0, none⟩ = some (.int .i64 (p.k : Nat)) := HX3.out.cell 0 rfl
      rw [HPK.out] at a0
      have HOE : Hid (Only (fun g => g = adr ∨ g = E ∨ fv1.ownBlock = some g) w1 wr) := Lib.hid (HO.out.mono fun g _ h => .inl h)
      have HR1 := Lib.hid r1'
      have HR2 := Lib.hid r2'
      have HR3 := Lib.hid r3'
      have HR4 := Lib.hid r4'
      clear r1' r2' r3' r4'
      by_cases hk3 : k = 3
      · subst hk3
        have k9 : wr.cell? ⟨adr, 9, none⟩ = some (.slice pa M pc) := HX3.out.cell 9 rfl
        have HT := Lib.hid (tight_any k9 HR1.out HR3.out.ends HR3.out.kidEnds (by have := HM.out; omega))
        rw [← tight_all HV6.out] at HT
        obtain ⟨tq, htq⟩ : ∃ q, tight kids = q := ⟨_, rfl⟩
        rw [htq] at HT
        have HTQ := Lib.hid htq
        have H5 : Hid (∀ m0, (wr.drewN m0).cell? ⟨adr, 5, none⟩ = some (.bool false) ∧ (wr.drewN m0).frozen? ⟨adr, 5, none⟩ = false) := Lib.hid (fun m0 => ⟨HX3.out.cell 5 rfl, HX3.out.fr 5⟩)
        clear k9 htq
        unfold ptr at HT
        go_wp2_with fail
        refine HT.out.mono ?_
        rintro e w3 ⟨rfl, m3, rfl⟩
        obtain ⟨c5, f5⟩ := H5.out m3
        go_wp2
        go_end0
        have hx4 : Hb ((wr.drewN m3).setCell ⟨adr, 5, none⟩ (.bool tq)) adr (endC p p.s tq (zI (.mk 3 s t n1 m fen stx ls a z kids)) (.slice ua UL uc) (.slice pa M pc) (.slice la ML lc)) 53 := Hb.set (w := wr.drewN m3) HX3.out 5 (.bool tq) rfl
        have ho4 : Only (fun g => g = adr) w1 ((wr.drewN m3).setCell ⟨adr, 5, none⟩ (.bool tq)) := Only.one (W := wr.drewN m3) ⟨HO.out.os, HO.out.tape, HO.out.output, HO.out.size, HO.out.block⟩ 5 _
        have hf4 := (em_row HE.out ho4).2.2.2
        exact ⟨rfl, em_end HE.out HTR.out rfl HW.out HN.out hx4 (by rw [defsO]; exact hf4) (ho4.mono fun g _ h => .inl h) (fun g h => .inl h) (by rw [HPS.out]; rfl) (by rw [← HTQ.out]; rfl)⟩
      by_cases hk5 : k = 5
      · subst hk5
        have hml := HML.out
        have hfw := HE.out.few
        have k10 : wr.cell? ⟨adr, 10, none⟩ = some (.slice la ML lc) := HX3.out.cell 10 rfl
        have k13 : wr.cell? ⟨adr, 13, none⟩ = some (.int .i64 (p.cnt : Nat)) := HX3.out.cell 13 rfl
        have HC := Lib.hid (codeLines_any HLOW.out HR4.out.low k10 k13 HR2.out hfw.2.2 hfw.2.1)
        obtain ⟨cl, hcl⟩ : ∃ l, (if 0 < p.cnt then p.ls else unblank p.ls) = l := ⟨_, rfl⟩
        rw [hcl] at HC
        have hmu : muS cl ≤ 90000 := by
          have h1 := HR0.out
          have h2 := muS_unblank p.ls
          rw [← HLS.out] at h1
          rw [← hcl]
          split <;> omega
        have HJ := Lib.hid (fun (W : World) (v : Value) (hv : SSl W v cl) => joinL_any hv (by rw [ended_mu]; omega))
        obtain ⟨JS, hJS⟩ : ∃ S, ended cl = S := ⟨_, rfl⟩
        rw [hJS] at HJ
        have HSO : Hid (JS = sOf X 5 s fen stx ls) := Lib.hid (by
          unfold sOf
          rw [if_pos rfl, ← hJS, ← hcl, HFEN.out, ← HLS.out]
          congr 1
          by_cases hc : 0 < p.cnt
          · rw [if_pos hc, if_pos (decide_eq_true hc)]
          · rw [if_neg hc, if_neg (by rw [decide_eq_false hc]; exact Bool.false_ne_true)])
        have HXB := Lib.hid (fun W (hW : Below wr.heap.size wr W) => (⟨(HX3.out.below hW).cell 1 rfl, (HX3.out.below hW).fr 1⟩ : W.cell? ⟨adr, 1, none⟩ = some (str p.s) ∧ W.frozen? ⟨adr, 1, none⟩ = false))
        clear k10 k13 hml hfw hmu hJS hcl hk3
        unfold ptr str at *
        go_wp2_with fail
        refine HC.out.mono ?_
        rintro e w3 ⟨v3, rfl, hs3, hb3⟩
        have HJ3 := Lib.hid (HJ.out w3 v3 hs3)
        obtain ⟨va, vc, rfl, -, -⟩ := hs3
        have HB3 := Lib.hid hb3
        clear hb3
        go_wp2_with fail
        refine HJ3.out.mono ?_
        rintro e w4 ⟨rfl, hb4⟩
        have HB4 := Lib.hid (below_later HB3.out hb4)
        obtain ⟨c1, f1⟩ := HXB.out w4 HB4.out
        clear hb4
        go_wp2
        go_end0
        have hx4 : Hb (w4.setCell ⟨adr, 1, none⟩ (.string ⟨JS.toArray⟩)) adr (endC p JS false (zI (.mk 5 s t n1 m fen stx ls a z kids)) (.slice ua UL uc) (.slice pa M pc) (.slice la ML lc)) 53 := Hb.set (HX3.out.below HB4.out) 1 (.string ⟨JS.toArray⟩) rfl
        have ho4 : Only (fun g => g = adr) w1 (w4.setCell ⟨adr, 1, none⟩ (.string ⟨JS.toArray⟩)) := Only.one (HO.out.trans (Only.of_below HB4.out)) 1 _
        have hf4 := (em_row HE.out ho4).2.2.2
        exact ⟨rfl, em_end HE.out HTR.out rfl HW.out HN.out hx4 (by rw [defsO]; exact hf4) (ho4.mono fun g _ h => .inl h) (fun g h => .inl h) HSO.out rfl⟩
      by_cases hk6 : k = 6
      · subst hk6
        have hml := HML.out
        have hmu : muS p.ls ≤ 90000 := by
          have h1 := HR0.out
          rw [← HLS.out] at h1
          omega
        have k10 : wr.cell? ⟨adr, 10, none⟩ = some (.slice la ML lc) := HX3.out.cell 10 rfl
        have hss := RowW.sslTake HR2.out rfl (k := ML) (by omega)
        rw [List.take_of_length_le (by omega)] at hss
        have HJ := Lib.hid (joinL_any hss (by rw [ended_mu]; omega))
        obtain ⟨JS, hJS⟩ : ∃ S, ended p.ls = S := ⟨_, rfl⟩
        rw [hJS] at HJ
        have HSO : Hid (JS = sOf X 6 s fen stx ls) := Lib.hid (by
          unfold sOf
          rw [if_neg (by decide), if_pos rfl, ← hJS, ← HLS.out])
        have HXB := Lib.hid (fun W (hW : Below wr.heap.size wr W) => (⟨(HX3.out.below hW).cell 1 rfl, (HX3.out.below hW).fr 1⟩ : W.cell? ⟨adr, 1, none⟩ = some (str p.s) ∧ W.frozen? ⟨adr, 1, none⟩ = false))
        clear hml hmu hJS hss hk3 hk5
        unfold ptr str at *
        go_wp2_with fail
        refine HJ.out.mono ?_
        rintro e w4 ⟨rfl, hb4⟩
        have HB4 := Lib.hid hb4
        obtain ⟨c1, f1⟩ := HXB.out w4 HB4.out
        clear hb4
        go_wp2
        go_end0
        have hx4 : Hb (w4.setCell ⟨adr, 1, none⟩ (.string ⟨JS.toArray⟩)) adr (endC p JS false (zI (.mk 6 s t n1 m fen stx ls a z kids)) (.slice ua UL uc) (.slice pa M pc) (.slice la ML lc)) 53 := Hb.set (HX3.out.below HB4.out) 1 (.string ⟨JS.toArray⟩) rfl
        have ho4 : Only (fun g => g = adr) w1 (w4.setCell ⟨adr, 1, none⟩ (.string ⟨JS.toArray⟩)) := Only.one (HO.out.trans (Only.of_below HB4.out)) 1 _
        have hf4 := (em_row HE.out ho4).2.2.2
        exact ⟨rfl, em_end HE.out HTR.out rfl HW.out HN.out hx4 (by rw [defsO]; exact hf4) (ho4.mono fun g _ h => .inl h) (fun g h => .inl h) HSO.out rfl⟩
      by_cases hk7 : k = 7
      · subst hk7
        have hnel : ls ≠ [] := HL7.out rfl
        have hml := HML.out
        have hne : p.ls ≠ [] := by rw [HLS.out]; exact hnel
        have hkd : kids = [] := by
          rcases HV5.out with h | h
          · unfold okc at h; omega
          · exact h.2.2.2
        have HKD := Lib.hid hkd
        obtain ⟨gl, capl, el, -, -, -⟩ := HR2.out.at (fun e => hne (List.map_eq_nil_iff.1 e))
        injection el with el _ _
        subst el
        have hmu : muS p.ls ≤ 90000 := by
          have h1 := HR0.out
          rw [← HLS.out] at h1
          omega
        have hlm := lines_mu p.ls
        have hrl : (bodyT p.ls).length ≤ 90000 := Nat.le_trans (rgt_len _) (by omega)
        have k10 : wr.cell? ⟨adr, 10, none⟩ = some (.slice (some ⟨gl, 0, none⟩) ML lc) := HX3.out.cell 10 rfl
        have HWD := Lib.hid (words_raw HLOW.out HR4.out.low k10 HR2.out (by omega) HE.out.few.2.1)
        have hdl := HD.out (bodyT p.ls)
        have HDF := Lib.hid (fun W (hW : Below wr.heap.size wr W) => define_any HLOW.out (below_later HR4.out.low hW) (HR4.out.below hW).box (HR4.out.below hW).own (HR4.out.below hW).lt (Nat.lt_succ_self _) (bodyT p.ls) (by omega) (by
          rw [HKD.out, defsL, List.append_nil]
          have h1 := HR0.out
          rw [← HLS.out] at h1
          have h3 := Nat.le_trans (rgt_len (lines p.ls)) hlm
          have h4 : (bodyT p.ls).length = (Cl.rgt (lines p.ls)).length := rfl
          omega))
        have HSO : Hid ((X.defs (bodyT p.ls)).2 = sOf X 7 s fen stx ls) := Lib.hid (by
          unfold sOf
          rw [if_neg (by decide), if_neg (by decide), if_pos (Or.inl rfl), ← HLS.out])
        have HDO : Hid (R ++ defsL X kids ++ (X.defs (bodyT p.ls)).1 = R ++ defsO X (.mk 7 s t n1 m fen stx ls a z kids)) := Lib.hid (by
          rw [defsO, HKD.out, defsL, List.append_nil, List.append_nil]
          unfold defsB
          rw [if_pos (Or.inl rfl), ← HLS.out])
        obtain ⟨BT, hBT⟩ : ∃ x, bodyT p.ls = x := ⟨_, rfl⟩
        obtain ⟨DF, hDF⟩ : ∃ x, X.defs (bodyT p.ls) = x := ⟨_, rfl⟩
        rw [hDF] at HSO HDO
        rw [hBT] at HWD hDF
        rw [hBT, hDF] at HDF
        obtain ⟨D1, D2⟩ := DF
        dsimp only at HDF HSO HDO
        clear hml hne hkd hmu hlm hrl hdl hBT hDF hnel hk3 hk5 hk6
        unfold ptr str at *
        have hnq := fun (W : World) (x y : Nat) => run_neq_slice_nil_any (P := Tryz.prog) W 22 9 (some ⟨gl, 0, none⟩) x y 0 0 Tryz.underlying22
        go_wp2_with fail
        refine HWD.out.mono ?_
        rintro e w3 ⟨rfl, hb3⟩
        have HB3 := Lib.hid hb3
        have HD3 := Lib.hid (HDF.out w3 hb3)
        clear hb3 k10
        go_wp2_with fail
        refine HD3.out.mono ?_
        rintro e w4 ⟨rfl, fv2, hd1, hd2, hd3, hd4⟩
        have hfd3 := HR4.out.below HB3.out
        have HFD4 : Hid (Fd w0 w4 E fv2 (R ++ defsO X (.mk 7 s t n1 m fen stx ls a z kids))) := Lib.hid ⟨Only.low hfd3.low hd3 (fun g h1 h2 => by
            have h3 := hfd3.base
            rcases h2 with h2 | h2
            · omega
            · have := (hfd3.gt g h2.symm).1; omega), hfd3.base, hd1, by rw [← HDO.out]; exact hd2⟩
        have hadr := HE.out.lot.own adr p HE.out.hp
        have hxb : Hb w4 adr (endC p p.s false (zI (.mk 7 s t n1 m fen stx ls a z kids)) (.slice ua UL uc) (.slice pa M pc) (.slice (some ⟨gl, 0, none⟩) ML lc)) 53 := (HX3.out.below HB3.out).keep (hd3.block adr (HX3.out.below HB3.out).lt (fun e => by
            rcases e with e | e
            · omega
            · have := (hfd3.gt adr e.symm).1; omega))
        have HXB := Lib.hid hxb
        have HD4 := Lib.hid hd4
        have HDO3 := Lib.hid hd3
        have c1 : w4.cell? ⟨adr, 1, none⟩ = some (.string ⟨p.s.toArray⟩) := hxb.cell 1 rfl
        have f1 := hxb.fr 1
        clear hd1 hd2 hd3 hd4 hfd3 hadr hxb
        go_wp2
        go_end0
        have hx4 : Hb (w4.setCell ⟨adr, 1, none⟩ (.string ⟨D2.toArray⟩)) adr (endC p D2 false (zI (.mk 7 s t n1 m fen stx ls a z kids)) (.slice ua UL uc) (.slice pa M pc) (.slice (some ⟨gl, 0, none⟩) ML lc)) 53 := Hb.set HXB.out 1 (.string ⟨D2.toArray⟩) rfl
        have hadr := HE.out.lot.own adr p HE.out.hp
        have hf4 := HFD4.out.keep (Only.one (adr := adr) (Only.refl (fun g => g = adr) w4) 1 (.string ⟨D2.toArray⟩)) (fun g _ h2 => by
            have h2 : g = adr := h2
            subst h2
            refine ⟨hadr.2.1, by omega, fun e => ?_⟩
            have := (HFD4.out.gt g e).1
            omega)
        have ho4 : Only (fun g => g = adr ∨ g = E ∨ fv1.ownBlock = some g) w1 (w4.setCell ⟨adr, 1, none⟩ (.string ⟨D2.toArray⟩)) := Only.setCell (p := ⟨adr, 1, none⟩) ((HO.out.mono (fun g _ h => .inl h)).trans ((Only.of_below HB3.out).trans (HDO3.out.mono fun g _ h => .inr (h.imp id Eq.symm)))) (.inl rfl) _
        exact ⟨rfl, em_end HE.out HTR.out rfl HW.out HN.out hx4 hf4 ho4 (fun g hg => (HD4.out g hg).imp id fun e => Nat.le_trans (Nat.le_trans HO.out.size HB3.out.size) e) HSO.out rfl⟩
      by_cases hk8 : k = 8
      · subst hk8
        by_cases hls : ls = []
        · have hlv : (Value.slice la ML lc : Value) = .slice none 0 0 := HNL.out (by rw [HLS.out]; exact hls)
          have HLV := Lib.hid hlv
          have k10 : wr.cell? ⟨adr, 10, none⟩ = some (.slice none 0 0) := by rw [← hlv]; exact HX3.out.cell 10 rfl
          have hst : stx = false := by
            cases hs : stx with
            | false => rfl
            | true => exact absurd hls ((HL8.out rfl).1 hs)
          have HV1 : Hid (sOf X 8 s fen stx ls = s ∧ defsB X 8 stx ls = []) := Lib.hid ⟨by
            unfold sOf
            rw [if_neg (by decide), if_neg (by decide), if_neg (by rintro (h | ⟨_, h⟩); exact absurd h (by decide); rw [hst] at h; cases h)], by
            unfold defsB
            rw [if_neg (by rintro (h | ⟨_, h⟩); exact absurd h (by decide); rw [hst] at h; cases h)]⟩
          clear hlv hst hls hk3 hk5 hk6 hk7
          have hnq := fun (W : World) (x y : Nat) => run_neq_slice_nil_any (P := Tryz.prog) W 22 9 none x y 0 0 Tryz.underlying22
          go_wp2
          go_end0
          exact ⟨rfl, em_end HE.out HTR.out rfl HW.out HN.out HX3.out (by rw [defsO, HV1.out.2]; exact HR4.out) HOE.out (fun g h => .inl h) (HPS.out.trans HV1.out.1.symm) rfl⟩
        · have hnel : ls ≠ [] := hls
          have hst : stx = true := (HL8.out rfl).2 hls
          clear hls
          have hml := HML.out
          have hne : p.ls ≠ [] := by rw [HLS.out]; exact hnel
          have hkd : kids = [] := by
            rcases HV5.out with h | h
            · unfold okc at h; omega
            · exact h.2.2.2
          have HKD := Lib.hid hkd
          obtain ⟨gl, capl, el, -, -, -⟩ := HR2.out.at (fun e => hne (List.map_eq_nil_iff.1 e))
          injection el with el _ _
          subst el
          have hmu : muS p.ls ≤ 90000 := by
            have h1 := HR0.out
            rw [← HLS.out] at h1
            omega
          have hlm := lines_mu p.ls
          have hrl : (bodyT p.ls).length ≤ 90000 := Nat.le_trans (rgt_len _) (by omega)
          have k10 : wr.cell? ⟨adr, 10, none⟩ = some (.slice (some ⟨gl, 0, none⟩) ML lc) := HX3.out.cell 10 rfl
          have HWD := Lib.hid (words_raw HLOW.out HR4.out.low k10 HR2.out (by omega) HE.out.few.2.1)
          have hdl := HD.out (bodyT p.ls)
          have HDF := Lib.hid (fun W (hW : Below wr.heap.size wr W) => define_any HLOW.out (below_later HR4.out.low hW) (HR4.out.below hW).box (HR4.out.below hW).own (HR4.out.below hW).lt (Nat.lt_succ_self _) (bodyT p.ls) (by omega) (by
            rw [HKD.out, defsL, List.append_nil]
            have h1 := HR0.out
            rw [← HLS.out] at h1
            have h3 := Nat.le_trans (rgt_len (lines p.ls)) hlm
            have h4 : (bodyT p.ls).length = (Cl.rgt (lines p.ls)).length := rfl
            omega))
          have HSO : Hid ((X.defs (bodyT p.ls)).2 = sOf X 8 s fen stx ls) := Lib.hid (by
            unfold sOf
            rw [if_neg (by decide), if_neg (by decide), if_pos (Or.inr ⟨rfl, hst⟩), ← HLS.out])
          have HDO : Hid (R ++ defsL X kids ++ (X.defs (bodyT p.ls)).1 = R ++ defsO X (.mk 8 s t n1 m fen stx ls a z kids)) := Lib.hid (by
            rw [defsO, HKD.out, defsL, List.append_nil, List.append_nil]
            unfold defsB
            rw [if_pos (Or.inr ⟨rfl, hst⟩), ← HLS.out])
          obtain ⟨BT, hBT⟩ : ∃ x, bodyT p.ls = x := ⟨_, rfl⟩
          obtain ⟨DF, hDF⟩ : ∃ x, X.defs (bodyT p.ls) = x := ⟨_, rfl⟩
          rw [hDF] at HSO HDO
          rw [hBT] at HWD hDF
          rw [hBT, hDF] at HDF
          obtain ⟨D1, D2⟩ := DF
          dsimp only at HDF HSO HDO
          clear hml hne hkd hmu hlm hrl hdl hBT hDF hnel hk3 hk5 hk6 hk7
          unfold ptr str at *
          have hnq := fun (W : World) (x y : Nat) => run_neq_slice_nil_any (P := Tryz.prog) W 22 9 (some ⟨gl, 0, none⟩) x y 0 0 Tryz.underlying22
          go_wp2_with fail
          refine HWD.out.mono ?_
          rintro e w3 ⟨rfl, hb3⟩
          have HB3 := Lib.hid hb3
          have HD3 := Lib.hid (HDF.out w3 hb3)
          clear hb3 k10
          go_wp2_with fail
          refine HD3.out.mono ?_
          rintro e w4 ⟨rfl, fv2, hd1, hd2, hd3, hd4⟩
          have hfd3 := HR4.out.below HB3.out
          have HFD4 : Hid (Fd w0 w4 E fv2 (R ++ defsO X (.mk 8 s t n1 m fen stx ls a z kids))) := Lib.hid ⟨Only.low hfd3.low hd3 (fun g h1 h2 => by
              have h3 := hfd3.base
              rcases h2 with h2 | h2
              · omega
              · have := (hfd3.gt g h2.symm).1; omega), hfd3.base, hd1, by rw [← HDO.out]; exact hd2⟩
          have hadr := HE.out.lot.own adr p HE.out.hp
          have hxb : Hb w4 adr (endC p p.s false (zI (.mk 8 s t n1 m fen stx ls a z kids)) (.slice ua UL uc) (.slice pa M pc) (.slice (some ⟨gl, 0, none⟩) ML lc)) 53 := (HX3.out.below HB3.out).keep (hd3.block adr (HX3.out.below HB3.out).lt (fun e => by
              rcases e with e | e
              · omega
              · have := (hfd3.gt adr e.symm).1; omega))
          have HXB := Lib.hid hxb
          have HD4 := Lib.hid hd4
          have HDO3 := Lib.hid hd3
          have c1 : w4.cell? ⟨adr, 1, none⟩ = some (.string ⟨p.s.toArray⟩) := hxb.cell 1 rfl
          have f1 := hxb.fr 1
          clear hd1 hd2 hd3 hd4 hfd3 hadr hxb
          go_wp2
          go_end0
          have hx4 : Hb (w4.setCell ⟨adr, 1, none⟩ (.string ⟨D2.toArray⟩)) adr (endC p D2 false (zI (.mk 8 s t n1 m fen stx ls a z kids)) (.slice ua UL uc) (.slice pa M pc) (.slice (some ⟨gl, 0, none⟩) ML lc)) 53 := Hb.set HXB.out 1 (.string ⟨D2.toArray⟩) rfl
          have hadr := HE.out.lot.own adr p HE.out.hp
          have hf4 := HFD4.out.keep (Only.one (adr := adr) (Only.refl (fun g => g = adr) w4) 1 (.string ⟨D2.toArray⟩)) (fun g _ h2 => by
              have h2 : g = adr := h2
              subst h2
              refine ⟨hadr.2.1, by omega, fun e => ?_⟩
              have := (HFD4.out.gt g e).1
              omega)
          have ho4 : Only (fun g => g = adr ∨ g = E ∨ fv1.ownBlock = some g) w1 (w4.setCell ⟨adr, 1, none⟩ (.string ⟨D2.toArray⟩)) := Only.setCell (p := ⟨adr, 1, none⟩) ((HO.out.mono (fun g _ h => .inl h)).trans ((Only.of_below HB3.out).trans (HDO3.out.mono fun g _ h => .inr (h.imp id Eq.symm)))) (.inl rfl) _
          exact ⟨rfl, em_end HE.out HTR.out rfl HW.out HN.out hx4 hf4 ho4 (fun g hg => (HD4.out g hg).imp id fun e => Nat.le_trans (Nat.le_trans HO.out.size HB3.out.size) e) HSO.out rfl⟩
      have b3 : ((k : Int) == 3) = false := beq_eq_false_iff_ne.2 (by omega)
      have b5 : ((k : Int) == 5) = false := beq_eq_false_iff_ne.2 (by omega)
      have b6 : ((k : Int) == 6) = false := beq_eq_false_iff_ne.2 (by omega)
      have b7 : ((k : Int) == 7) = false := beq_eq_false_iff_ne.2 (by omega)
      have b8 : ((k : Int) == 8) = false := beq_eq_false_iff_ne.2 (by omega)
      have e3 : ¬ (k : Int) = 3 := by omega
      have e5 : ¬ (k : Int) = 5 := by omega
      have e6 : ¬ (k : Int) = 6 := by omega
      have e7 : ¬ (k : Int) = 7 := by omega
      have e8 : ¬ (k : Int) = 8 := by omega
      have HV1 : Hid (sOf X k s fen stx ls = s ∧ (k == 3 && tight kids) = false ∧ defsB X k stx ls = []) := Lib.hid ⟨by
        unfold sOf
        rw [if_neg hk5, if_neg hk6, if_neg (by rintro (h | ⟨h, _⟩); exact hk7 h; exact hk8 h)], by rw [beq_eq_false_iff_ne.2 hk3]; rfl, by
        unfold defsB
        rw [if_neg (by rintro (h | ⟨h, _⟩); exact hk7 h; exact hk8 h)]⟩
      clear hk3 hk5 hk6 hk7 hk8
      go_wp2
      go_end0
      exact ⟨rfl, em_end HE.out HTR.out rfl HW.out HN.out HX3.out (by rw [defsO, HV1.out.2.2]; exact HR4.out) HOE.out (fun g h => .inl h) (HPS.out.trans HV1.out.1.symm) HV1.out.2.1.symm⟩
    | succ G =>
      have hlt : (i : Int) < (M : Int) := by omega
      obtain ⟨r1', r2', r3', -⟩ := em_row HE.out HO.out
      obtain ⟨c, hc⟩ : ∃ c, p.kids[i]? = some c := ⟨_, List.getElem?_eq_getElem (by have := HM.out; omega)⟩
      obtain ⟨b, hb⟩ : ∃ b, kids[i]? = some b := ⟨_, List.getElem?_eq_getElem (by have := HKL.out; omega)⟩
      obtain ⟨g, cap, e1, hcell⟩ := ptr_cell r1' hc
      injection e1 with e1 e2 e3
      clear e2 e3
      subst e1
      have c7 := (r3'.2 i c b hc hb).last
      have HT : Hid (zK (kids.take (i + 1)) p.z = max (zK (kids.take i) p.z) (zI b)) := Lib.hid (by rw [List.take_add_one, hb]; exact zK_snoc _ _ _)
      obtain ⟨Z, hZ⟩ : ∃ Z, zK (kids.take i) p.z = Z := ⟨_, rfl⟩
      obtain ⟨zb, hzb⟩ : ∃ zb, zI b = zb := ⟨_, rfl⟩
      rw [hZ] at HX HT
      rw [hzb] at c7 HT
      have a7 : wr.cell? ⟨adr, 7, none⟩ = some (.int .i64 Z) := HX.out.cell 7 rfl
      have fr := HX.out.fr 7
      have s5 : IntKind.i64.wrap ((i : Int) + 1) = ((i + 1 : Nat) : Int) := by rw [IntWalk.i64_in _ (by omega)]; omega
      have s4 : (0 : Int) ≤ (i : Int) := by omega
      obtain ⟨mx, hmx⟩ : ∃ mx, max Z zb = mx := ⟨_, rfl⟩
      rw [hmx] at HT
      have hm2 : (if zb < Z then Z else zb) = mx := by rw [← hmx]; split <;> omega
      have hm3 : (if Z < zb then zb else Z) = mx := by rw [← hmx]; split <;> omega
      have HMX := Lib.hid hmx
      clear hmx r1' r2' r3' hc hb hZ hzb
      go_upto_region 4 with fail
      go_region
      have HX2 : Hid (Hb (wr.setCell ⟨adr, 7, none⟩ (.int .i64 (max Z zb))).drew adr (endC p p.s false (zK (kids.take (i + 1)) p.z) (.slice ua UL uc) (.slice (some ⟨g, 0, none⟩) M pc) (.slice la ML lc)) 53) := Lib.hid (by rw [HT.out, ← HMX.out]; exact HX.out.set 7 (.int .i64 (max Z zb)) rfl)
      have HO2 : Hid (Only (fun g => g = adr) w1 (wr.setCell ⟨adr, 7, none⟩ (.int .i64 (max Z zb))).drew) := Lib.hid ((HO.out.one 7 _).drew)
      generalize (wr.setCell ⟨adr, 7, none⟩ (.int .i64 (max Z zb))).drew = w5 at *
      clear a7 c7 fr
      go_wp2
      go_roundg G
      case rel => exact ⟨i + 1, by omega, rfl, HX2, HO2⟩
      case measure => omega
end
end Bk
end Go.Proofs.YtkiipaaaakhhfaaGreatDoor
end
section
namespace Go.Proofs.YtkiipaaaakhhfaaGreatDoor
open Go Go.RowKit
namespace Bk
set_option maxRecDepth 100000
set_option linter.unusedVariables false
set_option linter.unusedSimpArgs false
section
variable {X : Scan Rf.Rb}
theorem end_all (hnil : X.defs [] = ([], [])) (b : B) : EndOk X b :=
  B.rec (motive_1 := EndOk X) (motive_2 := fun l => ∀ b ∈ l, EndOk X b) (fun k s t n m fen stx ls a z kids ih => end_of (blks_of hnil ih)) (fun b hb => by cases hb)
    (fun b l h1 h2 c hc => by rcases List.mem_cons.1 hc with rfl | hc; exact h1; exact h2 c hc) b
theorem blks_all (hnil : X.defs [] = ([], [])) (l : List B) : BlksOk X l := blks_of hnil fun b _ => end_all hnil b
theorem go_mu0 (foot : Bool) {l : List Str} (h1 : l.length ≤ 100) (h2 : ∀ s ∈ l, s.length ≤ 200) : muSt 0 (go X foot 0 doc0 l) ≤ 80100 := by
  obtain ⟨a, b, c⟩ := mu_go (X := X) (w := 0) foot 200 l 0 doc0 doc_ne doc_tn h2
  rw [mu_doc] at a
  have h5 : l.length * (2 * 0 * (200 + 1) + 0 + 4 * 200 + 1) ≤ 100 * 801 := Nat.mul_le_mul h1 (by decide)
  omega
theorem ending_any {w W : World} (hnil : X.defs [] = ([], [])) (hd : ∀ s, (X.defs s).1.length ≤ s.length) (HL : Low w X) {P : Nat} {m : Int} {l : List Str} (h1 : l.length ≤ 100) (h2 : ∀ s ∈ l, s.length ≤ 200) (hG : Gone X w W P m l l.length) :
    ∃ pv, (W.alloc (.cells #[.slice none 0 0] 61)).cell? ⟨w.heap.size, 9, none⟩ = some pv ∧ (∃ a n c, pv = .slice a n c) ∧
      Calls Tryz.prog 26 #[ptr W.heap.size, pv] (W.alloc (.cells #[.slice none 0 0] 61)) fun e w' => ∃ u fv', e = .returned u ∧ InS w' (fun g => w.heap.size ≤ g) (parse X (foot32 m) l).1 u ∧ Fd w w' W.heap.size fv' (parse X (foot32 m) l).2 ∧ (∃ a n c, u = .slice a n c ∧ n ≤ c ∧ c ≤ maxLen) := by
  obtain ⟨tag, S, hi, hpt⟩ := hG
  rw [List.take_length] at hpt
  have hmu0 := go_mu0 (X := X) (foot32 m) h1 h2
  have hkm := kids_mu (go X (foot32 m) 0 doc0 l) 0
  have hpar : parse X (foot32 m) l = (outL X (go X (foot32 m) 0 doc0 l).kids, defsL X (go X (foot32 m) 0 doc0 l).kids) := rfl
  rw [hpar]
  obtain ⟨st, hst⟩ : ∃ st, go X (foot32 m) 0 doc0 l = st := ⟨_, rfl⟩
  rw [hst] at hpt hmu0 hkm ⊢
  obtain ⟨fs0, leaf⟩ := st
  have hne := hpt.ne
  cases fs0 with
  | nil => exact absurd rfl hne
  | cons f fs =>
  have hop := hpt.op
  obtain ⟨a, as', p, ks, mid, eop, k1, k2, k3, k4, k5, k6⟩ := OpenAt_cons.1 hop
  have hK : KidsAt S.H (f.kids ++ shut fs leaf) p.kids (a + 1) hi := by rw [k4]; exact k5.app (shut_at k6)
  obtain ⟨q1, q2, q3, q4, q5, q6⟩ := hpt.inl
  have hk1 : f.k = 1 := by unfold okc at q1; omega
  have ha : a = w.heap.size := hpt.pm.doc a p k2 (k3.k.trans hk1)
  have hwa : wAll (f.kids ++ shut fs leaf) f.a (l.length + 1) f.k := (wAll_app _ _ _ _ _).2 ⟨q5, w_shut q6 (by omega)⟩
  obtain ⟨hpa, hfew⟩ := hpt.pm.parts a p k2
  have hM : ∀ a p, S.H a = some p → a < W.heap.size := fun a p h => (hpt.pm.parts a p h).1.lt
  have hK2 := KidsAt.cap hM (Nat.succ_le_of_lt hpa.lt) hK
  have htg : ∀ g, g < W.heap.size → (fun g => if g < W.heap.size then tag g else (g, 9)) g = tag g := fun g hg => if_pos hg
  obtain ⟨pv, lv, c, -, g1, g2⟩ := hpa.cells
  have hb : Below W.heap.size W (W.alloc (.cells #[.slice none 0 0] 61)) := (Below.refl _ W).alloc (Nat.le_refl _) _
  obtain ⟨pa, pc, e9, -, -⟩ := c.row.form
  refine ⟨pv, by rw [← ha]; exact keep_cell hb c.c9, ⟨_, _, _, e9⟩, ?_⟩
  have hfd : Fd w (W.alloc (.cells #[.slice none 0 0] 61)) W.heap.size (.slice none 0 0) [] := ⟨below_later hpt.pm.low hb, hpt.pm.low.size, Hb.new _ _ _, World.ownsRow_nil _ _ _ _⟩
  have hcap := hpt.pm.cap
  refine (blks_all hnil (f.kids ++ shut fs leaf) w _ (fun g => if g < W.heap.size then tag g else (g, 9)) S.H W.heap.size (.slice none 0 0) [] p.kids pv (a + 1) (min hi W.heap.size) S.N (l.length + 1) f.a f.k HL hd
    ⟨fun x q hx => ?_, fun g hg => ?_⟩ hK2 (Nat.min_le_right _ _) hwa (by omega) (fun x q _ _ hx => ?_) hcap hfd ?_ (c.row.below hb) (Nat.le_trans hfew.kids hcap) (fun g hg => ?_)).mono ?_
  · have h := (hpt.pm.parts x q hx).1
    refine ⟨?_, h.low, h.lt⟩
    show (if x < W.heap.size then tag x else (x, 9)) = _
    rw [if_pos h.lt]
    exact h.own
  · show (if g < W.heap.size then tag g else (g, 9)).1 = g
    rw [if_neg (by omega)]
  · have h := hpt.pm.parts x q hx
    exact ⟨(h.1.tags htg).keep fun g hg _ => hb.block g hg, h.2⟩
  · show 0 + muL 0 (f.kids ++ shut fs leaf) ≤ 90000
    have hkm : muL 0 (f.kids ++ shut fs leaf) ≤ _ := hkm
    omega
  · have h3 := c.row.lt g hg
    refine ⟨?_, h3⟩
    show (if g < W.heap.size then tag g else (g, 9)).1 < _
    rw [if_pos h3, (g1 g hg).1]
    exact Nat.lt_succ_self _
  · rintro e w' ⟨u, rfl, fv', b1, b2, b3, b4, b5, b6⟩
    refine ⟨u, fv', rfl, b4.carry (fun b off y hb' _ => ?_) (fun _ _ _ _ h => h), by rw [List.nil_append] at b1; exact b1, b6⟩
    have h3 := hpt.pm.low.size
    have h4 := hb'.1
    rw [World.size_alloc] at h4
    omega
end
end Bk
end Go.Proofs.YtkiipaaaakhhfaaGreatDoor
end
section
namespace Go.Proofs.YtkiipaaaakhhfaaGreatDoor
namespace Bk
set_option maxRecDepth 100000
set_option linter.unusedVariables false
set_option linter.unusedSimpArgs false
theorem dest_len (l : List UInt8) : (Lk.destP l).1.length ≤ 4 * l.length := by
  unfold Lk.destP
  repeat' split
  all_goals first
    | exact Nat.zero_le _
    | (refine Nat.le_trans (Es.une_len _) (Nat.mul_le_mul_left _ ?_)
       rw [List.length_take]
       simp only [List.length_cons]
       omega)
theorem tit_len (l : List UInt8) : (Lk.titP l).1.length ≤ 4 * l.length := by
  unfold Lk.titP
  repeat' split
  all_goals first
    | exact Nat.zero_le _
    | (refine Nat.le_trans (Es.une_len _) (Nat.mul_le_mul_left _ ?_)
       rw [List.length_take]
       simp only [List.length_cons]
       omega)
theorem titled_len {l : List UInt8} {q : List UInt8 × Nat} (h : Rf.titledP l = some q) : q.1.length ≤ 4 * l.length := by
  unfold Rf.titledP at h
  split at h
  · cases h
  · split at h
    · cases h
    · split at h
      · cases h
      · obtain ⟨e, _, rfl⟩ := Option.map_eq_some_iff.1 h
        refine Nat.le_trans (tit_len _) ?_
        rw [List.length_drop]
        omega
theorem back_len {l : List UInt8} {q : List UInt8 × Nat} (h : Rf.backP l = some q) : q.1.length ≤ 4 * l.length := by
  unfold Rf.backP at h
  split at h
  · rename_i p hp
    injection h with h
    subst h
    exact titled_len hp
  · obtain ⟨e, _, rfl⟩ := Option.map_eq_some_iff.1 h
    exact Nat.zero_le _
theorem take_len {l : List UInt8} {r : Rf.R} {n : Nat} (h : Rf.takeP l = (r, n)) (h0 : 0 < n) : r.lab.length ≤ 8 * l.length + 4 ∧ r.dst.length ≤ 8 * l.length + 4 ∧ r.tit.length ≤ 8 * l.length + 4 := by
  obtain ⟨x, a, t, g, d, k, q, e, h1, h2, h3, h4, h5, h6, rfl, h8⟩ := Rf.take_parts h h0
  have ht : t.length ≤ l.length := by
    have := congrArg List.length h3
    rw [List.length_drop, List.length_cons] at this
    omega
  have k1 := Rf.lab_le h1
  have k2 := Ks.lab_len x
  have k3 := dest_len (t.drop g)
  rw [h5, List.length_drop] at k3
  have k4 := back_len h6
  rw [List.length_drop] at k4
  dsimp only at k3 k4 ⊢
  omega
theorem all_len : ∀ (f : Nat) (l : List UInt8), l.length ≤ f → ∀ r ∈ (Rf.allP l).1, r.lab.length ≤ 8 * l.length + 4 ∧ r.dst.length ≤ 8 * l.length + 4 ∧ r.tit.length ≤ 8 * l.length + 4
  | 0, l, hf, r, hr => by
    have : l = [] := List.length_eq_zero_iff.1 (by omega)
    subst this
    cases hr
  | f + 1, l, hf, r, hr => by
    obtain ⟨r0, n, h⟩ : ∃ r n, Rf.takeP l = (r, n) := ⟨_, _, rfl⟩
    rcases Nat.eq_zero_or_pos n with h0 | h0
    · subst h0
      rw [Rf.all_end (by rw [h])] at hr
      cases hr
    · rw [Rf.all_more h h0] at hr
      have hl := Rf.take_le h
      rcases List.mem_cons.1 hr with rfl | hr
      · exact take_len h h0
      · have := all_len f (l.drop n) (by rw [List.length_drop]; omega) r hr
        rw [List.length_drop] at this
        omega
theorem defsZ_len (s : Str) : (defsZ s).1.length ≤ s.length := by
  unfold defsZ
  rw [List.length_map]
  obtain ⟨k, h1, _, _, _, _, h2⟩ := Rf.all_rest s.length s (Nat.le_refl _)
  exact Nat.le_trans h2 h1
theorem defsZ_small (s : Str) (hs : s.length ≤ 100000) : ∀ r ∈ (defsZ s).1, Rf.RefZ r := fun r hr => by
  unfold defsZ at hr
  obtain ⟨q, hq, rfl⟩ := List.mem_map.1 hr
  have h := all_len s.length s (Nat.le_refl _) q hq
  refine ⟨?_, ?_, ?_⟩
  · show q.lab.length ≤ _
    omega
  · show q.dst.length ≤ _
    omega
  · show q.tit.length ≤ _
    omega
end Bk
end Go.Proofs.YtkiipaaaakhhfaaGreatDoor
end
section
namespace Go.Proofs.YtkiipaaaakhhfaaGreatDoor
open Go Go.RowKit
namespace Bk
set_option maxRecDepth 100000
set_option linter.unusedVariables false
set_option linter.unusedSimpArgs false
def FitL (l : List Str) : Prop := l.length ≤ 100 ∧ ∀ s ∈ l, s.length ≤ 200
section
variable {w : World} {X : Scan Rf.Rb}
set_option maxHeartbeats 8000000 in
theorem parse_any (HL : LowB w X) (hnil : X.defs [] = ([], [])) (hd : ∀ s, (X.defs s).1.length ≤ s.length) (hz : ∀ l, FitL l → ∀ m, ∀ r ∈ (parse X (foot32 m) l).2, Rf.RefZ r) (v : Value) (l : List Str) (m : Int) (hv : SSl w v l) (h1 : l.length ≤ 100) (h2 : ∀ s ∈ l, s.length ≤ 200) :
    Calls Tryz.prog 13 #[v, .int .i64 m] w fun e w' => ∃ u r, e = .returned (.tuple #[u, r]) ∧ InS w' (fun g => w.heap.size ≤ g) (parse X (foot32 m) l).1 u ∧ Rf.Refs w' r (Rf.addB [] (parse X (foot32 m) l).2) ∧ Below w.heap.size w w' ∧ (∃ a n c, u = .slice a n c ∧ n ≤ c ∧ c ≤ maxLen) := by
  obtain ⟨ao, cap, rfl, hl, hc⟩ := hv
  have HC := Lib.hid hc
  obtain ⟨n, hn⟩ : ∃ n, l.length = n := ⟨_, rfl⟩
  have HN := Lib.hid hn
  have HST := Lib.hid (fun W tag (hW : W = _) (ht : tag = _) => start_pt w m W tag hW ht)
  have HGS := Lib.hid (fun (W : World) (i : Nat) (s : Str) (hs : l[i]? = some s) (h : Gone X w W (w.heap.size + 2) m l i) => gone_step HL h1 h2 hs h)
  have H1 := Lib.hid h1
  have HEA := Lib.hid (fun (W : World) (hG : Gone X w W (w.heap.size + 2) m l l.length) => ending_any (P := w.heap.size + 2) hnil hd HL.toLow h1 h2 hG)
  have HRZ := Lib.hid (hz l ⟨h1, h2⟩ m)
  have HML : Hid ((parse X (foot32 m) l).2.length ≤ 90000) := Lib.hid (by
    show (defsL X (go X (foot32 m) 0 doc0 l).kids).length ≤ _
    have a1 := defsL_mu hd (go X (foot32 m) 0 doc0 l).kids
    have a2 := kids_mu (go X (foot32 m) 0 doc0 l) 0
    have a3 := go_mu0 (X := X) (foot32 m) h1 h2
    omega)
  obtain ⟨PR, hPR⟩ : ∃ x, parse X (foot32 m) l = x := ⟨_, rfl⟩
  rw [hPR] at HEA HRZ HML ⊢
  obtain ⟨P1, P2⟩ := PR
  dsimp only at HEA HRZ HML ⊢
  clear hPR
  rw [hn]
  clear hc hn HL h1 h2 hl hnil hd hz
  go_enter Tryz.func13, Tryz.ntmps13
  go_upto_region 3 with fail
  have HS0 := Lib.hid (HST.out _ _ rfl rfl)
  have e2 : w.heap.size + 1 + 1 = w.heap.size + 2 := rfl
  rw [e2]
  generalize hW0 : World.alloc (World.alloc (World.alloc w _) _) _ = W0
  have HG0 : Hid (Gone X w W0 (w.heap.size + 2) m l 0) := Lib.hid (by rw [← hW0]; exact ⟨_, _, _, HS0.out⟩)
  clear hW0 HS0 HST
  go_wp2_with fail
  go_loopg [22] n (fun G s22 wr => ∃ i : Nat, i + G = n ∧ s22 = .int .i64 (i : Int) ∧ Hid (Gone X w wr (w.heap.size + 2) m l i))
  case atStart => exact ⟨0, by omega, rfl, HG0⟩
  case round =>
    obtain ⟨i, hig, rfl, HG⟩ := hrel
    cases gk with
    | zero =>
      have hlt : ¬ (i : Int) < (n : Int) := by omega
      have hi2 : Hid (i = l.length) := Lib.hid (by rw [HN.out]; omega)
      rw [hi2.out] at HG
      obtain ⟨pv, hp9, ⟨pa, pn, pc, rfl⟩, hca⟩ := HEA.out wr HG.out
      have HCA := Lib.hid hca
      clear hca hi2 HEA HGS
      unfold ptr at HCA
      go_upto_region 9 with fail
      go_wp2_with fail
      refine HCA.out.mono ?_
      rintro e w2 ⟨u, fv2, rfl, hu, hfd, hroom⟩
      have HRoom := Lib.hid hroom
      obtain ⟨ua, uc, eu, -⟩ := hu.form
      obtain ⟨UN, hUN⟩ : ∃ n, P1.length = n := ⟨_, rfl⟩
      rw [hUN] at eu
      subst eu
      have HU := Lib.hid hu
      have HF := Lib.hid hfd
      have HAD := Lib.hid (Rf.zadd_any [] P2 (.slice none 0 0) fv2 w2 (Rf.Refs.nil _) (Rf.Refs.of_owns hfd.own) (Nat.zero_le _) (by have := HML.out; omega) (fun r hr => by cases hr) HRZ.out)
      obtain ⟨fa, fc, ef⟩ := Rf.owns_form hfd.own
      subst ef
      have k0 : w2.cell? ⟨wr.heap.size, 0, none⟩ = some (.slice fa P2.length fc) := hfd.box.cell 0 rfl
      clear hu hfd hp9 hUN hroom
      go_wp2_with fail
      refine HAD.out.mono ?_
      rintro e w3 ⟨r3, rfl, hr3, hb3⟩
      obtain ⟨ra, rc, er, -⟩ := id hr3
      subst er
      have HR3 := Lib.hid hr3
      have HB3 := Lib.hid hb3
      clear hr3 hb3 k0
      go_wp2
      go_ret2
      exact ⟨_, _, rfl, HU.out.keep HB3.out, HR3.out, HF.out.low.trans (HB3.out.mono (HF.out.low.size)), HRoom.out⟩
    | succ G =>
      have hlt : (i : Int) < (n : Int) := by omega
      have hil : i < l.length := by have := HN.out; omega
      obtain ⟨bb, off, rfl, hcell⟩ := HC.out (fun e => by rw [e] at hil; exact absurd hil (Nat.not_lt_zero _))
      obtain ⟨s, hs⟩ : ∃ s, l[i]? = some s := ⟨_, List.getElem?_eq_getElem hil⟩
      have hlow : Below w.heap.size w wr := by obtain ⟨tg, S, h, k⟩ := HG.out; exact k.pm.low
      have q0 := keep_cell hlow (hcell i hil)
      have hse : l[i] = s := by rw [List.getElem?_eq_getElem hil] at hs; injection hs
      rw [hse] at q0
      have HLN := Lib.hid (HGS.out wr i s hs HG.out)
      have h100 := H1.out
      have s5 : IntKind.i64.wrap ((i : Int) + 1) = ((i + 1 : Nat) : Int) := by rw [IntWalk.i64_in _ (by omega)]; omega
      clear hcell hil hs hlow hse h100
      unfold str at q0
      unfold ptr str at HLN
      go_wp2_with fail
      refine HLN.out.mono ?_
      rintro e w2 ⟨rfl, hg2⟩
      have HG2 := Lib.hid hg2
      clear hg2 q0
      go_wp2
      go_roundg G
      case rel => exact ⟨i + 1, by omega, rfl, HG2⟩
      case measure => omega
end
end Bk
end Go.Proofs.YtkiipaaaakhhfaaGreatDoor
end
section
namespace Go.Proofs.YtkiipaaaakhhfaaGreatDoor
open Go Go.RowKit
namespace Bk
set_option maxRecDepth 100000
set_option linter.unusedVariables false
theorem foot0 : foot32 0 = false := by kernel_rfl
theorem aw_list : parse (XS defsZ) false [[45, 32, 97], [], [45, 32, 98]] = ([.mk 3 [] [] 0 45 false 0 2 [.mk 4 [] [] 0 0 false 0 0 [.mk 7 [97] [] 0 0 false 0 0 []], .mk 4 [] [] 0 0 false 2 2 [.mk 7 [98] [] 0 0 false 2 2 []]]], []) := by kernel_rfl
theorem aw_quote : parse (XS defsZ) false [[62, 32, 97], [98]] = ([.mk 2 [] [] 0 0 false 0 1 [.mk 7 [97, 10, 98] [] 0 0 false 0 1 []]], []) := by kernel_rfl
theorem aw_label : labelP [91, 94, 120, 93, 58, 32, 121] = ([120], 5) := by kernel_rfl
end Bk
end Go.Proofs.YtkiipaaaakhhfaaGreatDoor
end
section
namespace Go.Proofs.YtkiipaaaakhhfaaGreatDoor
open Go Go.RowKit
namespace Bk
set_option maxRecDepth 100000
set_option linter.unusedVariables false
set_option linter.unusedSimpArgs false
structure Laid11 (w : World) : Prop where
  ref : Rf.LaidR w
  u8 : Lib.Utf8Tabs 1 2 w
theorem Laid11.below {w w' : World} (h : Laid11 w) (hB : Below w.heap.size w w') : Laid11 w' := ⟨h.ref.below hB, Utf8Tabs_below h.u8 hB⟩
mutual
theorem defsO_src (X : Scan Rf.Rb) : ∀ (b : B) (r : Rf.Rb), r ∈ defsO X b → ∃ s : Str, s.length ≤ muB 0 b ∧ r ∈ (X.defs s).1
  | .mk k s t n m fen stx ls a z kids, r, h => by
    rw [defsO] at h
    rw [muB_mk]
    rcases List.mem_append.1 h with h | h
    · unfold defsB at h
      split at h
      · refine ⟨bodyT ls, ?_, h⟩
        have h1 := rgt_len (lines ls)
        have h2 := lines_mu ls
        have h3 : (bodyT ls).length = (Cl.rgt (lines ls)).length := rfl
        omega
      · cases h
    · obtain ⟨s, h1, h2⟩ := defsL_src X kids r h
      exact ⟨s, by omega, h2⟩
theorem defsL_src (X : Scan Rf.Rb) : ∀ (l : List B) (r : Rf.Rb), r ∈ defsL X l → ∃ s : Str, s.length ≤ muL 0 l ∧ r ∈ (X.defs s).1
  | [], r, h => by rw [defsL] at h; cases h
  | b :: l, r, h => by
    rw [defsL] at h
    rw [muL_cons]
    rcases List.mem_append.1 h with h | h
    · obtain ⟨s, h1, h2⟩ := defsO_src X b r h
      exact ⟨s, by omega, h2⟩
    · obtain ⟨s, h1, h2⟩ := defsL_src X l r h
      exact ⟨s, by omega, h2⟩
end
theorem lowB_of {w0 : World} (h : Laid11 w0) : LowB w0 (XS defsZ) where
  toLow := low_of h.ref.tabs ⟨h.ref.tabs, h.ref.link.len⟩ h.ref.link.kinds defsZ defsZ_nil (low_all h.ref)
  label := fun s hs W hW => label_any s W hs
  sgnEnd := fun s hs W hW => (sgn_any s hs W (Utf8Tabs_below h.u8 hW)).mono fun e w' h => h
theorem parse_of {w0 : World} (h : Laid11 w0) (w : World) (hw : Below w0.heap.size w0 w) (v : Value) (l : List Str) (m : Int) (hv : SSl w v l) (hl : FitS l) :
    Calls Tryz.prog 13 #[v, .int .i64 m] w fun e w' => ∃ u r, e = .returned (.tuple #[u, r]) ∧ InS w' (fun g => w.heap.size ≤ g) (Bk.parse (XS defsZ) (foot32 m) l).1 u ∧ cntK (Bk.parse (XS defsZ) (foot32 m) l).1 ≤ 1000000000 ∧ Rf.Refs w' r (Rf.addB [] (Bk.parse (XS defsZ) (foot32 m) l).2) ∧ Below w.heap.size w w' ∧ Roomy u := by
  have hw1 := lowB_of (h.below hw)
  refine (parse_any hw1 defsZ_nil defsZ_len (fun l hl m r hr => ?_) v l m hv hl.1 hl.2).mono ?_
  · obtain ⟨s, hs, hr⟩ := defsL_src (XS defsZ) (go (XS defsZ) (foot32 m) 0 doc0 l).kids r hr
    refine defsZ_small s ?_ r hr
    have a1 := kids_mu (go (XS defsZ) (foot32 m) 0 doc0 l) 0
    have a2 := go_mu0 (X := XS defsZ) (foot32 m) hl.1 hl.2
    omega
  · rintro e w' ⟨u, r, rfl, h1, h2, h3, h4⟩
    refine ⟨u, r, rfl, h1, ?_, h2, h3, h4⟩
    have a0 := outL_cnt (XS defsZ) (go (XS defsZ) (foot32 m) 0 doc0 l).kids
    have a1 := kids_mu (go (XS defsZ) (foot32 m) 0 doc0 l) 1
    have a2 := go_few (X := XS defsZ) (foot32 m) hl.1 hl.2
    show cntK (outL (XS defsZ) (go (XS defsZ) (foot32 m) 0 doc0 l).kids) ≤ _
    omega
end Bk
end Go.Proofs.YtkiipaaaakhhfaaGreatDoor
end
section
namespace Go.Proofs.YtkiipaaaakhhfaaGreatDoor
open Go Go.ChangeShapes Go.WideShapes Go.ChangeAt Go.RowKit
namespace Bk
set_option maxRecDepth 100000
theorem first_data : Rows.laid_unicode_utf8_first = Lib.firstData := by kernel_rfl
theorem accept_data : (Rows.laid_unicode_utf8_acceptRanges : DataW Unit) = Lib.acceptData := by kernel_rfl
theorem laid11_of {W : World} (h : laidMetH Tryz.prog [("unicode/utf8.acceptRanges", Rows.laid_unicode_utf8_acceptRanges), ("incipit/class.kinds", Rows.laid_incipit_class_kinds), ("incipit/class.capitals", Rows.laid_incipit_class_capitals), ("unicode/utf8.first", Rows.laid_unicode_utf8_first)] W) (hs : W.ShapedOpen Tryz.prog) : Laid11 W := by
  refine ⟨Rf.laid_of h hs, ?_⟩
  rw [MakeChecks.laidMetH_plain _ _ _ (by kernel_rfl)] at h
  have h3 := Lib.laidMet.reads h (.tail _ (.tail _ (.tail _ (.head _))))
  have h4 := Lib.laidMet.reads h (.head _)
  rw [first_data] at h3
  rw [accept_data] at h4
  exact utf8Tabs_of_reads Tryz.lays260 ⟨by kernel_rfl, by kernel_rfl, by kernel_rfl, by kernel_rfl, by kernel_rfl, by kernel_rfl, by kernel_rfl⟩ h3 h4
end Bk
end Go.Proofs.YtkiipaaaakhhfaaGreatDoor
end
section
namespace Go.Proofs.YtkiipaaaakhhfaaGreatDoor
open Go Go.RowKit
namespace Rf
set_option maxRecDepth 100000
set_option linter.unusedVariables false
set_option linter.unusedSimpArgs false
set_option maxHeartbeats 8000000 in
theorem rsame_self (l : List Rb) (v v' : Value) (w : World) (h : Refs w v l) (h' : Refs w v' l) :
    Calls Tryz.prog 23 #[v, v'] w fun e w' => e = .returned (.bool true) ∧ Below w.heap.size w w' := by
  obtain ⟨a, cap, rfl, hlm, hk⟩ := h
  obtain ⟨a', cap', rfl, _, hk'⟩ := h'
  unfold maxLen at hlm
  have HK := Lib.hid hk
  have HK' := Lib.hid hk'
  clear hk hk'
  obtain ⟨n, hn⟩ : ∃ n, l.length = n := ⟨_, rfl⟩
  rw [hn] at hlm ⊢
  have HN := Lib.hid hn
  clear hn
  go_enter Tryz.func23, Tryz.ntmps23
  go_wp2
  go_loopg [5] n (fun G s5 wr => ∃ i : Nat, i + G = n ∧ s5 = .int .i64 (i : Int) ∧ Below w.heap.size w wr)
  case atStart => exact ⟨0, by omega, rfl, Below.refl _ _⟩
  case round =>
    obtain ⟨i, hig, rfl, hbw⟩ := hrel
    cases gk with
    | zero =>
      have hlt : ¬ (i : Int) < (n : Int) := by omega
      go_wp2
      go_ret
      exact ⟨rfl, hbw⟩
    | succ G =>
      have hlt : (i : Int) < (n : Int) := by omega
      obtain ⟨c, hc⟩ : ∃ c, l[i]? = some c := ⟨_, List.getElem?_eq_getElem (by have := HN.out; omega)⟩
      rcases HK.out with rfl | ⟨b, off, rfl, hcell⟩
      · simp at hc
      rcases HK'.out with rfl | ⟨b', off', rfl, hcell'⟩
      · simp at hc
      have q := (hcell i c hc).keep hbw
      have q' := (hcell' i c hc).keep hbw
      have q0 := q.c0
      have q1 := q.c1
      have q2 := q.c2
      have q0' := q'.c0
      have q1' := q'.c1
      have q2' := q'.c2
      clear hcell hcell' hc q q'
      go_wp2_with fail
      go_quiet (fail)
      go_wp2
      go_roundg G
      case rel => exact ⟨i + 1, by omega, by go_num, below_drewN hbw _⟩
      case measure => omega
end Rf
end Go.Proofs.YtkiipaaaakhhfaaGreatDoor
end
section
namespace Go.Proofs.YtkiipaaaakhhfaaGreatDoor
open Go Go.RowKit
namespace Bk
set_option maxRecDepth 100000
set_option linter.unusedVariables false
set_option linter.unusedSimpArgs false
theorem ssl_new (W : World) (l : List Str) (hl : l.length ≤ maxLen) : SSl (W.alloc (.cells (l.map str).toArray 9)) (.slice (some ⟨W.heap.size, 0, none⟩) l.length l.length) l := by
  refine ⟨_, _, rfl, hl, fun _ => ⟨W.heap.size, 0, rfl, fun i hi => ?_⟩⟩
  rw [cell_of_row _ _ (0 + i) _ _ _ (heap_alloc_new W _), Nat.zero_add]
  simp [List.getElem?_eq_getElem hi]
theorem InS.one' {w : World} {C : Nat → Prop} {b : Blk} {v : Value} (h : InS w C [b] v) : ∃ bb off cp L, v = .slice (some ⟨bb, off, none⟩) 1 cp ∧ Cells9 w bb off b.ow L ∧ InS w C b.kids L := by
  obtain ⟨a, cap, rfl, _, h | ⟨bb, off, rfl, _, hc⟩⟩ := h
  · cases h
  · obtain ⟨L, q, g⟩ := hc.get (i := 0) rfl
    rw [Nat.zero_mul, Nat.add_zero] at q
    exact ⟨bb, off, cap, L, rfl, q, g.kids⟩
set_option maxHeartbeats 8000000 in
theorem awake_any {w : World} (h : Laid11 w) : Calls Tryz.prog 11 #[] w fun e w' => e = .returned (.bool true) ∧ Below w.heap.size w w' := by
  have hb0 : Below w.heap.size w (w.alloc (.cells #[.string ⟨#[45, 32, 97]⟩, .string ⟨#[]⟩, .string ⟨#[45, 32, 98]⟩] 9)) := (Below.refl _ w).alloc (Nat.le_refl _) _
  have hs1 : SSl (w.alloc (.cells #[.string ⟨#[45, 32, 97]⟩, .string ⟨#[]⟩, .string ⟨#[45, 32, 98]⟩] 9)) (.slice (some ⟨w.heap.size, 0, none⟩) 3 3) [[45, 32, 97], [], [45, 32, 98]] := ssl_new w [[45, 32, 97], [], [45, 32, 98]] (by decide)
  have H1 := Lib.hid (parse_of h _ hb0 _ _ 0 hs1 ⟨by decide, by decide⟩)
  rw [foot0, aw_list] at H1
  have H2 := Lib.hid (fun W (hW : Below w.heap.size w W) => parse_of h _ (below_later hW ((Below.refl _ W).alloc (Nat.le_refl _) (.cells #[.string ⟨#[62, 32, 97]⟩, .string ⟨#[98]⟩] 9))) (.slice (some ⟨W.heap.size, 0, none⟩) 2 2) [[62, 32, 97], [98]] 0 (ssl_new W [[62, 32, 97], [98]] (by decide)) ⟨by decide, by decide⟩)
  rw [foot0, aw_quote] at H2
  have H3 := Lib.hid (fun W : World => label_any [91, 94, 120, 93, 58, 32, 121] W (by decide))
  rw [aw_label] at H3
  have HB0 := Lib.hid hb0
  unfold str at H3
  clear h hs1 hb0
  go_enter Tryz.func11, Tryz.ntmps11
  go_wp2_with fail
  refine H1.out.mono ?_
  rintro e w1 ⟨u1, r1, rfl, i1, _, g1, b1, _⟩
  obtain ⟨bb, off, cp, L, rfl, q, ki⟩ := i1.one'
  obtain ⟨aL, cL, rfl, _⟩ := ki.form
  obtain ⟨ra, rc, er, -⟩ := id g1
  subst er
  have HB1 := Lib.hid (HB0.out.trans (b1.mono HB0.out.size))
  have HQ1 := Lib.hid q
  have H2a := Lib.hid (H2.out w1 HB1.out)
  clear i1 g1 b1 q ki H1 H2
  go_wp2_with fail
  refine H2a.out.mono ?_
  rintro e w2 ⟨u2, r2, rfl, i2, _, g2, b2, _⟩
  obtain ⟨b3, off3, cp3, L3, rfl, q3, k3⟩ := i2.one'
  obtain ⟨b4, off4, cp4, L4, rfl, q4, k4⟩ := k3.one'
  obtain ⟨ra2, rc2, er, -⟩ := id g2
  subst er
  have hb12 : Below w1.heap.size w1 w2 := ((Below.refl _ w1).alloc (Nat.le_refl _) (.cells #[.string ⟨#[62, 32, 97]⟩, .string ⟨#[98]⟩] 9)).trans (b2.mono (by rw [World.size_alloc]; exact Nat.le_succ _))
  have HB2 := Lib.hid (HB1.out.trans (hb12.mono HB1.out.size))
  have HQ2 := Lib.hid (HQ1.out.keep hb12)
  have HQ3 := Lib.hid q3
  have HQ4 := Lib.hid q4
  clear i2 g2 b2 q3 k3 q4 k4 hb12 HQ1 H2a
  go_wp2_with fail
  refine (H3.out _).mono ?_
  rintro e w3 ⟨rfl, hb3⟩
  have HB3 := Lib.hid (HB2.out.trans (hb3.mono HB2.out.size))
  obtain ⟨d0, _, _, _, _, d5, _, _, d8⟩ := HQ2.out.keep hb3
  obtain ⟨f0, _, _, _, _, _, _, _, f8⟩ := HQ3.out.keep hb3
  obtain ⟨_, m1, _, _, _, _, _, _, _⟩ := HQ4.out.keep hb3
  replace d0 : w3.cell? ⟨bb, off, none⟩ = some (.int .i64 3) := d0
  replace d5 : w3.cell? ⟨bb, off + 5, none⟩ = some (.bool false) := d5
  replace d8 : w3.cell? ⟨bb, off + 8, none⟩ = some (.slice aL 2 cL) := d8
  replace f0 : w3.cell? ⟨b3, off3, none⟩ = some (.int .i64 2) := f0
  replace f8 : w3.cell? ⟨b3, off3 + 8, none⟩ = some (.slice (some ⟨b4, off4, none⟩) 1 cp4) := f8
  replace m1 : w3.cell? ⟨b4, off4 + 1, none⟩ = some (.string ⟨#[97, 10, 98]⟩) := m1
  clear hb3 HQ2 HQ3 HQ4
  go_wp2
  go_ret
  exact ⟨rfl, HB3.out⟩
def prog11 {w : World} (h : Laid11 w) : Prog11 w (XS defsZ) where
  R := fun w v l => Rf.Refs w v (Rf.addB [] l)
  foot := foot32
  keepR := fun h hb => h.keep hb
  len := fun l => (Rf.addB [] l).length
  len0 := rfl
  formR := fun h => by obtain ⟨a, c, e, _⟩ := h; exact ⟨a, c, e⟩
  sameR := fun W v v' l h h' => Rf.rsame_self _ v v' W h h'
  none := defsZ_nil
  parse := fun W hW v l m hv hl => parse_of h W hW v l m hv hl
  awake := awake_any h
end Bk
end Go.Proofs.YtkiipaaaakhhfaaGreatDoor
end
