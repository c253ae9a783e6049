import Derived.Test.YtkiipaaaakhhfaaGreatDoorCBk10
import Derived.Test.YtkiipaaaakhhfaaGreatDoorCBk1
section
namespace Go.Proofs.YtkiipaaaakhhfaaGreatDoor
open Go Go.RowKit
namespace Bk
set_option maxRecDepth 100000
set_option linter.unusedVariables false
set_option linter.unusedSimpArgs false
theorem bl_of_wd {c : UInt8} {col : Nat} (h : Cl.wd c col ≠ 0) : bl c = true := by
 unfold Cl.wd at h
 unfold bl
 by_cases h1 : c = 32
 ·rw [h1]; rfl
 ·rw [if_neg h1] at h
  by_cases h2 : c = 9
  ·rw [h2]; rfl
  ·rw [if_neg h2] at h; exact absurd rfl h
theorem wd_of_bl {c : UInt8} {col : Nat} (h : bl c = true) : Cl.wd c col ≠ 0 := by
 unfold bl at h
 rw [Bool.or_eq_true, beq_iff_eq, beq_iff_eq] at h
 unfold Cl.wd
 rcases h with h | h
 ·rw [if_pos h]; decide
 ·rw [if_neg (by rw [h]; decide), if_pos h]; omega
theorem nb_rep (k : Nat) (t : Str) : nb (List.replicate k 32 ++ t) = nb t := by
 induction k with
 | zero => rfl
 | succ k ih =>
  rw [List.replicate_succ, List.cons_append, nb_cons, ih]
  rfl
theorem nb_skp : ∀ (s : Str) (col n : Nat), nb (Cl.skp s col n).1 = nb s
 | [], col, 0 => rfl
 | [], col, n + 1 => rfl
 | c :: t, col, 0 => rfl
 | c :: t, col, n + 1 => by
  rw [Cl.skp]
  by_cases h0 : Cl.wd c col = 0
  ·rw [if_pos h0]
  ·have hb := bl_of_wd h0
   have hn : nb (c :: t) = nb t := by rw [nb_cons, if_pos hb]; rfl
   rw [if_neg h0, hn]
   split
   ·exact nb_rep _ _
   ·exact nb_skp t _ _
theorem nb_ind : ∀ (s : Str) (col : Nat), nb (s.drop (Cl.indB s col)) = nb s ∧ ∀ c t, s.drop (Cl.indB s col) = c :: t → bl c = false
 | [], col => ⟨rfl, fun c t e => by cases e⟩
 | c :: t, col => by
  by_cases h : bl c = true
  ·rw [Cl.indB_s c t col _ rfl (wd_of_bl h), Nat.add_comm 1, List.drop_succ_cons]
   obtain ⟨h1, h2⟩ := nb_ind t (col + Cl.wd c col)
   exact ⟨by rw [h1, nb_cons, if_pos h]; rfl, h2⟩
  ·have h : bl c = false := by simpa using h
   have hz : Cl.wd c col = 0 := by
    by_cases hz : Cl.wd c col = 0
    ·exact hz
    ·exact absurd (bl_of_wd hz) (by rw [h]; exact Bool.false_ne_true)
   rw [Cl.indB_z c t col hz, List.drop_zero]
   exact ⟨rfl, fun c' t' e => by injection e with e _; rw [← e]; exact h⟩
theorem nb_drop (k : Nat) (t : Str) : nb (t.drop k) ≤ nb t := (List.drop_sublist k t).countP_le
theorem nb_past {r : Rest} {k : Nat} (hk : 0 < k) (hb : blank r.s = false) : nb (r.past k).s < nb r.s := by
 obtain ⟨h1, h2⟩ := nb_ind r.s r.col
 rw [(past_ind r k).1]
 have hne : r.aft ≠ [] := fun e => by
  have := (blank_drop r.s r.col).2 e
  rw [this] at hb; cases hb
 have e1 : nb r.aft = nb r.s := h1
 rw [← e1]
 cases ha : r.aft with
 | nil => exact absurd ha hne
 | cons c t =>
  have hc := h2 c t ha
  obtain ⟨j, rfl⟩ : ∃ j, k = j + 1 := ⟨k - 1, by omega⟩
  rw [List.drop_succ_cons, nb_cons, if_neg (by rw [hc]; exact Bool.false_ne_true)]
  have := nb_drop j t
  omega
theorem step_mark {X : Scan Rf.Rb} {foot : Bool} {i : Nat} {L L1 : Ln} (hb : blank L.r.s = false) (h : stepB X foot i L = (1, L1)) : nb L1.r.s < nb L.r.s ∧ L1.leaf = none := by
 unfold stepB at h
 split at h
 ·split at h <;> cases h
 ·split at h
  ·injection h with _ h
   subst h
   refine ⟨?_, rfl⟩
   show nb (Cl.skp (L.r.past 1).s (L.r.past 1).col 1).1 < _
   rw [nb_skp]
   exact nb_past (by decide) hb
  ·split at h
   ·cases h
   ·split at h
    ·cases h
    ·split at h
     ·cases h
     ·split at h
      ·cases h
      ·split at h
       ·cases h
       ·split at h
        ·rename_i L2 hn
         injection h with _ h
         subst h
         unfold note at hn
         split at hn
         ·cases hn
         ·rename_i hc
          injection hn with hn
          subst hn
          refine ⟨?_, rfl⟩
          show nb (Cl.skp (L.r.past (labelP L.r.aft).2).s (L.r.past (labelP L.r.aft).2).col _).1 < _
          rw [nb_skp]
          exact nb_past (Nat.pos_of_ne_zero fun e => hc (.inr (.inr e))) hb
        ·split at h
         ·rename_i L2 hn
          injection h with _ h
          subst h
          by_cases h0 : (sign X L.r.aft).2.2 = 0
          ·rw [item_no (.inl h0)] at hn; cases hn
          ·cases hs : staysB L (sign X L.r.aft).1 (sign X L.r.aft).2.1.toNat (L.r.aft.drop (sign X L.r.aft).2.2) with
           | true => rw [item_no (.inr hs)] at hn; cases hn
           | false =>
            rw [item_yes h0 hs] at hn
            injection hn with hn
            subst hn
            refine ⟨?_, rfl⟩
            have e : (itemOf X i L).r = (L.r.past (sign X L.r.aft).2.2).skip (width L (sign X L.r.aft).2.2) := by
             unfold itemOf itemQ itemL
             split <;> rfl
            rw [e]
            show nb (Cl.skp (L.r.past _).s (L.r.past _).col _).1 < _
            rw [nb_skp]
            exact nb_past (Nat.pos_of_ne_zero h0) hb
         ·cases h
end Bk
end Go.Proofs.YtkiipaaaakhhfaaGreatDoor
end
section
namespace Go.Proofs.YtkiipaaaakhhfaaGreatDoor
open Go Go.RowKit
namespace Bk
set_option maxRecDepth 100000
set_option linter.unusedVariables false
set_option linter.unusedSimpArgs false
structure PT (w0 w : World) (P : Nat) (mask : Int) (num N : Nat) (st : St) (tag : Tag) (S : PS) (hi : Nat) : Prop where
 pm : PM w0 w P tag S
 op : OpenAt S.H st.fs st.leaf S.op 0 hi
 emask : S.mask = mask
 eN : S.N ≤ N
 inl : wPath st.fs st.leaf 0 (num + 1) 0
 ne : st.fs ≠ []
 html : ∀ l, st.leaf = some l → l.k = 6 → 1 ≤ l.n ∧ l.n ≤ 7
def StFit (st : St) : Prop := ∀ l, st.leaf = some l → l.k = 7 → (lines l.ls).length ≤ 100000 ∧ l.t = []
section
variable {w0 w w' : World} {P a b hi num sgn N : Nat} {mask : Int} {tag tag' : Tag} {S : PS} {p pb q q' : Pt} {L : Ln} {X : Scan Rf.Rb} {v : Value} {st : St}
theorem path_roots : ∀ {fs : List Fr} {leaf : Option Lf} {a n p : Nat}, wPath fs leaf a n p → p ≠ 0 → ∀ f ∈ fs, f.k ≠ 1
 | [], _, _, _, _, _, _, f, hf => by cases hf
 | g :: gs, leaf, a, n, p, h, hp, f, hf => by
  obtain ⟨h1, h2, h3, h4, h5, h6⟩ := h
  have hg : g.k ≠ 1 := by unfold okc at h1; omega
  rcases List.mem_cons.1 hf with rfl | hf
  ·exact hg
  ·exact path_roots h6 (okc_ne h1) f hf
theorem nb_past_le (r : Rest) (k : Nat) : nb (r.past k).s ≤ nb r.s := by
 rw [(past_ind r k).1]
 have h1 : nb r.aft = nb r.s := (nb_ind r.s r.col).1
 rw [← h1]
 exact nb_drop k r.aft
theorem nb_meet1 {f : Fr} {has : Bool} {r r1 : Rest} (h : meet1 f has r = some r1) : nb r1.s ≤ nb r.s := by
 unfold meet1 at h
 by_cases h3 : f.k = 3
 ·rw [if_pos h3] at h
  injection h with h
  rw [h]
  exact Nat.le_refl _
 ·rw [if_neg h3] at h
  by_cases h2 : f.k = 2
  ·rw [if_pos h2] at h
   by_cases h4 : 4 ≤ r.ind
   ·rw [if_pos h4] at h; cases h
   ·rw [if_neg h4] at h
    by_cases hq : r.aft.head? = some 62
    ·rw [if_pos hq] at h
     injection h with h
     subst h
     show nb (Cl.skp (r.past 1).s (r.past 1).col 1).1 ≤ _
     rw [nb_skp]
     exact nb_past_le r 1
    ·rw [if_neg hq] at h; cases h
  ·rw [if_neg h2] at h
   by_cases h5 : f.k = 4 ∧ Bk.blank r.s = true ∧ has = false
   ·rw [if_pos h5] at h; cases h
   ·rw [if_neg h5] at h
    by_cases h6 : r.ind < (if f.k = 4 then f.need else 4) ∧ Bk.blank r.s = false
    ·rw [if_pos h6] at h; cases h
    ·rw [if_neg h6] at h
     injection h with h
     subst h
     show nb (Cl.skp r.s r.col _).1 ≤ _
     rw [nb_skp]
     exact Nat.le_refl _
theorem nb_meets (i : Nat) (leaf : Option Lf) : ∀ (fs : List Fr) (r : Rest), nb (meets i leaf fs r).2.2.s ≤ nb r.s
 | [], r => Nat.le_refl _
 | f :: fs, r => by
  rw [meets]
  cases hm : meet1 f (hasKid f fs leaf) r with
  | none => exact Nat.le_refl _
  | some r1 => exact Nat.le_trans (nb_meets i leaf fs r1) (nb_meet1 hm)
theorem takes_false {i : Nat} {L : Ln} (h : (takes X i L).1 = false) : (takes X i L).2 = L ∨ (takes X i L).2 = L.shut := by
 unfold takes at h ⊢
 cases hu : L.us with
 | cons f fs => exact .inl rfl
 | nil =>
  cases hl : L.leaf with
  | none => exact .inl rfl
  | some l =>
   rw [hu, hl] at h
   dsimp only at h ⊢
   split at h
   ·split at h <;> cases h
   ·rename_i h5
    rw [if_neg h5]
    split at h
    ·rename_i h6
     rw [if_pos h6]
     split at h
     ·rename_i he
      rw [if_pos he]
      split at h
      ·rename_i hb
       rw [if_pos hb]
       exact .inr rfl
      ·cases h
     ·cases h
    ·rename_i h6
     rw [if_neg h6]
     exact .inl rfl
theorem step_none {foot : Bool} {i : Nat} {L L1 : Ln} (h : stepB X foot i L = (0, L1)) : L1 = L := by
 unfold stepB at h
 split at h
 ·split at h
  ·injection h with _ h; exact h.symm
  ·cases h
 ·split at h
  ·cases h
  ·split at h
   ·cases h
   ·split at h
    ·cases h
    ·split at h
     ·cases h
     ·split at h
      ·cases h
      ·split at h
       ·cases h
       ·split at h
        ·cases h
        ·split at h
         ·cases h
         ·injection h with _ h; exact h.symm
theorem step_le {foot : Bool} {i : Nat} {L : Ln} : (stepB X foot i L).1 ≤ 2 := by
 unfold stepB
 split
 ·split <;> simp
 ·split
  ·simp
  ·split
   ·simp
   ·split
    ·simp
    ·split
     ·simp
     ·split
      ·simp
      ·split
       ·simp
       ·split
        ·simp
        ·split <;> simp
theorem PL.done (h : PL X w0 w P mask num sgn N L tag S hi) : PT w0 w P mask (num + 1) N L.st tag S hi :=
 ⟨h.pm, h.abs.op, h.emask, h.eN, wPath_mono (Nat.le_succ _) h.inl.1, fun e => h.inl.2 (by have := List.append_eq_nil_iff.1 e; exact this.1), h.html⟩
set_option maxHeartbeats 16000000 in
theorem line_any (HL : LowB w0 X) (h : PT w0 w P mask num N st tag S hi) (hsf : StFit st) (s : Str) (hs : s.length ≤ 900) (hnum : num ≤ 1000) (hN : N + 20 * (nb s + 2) + 10 ≤ 1000000) :
  Calls Tryz.prog 25 #[ptr P, .int .i64 (num : Nat), str s] w fun e w' => e = .returned (.tuple #[]) ∧ ∃ tag' S' hi', PT w0 w' P mask (num + 1) (N + 20 * (nb s + 2) + 10) (line X (foot32 mask) num st s) tag' S' hi' := by
 obtain ⟨b0, fs, hst⟩ : ∃ b0 fs, st.fs = b0 :: fs := by
  cases hf : st.fs with
  | nil => exact absurd hf h.ne
  | cons b0 fs => exact ⟨b0, fs, rfl⟩
 have hk1 : ∀ f ∈ fs, f.k ≠ 1 := by
  have h1 := h.inl
  rw [hst] at h1
  exact path_roots h1.2.2.2.2.2 (okc_ne h1.1)
 have hline : line X (foot32 mask) num st s = (rest X (foot32 mask) num (lineL num b0 fs st.leaf ⟨s, 0⟩)).st := by
  unfold line
  rw [hst]
 have HLA := Lib.hid (lay_any HL.toLow h.pm s 0 (by omega))
 have HLL := Lib.hid HL
 have HPT := Lib.hid h
 have HSF := Lib.hid hsf
 have HK1 := Lib.hid hk1
 have HST := Lib.hid hst
 have HLI := Lib.hid hline
 have HSL := Lib.hid hs
 have HNU := Lib.hid hnum
 have HSG := Lib.hid (fun W (hW : Below w0.heap.size w0 W) => HL.sgnEnd s (by omega) W hW)
 clear h HL hsf hk1 hst hline hs hnum
 unfold ptr str at *
 go_enter Tryz.func25, Tryz.ntmps25
 go_wp2_with fail
 refine HLA.out.mono ?_
 rintro e w1 ⟨rfl, h1⟩
 have H1 := Lib.hid h1
 clear h1
 go_wp2_with fail
 refine (HSG.out _ H1.out.low).mono ?_
 rintro e w2 ⟨sgn, rfl, hsl, hsr, hb2⟩
 have H2 := Lib.hid (H1.out.below hb2)
 have HS2 := Lib.hid hsl
 have HR2 := Lib.hid hsr
 have hm2 := H2.out.cellsV
 have c6 := hm2.c6
 have c7 := hm2.c7
 have fr := hm2.fr
 have H3 : Hid (PM w0 ((w2.setCell ⟨P, 6, none⟩ (.int .i64 (num : Nat))).setCell ⟨P, 7, none⟩ (.int .i64 (sgn : Nat))) P tag { S with t := s, col := 0, sk := 0, num := num, sgn := sgn }) := Lib.hid (H2.out.par _ (((Only.refl _ _).setP _ _).setP _ _) (fun ov h => (h.set 6 _ rfl).set 7 _ rfl) rfl rfl rfl (Nat.zero_le _) H2.out.fit HNU.out (by show sgn ≤ 4000; omega) H2.out.met)
 clear hb2 hsl hsr hm2 HLA HSG
 go_upto_region 2 with fail
 obtain ⟨W3, hW3⟩ : ∃ W3, W3 = (w2.setCell ⟨P, 6, none⟩ (.int .i64 (num : Nat))).setCell ⟨P, 7, none⟩ (.int .i64 (sgn : Nat)) := ⟨_, rfl⟩
 rw [← hW3] at H3 ⊢
 clear hW3 c6 c7 fr H1 H2
 have hO : OpenAt S.H (b0 :: fs) st.leaf S.op 0 hi := by
  have := HPT.out.op
  rw [HST.out] at this
  exact this
 have HME := Lib.hid (meet_any HLL.out.toLow H3.out (b := b0) (fs := fs) (leaf := st.leaf) hO HK1.out)
 clear hO
 unfold ptr at HME
 go_wp2_with fail
 refine HME.out.mono ?_
 rintro e w4 ⟨rfl, S4, h4, a4, m4⟩
 have hS3r : (PS.r { S with t := s, col := 0, sk := 0, num := num, sgn := sgn }) = ⟨s, 0⟩ := RS.zero s 0
 rw [hS3r] at a4
 have hPL : PL X w0 w4 P mask num sgn N (lineL num b0 fs st.leaf ⟨s, 0⟩) tag S4 hi := by
  have hx := HPT.out
  refine ⟨h4, a4, m4.mask.trans hx.emask, m4.num, m4.sgn, by rw [m4.N]; exact hx.eN, ?_, fun u hu hr => HR2.out u (hu.trans m4.suf) hr, hx.html⟩
  have hi := hx.inl
  rw [HST.out] at hi
  refine ⟨?_, by unfold lineL; simp⟩
  obtain ⟨h1, h2, h3, h4, h5, h6⟩ := hi
  have ih := in_meets (i := num) st.leaf st.leaf (r := ⟨s, 0⟩) h6
  exact ⟨h1, h2, h3, h4, h5, ih⟩
 obtain ⟨L0, hL0⟩ : ∃ L0, lineL num b0 fs st.leaf ⟨s, 0⟩ = L0 := ⟨_, rfl⟩
 have hnb : nb L0.r.s ≤ nb s := by rw [← hL0]; exact nb_meets num st.leaf fs ⟨s, 0⟩
 have hpf0 : ParaFit L0 := by rw [← hL0]; exact HSF.out
 have hre := HLI.out
 rw [hL0] at hPL hre
 have HRE := Lib.hid hre
 have HNB := Lib.hid hnb
 have HPF0 := Lib.hid hpf0
 have HLT := Lib.hid (leafTakes_any HLL.out.toLow hPL (by omega))
 clear hL0 hnb hpf0 hre hPL h4 a4 m4 hS3r HME H3 HLI HPT HSF
 unfold ptr at HLT
 go_wp2_with fail
 refine HLT.out.mono ?_
 rintro e w5 ⟨rfl, t5, S5, hi5, k5⟩
 cases htq : (takes X num L0).1 with
 | true =>
  have hr1 : rest X (foot32 mask) num L0 = (takes X num L0).2 := by rw [rest_eq, if_pos htq]
  have H5 := Lib.hid k5
  have HR1 := Lib.hid hr1
  clear k5 hr1 htq HLT
  go_wp2
  refine bodyPost_ret (results_none rfl _ _ _) rfl ?_
  refine ⟨rfl, t5, S5, hi5, ?_⟩
  rw [HRE.out, HR1.out]
  exact (H5.out.more (by omega)).done
 | false =>
  have hr1 : rest X (foot32 mask) num L0 = tail X (foot32 mask) num (nb (takes X num L0).2.r.s + 1) (takes X num L0).2 := by rw [rest_eq, if_neg (by rw [htq]; exact Bool.false_ne_true)]
  have htf := takes_false htq
  obtain ⟨L1, hL1⟩ : ∃ L1, (takes X num L0).2 = L1 := ⟨_, rfl⟩
  rw [hL1] at hr1 htf k5
  have hpf1 : ParaFit L1 := by
   rcases htf with e | e
   ·rw [e]; exact HPF0.out
   ·rw [e]; exact fun l hl => by cases hl
  have hn1 : nb L1.r.s ≤ nb s := by
   rcases htf with e | e
   ·rw [e]; exact HNB.out
   ·rw [e]; exact HNB.out
  obtain ⟨K, hK⟩ : ∃ K, nb L1.r.s + 1 = K := ⟨_, rfl⟩
  obtain ⟨RES, hRES⟩ : ∃ RES, tail X (foot32 mask) num K L1 = RES := ⟨_, rfl⟩
  have HF : Hid (PL X w0 w5 P mask num sgn (N + 2 + 20 * (K - K)) L1 t5 S5 hi5 ∧ nb L1.r.s < K ∧ K ≤ K ∧ tail X (foot32 mask) num K L1 = RES ∧ ParaFit L1) := Lib.hid ⟨by rw [Nat.sub_self]; exact k5, by omega, Nat.le_refl _, hRES, hpf1⟩
  have HRR : Hid (line X (foot32 mask) num st s = RES.st) := Lib.hid (by rw [HRE.out, hr1, hK, hRES])
  have HKK : Hid (K ≤ nb s + 1) := Lib.hid (by omega)
  clear hr1 htf hpf1 hn1 hK hRES k5 hL1 htq HLT
  go_wp2_with fail
  go_loopg [] K (fun G wr => ∃ (L' : Ln) (t' : Tag) (S' : PS) (hi' : Nat), Hid (PL X w0 wr P mask num sgn (N + 2 + 20 * (K - G)) L' t' S' hi' ∧ nb L'.r.s < G ∧ G ≤ K ∧ tail X (foot32 mask) num G L' = RES ∧ ParaFit L'))
  case atStart => exact ⟨L1, t5, S5, hi5, HF⟩
  case round =>
   obtain ⟨L', t', S', hi', HR⟩ := hrel
   clear HF HPF0 HNB
   cases gk with
   | zero => exact absurd HR.out.2.1 (Nat.not_lt_zero _)
   | succ G =>
    have HBL := Lib.hid ((blank_any HR.out.1.pm).below)
    have hrl : L'.r = S'.r := HR.out.1.abs.r
    rw [← hrl] at HBL
    obtain ⟨bq, hbq⟩ : ∃ bq, blank L'.r.s = bq := ⟨_, rfl⟩
    have HBQ := Lib.hid hbq
    rw [hbq] at HBL
    clear hrl hbq
    unfold ptr at HBL
    cases bq with
    | true =>
     go_wp2_with fail
     refine HBL.out.mono ?_
     rintro e x1 ⟨rfl, hb1⟩
     have HBB := Lib.hid (blankLine_any HLL.out.toLow (HR.out.1.below hb1) HBQ.out (by have := HKK.out; have := HR.out.2.2.1; omega))
     clear hb1
     unfold ptr at HBB
     go_wp2_with fail
     refine HBB.out.mono ?_
     rintro e x2 ⟨rfl, t2, s2, hi2, g2⟩
     have HG := Lib.hid g2
     clear g2
     go_wp2
     go_end0
     refine ⟨rfl, t2, s2, hi2, ?_⟩
     have e1 : text num L' = RES := by
      rw [← HR.out.2.2.2.1]
      unfold tail
      have e2 : begins X (foot32 mask) num (G + 1) L' = (false, L') := if_pos HBQ.out
      rw [e2]
      rfl
     rw [HRR.out, ← e1]
     exact (HG.out.more (by have := HKK.out; have := HR.out.2.2.1; omega)).done
    | false =>
     go_wp2_with fail
     refine HBL.out.mono ?_
     rintro e x1 ⟨rfl, hb1⟩
     have HBB := Lib.hid (begins_any HLL.out (HR.out.1.below hb1) HBQ.out HR.out.2.2.2.2 (by have := HKK.out; have := HR.out.2.2.1; omega))
     clear hb1
     obtain ⟨⟨c, L1'⟩, hc⟩ : ∃ c, stepB X (foot32 mask) num L' = c := ⟨_, rfl⟩
     have HC := Lib.hid hc
     rw [hc] at HBB
     have hc2 : c ≤ 2 := by have := step_le (X := X) (foot := foot32 mask) (i := num) (L := L'); rw [hc] at this; exact this
     have hbs := begins_step (X := X) (foot := foot32 mask) (i := num) (n := G) HBQ.out
     rw [hc] at hbs
     have HBS := Lib.hid hbs
     clear hc hbs
     unfold ptr at HBB
     dsimp only at HBB
     go_wp2_with fail
     refine HBB.out.mono ?_
     rintro e x2 ⟨rfl, t2, s2, hi2, g2⟩
     have HG := Lib.hid g2
     clear g2 HBB
     rcases (by omega : c = 0 ∨ c = 1 ∨ c = 2) with rfl | rfl | rfl
     ·have hl1 := step_none HC.out
      subst hl1
      have HTL := Lib.hid (textLine_any HLL.out.toLow HG.out HBQ.out (by have := HKK.out; have := HR.out.2.2.1; omega))
      unfold ptr at HTL
      clear hc2
      go_wp2_with fail
      refine HTL.out.mono ?_
      rintro e x3 ⟨rfl, t3, s3, hi3, g3⟩
      have HG3 := Lib.hid g3
      clear g3
      go_wp2
      refine bodyPost_ret (results_none rfl _ _ _) rfl ?_
      refine ⟨rfl, t3, s3, hi3, ?_⟩
      have e1 : text num L1' = RES := by
       rw [← HR.out.2.2.2.1]
       unfold tail
       rw [HBS.out]
       rfl
      rw [HRR.out, ← e1]
      exact (HG3.out.more (by have := HKK.out; have := HR.out.2.2.1; omega)).done
     ·have hm := step_mark HBQ.out HC.out
      have HREL : Hid (PL X w0 x2 P mask num sgn (N + 2 + 20 * (K - G)) L1' t2 s2 hi2 ∧ nb L1'.r.s < G ∧ G ≤ K ∧ tail X (foot32 mask) num G L1' = RES ∧ ParaFit L1') := Lib.hid ⟨HG.out.more (by have := HR.out.2.2.1; omega), by have := HR.out.2.1; omega, by have := HR.out.2.2.1; omega, by
       rw [← HR.out.2.2.2.1]
       unfold tail
       rw [HBS.out]
       rfl, fun l hl => by rw [hm.2] at hl; cases hl⟩
      clear hm hc2
      go_wp2
      go_roundg G
      case rel => exact ⟨L1', t2, s2, hi2, HREL⟩
      case measure => omega
     ·clear hc2
      go_wp2
      refine bodyPost_ret (results_none rfl _ _ _) rfl ?_
      refine ⟨rfl, t2, s2, hi2, ?_⟩
      have e1 : L1' = RES := by
       rw [← HR.out.2.2.2.1]
       unfold tail
       rw [HBS.out]
       rfl
      rw [HRR.out, ← e1]
      exact (HG.out.more (by have := HKK.out; have := HR.out.2.2.1; omega)).done
end
end Bk
end Go.Proofs.YtkiipaaaakhhfaaGreatDoor
end
section
namespace Go.Proofs.YtkiipaaaakhhfaaGreatDoor
namespace Bk
set_option maxRecDepth 100000
set_option linter.unusedVariables false
set_option linter.unusedSimpArgs false
def muS (ls : List Str) : Nat := (ls.map fun x => x.length + 1).sum
theorem muS_snoc (ls : List Str) (s : Str) : muS (ls ++ [s]) = muS ls + s.length + 1 := by
 unfold muS
 rw [List.map_append, List.sum_append]
 simp
 omega
mutual
def muB (w : Nat) : B → Nat
 | .mk k s t n m fen stx ls a z kids => w + muS ls + muL w kids
def muL (w : Nat) : List B → Nat
 | [] => 0
 | b :: l => muB w b + muL w l
end
theorem muB_mk (w k : Nat) (s t : Str) (n m : Nat) (fen stx : Bool) (ls : List Str) (a z : Nat) (kids : List B) : muB w (.mk k s t n m fen stx ls a z kids) = w + muS ls + muL w kids := by rw [muB]
theorem muL_nil (w : Nat) : muL w [] = 0 := by rw [muL]
theorem muL_cons (w : Nat) (b : B) (l : List B) : muL w (b :: l) = muB w b + muL w l := by rw [muL]
theorem muL_app (w : Nat) (l m : List B) : muL w (l ++ m) = muL w l + muL w m := by
 induction l with
 | nil => rw [muL_nil]; simp
 | cons b l ih => rw [List.cons_append, muL_cons, muL_cons, ih]; omega
theorem lines_mu : ∀ ls : List Str, (lines ls).length ≤ muS ls
 | [] => Nat.le_refl _
 | [s] => by simp [lines, muS]
 | s :: t :: l => by
  have := lines_mu (t :: l)
  show (s ++ 10 :: lines (t :: l)).length ≤ _
  have e : muS (s :: t :: l) = s.length + 1 + muS (t :: l) := by simp [muS]
  rw [e, List.length_append, List.length_cons]
  omega
end Bk
end Go.Proofs.YtkiipaaaakhhfaaGreatDoor
end
section
namespace Go.Proofs.YtkiipaaaakhhfaaGreatDoor
namespace Bk
set_option maxRecDepth 100000
set_option linter.unusedVariables false
set_option linter.unusedSimpArgs false
def W4 : Str → Nat
 | [] => 0
 | c :: t => (if c = 9 then 4 else 1) + W4 t
theorem W4_len : ∀ s : Str, s.length ≤ W4 s
 | [] => Nat.le_refl _
 | c :: t => by
  have := W4_len t
  rw [List.length_cons, W4]
  split <;> omega
theorem W4_le : ∀ s : Str, W4 s ≤ 4 * s.length
 | [] => Nat.le_refl _
 | c :: t => by
  have := W4_le t
  rw [List.length_cons, W4]
  split <;> omega
theorem W4_app (s t : Str) : W4 (s ++ t) = W4 s + W4 t := by
 induction s with
 | nil => simp [W4]
 | cons c s ih => rw [List.cons_append, W4, W4, ih]; omega
theorem W4_rep (k : Nat) : W4 (List.replicate k 32) = k := by
 induction k with
 | zero => rfl
 | succ k ih => rw [List.replicate_succ, W4, ih, if_neg (by decide)]; omega
theorem W4_drop (k : Nat) (s : Str) : W4 (s.drop k) ≤ W4 s := by
 have h := W4_app (s.take k) (s.drop k)
 rw [List.take_append_drop] at h
 omega
theorem W4_skp : ∀ (s : Str) (col n : Nat), W4 (Cl.skp s col n).1 ≤ W4 s
 | [], col, 0 => Nat.le_refl _
 | [], col, n + 1 => Nat.le_refl _
 | c :: t, col, 0 => Nat.le_refl _
 | c :: t, col, n + 1 => by
  rw [Cl.skp]
  by_cases h0 : Cl.wd c col = 0
  ·rw [if_pos h0]; exact Nat.le_refl _
  ·rw [if_neg h0]
   have hw : Cl.wd c col ≤ (if c = 9 then 4 else 1) := by
    unfold Cl.wd
    by_cases h1 : c = 32
    ·rw [if_pos h1]; split <;> omega
    ·rw [if_neg h1]
     by_cases h2 : c = 9
     ·rw [if_pos h2, if_pos h2]; omega
     ·rw [if_neg h2]; omega
   have e : W4 (c :: t) = (if c = 9 then 4 else 1) + W4 t := rfl
   rw [e]
   by_cases h1 : n + 1 ≤ Cl.wd c col
   ·rw [if_pos h1]
    show W4 (List.replicate _ 32 ++ t) ≤ _
    rw [W4_app, W4_rep]
    omega
   ·rw [if_neg h1]
    have := W4_skp t (col + Cl.wd c col) (n + 1 - Cl.wd c col)
    omega
theorem W4_past (r : Rest) (k : Nat) : W4 (r.past k).s ≤ W4 r.s := W4_drop _ _
theorem W4_skip (r : Rest) (k : Nat) : W4 (r.skip k).s ≤ W4 r.s := W4_skp _ _ _
theorem W4_lft (s : Str) : (Cl.lft s).length ≤ W4 s := Nat.le_trans (Cl.lft_len s) (W4_len s)
def muF (w : Nat) (f : Fr) : Nat := w + muL w f.kids
def muFs (w : Nat) : List Fr → Nat
 | [] => 0
 | f :: fs => muF w f + muFs w fs
def muO (w : Nat) : Option Lf → Nat
 | none => 0
 | some l => w + muS l.ls
def muLn (w : Nat) (L : Ln) : Nat := muFs w L.ms + muFs w L.us + muO w L.leaf
theorem muFs_app (w : Nat) (l m : List Fr) : muFs w (l ++ m) = muFs w l + muFs w m := by
 induction l with
 | nil => simp [muFs]
 | cons f l ih => rw [List.cons_append, muFs, muFs, ih]; omega
theorem mu_shut (w : Nat) : ∀ (fs : List Fr) (leaf : Option Lf), muL w (shut fs leaf) = muFs w fs + muO w leaf
 | [], none => by rw [shut, muL_nil]; rfl
 | [], some l => by
  rw [shut, muL_cons, muL_nil]
  unfold Lf.b
  rw [muB_mk, muL_nil]
  show _ = 0 + (w + muS l.ls)
  omega
 | f :: fs, leaf => by
  rw [shut, muL_cons, muL_nil]
  unfold Fr.b
  rw [muB_mk, muL_app, mu_shut w fs leaf]
  show _ = w + muL w f.kids + muFs w fs + _
  have : muS [] = 0 := rfl
  omega
theorem mu_last (w : Nat) (bs : List B) : ∀ {ms : List Fr}, ms ≠ [] → muFs w (onLast (grow bs) ms) = muFs w ms + muL w bs
 | [], h => absurd rfl h
 | f :: fs, _ => by
  rw [onLast_cons]
  by_cases h : fs = []
  ·subst h
   rw [if_pos rfl]
   show w + muL w (f.kids ++ bs) + 0 = w + muL w f.kids + 0 + _
   rw [muL_app]; omega
  ·rw [if_neg h]
   show muF w f + muFs w (onLast (grow bs) fs) = muF w f + muFs w fs + _
   rw [mu_last w bs h]; omega
theorem mu_pop (w : Nat) : ∀ l : List Fr, muFs w (popList l) = muFs w l
 | [] => rfl
 | [f] => by rw [popList_one]
 | f :: g :: fs => by
  rw [popList_two]
  by_cases h : fs = [] ∧ g.k = 3
  ·rw [if_pos h]
   obtain ⟨rfl, _⟩ := h
   show w + muL w (f.kids ++ [g.b []]) + 0 = w + muL w f.kids + (w + muL w g.kids + 0)
   rw [muL_app, muL_cons, muL_nil]
   unfold Fr.b
   rw [muB_mk, List.append_nil]
   have : muS [] = 0 := rfl
   omega
  ·rw [if_neg h]
   show muF w f + muFs w (popList (g :: fs)) = muF w f + muFs w (g :: fs)
   rw [mu_pop w (g :: fs)]
section
variable {w i : Nat} {L : Ln}
theorem mu_close (h : L.ms ≠ []) : muLn w L.shut = muLn w L := by
 show muFs w (onLast (grow (Bk.shut L.us L.leaf)) L.ms) + 0 + 0 = _
 rw [mu_last w _ h, mu_shut]
 unfold muLn
 omega
theorem mu_place (h : L.ms ≠ []) (item : Bool) : muFs w (L.place item) = muLn w L := by
 have h1 : muFs w (onLast (grow (Bk.shut L.us L.leaf)) L.ms) = muLn w L := by
  rw [mu_last w _ h, mu_shut]
  unfold muLn
  omega
 unfold Ln.place
 split
 ·exact h1
 ·rw [mu_pop, h1]
theorem mu_contain (h : L.ms ≠ []) (f : Fr) (item : Bool) : muLn w (L.contain i f item) = muLn w L + w := by
 show muFs w (L.place item ++ [{ f with a := i, z := i, kids := [] }]) + 0 + 0 = _
 rw [muFs_app, mu_place h]
 show muLn w L + (w + muL w [] + 0) + 0 + 0 = _
 rw [muL_nil]; omega
theorem mu_open (h : L.ms ≠ []) (l : Lf) : muLn w (L.open i l) = muLn w L + w + muS l.ls := by
 show muFs w (L.place false) + 0 + (w + muS l.ls) = _
 rw [mu_place h]; omega
theorem mu_lay (h : L.ms ≠ []) (b : Nat → B) : muLn w (L.lay i b) = muLn w L + muB w (b i) := by
 have hp : L.place false ≠ [] := by obtain ⟨p, ps, e⟩ := place_ne h false; rw [e]; simp
 show muFs w (onLast (grow [b i]) (L.place false)) + 0 + 0 = _
 rw [mu_last w _ hp, mu_place h, muL_cons, muL_nil]; omega
theorem mu_add (s : Str) : muLn w (L.add i s) ≤ muLn w L + s.length + 1 := by
 unfold Ln.add muLn
 cases hl : L.leaf with
 | none => simp [muO]; omega
 | some l =>
  show muFs w L.ms + muFs w L.us + (w + muS (l.take i s).ls) ≤ muFs w L.ms + muFs w L.us + (w + muS l.ls) + _ + _
  have : (l.take i s).ls = l.ls ++ [s] := by unfold Lf.take; split <;> rfl
  rw [this, muS_snoc]
  omega
theorem place_nn (h : L.ms ≠ []) (item : Bool) : L.place item ≠ [] := by obtain ⟨p, ps, e⟩ := place_ne h item; rw [e]; simp
theorem shut_nn (h : L.ms ≠ []) : L.shut.ms ≠ [] := fun e => h ((onLast_ne _ _).1 e)
theorem contain_nn (f : Fr) (item : Bool) : (L.contain i f item).ms ≠ [] := by
 show _ ++ [_] ≠ []
 simp
theorem open_nn (h : L.ms ≠ []) (l : Lf) : (L.open i l).ms ≠ [] := place_nn h false
theorem lay_nn (h : L.ms ≠ []) (b : Nat → B) : (L.lay i b).ms ≠ [] := fun e => place_nn h false ((onLast_ne _ _).1 e)
section
variable {X : Scan Rf.Rb}
theorem mu_takes (h : L.ms ≠ []) : muLn w (takes X i L).2 ≤ muLn w L + W4 L.r.s + 1 ∧ (takes X i L).2.ms ≠ [] ∧ ((takes X i L).1 = false → muLn w (takes X i L).2 = muLn w L ∧ (takes X i L).2.r = L.r) := by
 have hz : ∀ (l : Lf), L.leaf = some l → muLn w { L with leaf := some { l with z := i } } = muLn w L := fun l hl => by
  unfold muLn
  rw [hl]
  rfl
 unfold takes
 cases hu : L.us with
 | cons f fs => exact ⟨by show muLn w L ≤ _; omega, h, fun _ => ⟨rfl, rfl⟩⟩
 | nil =>
  cases hl : L.leaf with
  | none => exact ⟨by show muLn w L ≤ _; omega, h, fun _ => ⟨rfl, rfl⟩⟩
  | some l =>
   dsimp only
   have hs := W4_len (L.r.skip l.need).s
   have hs2 := W4_skip L.r l.need
   have h0 := W4_len L.r.s
   split
   ·split
    ·refine ⟨?_, fun e => h ((onLast_ne _ _).1 e), fun e => by cases e⟩
     have := mu_close (w := w) (L := ⟨L.ms, [], some { l with z := i }, L.r⟩) h
     have h3 : muLn w ⟨L.ms, [], some { l with z := i }, L.r⟩ = muLn w L := by
      unfold muLn
      rw [hl, hu]
      rfl
     rw [h3] at this
     show muLn w (Ln.shut ⟨L.ms, [], some { l with z := i }, L.r⟩) ≤ _
     omega
    ·have := mu_add (w := w) (i := i) (L := L) (L.r.skip l.need).s
     exact ⟨by show muLn w (L.add i (L.r.skip l.need).s) ≤ _; omega, h, fun e => by cases e⟩
   ·split
    ·split
     ·split
      ·exact ⟨by show muLn w L.shut ≤ _; rw [mu_close h]; omega, shut_nn h, fun _ => ⟨mu_close h, rfl⟩⟩
      ·have := mu_add (w := w) (i := i) (L := L) L.r.s
       have h2 := mu_close (w := w) (L := L.add i L.r.s) h
       exact ⟨by show muLn w (L.add i L.r.s).shut ≤ _; omega, fun e => h ((onLast_ne _ _).1 e), fun e => by cases e⟩
     ·have := mu_add (w := w) (i := i) (L := L) L.r.s
      exact ⟨by show muLn w (L.add i L.r.s) ≤ _; omega, h, fun e => by cases e⟩
    ·exact ⟨by show muLn w L ≤ _; omega, h, fun _ => ⟨rfl, rfl⟩⟩
theorem mu_text (h : L.ms ≠ []) : muLn w (text i L) ≤ muLn w L + w + W4 L.r.s + 1 ∧ (text i L).ms ≠ [] := by
 have h1 := W4_len (L.r.skip 4).s
 have h2 := W4_skip L.r 4
 have h3 := W4_lft L.r.s
 unfold text
 split
 ·split
  ·have := mu_add (w := w) (i := i) (L := L) (L.r.skip 4).s
   exact ⟨by omega, h⟩
  ·exact ⟨by rw [mu_close h]; omega, shut_nn h⟩
 ·split
  ·have := mu_add (w := w) (i := i) (L := L) (Cl.lft L.r.s)
   exact ⟨by omega, h⟩
  ·have h4 := mu_add (w := w) (i := i) (L := L.open i { nilL with k := 7 }) (Cl.lft L.r.s)
   have h5 := mu_open (w := w) (i := i) h { nilL with k := 7 }
   have h6 : muS ({ nilL with k := 7 } : Lf).ls = 0 := rfl
   exact ⟨by omega, open_nn (i := i) h { nilL with k := 7 }⟩
theorem mu_indented (h : L.ms ≠ []) : muLn w (indented i L) ≤ muLn w L + w + W4 L.r.s + 1 ∧ (indented i L).ms ≠ [] := by
 have h1 := W4_len (L.r.skip 4).s
 have h2 := W4_skip L.r 4
 unfold indented
 split
 ·have := mu_add (w := w) (i := i) (L := L) (L.r.skip 4).s
  exact ⟨by omega, h⟩
 ·have h4 := mu_add (w := w) (i := i) (L := L.open i { nilL with k := 5 }) (L.r.skip 4).s
  have h5 := mu_open (w := w) (i := i) h { nilL with k := 5 }
  have h6 : muS ({ nilL with k := 5 } : Lf).ls = 0 := rfl
  exact ⟨by omega, open_nn (i := i) h { nilL with k := 5 }⟩
theorem mu_headed (h : L.ms ≠ []) (hg : heads X L = true) : muLn w (headed X i L) = muLn w L ∧ (headed X i L).ms ≠ [] := by
 obtain ⟨-, hu, hg, -⟩ := heads_iff.1 hg
 obtain ⟨l, hl, -⟩ := goes_leaf hg
 unfold headed
 rw [hl]
 refine ⟨?_, fun e => h ((onLast_ne _ _).1 e)⟩
 show muFs w (onLast (grow [.mk 8 [] [] (X.setx L.r.aft) 0 false true l.ls l.a i []]) L.ms) + muFs w L.us + 0 = _
 rw [mu_last w _ h, muL_cons, muL_nil, muB_mk, muL_nil]
 unfold muLn
 rw [hl]
 show _ = muFs w L.ms + muFs w L.us + (w + muS l.ls)
 omega
theorem mu_step (foot : Bool) (h : L.ms ≠ []) {c : Nat} {L1 : Ln} (e : stepB X foot i L = (c, L1)) : L1.ms ≠ [] ∧ (c = 1 → muLn w L1 ≤ muLn w L + 2 * w ∧ W4 L1.r.s ≤ W4 L.r.s) ∧ (c ≠ 1 → muLn w L1 ≤ muLn w L + w + W4 L.r.s + 1 ∧ L1.r = L.r) := by
 have hl0 := W4_len L.r.s
 have n0 : muS [] = 0 := rfl
 unfold stepB at e
 split at e
 ·split at e
  ·injection e with e1 e2; subst e1 e2
   exact ⟨h, fun e => (by cases e), fun _ => ⟨by omega, rfl⟩⟩
  ·injection e with e1 e2; subst e1 e2
   obtain ⟨a, b⟩ := mu_indented (w := w) (i := i) h
   refine ⟨b, fun e => (by cases e), fun _ => ⟨a, ?_⟩⟩
   unfold indented
   split <;> rfl
 ·split at e
  ·injection e with e1 e2; subst e1 e2
   refine ⟨contain_nn _ _, fun _ => ⟨?_, ?_⟩, fun e => absurd rfl e⟩
   ·have := mu_contain (w := w) (i := i) (L := { L with r := (L.r.past 1).skip 1 }) h { nilF with k := 2 } false
    have e2 : muLn w { L with r := (L.r.past 1).skip 1 } = muLn w L := rfl
    omega
   ·exact Nat.le_trans (W4_skip _ _) (W4_past _ _)
  ·split at e
   ·injection e with e1 e2; subst e1 e2
    refine ⟨lay_nn h _, fun e => (by cases e), fun _ => ⟨?_, rfl⟩⟩
    rw [mu_lay h, muB_mk, muL_nil]; omega
   ·split at e
    ·injection e with e1 e2; subst e1 e2
     refine ⟨open_nn h _, fun e => (by cases e), fun _ => ⟨?_, rfl⟩⟩
     rw [mu_open h]
     show _ + w + muS [] ≤ _
     omega
    ·split at e
     ·injection e with e1 e2; subst e1 e2
      have e3 : muS [L.r.s] = L.r.s.length + 1 := by simp [muS]
      split
      ·refine ⟨lay_nn h _, fun e => (by cases e), fun _ => ⟨?_, rfl⟩⟩
       rw [mu_lay h, muB_mk, muL_nil, e3]; omega
      ·refine ⟨open_nn h _, fun e => (by cases e), fun _ => ⟨?_, rfl⟩⟩
       rw [mu_open h]
       show _ + w + muS [L.r.s] ≤ _
       rw [e3]; omega
     ·split at e
      ·rename_i hh
       injection e with e1 e2; subst e1 e2
       obtain ⟨a, b⟩ := mu_headed (w := w) (i := i) h hh
       refine ⟨b, fun e => (by cases e), fun _ => ⟨by omega, ?_⟩⟩
       unfold headed
       split <;> rfl
      ·split at e
       ·injection e with e1 e2; subst e1 e2
        refine ⟨lay_nn h _, fun e => (by cases e), fun _ => ⟨?_, rfl⟩⟩
        rw [mu_lay h, muB_mk, muL_nil]; omega
       ·split at e
        ·rename_i L2 hn
         injection e with e1 e2; subst e1 e2
         unfold note at hn
         split at hn
         ·cases hn
         ·injection hn with hn
          subst hn
          refine ⟨contain_nn _ _, fun _ => ⟨?_, Nat.le_trans (W4_skip _ _) (W4_past _ _)⟩, fun e => absurd rfl e⟩
          rw [mu_contain (L := { L with r := (L.r.past (labelP L.r.aft).2).skip (L.r.past (labelP L.r.aft).2).ind }) h]
          show muLn w L + w ≤ _
          omega
        ·split at e
         ·rename_i L2 hn
          injection e with e1 e2; subst e1 e2
          by_cases h0 : (sign X L.r.aft).2.2 = 0
          ·rw [item_no (.inl h0)] at hn; cases hn
          ·cases hs : staysB L (sign X L.r.aft).1 (sign X L.r.aft).2.1.toNat (L.r.aft.drop (sign X L.r.aft).2.2) with
           | true => rw [item_no (.inr hs)] at hn; cases hn
           | false =>
            rw [item_yes h0 hs] at hn
            injection hn with hn
            subst hn
            have er : (itemOf X i L).r = (L.r.past (sign X L.r.aft).2.2).skip (width L (sign X L.r.aft).2.2) := by
             unfold itemOf itemQ itemL
             split <;> rfl
            refine ⟨contain_nn _ _, fun _ => ⟨?_, by rw [er]; exact Nat.le_trans (W4_skip _ _) (W4_past _ _)⟩, fun e => absurd rfl e⟩
            have hm : (itemL i L (sign X L.r.aft).1 (sign X L.r.aft).2.1 (sign X L.r.aft).2.2).ms ≠ [] ∧ muLn w (itemL i L (sign X L.r.aft).1 (sign X L.r.aft).2.1 (sign X L.r.aft).2.2) ≤ muLn w L + w := by
             unfold itemL
             split
             ·exact ⟨h, by show muLn w L ≤ _; omega⟩
             ·refine ⟨contain_nn _ _, ?_⟩
              rw [mu_contain (L := itemR L _) h]
              exact Nat.le_refl _
            show muLn w (Ln.contain i _ true (itemL i L _ _ _)) ≤ _
            rw [mu_contain hm.1]
            have := hm.2
            omega
         ·injection e with e1 e2; subst e1 e2
          exact ⟨h, fun e => (by cases e), fun _ => ⟨by omega, rfl⟩⟩
end
end
end Bk
end Go.Proofs.YtkiipaaaakhhfaaGreatDoor
end
section
namespace Go.Proofs.YtkiipaaaakhhfaaGreatDoor
namespace Bk
set_option maxRecDepth 100000
set_option linter.unusedVariables false
set_option linter.unusedSimpArgs false
def TN (o : Option Lf) : Prop := ∀ l, o = some l → l.k = 7 → l.t = []
theorem TN.none : TN none := fun l e => by cases e
theorem TN.kind {l : Lf} (h : l.k ≠ 7) : TN (some l) := fun l' e hk => by injection e with e; subst e; exact absurd hk h
def muSt (w : Nat) (st : St) : Nat := muFs w st.fs + muO w st.leaf
section
variable {w i : Nat} {L : Ln} {X : Scan Rf.Rb}
theorem tn_add (h : TN L.leaf) (s : Str) : TN (L.add i s).leaf := by
 unfold Ln.add
 intro l e hk
 cases hl : L.leaf with
 | none => rw [hl] at e; cases e
 | some l0 =>
  rw [hl] at e
  injection e with e
  subst e
  unfold Lf.take at hk ⊢
  split at hk <;> rename_i hb
  ·rw [if_pos hb]; exact h l0 hl hk
  ·rw [if_neg hb]; exact h l0 hl hk
theorem tn_takes (h : TN L.leaf) : TN (takes X i L).2.leaf := by
 unfold takes
 cases hu : L.us with
 | cons f fs => exact h
 | nil =>
  cases hl : L.leaf with
  | none =>
   show TN L.leaf
   rw [hl]; exact TN.none
  | some l =>
   dsimp only
   split
   ·split
    ·exact TN.none
    ·exact tn_add h _
   ·split
    ·split
     ·split
      ·exact TN.none
      ·exact TN.none
     ·exact tn_add h _
    ·exact h
theorem tn_text (h : TN L.leaf) : TN (text i L).leaf := by
 unfold text
 split
 ·split
  ·exact tn_add h _
  ·exact TN.none
 ·split
  ·exact tn_add h _
  ·exact tn_add (L := L.open i { nilL with k := 7 }) (fun l e _ => by injection e with e; subst e; rfl) _
theorem tn_step (foot : Bool) (h : TN L.leaf) : TN (stepB X foot i L).2.leaf := by
 unfold stepB
 split
 ·split
  ·exact h
  ·show TN (indented i L).leaf
   unfold indented
   split
   ·exact tn_add h _
   ·exact tn_add (L := L.open i { nilL with k := 5 }) (TN.kind (by show (5 : Nat) ≠ 7; decide)) _
 ·split
  ·exact TN.none
  ·split
   ·exact TN.none
   ·split
    ·exact TN.kind (by show (5 : Nat) ≠ 7; decide)
    ·split
     ·show TN (if _ then _ else _ : Ln).leaf
      split
      ·exact TN.none
      ·exact TN.kind (by show (6 : Nat) ≠ 7; decide)
     ·split
      ·show TN (headed X i L).leaf
       unfold headed
       split
       ·exact h
       ·exact TN.none
      ·split
       ·exact TN.none
       ·split
        ·rename_i L2 hn
         unfold note at hn
         split at hn
         ·cases hn
         ·injection hn with hn
          subst hn
          exact TN.none
        ·split
         ·rename_i L2 hn
          show TN L2.leaf
          by_cases h0 : (sign X L.r.aft).2.2 = 0
          ·rw [item_no (.inl h0)] at hn; cases hn
          ·cases hs : staysB L (sign X L.r.aft).1 (sign X L.r.aft).2.1.toNat (L.r.aft.drop (sign X L.r.aft).2.2) with
           | true => rw [item_no (.inr hs)] at hn; cases hn
           | false =>
            rw [item_yes h0 hs] at hn
            injection hn with hn
            subst hn
            exact TN.none
         ·exact h
theorem mu_tail (foot : Bool) : ∀ (n : Nat) (L : Ln), L.ms ≠ [] → TN L.leaf → muLn w (tail X foot i n L) ≤ muLn w L + 2 * w * n + w + W4 L.r.s + 1 ∧ (tail X foot i n L).ms ≠ [] ∧ TN (tail X foot i n L).leaf
 | 0, L, h, ht => by
  have h1 : tail X foot i 0 L = text i L := rfl
  obtain ⟨a, b⟩ := mu_text (w := w) (i := i) h
  rw [h1]
  exact ⟨by omega, b, tn_text ht⟩
 | n + 1, L, h, ht => by
  have e0 : 2 * w * (n + 1) = 2 * w * n + 2 * w := by rw [Nat.mul_add, Nat.mul_one]
  cases hb : blank L.r.s with
  | true =>
   have h1 : tail X foot i (n + 1) L = text i L := by
    unfold tail
    have e2 : begins X foot i (n + 1) L = (false, L) := if_pos hb
    rw [e2]
    rfl
   obtain ⟨a, b⟩ := mu_text (w := w) (i := i) h
   rw [h1]
   exact ⟨by omega, b, tn_text ht⟩
  | false =>
   have hs := begins_step (X := X) (foot := foot) (i := i) (n := n) hb
   obtain ⟨⟨c, L1⟩, hc⟩ : ∃ c, stepB X foot i L = c := ⟨_, rfl⟩
   have hle := step_le (X := X) (foot := foot) (i := i) (L := L)
   have htn := tn_step (X := X) (i := i) foot ht
   obtain ⟨m1, m2, m3⟩ := mu_step (w := w) foot h hc
   rw [hc] at hs hle htn
   have hle : c ≤ 2 := hle
   rcases (by omega : c = 0 ∨ c = 1 ∨ c = 2) with rfl | rfl | rfl
   ·have h1 : tail X foot i (n + 1) L = text i L1 := by
     unfold tail
     rw [hs]
     rfl
    have e := step_none hc
    subst e
    obtain ⟨a, b⟩ := mu_text (w := w) (i := i) h
    rw [h1]
    exact ⟨by omega, b, tn_text ht⟩
   ·have h1 : tail X foot i (n + 1) L = tail X foot i n L1 := by
     unfold tail
     rw [hs]
     rfl
    obtain ⟨a, b⟩ := m2 rfl
    obtain ⟨x, y, z⟩ := mu_tail foot n L1 m1 htn
    rw [h1]
    exact ⟨by omega, y, z⟩
   ·have h1 : tail X foot i (n + 1) L = L1 := by
     unfold tail
     rw [hs]
     rfl
    obtain ⟨a, b⟩ := m3 (by decide)
    rw [h1]
    exact ⟨by omega, m1, htn⟩
theorem mu_meets (leaf : Option Lf) : ∀ (fs : List Fr) (r : Rest), muFs w (meets i leaf fs r).1 + muFs w (meets i leaf fs r).2.1 = muFs w fs ∧ W4 (meets i leaf fs r).2.2.s ≤ W4 r.s
 | [], r => ⟨rfl, Nat.le_refl _⟩
 | f :: fs, r => by
  rw [meets]
  cases hm : meet1 f (hasKid f fs leaf) r with
  | none => exact ⟨by show 0 + muFs w (f :: fs) = muFs w (f :: fs); omega, Nat.le_refl _⟩
  | some r1 =>
   obtain ⟨a, b⟩ := mu_meets leaf fs r1
   have hw : W4 r1.s ≤ W4 r.s := by
    unfold meet1 at hm
    by_cases h3 : f.k = 3
    ·rw [if_pos h3] at hm
     injection hm with hm
     rw [hm]
     exact Nat.le_refl _
    ·rw [if_neg h3] at hm
     by_cases h2 : f.k = 2
     ·rw [if_pos h2] at hm
      by_cases h4 : 4 ≤ r.ind
      ·rw [if_pos h4] at hm; cases hm
      ·rw [if_neg h4] at hm
       by_cases hq : r.aft.head? = some 62
       ·rw [if_pos hq] at hm
        injection hm with hm
        subst hm
        exact Nat.le_trans (W4_skip _ _) (W4_past _ _)
       ·rw [if_neg hq] at hm; cases hm
     ·rw [if_neg h2] at hm
      by_cases h5 : f.k = 4 ∧ Bk.blank r.s = true ∧ hasKid f fs leaf = false
      ·rw [if_pos h5] at hm; cases hm
      ·rw [if_neg h5] at hm
       by_cases h6 : r.ind < (if f.k = 4 then f.need else 4) ∧ Bk.blank r.s = false
       ·rw [if_pos h6] at hm; cases hm
       ·rw [if_neg h6] at hm
        injection hm with hm
        subst hm
        exact W4_skip _ _
   have hf : muF w (met i f) = muF w f := by
    unfold muF
    rw [met_kids]
   refine ⟨?_, Nat.le_trans b hw⟩
   show muF w (met i f) + muFs w (meets i leaf fs r1).1 + muFs w (meets i leaf fs r1).2.1 = muF w f + muFs w fs
   omega
theorem nb_len (s : Str) : nb s ≤ s.length := List.countP_le_length
theorem mu_line (foot : Bool) {st : St} (h : st.fs ≠ []) (ht : TN st.leaf) (s : Str) : muSt w (line X foot i st s) ≤ muSt w st + 2 * w * (s.length + 1) + w + W4 s + 1 ∧ (line X foot i st s).fs ≠ [] ∧ TN (line X foot i st s).leaf := by
 obtain ⟨f0, leaf⟩ := st
 cases f0 with
 | nil => exact absurd rfl h
 | cons b fs =>
  rw [line_cons]
  obtain ⟨m1, m2⟩ := mu_meets (w := w) (i := i) leaf fs ⟨s, 0⟩
  have hn := nb_meets i leaf fs ⟨s, 0⟩
  have hl := nb_len s
  obtain ⟨L0, hL0⟩ : ∃ L0, lineL i b fs leaf ⟨s, 0⟩ = L0 := ⟨_, rfl⟩
  have k1 : muLn w L0 = muSt w ⟨b :: fs, leaf⟩ := by
   rw [← hL0]
   show muF w b + muFs w (meets i leaf fs ⟨s, 0⟩).1 + muFs w (meets i leaf fs ⟨s, 0⟩).2.1 + muO w leaf = muF w b + muFs w fs + muO w leaf
   omega
  have k2 : W4 L0.r.s ≤ W4 s := by rw [← hL0]; exact m2
  have k3 : nb L0.r.s ≤ nb s := by rw [← hL0]; exact hn
  have k4 : L0.ms ≠ [] := by rw [← hL0]; unfold lineL; simp
  have k5 : TN L0.leaf := by rw [← hL0]; exact ht
  rw [hL0]
  have hst : ∀ L : Ln, muSt w L.st = muLn w L := fun L => by
   show muFs w (L.ms ++ L.us) + muO w L.leaf = _
   rw [muFs_app]
   rfl
  have hne : ∀ L : Ln, L.ms ≠ [] → L.st.fs ≠ [] := fun L hL e => hL (List.append_eq_nil_iff.1 e).1
  obtain ⟨t1, t2, t3⟩ := mu_takes (w := w) (i := i) (X := X) k4
  have t4 := tn_takes (X := X) (i := i) k5
  rw [rest_eq, hst]
  cases hq : (takes X i L0).1 with
  | true =>
   rw [if_pos rfl]
   refine ⟨?_, hne _ t2, t4⟩
   omega
  | false =>
   obtain ⟨t5, t6⟩ := t3 hq
   rw [if_neg Bool.false_ne_true]
   obtain ⟨x, y, z⟩ := mu_tail (X := X) (w := w) (i := i) foot (nb (takes X i L0).2.r.s + 1) _ t2 t4
   refine ⟨?_, hne _ y, z⟩
   rw [t5, t6] at x
   have hmul : 2 * w * (nb L0.r.s + 1) ≤ 2 * w * (s.length + 1) := Nat.mul_le_mul_left _ (by omega)
   rw [t6]
   omega
theorem mu_go (foot : Bool) (M : Nat) : ∀ (l : List Str) (i : Nat) (st : St), st.fs ≠ [] → TN st.leaf → (∀ s ∈ l, s.length ≤ M) → muSt w (go X foot i st l) ≤ muSt w st + l.length * (2 * w * (M + 1) + w + 4 * M + 1) ∧ (go X foot i st l).fs ≠ [] ∧ TN (go X foot i st l).leaf
 | [], i, st, h, ht, hl => ⟨by show muSt w st ≤ _; omega, h, ht⟩
 | s :: l, i, st, h, ht, hl => by
  obtain ⟨a, b, c⟩ := mu_line (w := w) (i := i) (X := X) foot h ht s
  obtain ⟨x, y, z⟩ := mu_go foot M l (i + 1) _ b c (fun s hs => hl s (List.mem_cons_of_mem _ hs))
  have hs := hl s (by simp)
  have hw := W4_le s
  have hmul : 2 * w * (s.length + 1) ≤ 2 * w * (M + 1) := Nat.mul_le_mul_left _ (by omega)
  refine ⟨?_, y, z⟩
  show muSt w (go X foot (i + 1) (line X foot i st s) l) ≤ _
  rw [List.length_cons, Nat.add_mul]
  omega
end
end Bk
end Go.Proofs.YtkiipaaaakhhfaaGreatDoor
end
section
namespace Go.Proofs.YtkiipaaaakhhfaaGreatDoor
namespace Bk
set_option maxRecDepth 100000
set_option linter.unusedVariables false
set_option linter.unusedSimpArgs false
section
variable {X : Scan Rf.Rb}
theorem doc_ne : doc0.fs ≠ [] := by unfold doc0; simp
theorem doc_tn : TN doc0.leaf := TN.none
theorem mu_doc (w : Nat) : muSt w doc0 = w := by
 show muF w { nilF with k := 1 } + 0 + 0 = w
 show w + muL w [] + 0 + 0 = w
 rw [muL_nil]; omega
theorem go_fit (foot : Bool) {l : List Str} (h1 : l.length ≤ 100) (h2 : ∀ s ∈ l, s.length ≤ 200) : StFit (go X foot 0 doc0 l) := by
 obtain ⟨a, b, c⟩ := mu_go (X := X) (w := 0) foot 200 l 0 doc0 doc_ne doc_tn h2
 rw [mu_doc] at a
 intro lf e hk
 refine ⟨?_, c lf e hk⟩
 have h3 := lines_mu lf.ls
 have h4 : muS lf.ls ≤ muSt 0 (go X foot 0 doc0 l) := by
  unfold muSt
  rw [e]
  show _ ≤ muFs 0 _ + (0 + muS lf.ls)
  omega
 have h5 : l.length * (2 * 0 * (200 + 1) + 0 + 4 * 200 + 1) ≤ 100 * 801 := Nat.mul_le_mul h1 (by decide)
 omega
theorem go_few (foot : Bool) {l : List Str} (h1 : l.length ≤ 100) (h2 : ∀ s ∈ l, s.length ≤ 200) : muSt 1 (go X foot 0 doc0 l) ≤ 1000000 := by
 obtain ⟨a, b, c⟩ := mu_go (X := X) (w := 1) foot 200 l 0 doc0 doc_ne doc_tn h2
 rw [mu_doc] at a
 have h5 : l.length * (2 * 1 * (200 + 1) + 1 + 4 * 200 + 1) ≤ 100 * 1204 := Nat.mul_le_mul h1 (by decide)
 omega
theorem go_snoc (foot : Bool) : ∀ (l : List Str) (i : Nat) (st : St) (s : Str), go X foot i st (l ++ [s]) = line X foot (i + l.length) (go X foot i st l) s
 | [], i, st, s => rfl
 | t :: l, i, st, s => by
  show go X foot (i + 1) (line X foot i st t) (l ++ [s]) = _
  rw [go_snoc foot l (i + 1) _ s, List.length_cons, show i + 1 + l.length = i + (l.length + 1) by omega]
  rfl
theorem kids_mu (st : St) (w : Nat) : muL w st.kids ≤ muSt w st := by
 unfold St.kids muSt
 cases hf : st.fs with
 | nil => rw [muL_nil]; exact Nat.zero_le _
 | cons b fs =>
  show muL w (b.kids ++ shut fs st.leaf) ≤ (w + muL w b.kids) + muFs w fs + _
  rw [muL_app, mu_shut]
  omega
end
mutual
theorem out_cnt (X : Scan Rf.Rb) : ∀ b : B, cntK (out X b) ≤ muB 1 b
 | .mk k s t n m fen stx ls a z kids => by
  rw [out, muB_mk]
  split
  ·rw [cntK]; exact Nat.zero_le _
  ·have := outL_cnt X kids
   rw [cntK_cons, cntB_eq]
   show 1 + cntK (outL X kids) + cntK [] ≤ _
   rw [show cntK ([] : List Blk) = 0 by rw [cntK]]
   omega
theorem outL_cnt (X : Scan Rf.Rb) : ∀ l : List B, cntK (outL X l) ≤ muL 1 l
 | [] => by rw [outL, cntK]; exact Nat.zero_le _
 | b :: l => by
  have h1 := out_cnt X b
  have h2 := outL_cnt X l
  have h3 : ∀ x y : List Blk, cntK (x ++ y) = cntK x + cntK y := fun x y => by
   induction x with
   | nil => rw [List.nil_append, show cntK ([] : List Blk) = 0 by rw [cntK]]; omega
   | cons c x ih => rw [List.cons_append, cntK_cons, cntK_cons, ih]; omega
  rw [outL, muL_cons, h3]
  omega
end
end Bk
end Go.Proofs.YtkiipaaaakhhfaaGreatDoor
end
section
namespace Go.Proofs.YtkiipaaaakhhfaaGreatDoor
open Go Go.RowKit
namespace Bk
set_option maxRecDepth 100000
set_option linter.unusedVariables false
set_option linter.unusedSimpArgs false
section
variable {w : World} {X : Scan Rf.Rb}
def docP : Pt := { k := 1, s := [], t := [], n := 0, m := 0, a := 0, z := 0, kids := [], ls := [], need := 0, c := 0, cnt := 0, ind := 0 }
def ps0 (d : Nat) (m : Int) : PS := { t := [], col := 0, sk := 0, mask := m, num := 0, sgn := 0, op := [d], met := 0, H := Hp.set (fun _ => none) d docP, N := 1, ov := .slice (some ⟨d + 1, 0, none⟩) 1 1 }
theorem start_pt (w : World) (m : Int) (W : World) (tag : Tag) (hW : W = ((w.alloc (.cells (ptC docP (.slice none 0 0) (.slice none 0 0)) 53)).alloc (.cells #[ptr w.heap.size] 48)).alloc (.cells (parC (ps0 w.heap.size m) (.slice (some ⟨w.heap.size + 1, 0, none⟩) 1 1)) 58))
  (ht : tag = fun g => if g = w.heap.size then (w.heap.size, 0) else if g = w.heap.size + 1 then (w.heap.size + 2, 4) else if g = w.heap.size + 2 then (w.heap.size + 2, 3) else (g, 9)) :
  PT w W (w.heap.size + 2) m 0 1 doc0 tag (ps0 w.heap.size m) (w.heap.size + 1) := by
 have hb0 : Below w.heap.size w (w.alloc (.cells (ptC docP (.slice none 0 0) (.slice none 0 0)) 53)) := (Below.refl _ w).alloc (Nat.le_refl _) _
 have x0 := Hb.new w (ptC docP (.slice none 0 0) (.slice none 0 0)) 53
 obtain ⟨A, hA⟩ : ∃ A, A = w.alloc (.cells (ptC docP (.slice none 0 0) (.slice none 0 0)) 53) := ⟨_, rfl⟩
 have hAs : A.heap.size = w.heap.size + 1 := by rw [hA, World.size_alloc]
 rw [← hA] at hb0 x0 hW
 have x1 := Hb.new A #[ptr w.heap.size] 48
 have y0 := x0.alloc (.cells #[ptr w.heap.size] 48)
 have hb1 := hb0.alloc (by omega) (.cells #[ptr w.heap.size] 48)
 obtain ⟨B, hB⟩ : ∃ B, B = A.alloc (.cells #[ptr w.heap.size] 48) := ⟨_, rfl⟩
 have hBs : B.heap.size = w.heap.size + 2 := by rw [hB, World.size_alloc, hAs]
 rw [← hB] at hb1 x1 y0 hW
 rw [hAs] at x1
 have x2 := Hb.new B (parC (ps0 w.heap.size m) (.slice (some ⟨w.heap.size + 1, 0, none⟩) 1 1)) 58
 have z0 := y0.alloc (.cells (parC (ps0 w.heap.size m) (.slice (some ⟨w.heap.size + 1, 0, none⟩) 1 1)) 58)
 have z1 := x1.alloc (.cells (parC (ps0 w.heap.size m) (.slice (some ⟨w.heap.size + 1, 0, none⟩) 1 1)) 58)
 have hb2 := hb1.alloc (by omega) (.cells (parC (ps0 w.heap.size m) (.slice (some ⟨w.heap.size + 1, 0, none⟩) 1 1)) 58)
 rw [← hW] at hb2 x2 z0 z1
 rw [hBs] at x2
 have t0 : tag w.heap.size = (w.heap.size, 0) := by rw [ht]; exact if_pos rfl
 have t1 : tag (w.heap.size + 1) = (w.heap.size + 2, 4) := by rw [ht]; show (if _ then _ else if _ then _ else _) = _; rw [if_neg (by omega), if_pos rfl]
 have t2 : tag (w.heap.size + 2) = (w.heap.size + 2, 3) := by rw [ht]; show (if _ then _ else if _ then _ else if _ then _ else _) = _; rw [if_neg (by omega), if_neg (by omega), if_pos rfl]
 refine ⟨⟨hb2, by omega, t2, Nat.zero_le _, by show 0 + 4 * 0 ≤ 4000; decide, Nat.zero_le _, Nat.zero_le _, ⟨x2, ?_, ?_⟩, fun a p hp => ?_, Nat.le_refl 1, by show 1 ≤ 1000000; decide, Nat.zero_le _, fun a p hp _ => ?_⟩, ?_, rfl, Nat.le_refl _, ?_, doc_ne, fun l e => by cases e⟩
 ·refine .inr ⟨w.heap.size + 1, 1, _, rfl, z1, Nat.le_refl _, by decide, Nat.le_refl _, rfl⟩
 ·intro g hg
  have hg : some (w.heap.size + 1) = some g := hg
  injection hg with hg
  rw [← hg]
  exact ⟨t1, by omega⟩
 ·by_cases ha : a = w.heap.size
  ·subst ha
   have hp : (Hp.set (fun _ => none) w.heap.size docP) w.heap.size = some p := hp
   rw [Hp.set_eq] at hp
   injection hp with hp
   subst hp
   exact ⟨⟨t0, Nat.le_refl _, .slice none 0 0, .slice none 0 0, z0, RowW.nil _ _, RowW.nil _ _, fun _ => rfl, fun g hg => (by cases hg), fun g hg => (by cases hg)⟩, ⟨Nat.zero_le _, Nat.zero_le _, Nat.zero_le _, by decide, by decide, by decide, by decide, by decide, by decide, by decide, by decide, fun s hs => by cases hs⟩⟩
  ·have hp : (Hp.set (fun _ => none) w.heap.size docP) a = some p := hp
   rw [Hp.set_ne _ _ ha] at hp
   cases hp
 ·by_cases ha : a = w.heap.size
  ·exact ha
  ·have hp : (Hp.set (fun _ => none) w.heap.size docP) a = some p := hp
   rw [Hp.set_ne _ _ ha] at hp
   cases hp
 ·refine ⟨w.heap.size, [], docP, [], w.heap.size + 1, rfl, Nat.zero_le _, Hp.set_eq (fun _ => none) w.heap.size docP, ⟨rfl, rfl, rfl, rfl, rfl, rfl, rfl, rfl, rfl, rfl, .inl rfl⟩, rfl, KidsAt_nil.2 ⟨rfl, Nat.le_refl _⟩, rfl, Nat.le_refl _⟩
 ·exact ⟨.inl ⟨rfl, rfl⟩, Nat.le_refl _, Nat.le_refl _, by decide, wAll_nil _ _ _, trivial⟩
def Gone (X : Scan Rf.Rb) (w0 w : World) (P : Nat) (m : Int) (l : List Str) (i : Nat) : Prop := ∃ tag S hi, PT w0 w P m i (1 + 5000 * i) (go X (foot32 m) 0 doc0 (l.take i)) tag S hi
theorem gone_step (HL : LowB w X) {W : World} {P i : Nat} {m : Int} {l : List Str} {s : Str} (h1 : l.length ≤ 100) (h2 : ∀ s ∈ l, s.length ≤ 200) (hs : l[i]? = some s) (h : Gone X w W P m l i) :
  Calls Tryz.prog 25 #[ptr P, .int .i64 (i : Nat), str s] W fun e w' => e = .returned (.tuple #[]) ∧ Gone X w w' P m l (i + 1) := by
 obtain ⟨tag, S, hi, hpt⟩ := h
 have hil : i < l.length := (List.getElem?_eq_some_iff.1 hs).1
 have hsm : s ∈ l := List.mem_of_getElem? hs
 have hsl := h2 s hsm
 have hnb := nb_len s
 have hfit := go_fit (X := X) (foot32 m) (l := l.take i) (by rw [List.length_take]; omega) (fun s hs => h2 s (List.mem_of_mem_take hs))
 refine (line_any HL hpt hfit s (by omega) (by omega) (by omega)).mono ?_
 rintro e w1 ⟨e1, tag1, S1, hi1, h3⟩
 refine ⟨e1, tag1, S1, hi1, ?_⟩
 have e2 : l.take (i + 1) = l.take i ++ [s] := by rw [List.take_add_one, hs]; rfl
 have e3 := go_snoc (X := X) (foot32 m) (l.take i) 0 doc0 s
 rw [List.length_take, Nat.min_eq_left (by omega), Nat.zero_add] at e3
 rw [e2, e3]
 exact ⟨h3.pm, h3.op, h3.emask, Nat.le_trans h3.eN (by omega), h3.inl, h3.ne, h3.html⟩
end
end Bk
end Go.Proofs.YtkiipaaaakhhfaaGreatDoor
end
