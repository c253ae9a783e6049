import Derived.Test.YtkiipaaaakhhfaaGreatDoorCBk6
import Derived.Test.YtkiipaaaakhhfaaGreatDoorCShelf1
section
namespace Go.Proofs.YtkiipaaaakhhfaaGreatDoor
open Go Go.RowKit
namespace Bk
set_option maxRecDepth 100000
set_option linter.unusedVariables false
set_option linter.unusedSimpArgs false
section
variable {w0 w w' : World} {P a b hi num sgn N : Nat} {mask : Int} {tag tag' : Tag} {S : PS} {p pb q : Pt} {L : Ln} {X : Scan Rf.Rb} {v : Value}
theorem PL.n1 (h : PL X w0 w P mask num sgn N L tag S hi) {M : Nat} (hN : N + 2 ≤ M) : S.N + 2 ≤ M := by have := h.eN; omega
theorem begin_pl (h : PL X w0 w P mask num sgn N L tag S hi) (o : Bo) (ho : BoFew o) (hN : N + 2 ≤ 1000000) :
  Calls Tryz.prog 71 #[ptr P, .agg (boC o 0 0)] w fun e w' => ∃ a b pb tag' v, e = .returned (ptr a) ∧ w.heap.size ≤ a ∧ S.op[(L.place (decide (o.k = 4))).length - 1]? = some b ∧ S.H b = some pb ∧ PM w0 w' P tag' (S.beg (L.place (decide (o.k = 4))).length a b pb (o.pt num) v) := by
 have e := h.enum
 subst e
 exact begin_abs h.pm h.abs h.inl o ho (h.n1 hN)
theorem enter_pl (h : PL X w0 w P mask num sgn N L tag S hi) (o : Bo) (ho : BoFew o) (hN : N + 2 ≤ 1000000) :
  Calls Tryz.prog 97 #[ptr P, .agg (boC o 0 0)] w fun e w' => ∃ a b pb tag' v, e = .returned (ptr a) ∧ w.heap.size ≤ a ∧ S.op[(L.place (decide (o.k = 4))).length - 1]? = some b ∧ S.H b = some pb ∧ PM w0 w' P tag' { S.beg (L.place (decide (o.k = 4))).length a b pb (o.pt num) v with met := (L.place (decide (o.k = 4))).length + 1 } := by
 have e := h.enum
 subst e
 exact enter_abs h.pm h.abs h.inl o ho (h.n1 hN)
theorem lone_pl (h : PL X w0 w P mask num sgn N L tag S hi) (o : Bo) (ho : BoFew o) (hN : N + 2 ≤ 1000000) :
  Calls Tryz.prog 99 #[ptr P, .agg (boC o 0 0)] w fun e w' => ∃ a b pb tag' v, e = .returned (.tuple #[]) ∧ w.heap.size ≤ a ∧ S.op[(L.place (decide (o.k = 4))).length - 1]? = some b ∧ S.H b = some pb ∧ PM w0 w' P tag' { S.beg (L.place (decide (o.k = 4))).length a b pb (o.pt num) v with op := S.op.take (L.place (decide (o.k = 4))).length } := by
 have e := h.enum
 subst e
 exact lone_abs h.pm h.abs h.inl o ho (h.n1 hN)
theorem Hp.begun_own {H : Hp} (hba : b ≠ a) : (H.begun b a pb q) a = some q := (Hp.set_ne _ _ (fun e => hba e.symm)).trans (Hp.set_eq _ _ _)
theorem PL.apart (h : PL X w0 w P mask num sgn N L tag S hi) (ha : w.heap.size ≤ a) (hb : S.H b = some pb) : b ≠ a := by
 have := (h.pm.parts _ pb hb).1.lt
 omega
theorem PL.opened (h : PL X w0 w P mask num sgn N L tag S hi) {l : Lf} (ha : w.heap.size ≤ a) (hb : S.op[(L.place false).length - 1]? = some b) (hpb : S.H b = some pb) (hP : PM w0 w' P tag' (S.beg (L.place false).length a b pb q v))
  (hq : LfAt q { l with a := num, z := num }) (hk : l.k = 5 ∨ l.k = 6 ∨ l.k = 7) (hh : l.k = 6 → 1 ≤ l.n ∧ l.n ≤ 7) : PL X w0 w' P mask num sgn (N + 2) (L.open num l) tag' (S.beg (L.place false).length a b pb q v) (a + 1) ∧ lastP (S.beg (L.place false).length a b pb q v) = a ∧ (S.beg (L.place false).length a b pb q v).H a = some q := by
 refine ⟨⟨hP, (h.abs.size h.pm).opened h.inl (by omega) hb hpb hq rfl rfl rfl rfl, h.emask, h.enum, h.esgn, by show S.N + 2 ≤ N + 2; have := h.eN; omega, in_open h.inl l hk, h.sg, ?_⟩, ?_, Hp.begun_own (h.apart ha hpb)⟩
 ·intro l' e h6
  injection e with e
  subst e
  exact hh h6
 ·show ((S.op.take _ ++ [a]).getLast?).getD 0 = a
  rw [List.getLast?_append]
  rfl
theorem PL.contained (h : PL X w0 w P mask num sgn N L tag S hi) {f : Fr} (item : Bool) (ha : w.heap.size ≤ a) (hb : S.op[(L.place item).length - 1]? = some b) (hpb : S.H b = some pb) (hP : PM w0 w' P tag' { S.beg (L.place item).length a b pb q v with met := (L.place item).length + 1 })
  (hq : FrAt q { f with a := num, z := num, kids := [] }) (hk : q.kids = []) (hin : InL num (L.contain num f item)) : PL X w0 w' P mask num sgn (N + 2) (L.contain num f item) tag' { S.beg (L.place item).length a b pb q v with met := (L.place item).length + 1 } (a + 1) :=
 ⟨hP, (h.abs.size h.pm).contain h.inl item (by omega) hb hpb hq hk rfl rfl rfl rfl, h.emask, h.enum, h.esgn, by show S.N + 2 ≤ N + 2; have := h.eN; omega, hin, h.sg, HtmlOk.none rfl⟩
theorem PL.laid (h : PL X w0 w P mask num sgn N L tag S hi) {B0 : Nat → B} (ha : w.heap.size ≤ a) (hb : S.op[(L.place false).length - 1]? = some b) (hpb : S.H b = some pb) (hP : PM w0 w' P tag' { S.beg (L.place false).length a b pb q v with op := S.op.take (L.place false).length })
  (hq : ∀ H' : Hp, H' a = some q → TreeAt H' (B0 num) a (a + 1)) (hin : InL num (L.lay num B0)) : PL X w0 w' P mask num sgn (N + 2) (L.lay num B0) tag' { S.beg (L.place false).length a b pb q v with op := S.op.take (L.place false).length } (a + 1) :=
 ⟨hP, (h.abs.size h.pm).laid h.inl (by omega) hb hpb hq rfl rfl rfl rfl, h.emask, h.enum, h.esgn, by show S.N + 2 ≤ N + 2; have := h.eN; omega, hin, h.sg, HtmlOk.none rfl⟩
theorem PL.like (h : PL X w0 w P mask num sgn N L tag S hi) {S' : PS} {r : Rest} (h' : PM w0 w' P tag S') (hs : Like S S') (e : S'.r = r) : PL X w0 w' P mask num sgn N { L with r := r } tag S' hi :=
 ⟨h', h.abs.rest hs.op hs.met hs.H e, hs.mask.trans h.emask, hs.num.trans h.enum, hs.sgn.trans h.esgn, by rw [hs.N]; exact h.eN, in_rest h.inl r, fun u hu => h.sg u (hu.trans hs.suf), h.html⟩
set_option maxHeartbeats 8000000 in
theorem beginsCode_any (HL : Low w0 X) (h : PL X w0 w P mask num sgn N L tag S hi) (hN : N + 4 ≤ 1000000) :
  Calls Tryz.prog 61 #[ptr P] w fun e w' => e = .returned (.int .i64 (if L.goes = true then 0 else 2)) ∧ PLx X w0 w' P mask num sgn (N + 4) (if L.goes = true then L else indented num L) := by
 have HPA := Lib.hid ((para_any h.pm h.abs).at (Below.refl _ w))
 have HCO := Lib.hid (fun W (hW : Below w.heap.size w W) => (code_any (h.pm.below hW) h.abs).at hW)
 have hr := h.abs.r
 have HPL := Lib.hid h
 have HLL := Lib.hid HL
 by_cases hg : L.goes = true
 ·rw [if_pos hg] at HPA
  rw [if_pos hg, if_pos hg]
  unfold ptr at *
  clear h HL hr hg HCO
  go_enter Tryz.func61, Tryz.ntmps61
  go_wp2_with fail
  refine HPA.out.mono ?_
  rintro e w1 ⟨rfl, hb1⟩
  have HE := Lib.hid (HPL.out.below hb1)
  clear hb1
  go_wp2
  go_ret
  exact ⟨rfl, _, _, _, HE.out.more (by omega)⟩
 ·rw [if_neg hg] at HPA
  rw [if_neg hg, if_neg hg]
  by_cases hb : bare L = true
  ·rw [if_pos hb] at HCO
   have hind : indented num L = L.add num (S.r.skip 4).s := by
    unfold indented
    rw [if_pos hb, hr]
   obtain ⟨l, hl⟩ : ∃ l, L.leaf = some l := by
    unfold bare at hb
    cases hl : L.leaf with
    | none => rw [hl] at hb; simp at hb
    | some l => exact ⟨l, rfl⟩
   obtain ⟨p, g1, g2, g3⟩ := h.abs.leaf hl
   have HG2 := Lib.hid g2
   have HLF := Lib.hid hl
   have HIN := Lib.hid hind
   have HWO : Hid (∀ W, Below w.heap.size w W → Calls Tryz.prog 76 #[ptr P, .int .i64 4] W fun e w' => e = .returned (str (S.r.skip 4).s) ∧ Below w.heap.size w w') := Lib.hid (without_at HL h.pm 4 (by omega))
   have HTA := Lib.hid (take_at HL h.pm g2 (S.r.skip 4).s (skip_len h.pm _) (by have := h.eN; omega))
   have HC6 := Lib.hid (fun W (hW : Below w.heap.size w W) => (keep_cell hW h.pm.cellsV.c6 : W.cell? ⟨P, 6, none⟩ = some (.int .i64 (S.num : Nat))))
   unfold ptr str at *
   clear h HL hr hg g1 g2 g3 hb hl hind
   go_enter Tryz.func61, Tryz.ntmps61
   go_wp2_with fail
   refine HPA.out.mono ?_
   rintro e w1 ⟨rfl, hb1⟩
   go_wp2_with fail
   refine (HCO.out _ hb1).mono ?_
   rintro e w2 ⟨rfl, hb2⟩
   have c6 := HC6.out _ hb2
   clear hb1
   have HW := Lib.hid hb2
   go_upto_region 6 with fail
   go_region_law (first
    | (go_simp; go_at_call 76; with_reducible refine (HWO.out _ (by first | exact hb2 | exact HW.out.drew | exact hb2.drew | assumption)).mono ?_; rintro e w8 ⟨rfl, hb8⟩; have c6' := HC6.out _ hb8)
    | (go_simp; go_at_call 72; with_reducible refine (HTA.out _ (by assumption)).mono ?_; rintro e w9 ⟨rfl, tag9, h9⟩))
   all_goals
    have HE := Lib.hid h9
    go_wp2
    go_ret
    obtain ⟨t, s', hh, k⟩ := HPL.out.took HLF.out HG2.out HE.out
    exact ⟨rfl, t, s', hh, by rw [HIN.out]; exact k.more (by omega)⟩
  ·rw [if_neg hb] at HCO
   have hind : indented num L = (L.open num { nilL with k := 5 }).add num (S.r.skip 4).s := by
    unfold indented
    rw [if_neg hb, hr]
   have HIN := Lib.hid hind
   have HBG : Hid (∀ W, Below w.heap.size w W → Calls Tryz.prog 71 #[ptr P, .agg #[.int .i64 5, .string ⟨#[]⟩, .string ⟨#[]⟩, .int .i64 0, .int .i64 0, .bool false, .int .i64 0, .int .i64 0, .slice none 0 0]] W fun e w' => ∃ a b pb tag' v, e = .returned (ptr a) ∧ W.heap.size ≤ a ∧ S.op[(L.place false).length - 1]? = some b ∧ S.H b = some pb ∧ PM w0 w' P tag' (S.beg (L.place false).length a b pb ((⟨5, [], [], 0, 0⟩ : Bo).pt num) v)) :=
    Lib.hid (fun W hW => begin_pl (h.below hW) ⟨5, [], [], 0, 0⟩ ⟨by decide, by decide, by decide, by decide⟩ (by omega))
   unfold ptr at *
   clear h HL hr hg hb hind
   go_enter Tryz.func61, Tryz.ntmps61
   go_wp2_with fail
   refine HPA.out.mono ?_
   rintro e w1 ⟨rfl, hb1⟩
   go_wp2_with fail
   refine (HCO.out _ hb1).mono ?_
   rintro e w2 ⟨rfl, hb2⟩
   have HP2 := Lib.hid (HPL.out.below hb2)
   go_wp2_with fail
   refine (HBG.out _ hb2).mono ?_
   rintro e w3 ⟨a, b, pb, tag3, v3, rfl, ha, kb, kpb, hP3⟩
   obtain ⟨k1, k2, k3⟩ := HP2.out.opened (l := { nilL with k := 5 }) ha kb kpb hP3 ⟨rfl, rfl, rfl, rfl, rfl, rfl, (by show (num : Int) = zOf 5 [] num; rfl), rfl, rfl, rfl, (by intro e; cases e), .inl rfl, (by intro e; cases e)⟩ (.inl rfl) (by intro e; cases e)
   clear hb1 hb2 HP2 kb kpb hP3 ha HPL HBG
   have hsr : (S.beg (L.place false).length a b pb ((⟨5, [], [], 0, 0⟩ : Bo).pt num) v3).r = S.r := rfl
   have hsn : (S.beg (L.place false).length a b pb ((⟨5, [], [], 0, 0⟩ : Bo).pt num) v3).num = S.num := rfl
   generalize S.beg (L.place false).length a b pb ((⟨5, [], [], 0, 0⟩ : Bo).pt num) v3 = S3 at *
   have hrs : (S3.r.skip 4).s = (S.r.skip 4).s := by rw [hsr]
   have HWO : Hid (∀ W, Below w3.heap.size w3 W → Calls Tryz.prog 76 #[ptr P, .int .i64 4] W fun e w' => e = .returned (str (S3.r.skip 4).s) ∧ Below w3.heap.size w3 w') := Lib.hid (without_at HLL.out k1.pm 4 (by omega))
   have HTA := Lib.hid (take_at HLL.out k1.pm k3 (S3.r.skip 4).s (skip_len k1.pm _) (by have := k1.eN; omega))
   have HC6 := Lib.hid (fun W (hW : Below w3.heap.size w3 W) => (keep_cell hW k1.pm.cellsV.c6 : W.cell? ⟨P, 6, none⟩ = some (.int .i64 (S3.num : Nat))))
   have HK1 := Lib.hid k1
   have HK2 := Lib.hid k2
   have HK3 := Lib.hid k3
   have HRS := Lib.hid hrs
   have HW := Lib.hid (Below.refl w3.heap.size w3)
   have hb2 := Below.refl w3.heap.size w3
   have c6 := HC6.out _ hb2
   clear k1 k2 k3 hsr hsn hrs
   unfold ptr str at *
   go_upto_region 6 with fail
   go_region_law (first
    | (go_simp; go_at_call 76; with_reducible refine (HWO.out _ (by first | exact hb2 | exact HW.out.drew | exact hb2.drew | assumption)).mono ?_; rintro e w8 ⟨rfl, hb8⟩; have c6' := HC6.out _ hb8)
    | (go_simp; go_at_call 72; with_reducible refine (HTA.out _ (by assumption)).mono ?_; rintro e w9 ⟨rfl, tag9, h9⟩))
   all_goals
    have HE := Lib.hid h9
    go_wp2
    go_ret
    have hk2 := HK2.out
    have he := HE.out
    have hk3 := HK3.out
    rw [← hk2] at he hk3
    obtain ⟨t, s', hh, k⟩ := HK1.out.took rfl hk3 he
    exact ⟨rfl, t, s', hh, by rw [HIN.out, ← HRS.out]; exact k.more (by omega)⟩
end
end Bk
end Go.Proofs.YtkiipaaaakhhfaaGreatDoor
end
section
namespace Go.Proofs.YtkiipaaaakhhfaaGreatDoor
open Go Go.RowKit
namespace Bk
set_option maxRecDepth 100000
set_option linter.unusedVariables false
set_option linter.unusedSimpArgs false
section
variable {w0 w w' : World} {P a b hi num sgn N : Nat} {mask : Int} {tag tag' : Tag} {S : PS} {p pb q : Pt} {L : Ln} {X : Scan Rf.Rb} {v : Value}
abbrev agg (k : Int) (s t : Str) (n m : Int) : Value := .agg #[.int .i64 k, .string ⟨s.toArray⟩, .string ⟨t.toArray⟩, .int .i64 n, .int .i64 m, .bool false, .int .i64 0, .int .i64 0, .slice none 0 0]
theorem suf_aft (S : PS) : S.r.aft <:+ S.t := by
 have e : S.r.aft = _ := RS.aft S.t S.col S.sk
 rw [e]
 exact List.drop_suffix _ _
set_option maxHeartbeats 8000000 in
theorem beginsQuote_any (HL : Low w0 X) (h : PL X w0 w P mask num sgn N L tag S hi) (h4 : L.r.ind < 4) (hN : N + 2 ≤ 1000000) :
  Calls Tryz.prog 62 #[ptr P] w fun e w' => e = .returned (.bool (decide (L.r.aft.head? = some 62))) ∧ PLx X w0 w' P mask num sgn (N + 2) (if L.r.aft.head? = some 62 then ({ L with r := (L.r.past 1).skip 1 }).contain num { nilF with k := 2 } false else L) := by
 have hr : L.r = S.r := h.abs.r
 have HQ := quoteSign_any HL h.pm
 have HPL := Lib.hid h
 rw [hr] at h4
 by_cases hq : L.r.aft.head? = some 62
 ·rw [if_pos hq, decide_eq_true hq]
  rw [hr] at hq
  have HQ1 : Hid (Calls Tryz.prog 92 #[ptr P] w fun e w' => e = .returned (.bool true) ∧ ∃ S', PM w0 w' P tag S' ∧ Like S S' ∧ S'.r = (S.r.past 1).skip 1) := Lib.hid (HQ.mono fun e w' hh => by
   rcases hh with ⟨h1, -⟩ | ⟨-, h2, h3⟩
   ·exact absurd ⟨h4, hq⟩ h1
   ·exact ⟨h2, h3⟩)
  rw [hr]
  unfold ptr at *
  clear HQ h hr h4 hq HL
  go_enter Tryz.func62, Tryz.ntmps62
  go_wp2_with fail
  refine HQ1.out.mono ?_
  rintro e w1 ⟨rfl, S1, h1, hs1, hr1⟩
  have hp1 := HPL.out.like h1 hs1 hr1
  have HP1 := Lib.hid hp1
  have HEN : Hid (Calls Tryz.prog 97 #[.pointer (some ⟨P, 0, none⟩), .agg #[.int .i64 2, .string ⟨#[]⟩, .string ⟨#[]⟩, .int .i64 0, .int .i64 0, .bool false, .int .i64 0, .int .i64 0, .slice none 0 0]] w1 fun e w' => ∃ a b pb tag' v, e = .returned (ptr a) ∧ w1.heap.size ≤ a ∧ S1.op[(Ln.place false { L with r := (S.r.past 1).skip 1 }).length - 1]? = some b ∧ S1.H b = some pb ∧ PM w0 w' P tag' { S1.beg (Ln.place false { L with r := (S.r.past 1).skip 1 }).length a b pb ((⟨2, [], [], 0, 0⟩ : Bo).pt num) v with met := (Ln.place false { L with r := (S.r.past 1).skip 1 }).length + 1 }) :=
   Lib.hid (enter_pl hp1 ⟨2, [], [], 0, 0⟩ ⟨by decide, by decide, by decide, by decide⟩ hN)
  clear h1 hs1 hr1 hp1
  go_wp2_with fail
  refine HEN.out.mono ?_
  rintro e w2 ⟨a, b, pb, tag2, v2, rfl, ha, kb, kpb, h2⟩
  have HC := Lib.hid (HP1.out.contained (f := { nilF with k := 2 }) false ha kb kpb h2 ⟨rfl, rfl, rfl, rfl, rfl, rfl, rfl, rfl, rfl, rfl, .inr (.inl rfl)⟩ rfl (in_contain HP1.out.inl _ false (by unfold okc; simp) (fun e => by cases e)))
  clear ha kb kpb h2
  unfold ptr
  go_wp2
  go_ret
  exact ⟨rfl, _, _, _, HC.out⟩
 ·rw [if_neg hq, decide_eq_false hq]
  rw [hr] at hq
  have HQ1 : Hid (Calls Tryz.prog 92 #[ptr P] w fun e w' => e = .returned (.bool false) ∧ PM w0 w' P tag S) := Lib.hid (HQ.mono fun e w' hh => by
   rcases hh with ⟨-, h1⟩ | ⟨h2, -⟩
   ·exact h1
   ·exact absurd h2.2 hq)
  unfold ptr at *
  clear HQ h hr h4 hq HL
  go_enter Tryz.func62, Tryz.ntmps62
  go_wp2_with fail
  refine HQ1.out.mono ?_
  rintro e w1 ⟨rfl, h1⟩
  have hp := HPL.out
  have HC : Hid (PL X w0 w1 P mask num sgn N L tag S hi) := Lib.hid ⟨h1, hp.abs, hp.emask, hp.enum, hp.esgn, hp.eN, hp.inl, hp.sg, hp.html⟩
  clear h1 hp
  go_wp2
  go_ret
  exact ⟨rfl, _, _, _, HC.out.more (by omega)⟩
set_option maxHeartbeats 8000000 in
theorem beginsHead_any (HL : Low w0 X) (h : PL X w0 w P mask num sgn N L tag S hi) (hN : N + 2 ≤ 1000000) :
  Calls Tryz.prog 63 #[ptr P] w fun e w' => e = .returned (.bool (decide (0 < (X.atx L.r.aft).1))) ∧ PLx X w0 w' P mask num sgn (N + 2) (if 0 < (X.atx L.r.aft).1 then L.lay num fun i => .mk 8 (Cl.rgt (X.atx L.r.aft).2) [] (X.atx L.r.aft).1 0 false false [] i i [] else L) := by
 have hr : L.r = S.r := h.abs.r
 rw [hr]
 have hal := aft_len h.pm
 obtain ⟨k6, kl, hat⟩ := HL.atx S.r.aft (by omega)
 have htr := HL.trimR (X.atx S.r.aft).2 (by omega)
 have HPL := Lib.hid h
 have HBH := Lib.hid (fun W (hW : Below w.heap.size w W) => (behind_any (h.pm.below hW)).at hW)
 have HAT := Lib.hid (fun W (hW : Below w.heap.size w W) => hat.at h.pm.low hW)
 have HTR := Lib.hid (fun W (hW : Below w.heap.size w W) => htr.at h.pm.low hW)
 generalize (X.atx S.r.aft).1 = lv at *
 generalize (X.atx S.r.aft).2 = wd at *
 have HLN : Hid (∀ W, Below w.heap.size w W → Calls Tryz.prog 99 #[ptr P, agg 8 (Cl.rgt wd) [] (lv : Nat) 0] W fun e w' => ∃ a b pb tag' v, e = .returned (.tuple #[]) ∧ W.heap.size ≤ a ∧ S.op[(L.place false).length - 1]? = some b ∧ S.H b = some pb ∧ PM w0 w' P tag' { S.beg (L.place false).length a b pb ((⟨8, Cl.rgt wd, [], lv, 0⟩ : Bo).pt num) v with op := S.op.take (L.place false).length }) :=
  Lib.hid (fun W hW => lone_pl (h.below hW) ⟨8, Cl.rgt wd, [], lv, 0⟩ ⟨by show 8 ≤ 30; decide, by show lv ≤ _; omega, by show 0 ≤ 255; decide, by show ¬ ((8 : Nat) = 1); decide⟩ hN)
 clear hat htr h HL hr hal kl
 unfold ptr str agg at *
 go_enter Tryz.func63, Tryz.ntmps63
 go_wp2_with fail
 refine (HBH.out _ (Below.refl _ _)).mono ?_
 rintro e w1 ⟨rfl, hb1⟩
 go_wp2_with fail
 refine (HAT.out _ hb1).mono ?_
 rintro e w2 ⟨rfl, hb2⟩
 by_cases hz : 0 < lv
 ·have b0 : ¬ (lv : Int) = 0 := by omega
  have b1 : ((lv : Int) == 0) = false := by rw [beq_eq_false_iff_ne]; exact b0
  have b2 : decide ((lv : Int) = 0) = false := decide_eq_false b0
  have b3 : ¬ lv = 0 := by omega
  have HZ := Lib.hid hz
  clear hz hb1
  go_wp2_with fail
  refine (HTR.out _ hb2).mono ?_
  rintro e w3 ⟨rfl, hb3⟩
  have HP3 := Lib.hid (HPL.out.below hb3)
  have HL3 := Lib.hid (HLN.out _ hb3)
  clear hb2 hb3
  go_wp2_with fail
  refine HL3.out.mono ?_
  rintro e w4 ⟨a, b, pb, tag4, v4, rfl, ha, kb, kpb, h4⟩
  have HC := Lib.hid (HP3.out.laid (B0 := fun i => .mk 8 (Cl.rgt wd) [] lv 0 false false [] i i []) ha kb kpb h4 (fun H' hH => by
   rw [TreeAt_mk]
   exact ⟨_, hH, by omega, rfl, rfl, rfl, rfl, rfl, rfl, rfl, rfl, rfl, (by intro e; cases e), (by intro _; simp), KidsAt_nil.2 ⟨rfl, Nat.le_refl _⟩⟩) (in_lay HP3.out.inl _ ⟨8, _, _, _, _, _, _, _, rfl, by decide, by decide⟩))
  clear ha kb kpb h4
  go_wp2
  go_ret
  exact ⟨rfl, _, _, _, HC.out⟩
 ·have b0 : lv = 0 := by omega
  subst b0
  have HE := Lib.hid (HPL.out.below hb2)
  clear hb1 hb2 hz
  go_wp2
  go_ret
  exact ⟨rfl, _, _, _, HE.out.more (M := N + 2) (by omega)⟩
set_option maxHeartbeats 8000000 in
theorem beginsRule_any (HL : Low w0 X) (h : PL X w0 w P mask num sgn N L tag S hi) (hN : N + 2 ≤ 1000000) :
  Calls Tryz.prog 67 #[ptr P] w fun e w' => e = .returned (.bool (X.rule L.r.aft)) ∧ PLx X w0 w' P mask num sgn (N + 2) (if X.rule L.r.aft = true then L.lay num fun i => .mk 9 [] [] 0 0 false false [] i i [] else L) := by
 have hr : L.r = S.r := h.abs.r
 rw [hr]
 have hal := aft_len h.pm
 have hru := HL.rule S.r.aft (by omega)
 have HPL := Lib.hid h
 have hsg := h.sg S.r.aft (suf_aft S)
 have HBH := Lib.hid (fun W (hW : Below w.heap.size w W) => (behind_any (h.pm.below hW)).at hW)
 have HRU := Lib.hid (fun W (hW : Below w.heap.size w W) => hru.at h.pm.low hW)
 have HC7 := Lib.hid (fun W (hW : Below w.heap.size w W) => (keep_cell hW h.pm.cellsV.c7 : W.cell? ⟨P, 7, none⟩ = some (.int .i64 (S.sgn : Nat))))
 rw [h.esgn] at HC7
 have HLN : Hid (∀ W, Below w.heap.size w W → Calls Tryz.prog 99 #[ptr P, .agg #[.int .i64 9, .string ⟨#[]⟩, .string ⟨#[]⟩, .int .i64 0, .int .i64 0, .bool false, .int .i64 0, .int .i64 0, .slice none 0 0]] W fun e w' => ∃ a b pb tag' v, e = .returned (.tuple #[]) ∧ W.heap.size ≤ a ∧ S.op[(L.place false).length - 1]? = some b ∧ S.H b = some pb ∧ PM w0 w' P tag' { S.beg (L.place false).length a b pb ((⟨9, [], [], 0, 0⟩ : Bo).pt num) v with op := S.op.take (L.place false).length }) :=
  Lib.hid (fun W hW => lone_pl (h.below hW) ⟨9, [], [], 0, 0⟩ ⟨by decide, by decide, by decide, by decide⟩ hN)
 generalize S.r.aft = af at *
 clear hru h HL hr
 unfold ptr str at *
 cases hru : X.rule af with
 | true =>
  rw [hru] at HRU
  have b0 := hsg hru
  have b1 : decide ((af.length : Int) > sgn) = false := decide_eq_false (by omega)
  have b2 : ¬ (af.length : Int) > sgn := by omega
  have b3 : ¬ sgn < af.length := by omega
  rw [if_pos rfl]
  clear hru hsg b0
  go_enter Tryz.func67, Tryz.ntmps67
  go_wp2_with fail
  refine (HBH.out _ (Below.refl _ _)).mono ?_
  rintro e w1 ⟨rfl, hb1⟩
  have c7 := HC7.out _ hb1
  go_wp2_with fail
  refine (HRU.out _ hb1).mono ?_
  rintro e w3 ⟨rfl, hb3⟩
  have HP3 := Lib.hid (HPL.out.below hb3)
  have HL3 := Lib.hid (HLN.out _ hb3)
  clear hb1 hb3 b1 b2 b3
  go_wp2_with fail
  refine HL3.out.mono ?_
  rintro e w4 ⟨a, b, pb, tag4, v4, rfl, ha, kb, kpb, h4⟩
  have HC := Lib.hid (HP3.out.laid (B0 := fun i => .mk 9 [] [] 0 0 false false [] i i []) ha kb kpb h4 (fun H' hH => by
   rw [TreeAt_mk]
   exact ⟨_, hH, by omega, rfl, rfl, rfl, rfl, rfl, rfl, rfl, rfl, rfl, (by intro e; cases e), (by intro e; cases e), KidsAt_nil.2 ⟨rfl, Nat.le_refl _⟩⟩) (in_lay HP3.out.inl _ ⟨9, _, _, _, _, _, _, _, rfl, by decide, by decide⟩))
  clear ha kb kpb h4
  go_wp2
  go_ret
  exact ⟨rfl, _, _, _, HC.out⟩
 | false =>
  rw [hru] at HRU
  rw [if_neg Bool.false_ne_true]
  clear hru hsg
  go_enter Tryz.func67, Tryz.ntmps67
  go_wp2_with fail
  refine (HBH.out _ (Below.refl _ _)).mono ?_
  rintro e w1 ⟨rfl, hb1⟩
  have c7 := HC7.out _ hb1
  by_cases hz : sgn < af.length
  ·have b1 : decide ((af.length : Int) > sgn) = true := decide_eq_true (by omega)
   have b2 : (af.length : Int) > sgn := by omega
   have HE := Lib.hid (HPL.out.below hb1)
   clear hb1
   go_wp2
   go_ret
   exact ⟨rfl, _, _, _, HE.out.more (M := N + 2) (by omega)⟩
  ·have b1 : decide ((af.length : Int) > sgn) = false := decide_eq_false (by omega)
   have b2 : ¬ (af.length : Int) > sgn := by omega
   go_wp2_with fail
   refine (HRU.out _ hb1).mono ?_
   rintro e w3 ⟨rfl, hb3⟩
   have HE := Lib.hid (HPL.out.below hb3)
   clear hb1 hb3
   go_wp2
   go_ret
   exact ⟨rfl, _, _, _, HE.out.more (M := N + 2) (by omega)⟩
end
end Bk
end Go.Proofs.YtkiipaaaakhhfaaGreatDoor
end
section
namespace Go.Proofs.YtkiipaaaakhhfaaGreatDoor
open Go Go.RowKit
namespace Bk
set_option maxRecDepth 100000
set_option linter.unusedVariables false
set_option linter.unusedSimpArgs false
section
variable {w0 w w' : World} {P a b hi num sgn N : Nat} {mask : Int} {tag tag' : Tag} {S : PS} {p pb q q' : Pt} {L : Ln} {X : Scan Rf.Rb} {v : Value}
theorem Hp.begun_set {H : Hp} (hba : b ≠ a) : (H.begun b a pb q).set a q' = H.begun b a pb q' := by
 funext x
 unfold Hp.begun
 by_cases hx : x = a
 ·subst hx
  rw [Hp.set_eq, Hp.set_ne _ _ (fun e => hba e.symm), Hp.set_eq]
 ·rw [Hp.set_ne _ _ hx]
  by_cases hb : x = b
  ·subst hb
   rw [Hp.set_eq, Hp.set_eq]
  ·rw [Hp.set_ne _ _ hb, Hp.set_ne _ _ hb, Hp.set_ne _ _ hx, Hp.set_ne _ _ hx]
set_option maxHeartbeats 8000000 in
theorem beginsFence_any (HL : Low w0 X) (h : PL X w0 w P mask num sgn N L tag S hi) (hN : N + 2 ≤ 1000000) :
  Calls Tryz.prog 64 #[ptr P] w fun e w' => e = .returned (.bool (decide (0 < (X.fence L.r.aft).2.1))) ∧ PLx X w0 w' P mask num sgn (N + 2) (if 0 < (X.fence L.r.aft).2.1 then L.open num { nilL with k := 5, fen := true, c := (X.fence L.r.aft).1, cnt := (X.fence L.r.aft).2.1, need := L.r.ind, t := X.une (X.fence L.r.aft).2.2 } else L) := by
 have hr : L.r = S.r := h.abs.r
 rw [hr]
 have hal := aft_len h.pm
 obtain ⟨k6, kl, hat⟩ := HL.fence S.r.aft (by omega)
 have htr := HL.une (X.fence S.r.aft).2.2 (by omega)
 have HPL := Lib.hid h
 have HBH := Lib.hid (fun W (hW : Below w.heap.size w W) => (behind_any (h.pm.below hW)).at hW)
 have HAT := Lib.hid (fun W (hW : Below w.heap.size w W) => hat.at h.pm.low hW)
 have HTR := Lib.hid (fun W (hW : Below w.heap.size w W) => htr.at h.pm.low hW)
 have hind := hal.2
 generalize (X.fence S.r.aft).1 = sg at *
 generalize (X.fence S.r.aft).2.1 = lv at *
 generalize (X.fence S.r.aft).2.2 = wd at *
 generalize X.une wd = wu at *
 have HLN : Hid (∀ W, Below w.heap.size w W → Calls Tryz.prog 71 #[ptr P, agg 5 [] wu 0 0] W fun e w' => ∃ a b pb tag' v, e = .returned (ptr a) ∧ W.heap.size ≤ a ∧ S.op[(L.place false).length - 1]? = some b ∧ S.H b = some pb ∧ PM w0 w' P tag' (S.beg (L.place false).length a b pb ((⟨5, [], wu, 0, 0⟩ : Bo).pt num) v)) :=
  Lib.hid (fun W hW => begin_pl (h.below hW) ⟨5, [], wu, 0, 0⟩ ⟨by show 5 ≤ 30; decide, by show 0 ≤ 1000000000; decide, by show 0 ≤ 255; decide, by show ¬ ((5 : Nat) = 1); decide⟩ hN)
 by_cases hz : 0 < lv
 ·have b0 : ¬ (lv : Int) = 0 := by omega
  have b1 : ((lv : Int) == 0) = false := by rw [beq_eq_false_iff_ne]; exact b0
  have b2 : decide ((lv : Int) = 0) = false := decide_eq_false b0
  have b3 : ¬ lv = 0 := by omega
  have HZ := Lib.hid hz
  have HNL := Lib.hid k6
  have HND := Lib.hid hind
  rw [if_pos hz, decide_eq_true hz]
  clear hat htr h HL hr hal kl hz k6 hind
  unfold ptr str agg at *
  go_enter Tryz.func64, Tryz.ntmps64
  go_wp2_with fail
  refine (HBH.out _ (Below.refl _ _)).mono ?_
  rintro e w1 ⟨rfl, hb1⟩
  go_wp2_with fail
  refine (HAT.out _ hb1).mono ?_
  rintro e w2 ⟨rfl, hb2⟩
  clear hb1
  go_wp2_with fail
  refine (HTR.out _ hb2).mono ?_
  rintro e w3 ⟨rfl, hb3⟩
  have HP3 := Lib.hid (HPL.out.below hb3)
  have HL3 := Lib.hid (HLN.out _ hb3)
  clear hb2 hb3
  go_wp2_with fail
  refine HL3.out.mono ?_
  rintro e w4 ⟨a, b, pb, tag4, v4, rfl, ha, kb, kpb, h4⟩
  have HA := Lib.hid ha
  have HB := Lib.hid kb
  have HPB := Lib.hid kpb
  have HBA := Lib.hid (HP3.out.apart ha kpb)
  have H4 := Lib.hid h4
  have HIN := Lib.hid ((indent_any h4).at (Below.refl _ _))
  have HCL : Hid (∀ W, Below w4.heap.size w4 W → ∃ x12 x13 x14, W.cell? ⟨a, 12, none⟩ = some x12 ∧ W.cell? ⟨a, 13, none⟩ = some x13 ∧ W.cell? ⟨a, 14, none⟩ = some x14 ∧ ∀ k, W.frozen? ⟨a, k, none⟩ = false) := Lib.hid (fun W hW => by
   obtain ⟨pv, lv, hpc, -⟩ := ((h4.below hW).parts a _ (Hp.begun_own HBA.out)).1.cells
   exact ⟨_, _, _, hpc.c12, hpc.c13, hpc.c14, hpc.fr⟩)
  clear ha kb kpb h4 HL3
  unfold ptr at *
  go_wp2_with fail
  refine HIN.out.mono ?_
  rintro e w5 ⟨rfl, hb5⟩
  obtain ⟨x12, x13, x14, y12, y13, y14, fr⟩ := HCL.out _ hb5
  have HP5 := Lib.hid (H4.out.below hb5)
  clear hb5
  go_wp2
  go_ret
  have h5 := HP5.out
  have hba := HBA.out
  have f0 := (h5.parts a ((⟨5, [], wu, 0, 0⟩ : Bo).pt num) (Hp.begun_own hba)).2
  have H1 := h5.setPt (q := { (⟨5, [], wu, 0, 0⟩ : Bo).pt num with c := sg }) (Hp.begun_own hba) 12 (.int .u8 (sg.toNat : Nat)) (fun _ _ => rfl) rfl rfl ⟨f0.kids, f0.ls, f0.a, f0.z0, f0.z1, f0.k, f0.n, f0.m, f0.need, f0.cnt, f0.ind, f0.len⟩
  have H2 := H1.setPt (q := { (⟨5, [], wu, 0, 0⟩ : Bo).pt num with c := sg, cnt := lv }) (Hp.set_eq _ _ _) 13 (.int .i64 (lv : Nat)) (fun _ _ => rfl) rfl rfl ⟨f0.kids, f0.ls, f0.a, f0.z0, f0.z1, f0.k, f0.n, f0.m, f0.need, by show lv ≤ 100000; have := HNL.out; omega, f0.ind, f0.len⟩
  have H3 := H2.setPt (q := { (⟨5, [], wu, 0, 0⟩ : Bo).pt num with c := sg, cnt := lv, ind := S.r.ind }) (Hp.set_eq _ _ _) 14 (.int .i64 (S.r.ind : Nat)) (fun _ _ => rfl) rfl rfl ⟨f0.kids, f0.ls, f0.a, f0.z0, f0.z1, f0.k, f0.n, f0.m, f0.need, by show lv ≤ 100000; have := HNL.out; omega, by show S.r.ind ≤ 100000; have := HND.out; omega, f0.len⟩
  have e : (((S.H.begun b a pb ((⟨5, [], wu, 0, 0⟩ : Bo).pt num)).set a { (⟨5, [], wu, 0, 0⟩ : Bo).pt num with c := sg }).set a { (⟨5, [], wu, 0, 0⟩ : Bo).pt num with c := sg, cnt := lv }).set a { (⟨5, [], wu, 0, 0⟩ : Bo).pt num with c := sg, cnt := lv, ind := S.r.ind } = S.H.begun b a pb { (⟨5, [], wu, 0, 0⟩ : Bo).pt num with c := sg, cnt := lv, ind := S.r.ind } := by
   rw [Hp.set_set, Hp.set_set, Hp.begun_set hba]
  have e2 := congrArg (fun H => ({ S.beg (L.place false).length a b pb ((⟨5, [], wu, 0, 0⟩ : Bo).pt num) v4 with H := H } : PS)) e
  have H4' : PM w0 (((w5.setCell ⟨a, 12, none⟩ (.int .u8 (sg.toNat : Nat))).setCell ⟨a, 13, none⟩ (.int .i64 (lv : Nat))).setCell ⟨a, 14, none⟩ (.int .i64 (S.r.ind : Nat))) P tag4 (S.beg (L.place false).length a b pb { (⟨5, [], wu, 0, 0⟩ : Bo).pt num with c := sg, cnt := lv, ind := S.r.ind } v4) := by
   have e3 : S.beg (L.place false).length a b pb { (⟨5, [], wu, 0, 0⟩ : Bo).pt num with c := sg, cnt := lv, ind := S.r.ind } v4 = _ := e2.symm
   rw [e3]
   exact H3
  refine ⟨rfl, _, _, _, (HP3.out.opened (l := { nilL with k := 5, fen := true, c := sg, cnt := lv, need := S.r.ind, t := wu }) HA.out HB.out HPB.out H4' ⟨rfl, rfl, rfl, rfl, rfl, rfl, (by show (num : Int) = zOf 5 [] num; rfl), rfl, rfl, (decide_eq_true HZ.out).symm, fun _ => ⟨rfl, rfl, rfl, rfl⟩, .inl rfl, (by intro e; cases e)⟩ (.inl rfl) (by intro e; cases e)).1⟩
 ·have b0 : lv = 0 := by omega
  subst b0
  rw [if_neg hz, decide_eq_false hz]
  clear hat htr h HL hr hal kl hz k6 hind
  unfold ptr str agg at *
  go_enter Tryz.func64, Tryz.ntmps64
  go_wp2_with fail
  refine (HBH.out _ (Below.refl _ _)).mono ?_
  rintro e w1 ⟨rfl, hb1⟩
  go_wp2_with fail
  refine (HAT.out _ hb1).mono ?_
  rintro e w2 ⟨rfl, hb2⟩
  have HE := Lib.hid (HPL.out.below hb2)
  clear hb1 hb2
  go_wp2
  go_ret
  exact ⟨rfl, _, _, _, HE.out.more (M := N + 2) (by omega)⟩
theorem open_html {L : Ln} {i k : Nat} {s : Str} (hb : blank s = false) (hs : L.r.s = s) : takes X i (L.open i { nilL with k := 6, n := k }) =
  (true, if X.ends s k = true then L.lay i fun i => .mk 6 [] [] k 0 false false [s] i i [] else L.open i { nilL with k := 6, n := k, ls := [s] }) := by
 subst hs
 rw [takes_html (l := { nilL with k := 6, n := k, a := i, z := i }) rfl rfl rfl]
 have hb' : ¬ blank L.r.s = true := by rw [hb]; exact Bool.false_ne_true
 have e1 : (L.open i { nilL with k := 6, n := k }).add i L.r.s = L.open i { nilL with k := 6, n := k, ls := [L.r.s] } := by
  rw [add_leaf (l := { nilL with k := 6, n := k, a := i, z := i }) rfl]
  unfold Lf.take
  rw [if_neg hb']
  rfl
 show (if X.ends L.r.s k = true then (if blank L.r.s = true then (false, _) else (true, ((L.open i { nilL with k := 6, n := k }).add i L.r.s).shut)) else (true, (L.open i { nilL with k := 6, n := k }).add i L.r.s)) = _
 rw [e1, if_neg hb']
 split
 ·rfl
 ·rfl
def htmls (X : Scan Rf.Rb) (L : Ln) : Bool := decide (0 < X.html L.r.aft) && !(decide (X.html L.r.aft = 7) && L.goes)
set_option maxHeartbeats 8000000 in
theorem beginsHtml_any (HL : Low w0 X) (h : PL X w0 w P mask num sgn N L tag S hi) (hbl : blank L.r.s = false) (hN : N + 4 ≤ 1000000) :
  Calls Tryz.prog 65 #[ptr P] w fun e w' => e = .returned (.bool (htmls X L)) ∧ PLx X w0 w' P mask num sgn (N + 4) (if htmls X L = true then (if X.ends L.r.s (X.html L.r.aft) = true then L.lay num fun i => .mk 6 [] [] (X.html L.r.aft) 0 false false [L.r.s] i i [] else L.open num { nilL with k := 6, n := X.html L.r.aft, ls := [L.r.s] }) else L) := by
 have hr : L.r = S.r := h.abs.r
 have hoh := open_html (X := X) (L := L) (i := num) (k := X.html L.r.aft) hbl rfl
 have hal := aft_len h.pm
 obtain ⟨k6, hat⟩ := HL.html S.r.aft (by omega)
 have HPL := Lib.hid h
 have HLL := Lib.hid HL
 have HBH := Lib.hid (fun W (hW : Below w.heap.size w W) => (behind_any (h.pm.below hW)).at hW)
 have HAT := Lib.hid (fun W (hW : Below w.heap.size w W) => hat.at h.pm.low hW)
 have HPA := Lib.hid (fun W (hW : Below w.heap.size w W) => (para_any (h.pm.below hW) h.abs).at hW)
 rw [← hr] at HBH HAT k6
 have hhd : htmls X L = (decide (0 < X.html L.r.aft) && !(decide (X.html L.r.aft = 7) && L.goes)) := rfl
 generalize X.ends L.r.s (X.html L.r.aft) = en at *
 generalize X.html L.r.aft = lv at *
 generalize L.r.aft = af at *
 have HLN : Hid (∀ W, Below w.heap.size w W → Calls Tryz.prog 71 #[ptr P, agg 6 [] [] (lv : Nat) 0] W fun e w' => ∃ a b pb tag' v, e = .returned (ptr a) ∧ W.heap.size ≤ a ∧ S.op[(L.place false).length - 1]? = some b ∧ S.H b = some pb ∧ PM w0 w' P tag' (S.beg (L.place false).length a b pb ((⟨6, [], [], lv, 0⟩ : Bo).pt num) v)) :=
  Lib.hid (fun W hW => begin_pl (h.below hW) ⟨6, [], [], lv, 0⟩ ⟨by show 6 ≤ 30; decide, by show lv ≤ _; omega, by show 0 ≤ 255; decide, by show ¬ ((6 : Nat) = 1); decide⟩ (by omega))
 obtain ⟨LX, hLX⟩ : ∃ LX, (if en = true then L.lay num (fun i => .mk 6 [] [] lv 0 false false [L.r.s] i i []) else L.open num { nilL with k := 6, n := lv, ls := [L.r.s] }) = LX := ⟨_, rfl⟩
 rw [hLX] at hoh ⊢
 clear hLX
 have HOH := Lib.hid hoh
 have HLV := Lib.hid k6
 cases hq : htmls X L with
 | true =>
  rw [hq] at hhd
  rw [if_pos rfl]
  have hlv : 0 < lv := by
   by_cases h0 : 0 < lv
   ·exact h0
   ·rw [decide_eq_false h0] at hhd; cases hhd
  have HLV0 := Lib.hid hlv
  have b0 : ¬ (lv : Int) = 0 := by omega
  have b1 : ((lv : Int) == 0) = false := by rw [beq_eq_false_iff_ne]; exact b0
  have b2 : decide ((lv : Int) = 0) = false := decide_eq_false b0
  have b3 : ¬ lv = 0 := by omega
  obtain ⟨tq, htq⟩ : ∃ tq, decide (lv = 7) = tq := ⟨_, rfl⟩
  have hgt : tq = true → L.goes = false := fun e => by
   rw [htq, e, decide_eq_true hlv] at hhd
   cases hg : L.goes with
   | false => rfl
   | true => rw [hg] at hhd; cases hhd
  rw [show L.goes = L.goes from rfl] at hgt
  have HGT := Lib.hid hgt
  clear hat h HL hr hal k6 hbl hoh hhd hq hgt hlv
  unfold ptr str agg at *
  go_enter Tryz.func65, Tryz.ntmps65
  go_wp2_with fail
  refine (HBH.out _ (Below.refl _ _)).mono ?_
  rintro e w1 ⟨rfl, hb1⟩
  go_wp2_with fail
  refine (HAT.out _ hb1).mono ?_
  rintro e w2 ⟨rfl, hb2⟩
  clear hb1
  have HB2 := Lib.hid hb2
  clear hb2
  go_upto_region 2 with fail
  go_cut [19] (fun v19 wx => v19 = .bool false ∧ Below w.heap.size w wx)
  case first =>
   cases tq with
   | true =>
    have hl7 : lv = 7 := of_decide_eq_true htq
    subst hl7
    have HP := Lib.hid (HPA.out _ HB2.out)
    rw [HGT.out rfl, if_neg Bool.false_ne_true] at HP
    clear htq
    go_wp2_with fail
    refine HP.out.mono ?_
    rintro e w3 ⟨rfl, hb3⟩
    have HB3 := Lib.hid hb3
    clear hb3
    go_wp2
    go_meet
    exact ⟨rfl, HB3.out⟩
   | false =>
    have c0 : ¬ lv = 7 := of_decide_eq_false htq
    have c1 : ¬ (lv : Int) = 7 := by omega
    have c2 : ((lv : Int) == 7) = false := by rw [beq_eq_false_iff_ne]; exact c1
    have c3 : decide ((lv : Int) = 7) = false := decide_eq_false c1
    clear htq
    go_wp2
    go_meet
    exact ⟨rfl, HB2.out⟩
  obtain ⟨rfl, hb3⟩ := hcut
  have HP3 := Lib.hid (HPL.out.below hb3)
  have HL3 := Lib.hid (HLN.out _ hb3)
  clear hb3
  go_wp2_with fail
  refine HL3.out.mono ?_
  rintro e w4 ⟨a, b, pb, tag4, v4, rfl, ha, kb, kpb, h4⟩
  obtain ⟨k1, k2, k3⟩ := HP3.out.opened (l := { nilL with k := 6, n := lv }) ha kb kpb h4 ⟨rfl, rfl, rfl, rfl, rfl, rfl, (by show (num : Int) = zOf 6 [] num; rfl), rfl, rfl, rfl, (by intro e; cases e), .inr (.inl rfl), (by intro e; cases e)⟩ (.inr (.inl rfl)) (fun _ => ⟨HLV0.out, HLV.out⟩)
  have HHT := Lib.hid (htmlTakes_any HLL.out k1 rfl (l := { nilL with k := 6, n := lv, a := num, z := num }) rfl rfl (by omega))
  rw [k2, HOH.out] at HHT
  clear k1 k2 k3 ha kb kpb h4
  unfold ptr at *
  go_wp2_with fail
  refine HHT.out.mono ?_
  rintro e w5 ⟨rfl, t5, s5, h5', h5⟩
  have H5 := Lib.hid h5
  clear h5
  go_wp2
  go_ret
  exact ⟨rfl, _, _, _, H5.out.more (M := N + 4) (by omega)⟩
 | false =>
  rw [hq] at hhd
  rw [if_neg Bool.false_ne_true]
  by_cases h0 : 0 < lv
  ·rw [decide_eq_true h0] at hhd
   have hl7 : lv = 7 := by
    by_cases h7 : lv = 7
    ·exact h7
    ·rw [decide_eq_false h7] at hhd; cases hhd
   subst hl7
   have hg : L.goes = true := by
    cases hg : L.goes with
    | true => rfl
    | false => rw [hg] at hhd; cases hhd
   rw [hg, if_pos rfl] at HPA
   clear hat h HL hr hal k6 hbl hoh hhd hq h0 hg
   unfold ptr str agg at *
   go_enter Tryz.func65, Tryz.ntmps65
   go_wp2_with fail
   refine (HBH.out _ (Below.refl _ _)).mono ?_
   rintro e w1 ⟨rfl, hb1⟩
   go_wp2_with fail
   refine (HAT.out _ hb1).mono ?_
   rintro e w2 ⟨rfl, hb2⟩
   clear hb1
   go_wp2_with fail
   refine (HPA.out _ hb2).mono ?_
   rintro e w3 ⟨rfl, hb3⟩
   have HE := Lib.hid (HPL.out.below hb3)
   clear hb2 hb3
   go_wp2
   go_ret
   exact ⟨rfl, _, _, _, HE.out.more (M := N + 4) (by omega)⟩
  ·have b0 : lv = 0 := by omega
   subst b0
   clear hat h HL hr hal k6 hbl hoh hhd hq h0
   unfold ptr str agg at *
   go_enter Tryz.func65, Tryz.ntmps65
   go_wp2_with fail
   refine (HBH.out _ (Below.refl _ _)).mono ?_
   rintro e w1 ⟨rfl, hb1⟩
   go_wp2_with fail
   refine (HAT.out _ hb1).mono ?_
   rintro e w2 ⟨rfl, hb2⟩
   have HE := Lib.hid (HPL.out.below hb2)
   clear hb1 hb2
   go_wp2
   go_ret
   exact ⟨rfl, _, _, _, HE.out.more (M := N + 4) (by omega)⟩
end
end Bk
end Go.Proofs.YtkiipaaaakhhfaaGreatDoor
end
section
namespace Go.Proofs.YtkiipaaaakhhfaaGreatDoor
open Go Go.RowKit
namespace Bk
set_option maxRecDepth 100000
set_option linter.unusedVariables false
set_option linter.unusedSimpArgs false
theorem head_at {H H' : Hp} {l : Lf} {b : B} : ∀ {ms : List Fr} {av : List Nat} {lo hi : Nat}, ms ≠ [] → OpenAt H ms (some l) av lo hi →
  (∀ x, av.getLast? ≠ some x → H' x = H x) → (∀ x hi', av.getLast? = some x → x < hi' → TreeAt H' b x hi') → OpenAt H' (onLast (grow [b]) ms) none (av.take ms.length) lo hi
 | [], _, _, _, h, _, _, _ => absurd rfl h
 | [f], av, lo, hi, _, h, h1, h2 => by
  obtain ⟨c, av1, p, ks, mid, rfl, k1, k2, k3, k4, k5, x, px, rfl, k6, k7, k8, k9⟩ := h
  have k8 := k5.le
  have hl : (c :: [x]).getLast? = some x := rfl
  rw [hl] at h1
  rw [onLast_cons, if_pos rfl]
  refine ⟨c, [], p, ks ++ [x], hi, rfl, k1, (h1 c (fun e => by injection e; omega)).trans k2, ⟨k3.k, k3.s, k3.t, k3.n, k3.m, k3.need, k3.a, k3.z, k3.ls, k3.cnt, k3.cont⟩, by rw [k4]; simp, ?_, rfl, Nat.le_refl _⟩
  exact (k5.congr fun y hy hy' => h1 y (fun e => by injection e; omega)).app (KidsAt.one (h2 x hi hl k7) k6)
 | f :: g :: ms, av, lo, hi, _, h, h1, h2 => by
  obtain ⟨c, av1, p, ks, mid, rfl, k1, k2, k3, k4, k5, k6⟩ := h
  have k8 := k5.le
  have k9 := k6.le
  have hl := k6.len
  have hne : av1 ≠ [] := by
   intro e; rw [e] at hl; simp at hl
  have hgl : (c :: av1).getLast? = av1.getLast? := by
   cases av1 with
   | nil => exact absurd rfl hne
   | cons x xs => exact List.getLast?_cons_cons
  rw [hgl] at h1 h2
  have hlast : ∀ x, av1.getLast? = some x → mid ≤ x := fun x e => (k6.mem x (List.mem_of_getLast? e)).1
  rw [onLast_cons, if_neg (by simp)]
  refine ⟨c, av1.take (g :: ms).length, p, ks, mid, by simp, k1, (h1 c (fun e => by have := hlast c e; omega)).trans k2, k3, ?_, k5.congr fun y hy hy' => h1 y (fun e => by have := hlast y e; omega), head_at (by simp) k6 h1 h2⟩
  rw [k4]
  cases av1 with
  | nil => exact absurd rfl hne
  | cons x xs => rfl
def headOf (X : Scan Rf.Rb) (i : Nat) (L : Ln) (l : Lf) : Ln := { L with ms := onLast (grow [.mk 8 [] [] (X.setx L.r.aft) 0 false true l.ls l.a i []]) L.ms, leaf := none }
theorem Abs.head {S S' : PS} {L : Ln} {hi : Nat} (h : Abs S L hi) {b : B} {q : Pt} {l : Lf} (hu : L.us = []) (hl : L.leaf = some l) (hq : ∀ (H : Hp) hi', H (lastP S) = some q → lastP S < hi' → TreeAt H b (lastP S) hi')
  (e1 : S'.op = S.op.take S.met) (e2 : S'.met = S.met) (e3 : S'.H = S.H.set (lastP S) q) (e4 : S'.r = S.r) : Abs S' { L with ms := onLast (grow [b]) L.ms, leaf := none } hi := by
 obtain ⟨p, g1, g2, g3⟩ := h.leaf hl
 have ho := h.op
 rw [hl, hu, List.append_nil] at ho
 refine ⟨?_, fun e => h.ne ((onLast_ne _ _).1 e), ?_, by rw [e4]; exact h.r⟩
 ·show OpenAt S'.H (onLast (grow [b]) L.ms ++ L.us) none S'.op 0 hi
  rw [hu, List.append_nil, e1, e3, h.met]
  refine head_at h.ne ho (fun x hx => Hp.set_ne _ _ (fun e => hx (by rw [e]; exact g1))) (fun x hi' hx hh => ?_)
  rw [g1] at hx
  injection hx with hx
  subst hx
  exact hq _ hi' (Hp.set_eq _ _ _) hh
 ·rw [e2, h.met]
  show _ = (onLast _ L.ms).length
  rw [onLast_len]
theorem lib_lines (L : List Str) : Lib.join L [10] = lines L := by
 induction L with
 | nil => rfl
 | cons x t ih =>
  cases t with
  | nil => exact Lib.join_one x [10]
  | cons y u =>
   rw [Lib.join_cons] at ih ⊢
   show _ = x ++ 10 :: lines (y :: u)
   rw [← ih]
   simp [Lib.joinTail]
section
variable {w0 w w' : World} {P a b hi num sgn N : Nat} {mask : Int} {tag tag' : Tag} {S : PS} {p pb q q' : Pt} {L : Ln} {X : Scan Rf.Rb} {v : Value}
theorem joined_any {ls : List Str} {lv : Value} (hr : RowW w 9 lv (ls.map str)) (hlen : (lines ls).length ≤ 1000000000) (hn : ls.length ≤ 1000000) :
  Calls Tryz.prog 118 #[lv, .string ⟨#[10]⟩] w fun e w' => e = .returned (str (lines ls)) ∧ Below w.heap.size w w' := by
 by_cases hne : ls = []
 ·subst hne
  obtain ⟨a, c, e, -⟩ := hr.form
  rw [e]
  refine (Tryz.strings_Join_none a c _ w).mono ?_
  rintro e w1 ⟨rfl, rfl⟩
  exact ⟨rfl, Below.refl _ _⟩
 ·obtain ⟨g, cap, e, h1, h2, h3⟩ := hr.at (by simpa using hne)
  have hlt := hr.lt g (by rw [e]; rfl)
  rw [List.length_map] at e h1
  have hx : (ls.map fun s => (⟨s.toArray⟩ : ByteArray)).map (·.data.toList) = ls := by
   rw [List.map_map]
   conv => rhs; rw [← List.map_id ls]
   rfl
  have key := Tryz.strings_Join g 0 cap (ls.map fun s => ⟨s.toArray⟩) ⟨#[10]⟩ w (fun j x hj => by
   rw [List.getElem?_map] at hj
   rw [Nat.zero_add]
   refine h3 j _ ?_
   rw [List.getElem?_map]
   cases hs : ls[j]? with
   | none => rw [hs] at hj; cases hj
   | some s =>
    rw [hs] at hj
    injection hj with hj
    rw [← hj]
    rfl) hlt (by rw [List.length_map]; omega) (by rw [List.length_map]; exact h1) (by rw [hx]; show (Lib.join ls [10]).length ≤ _; rw [lib_lines]; omega)
  rw [hx, List.length_map] at key
  rw [e]
  refine key.mono ?_
  rintro e w1 ⟨rfl, hb⟩
  refine ⟨?_, hb⟩
  show Ending.returned (.string ⟨(Lib.join ls [10]).toArray⟩) = _
  rw [lib_lines]
  rfl
set_option maxHeartbeats 4000000 in
theorem words_raw (HL : Low w0 X) (hb : Below w0.heap.size w0 w) {ls : List Str} {lv : Value} (hc : w.cell? ⟨a, 10, none⟩ = some lv) (hr : RowW w 9 lv (ls.map str)) (hlen : (lines ls).length ≤ 1000000000) (hn : ls.length ≤ 1000000) :
  Calls Tryz.prog 82 #[ptr a] w fun e w' => e = .returned (str (bodyT ls)) ∧ Below w.heap.size w w' := by
 have HJ := Lib.hid (joined_any hr hlen hn)
 have HT := Lib.hid (fun W (hW : Below w.heap.size w W) => (HL.trimR (lines ls) hlen).at hb hW)
 obtain ⟨ao, co, e8, _⟩ := hr.form
 subst e8
 clear hr hb HL hlen hn
 generalize (ls.map str).length = n8 at *
 unfold ptr str at *
 go_enter Tryz.func82, Tryz.ntmps82
 go_wp2_with fail
 refine HJ.out.mono ?_
 rintro e w1 ⟨rfl, hb1⟩
 go_wp2_with fail
 refine (HT.out _ hb1).mono ?_
 rintro e w2 ⟨rfl, hb2⟩
 have HB := Lib.hid hb2
 clear hb1 hb2
 go_wp2
 go_ret
 exact ⟨rfl, HB.out⟩
theorem goes_leaf {L : Ln} (h : L.goes = true) : ∃ l, L.leaf = some l ∧ l.k = 7 := by
 unfold Ln.goes isK at h
 cases hl : L.leaf with
 | none => rw [hl] at h; cases h
 | some l => rw [hl] at h; exact ⟨l, rfl, by simpa using h⟩
def heads (X : Scan Rf.Rb) (L : Ln) : Bool := decide (0 < X.setx L.r.aft) && L.us.isEmpty && L.goes && setRest X L
def headed (X : Scan Rf.Rb) (i : Nat) (L : Ln) : Ln := match L.leaf with
 | none => L
 | some l => headOf X i L l
def ParaFit (L : Ln) : Prop := ∀ l, L.leaf = some l → l.k = 7 → (lines l.ls).length ≤ 100000 ∧ l.t = []
theorem in_head {i : Nat} (h : InL i L) {l : Lf} (hl : L.leaf = some l) (hu : L.us = []) : InL i (headOf X i L l) := by
 have h1 := h.1
 rw [hl, hu, List.append_nil] at h1
 refine ⟨?_, fun e => h.2 ((onLast_ne _ _).1 e)⟩
 show wPath (onLast (grow [.mk 8 [] [] (X.setx L.r.aft) 0 false true l.ls l.a i []]) L.ms ++ L.us) none 0 (i + 1) 0
 rw [hu, List.append_nil]
 have key : ∀ {ms : List Fr} {a p : Nat}, ms ≠ [] → wPath ms (some l) a (i + 1) p → wPath (onLast (grow [.mk 8 [] [] (X.setx L.r.aft) 0 false true l.ls l.a i []]) ms) none a (i + 1) p := by
  intro ms
  induction ms with
  | nil => intro a p e; exact absurd rfl e
  | cons f ms ih =>
   intro a p _ h
   obtain ⟨k1, k2, k3, k4, k5, k6⟩ := h
   rw [onLast_cons]
   by_cases hm : ms = []
   ·subst hm
    rw [if_pos rfl]
    refine ⟨k1, k2, k3, k4, (wAll_app _ _ _ _ _).2 ⟨k5, ?_⟩, trivial⟩
    obtain ⟨j1, j2, j3, j4, j5, j6⟩ := k6
    rw [wAll_cons, wOne_mk]
    exact ⟨⟨j4, by omega, by omega, j1, .inr ⟨by decide, by decide, j2, rfl⟩, wAll_nil _ _ _⟩, wAll_nil _ _ _⟩
   ·rw [if_neg hm]
    exact ⟨k1, k2, k3, k4, k5, ih hm k6⟩
 exact key h.2 h1
theorem words_at (HL : Low w0 X) (h : PM w0 w P tag S) (hp : S.H a = some p) (hlen : (lines p.ls).length ≤ 100000) : ∀ W, Below w.heap.size w W →
  Calls Tryz.prog 82 #[ptr a] W fun e w' => e = .returned (str (bodyT p.ls)) ∧ Below w.heap.size w w' := fun W hW => by
 have h' := h.below hW
 obtain ⟨pv, lv, hpc, -⟩ := (h'.parts a p hp).1.cells
 have hf := (h'.parts a p hp).2.ls
 have hc := h'.cap
 exact (words_raw HL h'.low hpc.c10 hpc.lines (by omega) (by omega)).mono fun e w' ⟨h1, h2⟩ => ⟨h1, below_later hW h2⟩
set_option maxHeartbeats 8000000 in
theorem becomesHead_any (HL : Low w0 X) (h : PL X w0 w P mask num sgn N L tag S hi) (hpf : ParaFit L) :
  Calls Tryz.prog 66 #[ptr P] w fun e w' => e = .returned (.bool (heads X L)) ∧ PLx X w0 w' P mask num sgn N (if heads X L = true then headed X num L else L) := by
 have hr : L.r = S.r := h.abs.r
 have hal := aft_len h.pm
 obtain ⟨k6, hat⟩ := HL.setx S.r.aft (by omega)
 have HPL := Lib.hid h
 have HLL := Lib.hid HL
 have HBH := Lib.hid (fun W (hW : Below w.heap.size w W) => (behind_any (h.pm.below hW)).at hW)
 have HAT := Lib.hid (fun W (hW : Below w.heap.size w W) => hat.at h.pm.low hW)
 have HPA := Lib.hid (fun W (hW : Below w.heap.size w W) => (para_any (h.pm.below hW) h.abs).at hW)
 have HAM := Lib.hid (fun W (hW : Below w.heap.size w W) => (allMet_any (h.pm.below hW) h.abs).at hW)
 rw [← hr] at HBH HAT k6
 have HPF := Lib.hid hpf
 by_cases hg : L.goes = true ∧ L.us.isEmpty = true ∧ 0 < X.setx L.r.aft
 ·obtain ⟨hg1, hg2, hg3⟩ := hg
  obtain ⟨l, hl, hl7⟩ := goes_leaf hg1
  obtain ⟨p, g1, g2, g3⟩ := h.abs.leaf hl
  have hpls := g3.ls
  obtain ⟨hfit, hlt⟩ := hpf l hl hl7
  have HLT := Lib.hid hlt
  have hsr : setRest X L = !(X.defs (bodyT l.ls)).2.isEmpty := by
   unfold setRest
   rw [hl]
  have hhe : heads X L = !(X.defs (bodyT l.ls)).2.isEmpty := by
   unfold heads
   rw [hg1, hg2, decide_eq_true hg3, hsr]
   rfl
  have hhd : headed X num L = headOf X num L l := by
   unfold headed
   rw [hl]
  have hHO := show headOf X num L l = _ from rfl
  rw [hhe, hhd]
  rw [if_pos hg1] at HPA
  rw [hg2] at HAM
  have HWD := Lib.hid (words_at HL h.pm g2 (by rw [hpls]; exact hfit))
  rw [hpls] at HWD
  have hbl : (bodyT l.ls).length ≤ 100000 := by
   unfold bodyT
   have := Cl.rgt_len (lines l.ls)
   omega
  have HDF := Lib.hid (fun W (hW : Below w.heap.size w W) => (HL.all (bodyT l.ls) W hbl (below_later h.pm.low hW)))
  have HBA : Hid (∀ W, Below w.heap.size w W → ∃ x0 x3 x7, W.cell? ⟨lastP S, 0, none⟩ = some x0 ∧ W.cell? ⟨lastP S, 3, none⟩ = some x3 ∧ W.cell? ⟨lastP S, 7, none⟩ = some x7 ∧ W.cell? ⟨P, 2, none⟩ = W.cell? ⟨P, 2, none⟩ ∧ ∀ k, W.frozen? ⟨lastP S, k, none⟩ = false) := Lib.hid (fun W hW => by
   obtain ⟨pv, lv, hpc, -⟩ := ((h.pm.below hW).parts _ p g2).1.cells
   exact ⟨_, _, _, hpc.c0, hpc.c3, hpc.c7, rfl, hpc.fr⟩)
  have HC6 := Lib.hid (fun W (hW : Below w.heap.size w W) => (keep_cell hW h.pm.cellsV.c6 : W.cell? ⟨P, 6, none⟩ = some (.int .i64 (S.num : Nat))))
  obtain ⟨dq, hdq⟩ : ∃ dq, (X.defs (bodyT l.ls)).2 = dq := ⟨_, rfl⟩
  rw [hdq] at HDF ⊢
  have b0 : ¬ (X.setx L.r.aft : Int) = 0 := by omega
  have b1 : ((X.setx L.r.aft : Int) == 0) = false := by rw [beq_eq_false_iff_ne]; exact b0
  have b2 : decide ((X.setx L.r.aft : Int) = 0) = false := decide_eq_false b0
  have b3 : ¬ X.setx L.r.aft = 0 := by omega
  have HK6 := Lib.hid k6
  have HLF := Lib.hid hl
  have HG2 := Lib.hid g2
  have HG3 := Lib.hid g3
  have HL7 := Lib.hid hl7
  have HUS : Hid (L.us = []) := Lib.hid (by simpa using hg2)
  obtain ⟨sx, hsx⟩ : ∃ sx, X.setx L.r.aft = sx := ⟨_, rfl⟩
  have HSX := Lib.hid hsx
  rw [hsx] at HAT HK6 b0 b1 b2 b3
  obtain ⟨LX, hLX⟩ : ∃ LX, headOf X num L l = LX := ⟨_, rfl⟩
  have HLX := Lib.hid hLX
  have HIN := Lib.hid (in_head (X := X) h.inl hl (by simpa using hg2))
  have hmp : 0 < S.met := by rw [h.abs.met]; exact List.length_pos_iff.2 h.abs.ne
  have HMP := Lib.hid hmp
  rw [hLX] at HIN ⊢
  clear hat h HL hr hal k6 hpf hg1 hg2 hg3 hl hl7 g1 g2 g3 hpls hfit hlt hsr hhe hhd hHO hbl hdq hsx hLX hmp
  generalize L.r.aft = af at HBH HAT
  cases dq with
  | nil =>
   show Calls Tryz.prog 66 #[ptr P] w fun e w' => e = .returned (.bool false) ∧ PLx X w0 w' P mask num sgn N L
   unfold ptr str at *
   go_enter Tryz.func66, Tryz.ntmps66
   go_wp2_with fail
   refine (HBH.out _ (Below.refl _ _)).mono ?_
   rintro e w1 ⟨rfl, hb1⟩
   go_wp2_with fail
   refine (HAT.out _ hb1).mono ?_
   rintro e w2 ⟨rfl, hb2⟩
   clear hb1
   go_wp2_with fail
   refine (HPA.out _ hb2).mono ?_
   rintro e w3 ⟨rfl, hb3⟩
   clear hb2
   go_wp2_with fail
   refine (HAM.out _ hb3).mono ?_
   rintro e w4 ⟨rfl, hb4⟩
   clear hb3
   go_wp2_with fail
   refine (HWD.out _ hb4).mono ?_
   rintro e w5 ⟨rfl, hb5⟩
   clear hb4
   go_wp2_with fail
   refine (HDF.out _ hb5).mono ?_
   rintro e w6 ⟨v6, rfl, -, hb6⟩
   have HE := Lib.hid (HPL.out.below (below_later hb5 hb6))
   clear hb5 hb6
   go_wp2
   go_ret
   exact ⟨rfl, _, _, _, HE.out⟩
  | cons c t =>
   show Calls Tryz.prog 66 #[ptr P] w fun e w' => e = .returned (.bool true) ∧ PLx X w0 w' P mask num sgn N LX
   unfold ptr str at *
   go_enter Tryz.func66, Tryz.ntmps66
   go_wp2_with fail
   refine (HBH.out _ (Below.refl _ _)).mono ?_
   rintro e w1 ⟨rfl, hb1⟩
   go_wp2_with fail
   refine (HAT.out _ hb1).mono ?_
   rintro e w2 ⟨rfl, hb2⟩
   clear hb1
   go_wp2_with fail
   refine (HPA.out _ hb2).mono ?_
   rintro e w3 ⟨rfl, hb3⟩
   clear hb2
   go_wp2_with fail
   refine (HAM.out _ hb3).mono ?_
   rintro e w4 ⟨rfl, hb4⟩
   clear hb3
   go_wp2_with fail
   refine (HWD.out _ hb4).mono ?_
   rintro e w5 ⟨rfl, hb5⟩
   clear hb4
   go_wp2_with fail
   refine (HDF.out _ hb5).mono ?_
   rintro e w6 ⟨v6, rfl, -, hb6⟩
   have hb7 := below_later hb5 hb6
   have HE := Lib.hid (HPL.out.below hb7)
   obtain ⟨x0, x3, x7, y0, y3, y7, -, fr⟩ := HBA.out _ hb7
   have c6 := HC6.out _ hb7
   clear hb5 hb6 hb7
   have f0 := (HE.out.pm.parts _ _ HG2.out).2
   have hn9 := HE.out.pm.num
   have H1 := HE.out.pm.setPt (q := { p with k := 8 }) HG2.out 0 (.int .i64 8) (fun _ _ => rfl) rfl rfl ⟨f0.kids, f0.ls, f0.a, f0.z0, f0.z1, by show 8 ≤ 30; decide, f0.n, f0.m, f0.need, f0.cnt, f0.ind, f0.len⟩ (fun h => absurd (show (8 : Nat) = 1 from h) (by decide))
   have H2 := H1.setPt (q := { p with k := 8, n := sx }) (Hp.set_eq _ _ _) 3 (.int .i64 (sx : Nat)) (fun _ _ => rfl) rfl rfl ⟨f0.kids, f0.ls, f0.a, f0.z0, f0.z1, by show 8 ≤ 30; decide, by show sx ≤ 1000000000; have := HK6.out; omega, f0.m, f0.need, f0.cnt, f0.ind, f0.len⟩
   have H3 := H2.setPt (q := { p with k := 8, n := sx, z := (S.num : Int) }) (Hp.set_eq _ _ _) 7 (.int .i64 (S.num : Nat)) (fun _ _ => rfl) rfl rfl ⟨f0.kids, f0.ls, f0.a, by show (-1 : Int) ≤ (S.num : Int); omega, by show (S.num : Int) ≤ 1000; omega, by show 8 ≤ 30; decide, by show sx ≤ 1000000000; have := HK6.out; omega, f0.m, f0.need, f0.cnt, f0.ind, f0.len⟩
   have e2 : ({ S with H := ((S.H.set (lastP S) { p with k := 8 }).set (lastP S) { p with k := 8, n := sx }).set (lastP S) { p with k := 8, n := sx, z := (S.num : Int) } } : PS) = { S with H := S.H.set (lastP S) { p with k := 8, n := sx, z := (S.num : Int) } } := by
    rw [Hp.set_set, Hp.set_set]
   have H4 : PM w0 (((w6.setCell ⟨lastP S, 0, none⟩ (.int .i64 8)).setCell ⟨lastP S, 3, none⟩ (.int .i64 (sx : Nat))).setCell ⟨lastP S, 7, none⟩ (.int .i64 (S.num : Nat))) P tag { S with H := S.H.set (lastP S) { p with k := 8, n := sx, z := (S.num : Int) } } := by
    rw [← e2]
    exact H3
   have HSH := Lib.hid (shut_any H4 HMP.out)
   clear H1 H2 H3 H4 e2 f0 hn9
   unfold ptr at HSH
   go_wp2_with fail
   refine HSH.out.mono ?_
   rintro e w8 ⟨rfl, ⟨v8, h8⟩, -⟩
   have H8 := Lib.hid h8
   clear h8 y0 y3 y7 c6
   go_wp2
   go_ret
   have hx := HPL.out
   refine ⟨rfl, _, _, hi, H8.out, ?_, hx.emask, hx.enum, hx.esgn, hx.eN, HIN.out, hx.sg, by rw [← HLX.out]; exact HtmlOk.none rfl⟩
   rw [← HLX.out]
   refine hx.abs.head HUS.out HLF.out (fun H hi' hH hlt => ?_) rfl rfl rfl rfl
   rw [TreeAt_mk]
   have g3 := HG3.out
   have hcnt : false = decide (0 < p.cnt) := by
    rw [← g3.fen]
    cases hf : l.fen with
    | false => rfl
    | true => have := (g3.code hf).2.2.2; have := HL7.out; omega
   refine ⟨_, hH, hlt, rfl, g3.s, g3.t.trans HLT.out, HSX.out.symm, g3.m, g3.a, ?_, g3.ls, hcnt, (by intro e; cases e), fun _ => ⟨fun _ => g3.para HL7.out, fun _ => rfl⟩, by rw [show ({ p with k := 8, n := sx, z := (S.num : Int) } : Pt).kids = [] from g3.kids]; exact KidsAt_nil.2 ⟨rfl, hlt⟩⟩
   show (S.num : Int) = zOf 8 l.ls num
   rw [hx.enum]
   rfl
 ·have hhe : heads X L = false := by
   unfold heads
   cases h1 : L.goes with
   | false => simp
   | true =>
    cases h2 : L.us.isEmpty with
    | false => simp
    | true =>
     by_cases h3 : 0 < X.setx L.r.aft
     ·exact absurd ⟨h1, h2, h3⟩ hg
     ·rw [decide_eq_false h3]; rfl
  rw [hhe, if_neg Bool.false_ne_true]
  obtain ⟨sx, hsx⟩ : ∃ sx, X.setx L.r.aft = sx := ⟨_, rfl⟩
  rw [hsx] at HAT hg k6
  have HG := Lib.hid hg
  obtain ⟨gq, hgq⟩ : ∃ gq, L.goes = gq := ⟨_, rfl⟩
  obtain ⟨uq, huq⟩ : ∃ uq, L.us.isEmpty = uq := ⟨_, rfl⟩
  rw [hgq] at HPA HG
  rw [huq] at HAM HG
  clear hat h HL hr hal hpf hg hsx hhe hgq huq
  generalize L.r.aft = af at *
  by_cases h0 : sx = 0
  ·subst h0
   cases gq with
   | true =>
    rw [if_pos rfl] at HPA
    unfold ptr str at *
    go_enter Tryz.func66, Tryz.ntmps66
    go_wp2_with fail
    refine (HBH.out _ (Below.refl _ _)).mono ?_
    rintro e w1 ⟨rfl, hb1⟩
    go_wp2_with fail
    refine (HAT.out _ hb1).mono ?_
    rintro e w2 ⟨rfl, hb2⟩
    clear hb1
    go_wp2_with fail
    refine (HPA.out _ hb2).mono ?_
    rintro e w3 ⟨rfl, hb3⟩
    clear hb2
    have HE := Lib.hid (HPL.out.below hb3)
    clear hb3
    go_wp2
    go_ret
    exact ⟨rfl, _, _, _, HE.out⟩
   | false =>
    rw [if_neg Bool.false_ne_true] at HPA
    unfold ptr str at *
    go_enter Tryz.func66, Tryz.ntmps66
    go_wp2_with fail
    refine (HBH.out _ (Below.refl _ _)).mono ?_
    rintro e w1 ⟨rfl, hb1⟩
    go_wp2_with fail
    refine (HAT.out _ hb1).mono ?_
    rintro e w2 ⟨rfl, hb2⟩
    clear hb1
    go_wp2_with fail
    refine (HPA.out _ hb2).mono ?_
    rintro e w3 ⟨rfl, hb3⟩
    clear hb2
    have HE := Lib.hid (HPL.out.below hb3)
    clear hb3
    go_wp2
    go_ret
    exact ⟨rfl, _, _, _, HE.out⟩
  ·have b0 : ¬ (sx : Int) = 0 := by omega
   have b1 : ((sx : Int) == 0) = false := by rw [beq_eq_false_iff_ne]; exact b0
   have b2 : decide ((sx : Int) = 0) = false := decide_eq_false b0
   cases gq with
   | true =>
    rw [if_pos rfl] at HPA
    cases uq with
    | true => exact absurd ⟨rfl, rfl, by omega⟩ HG.out
    | false =>
     unfold ptr str at *
     go_enter Tryz.func66, Tryz.ntmps66
     go_wp2_with fail
     refine (HBH.out _ (Below.refl _ _)).mono ?_
     rintro e w1 ⟨rfl, hb1⟩
     go_wp2_with fail
     refine (HAT.out _ hb1).mono ?_
     rintro e w2 ⟨rfl, hb2⟩
     clear hb1
     go_wp2_with fail
     refine (HPA.out _ hb2).mono ?_
     rintro e w3 ⟨rfl, hb3⟩
     clear hb2
     go_wp2_with fail
     refine (HAM.out _ hb3).mono ?_
     rintro e w4 ⟨rfl, hb4⟩
     have HE := Lib.hid (HPL.out.below hb4)
     clear hb3 hb4
     go_wp2
     go_ret
     exact ⟨rfl, _, _, _, HE.out⟩
   | false =>
    rw [if_neg Bool.false_ne_true] at HPA
    unfold ptr str at *
    go_enter Tryz.func66, Tryz.ntmps66
    go_wp2_with fail
    refine (HBH.out _ (Below.refl _ _)).mono ?_
    rintro e w1 ⟨rfl, hb1⟩
    go_wp2_with fail
    refine (HAT.out _ hb1).mono ?_
    rintro e w2 ⟨rfl, hb2⟩
    clear hb1
    go_wp2_with fail
    refine (HPA.out _ hb2).mono ?_
    rintro e w3 ⟨rfl, hb3⟩
    clear hb2
    have HE := Lib.hid (HPL.out.below hb3)
    clear hb3
    go_wp2
    go_ret
    exact ⟨rfl, _, _, _, HE.out⟩
end
end Bk
end Go.Proofs.YtkiipaaaakhhfaaGreatDoor
end
