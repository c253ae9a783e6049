import Derived.Test.YtkiipaaaakhhfaaGreatDoorCBk4
import Derived.Deep.Upon
import Derived.Deep.CutBlock
section
namespace Go.Proofs.YtkiipaaaakhhfaaGreatDoor
open Go Go.RowKit
namespace Bk
set_option maxRecDepth 100000
set_option linter.unusedVariables false
set_option linter.unusedSimpArgs false
section
variable {w0 w w' : World} {P a hi : Nat} {tag tag' : Tag} {S : PS} {p : Pt} {L : Ln} {X : Scan Rf.Rb}
theorem PM.drewN (h : PM w0 w P tag S) (n : Nat) : PM w0 (w.drewN n) P tag S := h.below (below_drewN (Below.refl _ _) n)
theorem PM.last (h : PM w0 w P tag S) {a : Nat} (hl : S.op.getLast? = some a) : ∃ g m cap, w.cell? ⟨P, 8, none⟩ = some (.slice (some ⟨g, 0, none⟩) (m + 1) cap) ∧ w.cell? ⟨g, m, none⟩ = some (ptr a) ∧ m + 1 = S.op.length ∧ m ≤ 1000000 := by
 obtain ⟨ov, hm, hg⟩ := h.cells
 have hne : S.op ≠ [] := fun e => by rw [e] at hl; cases hl
 have hp := List.length_pos_iff.2 hne
 obtain ⟨g, cap, e, h1, h2, h3⟩ := hm.row.at (by simpa using hne)
 have c8 := hm.c8
 have hf := h.few
 have hc := h.cap
 obtain ⟨m, hm2⟩ : ∃ m, S.op.length = m + 1 := ⟨S.op.length - 1, by omega⟩
 rw [List.length_map, hm2] at e
 refine ⟨g, m, cap, by rw [c8, e], h3 m _ ?_, hm2.symm, by omega⟩
 rw [List.getLast?_eq_getElem?, hm2] at hl
 rw [List.getElem?_map]
 have : m + 1 - 1 = m := by omega
 rw [this] at hl
 rw [hl]; rfl
set_option maxHeartbeats 4000000 in
theorem leafAt_any (h : PM w0 w P tag S) {a : Nat} (hl : S.op.getLast? = some a) (hp : S.H a = some p) : Reads w 55 #[ptr P] (if p.k = 5 ∨ p.k = 6 ∨ p.k = 7 then ptr a else .pointer none) := by
 obtain ⟨g, m, cap, c8, cm, -, hm⟩ := h.last hl
 obtain ⟨pv, lv, hpc, -⟩ := (h.parts a p hp).1.cells
 have d0 := hpc.c0
 have hk := (h.parts a p hp).2.k
 clear hpc h hl hp
 unfold ptr Reads at *
 generalize p.k = k at *
 have b1 : (0 : Int) ≤ (m : Int) := by omega
 have b2 : (m : Int) < ((m + 1 : Nat) : Int) := by omega
 have b3 : IntKind.i64.wrap (m : Int) = (m : Int) := IntWalk.i64_in _ (by omega)
 by_cases h7 : k = 7
 ·subst h7
  rw [if_pos (by omega)]
  go_enter Tryz.func55, Tryz.ntmps55
  go_wp2
  go_quiet (fail)
  go_wp2
  go_ret
  exact ⟨rfl, _, rfl⟩
 by_cases h5 : k = 5
 ·subst h5
  rw [if_pos (by omega)]
  go_enter Tryz.func55, Tryz.ntmps55
  go_wp2
  go_quiet (fail)
  go_wp2
  go_ret
  exact ⟨rfl, _, rfl⟩
 by_cases h6 : k = 6
 ·subst h6
  rw [if_pos (by omega)]
  go_enter Tryz.func55, Tryz.ntmps55
  go_wp2
  go_quiet (fail)
  go_wp2
  go_ret
  exact ⟨rfl, _, rfl⟩
 rw [if_neg (by omega)]
 have e7 : ¬ (k : Int) = 7 := by omega
 have e5 : ¬ (k : Int) = 5 := by omega
 have e6 : ¬ (k : Int) = 6 := by omega
 go_enter Tryz.func55, Tryz.ntmps55
 go_wp2
 go_quiet (fail)
 go_wp2
 go_ret
 exact ⟨rfl, _, rfl⟩
def leafV (S : PS) (L : Ln) : Value := if L.leaf.isSome = true then ptr (lastP S) else .pointer none
theorem leaf_any (h : PM w0 w P tag S) (hA : Abs S L hi) : Reads w 55 #[ptr P] (leafV S L) := by
 unfold leafV
 cases hl : L.leaf with
 | some l =>
  obtain ⟨p, h1, h2, h3⟩ := hA.leaf hl
  have := leafAt_any h h1 h2
  rw [h3.k, if_pos h3.leaf] at this
  exact this
 | none =>
  obtain ⟨p, f, h1, h2, h3⟩ := hA.bare hl
  have := leafAt_any h h1 h2
  have hc := cont_ne h3.cont
  rw [h3.k, if_neg (by omega)] at this
  exact this
set_option maxHeartbeats 4000000 in
theorem allMet_any (h : PM w0 w P tag S) (hA : Abs S L hi) : Reads w 56 #[ptr P] (.bool L.us.isEmpty) := by
 have HF := Lib.hid (fun m => leaf_any (h.drewN m) hA)
 obtain ⟨ov, hm, hg⟩ := h.cells
 obtain ⟨ao, co, e8, _⟩ := hm.row.form
 have hlen := hA.len
 have hmet := hA.met
 rw [List.length_map] at e8
 have c8 := hm.c8
 have c9 := hm.c9
 rw [e8] at c8
 have hz : S.op.length ≤ 1000000 := Nat.le_trans h.few h.cap
 clear hm hg e8 h
 unfold leafV at HF
 have e : L.us.isEmpty = decide (L.us.length = 0) := by cases L.us <;> rfl
 rw [e]
 rw [← hmet] at hlen
 clear e hmet
 unfold ptr Reads at *
 generalize L.us.length = u at *
 generalize S.op.length = n at *
 generalize S.met = mt at *
 cases hl : L.leaf with
 | some l =>
  rw [hl] at HF hlen
  simp only [Option.isSome_some, if_true] at HF hlen
  have e1 : ((mt : Int) == (n : Int) - 1) = decide (u = 0) := by rw [Bool.eq_iff_iff, beq_iff_eq, decide_eq_true_iff]; omega
  have b1 : (0 : Int) ≤ (n : Int) - 1 := by omega
  clear hl hA hlen
  go_enter Tryz.func56, Tryz.ntmps56
  go_wp2_with fail
  refine (HF.out 0).mono ?_
  rintro e w1 ⟨rfl, m1, rfl⟩
  go_wp2
  go_ret
  exact ⟨by first | rfl | exact retB e1, _, rfl⟩
 | none =>
  rw [hl] at HF hlen
  simp only [Option.isSome_none, Bool.false_eq_true, if_false] at HF hlen
  have e1 : ((mt : Int) == (n : Int)) = decide (u = 0) := by rw [Bool.eq_iff_iff, beq_iff_eq, decide_eq_true_iff]; omega
  clear hl hA hlen
  go_enter Tryz.func56, Tryz.ntmps56
  go_wp2_with fail
  refine (HF.out 0).mono ?_
  rintro e w1 ⟨rfl, m1, rfl⟩
  go_wp2
  go_ret
  exact ⟨by first | rfl | exact retB e1, _, rfl⟩
set_option maxHeartbeats 4000000 in
theorem fenced_any (h : PtAt w0 w tag a p) : Reads w 57 #[ptr a] (.bool (decide (0 < p.cnt))) := by
 obtain ⟨pv, lv, hpc, -⟩ := h.cells
 have d := hpc.c13
 clear hpc h
 unfold ptr Reads at *
 generalize p.cnt = k at *
 have e : decide ((k : Int) > 0) = decide (0 < k) := by rw [decide_eq_decide]; omega
 have e' : decide ((0 : Int) < (k : Int)) = decide (0 < k) := by rw [decide_eq_decide]; omega
 go_enter Tryz.func57, Tryz.ntmps57
 go_wp2
 go_ret
 exact ⟨by first | rfl | exact retB e | exact retB e', 0, rfl⟩
set_option maxHeartbeats 4000000 in
theorem para_any (h : PM w0 w P tag S) (hA : Abs S L hi) : Reads w 70 #[ptr P] (if L.goes = true then ptr (lastP S) else .pointer none) := by
 have HF := Lib.hid (leaf_any h hA)
 unfold leafV at HF
 have hgo : L.goes = isK 7 L.leaf := rfl
 cases hl : L.leaf with
 | none =>
  rw [hl] at HF hgo
  simp only [Option.isSome_none, Bool.false_eq_true, if_false] at HF
  rw [if_neg (by rw [hgo]; exact Bool.false_ne_true)]
  clear hl hA h
  unfold ptr Reads at *
  go_enter Tryz.func70, Tryz.ntmps70
  go_wp2_with fail
  refine HF.out.mono ?_
  rintro e w1 ⟨rfl, m1, rfl⟩
  go_wp2
  go_ret
  exact ⟨rfl, _, rfl⟩
 | some l =>
  rw [hl] at HF hgo
  simp only [Option.isSome_some, if_true] at HF
  have hgo : L.goes = (l.k == 7) := hgo
  obtain ⟨p, h1, h2, h3⟩ := hA.leaf hl
  obtain ⟨pv, lv, hpc, -⟩ := (h.parts _ p h2).1.cells
  have d := hpc.c0
  have hk := (h.parts _ p h2).2.k
  rw [h3.k] at d hk
  clear hl hA h hpc h1 h2 h3
  by_cases h7 : l.k = 7
  ·rw [if_pos (by rw [hgo, h7]; rfl)]
   rw [h7] at d
   clear hgo hk
   unfold ptr Reads at *
   generalize lastP S = a at *
   go_enter Tryz.func70, Tryz.ntmps70
   go_wp2_with fail
   refine HF.out.mono ?_
   rintro e w1 ⟨rfl, m1, rfl⟩
   go_wp2
   go_ret
   exact ⟨rfl, _, rfl⟩
  ·rw [if_neg (by rw [hgo, beq_eq_false_iff_ne.2 h7]; exact Bool.false_ne_true)]
   clear hgo
   unfold ptr Reads at *
   generalize lastP S = a at *
   generalize l.k = k at *
   have e7 : ((k : Int) == 7) = false := beq_eq_false_iff_ne.2 (by omega)
   have e7' : ¬ (k : Int) = 7 := by omega
   go_enter Tryz.func70, Tryz.ntmps70
   go_wp2_with fail
   refine HF.out.mono ?_
   rintro e w1 ⟨rfl, m1, rfl⟩
   go_wp2
   go_ret
   exact ⟨rfl, _, rfl⟩
set_option maxHeartbeats 4000000 in
theorem code_any (h : PM w0 w P tag S) (hA : Abs S L hi) : Reads w 75 #[ptr P] (if bare L = true then ptr (lastP S) else .pointer none) := by
 have HF := Lib.hid (leaf_any h hA)
 have HM := Lib.hid (fun m => allMet_any (h.drewN m) hA)
 unfold leafV at HF
 have hba : bare L = (L.us.isEmpty && match L.leaf with
  | none => false
  | some l => l.k == 5 && !l.fen) := rfl
 cases hl : L.leaf with
 | none =>
  rw [hl] at HF hba
  simp only [Option.isSome_none, Bool.false_eq_true, if_false] at HF
  rw [if_neg (by rw [hba]; simp)]
  clear hl hA h HM
  unfold ptr Reads at *
  go_enter Tryz.func75, Tryz.ntmps75
  go_wp2_with fail
  refine HF.out.mono ?_
  rintro e w1 ⟨rfl, m1, rfl⟩
  go_wp2
  go_ret
  exact ⟨rfl, _, rfl⟩
 | some l =>
  rw [hl] at HF hba
  simp only [Option.isSome_some, if_true] at HF
  have hba : bare L = (L.us.isEmpty && (l.k == 5 && !l.fen)) := hba
  obtain ⟨p, h1, h2, h3⟩ := hA.leaf hl
  have hpt := (h.parts _ p h2).1
  have HN := Lib.hid (fun m => fenced_any (hpt.keep (w' := w.drewN m) fun g hg _ => (below_drewN (Below.refl w.heap.size w) m).block g hg))
  rw [← h3.fen] at HN
  obtain ⟨pv, lv, hpc, -⟩ := hpt.cells
  have d := hpc.c0
  have hk := (h.parts _ p h2).2.k
  rw [h3.k] at d hk
  clear hl hA h hpc h1 h2 h3 hpt
  obtain ⟨a, ha⟩ : ∃ a, lastP S = a := ⟨_, rfl⟩
  obtain ⟨k, hkk⟩ : ∃ k, l.k = k := ⟨_, rfl⟩
  obtain ⟨fn, hfn⟩ : ∃ f, l.fen = f := ⟨_, rfl⟩
  obtain ⟨u, hu⟩ : ∃ u, L.us.isEmpty = u := ⟨_, rfl⟩
  rw [ha] at HF HN d ⊢
  rw [hkk] at hba d hk
  rw [hfn] at hba HN
  rw [hu] at hba HM
  clear ha hkk hfn hu
  obtain ⟨V, hV⟩ : ∃ V : Value, (if bare L = true then ptr a else .pointer none) = V := ⟨_, rfl⟩
  rw [hV]
  unfold ptr Reads at *
  by_cases h5 : k = 5
  ·subst h5
   cases fn with
   | true =>
    rw [if_neg (by rw [hba]; simp)] at hV
    subst hV
    clear HM hba
    go_enter Tryz.func75, Tryz.ntmps75
    go_wp2_with fail
    refine HF.out.mono ?_
    rintro e w1 ⟨rfl, m1, rfl⟩
    go_wp2_with fail
    refine (HN.out _).mono ?_
    rintro e w2 ⟨rfl, m2, rfl⟩
    go_wp2
    go_ret
    exact ⟨rfl, _, rfl⟩
   | false =>
    cases u with
    | true =>
     rw [if_pos (by rw [hba]; rfl)] at hV
     subst hV
     clear hba
     go_enter Tryz.func75, Tryz.ntmps75
     go_wp2_with fail
     refine HF.out.mono ?_
     rintro e w1 ⟨rfl, m1, rfl⟩
     go_wp2_with fail
     refine (HN.out _).mono ?_
     rintro e w2 ⟨rfl, m2, e2⟩
     rw [World.drewN_drewN] at e2
     subst e2
     go_wp2_with fail
     refine (HM.out _).mono ?_
     rintro e w3 ⟨rfl, m3, e3⟩
     rw [World.drewN_drewN] at e3
     subst e3
     go_wp2
     go_ret
     exact ⟨rfl, _, rfl⟩
    | false =>
     rw [if_neg (by rw [hba]; simp)] at hV
     subst hV
     clear hba
     go_enter Tryz.func75, Tryz.ntmps75
     go_wp2_with fail
     refine HF.out.mono ?_
     rintro e w1 ⟨rfl, m1, rfl⟩
     go_wp2_with fail
     refine (HN.out _).mono ?_
     rintro e w2 ⟨rfl, m2, e2⟩
     rw [World.drewN_drewN] at e2
     subst e2
     go_wp2_with fail
     refine (HM.out _).mono ?_
     rintro e w3 ⟨rfl, m3, e3⟩
     rw [World.drewN_drewN] at e3
     subst e3
     go_wp2
     go_ret
     exact ⟨rfl, _, rfl⟩
  ·have e5 : (k == 5) = false := beq_eq_false_iff_ne.2 h5
   rw [if_neg (by rw [hba, e5]; simp)] at hV
   subst hV
   clear hba e5
   have e7 : ((k : Int) == 5) = false := beq_eq_false_iff_ne.2 (by omega)
   have e8 : ((k : Int) != 5) = true := by rw [bne, e7]; rfl
   have e7' : ¬ (k : Int) = 5 := by omega
   clear HM HN
   go_enter Tryz.func75, Tryz.ntmps75
   go_wp2_with fail
   refine HF.out.mono ?_
   rintro e w1 ⟨rfl, m1, rfl⟩
   go_wp2
   go_ret
   exact ⟨rfl, _, rfl⟩
end
end Bk
end Go.Proofs.YtkiipaaaakhhfaaGreatDoor
end
section
namespace Go.Proofs.YtkiipaaaakhhfaaGreatDoor
open Go Go.RowKit
namespace Bk
set_option maxRecDepth 100000
set_option linter.unusedVariables false
set_option linter.unusedSimpArgs false
def Pt.take (i : Nat) (s : Str) (p : Pt) : Pt := { p with ls := p.ls ++ [s], z := if blank s = true then p.z else (i : Int) }
section
variable {w0 w w' : World} {P a hi : Nat} {tag tag' : Tag} {S : PS} {p : Pt} {L : Ln} {X : Scan Rf.Rb}
theorem cell_one (w : World) (x : Value) (t : TypeId) : ∀ j u, [x][j]? = some u → (w.alloc (.cells #[x] t)).cell? ((⟨w.heap.size, 0, none⟩ : Addr).add j) = some u := by
 intro j u hj
 match j, hj with
 | 0, hj =>
  simp at hj
  subst hj
  rw [add_off]
  exact (Hb.new w #[x] t).cell 0 rfl
set_option maxHeartbeats 4000000 in
theorem take_any (HL : Low w0 X) (h : PM w0 w P tag S) (hp : S.H a = some p) (s : Str) (hs : s.length ≤ 4000) (hN : S.N + 1 ≤ 1000000) :
  Calls Tryz.prog 72 #[ptr a, .int .i64 (S.num : Nat), str s] w fun e w' => e = .returned (.tuple #[]) ∧ ∃ tag', PM w0 w' P tag' { S with H := S.H.set a (p.take S.num s), N := S.N + 1 } := by
 have HB := Lib.hid (HL.blank s (by omega))
 have HP := Lib.hid h
 obtain ⟨pv, lv, hpc, hnil, hpg, hlg⟩ := (h.parts a p hp).1.cells
 have HC := Lib.hid hpc
 have HPG := Lib.hid hpg
 have HLG := Lib.hid hlg
 have HPP := Lib.hid hp
 have HR := Lib.hid hpc.lines
 have hll : (p.ls.map str).length ≤ 100000000 := by rw [List.length_map]; have := (h.parts a p hp).2.ls; have := h.cap; omega
 have d := hpc.c10
 have f := hpc.fr
 obtain ⟨i0, hi, hz0, hz1, hz2⟩ := info_of infoStr
 have hz2' : i0.bytes ≤ 16 := by omega
 obtain ⟨la, lc, rfl, hc1, hc2⟩ := hpc.lines.form
 clear hpc hnil hpg hlg hp h
 obtain ⟨n, hn⟩ : ∃ n, (p.ls.map str).length = n := ⟨_, rfl⟩
 rw [hn] at d HLG HC HR hc1
 have HN := Lib.hid hn
 clear hn
 unfold ptr str at *
 go_enter Tryz.func72, Tryz.ntmps72
 go_upto_region 0 with fail
 go_cut [] (fun wx => ∃ tag', PM w0 wx P tag' { S with H := S.H.set a { p with ls := p.ls ++ [s] }, N := S.N + 1 })
 case first =>
  go_wp2_with (at_builtin; refine wpList_append_w _ rfl _ _ 22 rfl 9 i0 _ Tryz.underlying22 hi hz0 hz1 hz2' rfl _ _ rfl (HR.out.below ((Below.refl _ w).alloc (Nat.le_refl _) _)) ⟨w.heap.size, 0, none⟩ _ (.string ⟨s.toArray⟩) rfl ?a1 rfl hll ?a2)
  case a1 => exact cell_one _ _ _
  case a2 =>
   intro v' w2 hrow hg hat
   obtain ⟨va, vn, vc, rfl⟩ : ∃ va vn vc, v' = .slice va vn vc := by obtain ⟨a, c, e, _⟩ := hrow.form; exact ⟨a, _, c, e⟩
   have hb2 : Hb w2 a (ptC p pv (.slice la n lc)) 53 := HC.out.blk.grown hg (fun e => by have h1 := (HLG.out a e).1; rw [((HP.out.parts a p HPP.out).1).own] at h1; cases h1)
   have d2 : w2.cell? ⟨a, 10, none⟩ = some (.slice la n lc) := hb2.cell 10 rfl
   have f2 : ∀ k, w2.frozen? ⟨a, k, none⟩ = false := fun k => hb2.fr k
   have HE := Lib.hid (HP.out.lines HPP.out hs hN HC.out HPG.out HLG.out hrow hg hat)
   clear hrow hg hat hb2
   go_wp2
   go_meet
   exact HE.out
 obtain ⟨tag1, h1⟩ := hcut
 have HP1 := Lib.hid h1
 clear h1 HP HPG HPP HR HC HLG HN d f
 obtain ⟨bq, hbq⟩ : ∃ b, blank s = b := ⟨_, rfl⟩
 rw [hbq] at HB
 cases bq with
 | true =>
  have HE : Hid (p.take S.num s = { p with ls := p.ls ++ [s] }) := Lib.hid (by unfold Pt.take; rw [hbq]; rfl)
  clear hbq
  go_wp2_with fail
  refine (HB.out _ HP1.out.low).mono ?_
  rintro e w3 ⟨rfl, hb3⟩
  go_wp2
  go_end0
  rw [HE.out]
  exact ⟨rfl, _, HP1.out.below hb3⟩
 | false =>
  have HE : Hid (p.take S.num s = { p with ls := p.ls ++ [s], z := (S.num : Int) }) := Lib.hid (by unfold Pt.take; rw [hbq]; rfl)
  clear hbq
  go_wp2_with fail
  refine (HB.out _ HP1.out.low).mono ?_
  rintro e w3 ⟨rfl, hb3⟩
  have HP3 := Lib.hid (HP1.out.below hb3)
  obtain ⟨pv3, lv3, hpc3, hn3, hpg3, hlg3⟩ := (HP3.out.parts a _ (Hp.set_eq _ _ _)).1.cells
  have d7 := hpc3.c7
  have f3 := hpc3.fr
  have HS := Lib.hid (HP3.out.setPt (q := { p with ls := p.ls ++ [s], z := (S.num : Int) }) (Hp.set_eq _ _ _) 7 (.int .i64 (S.num : Nat)) (fun _ _ => rfl) rfl rfl (by have h5 := (HP3.out.parts a _ (Hp.set_eq _ _ _)).2; have hn9 : S.num ≤ 1000 := HP3.out.num; exact ⟨h5.kids, h5.ls, h5.a, by show (-1 : Int) ≤ (S.num : Int); omega, by show (S.num : Int) ≤ 1000; omega, h5.k, h5.n, h5.m, h5.need, h5.cnt, h5.ind, h5.len⟩))
  clear hb3 hpc3 hpg3 hlg3 hn3
  go_wp2
  go_end0
  rw [HE.out]
  refine ⟨rfl, tag1, ?_⟩
  have := HS.out
  rw [Hp.set_set] at this
  exact this
theorem own_same (a : Option Addr) (n c n' c' : Nat) : (Value.slice a n c).ownBlock = (Value.slice a n' c').ownBlock := by cases a <;> rfl
theorem set_drewN (w : World) (p : Addr) (u : Value) (n : Nat) : (w.drewN n).setCell p u = (w.setCell p u).drewN n := rfl
set_option maxHeartbeats 4000000 in
theorem shut_any (h : PM w0 w P tag S) (h0 : 0 < S.met) :
  Calls Tryz.prog 77 #[ptr P] w fun e w' => e = .returned (.tuple #[]) ∧ (∃ ov', PM w0 w' P tag { S with op := S.op.take S.met, ov := ov' }) ∧ Only (fun k => k = P) w w' := by
 have HP := Lib.hid h
 obtain ⟨F, hF⟩ : ∃ F : Value → PS, F = fun v => { S with op := S.op.take S.met, ov := v } := ⟨_, rfl⟩
 have HSS := Lib.hid hF
 have HG0 : ∀ v, F v = { S with op := S.op.take S.met, ov := v } := fun v => by rw [hF]
 simp only [← HG0]
 clear hF HG0
 obtain ⟨ov, hm, hg⟩ := h.cells
 obtain ⟨ao, co, rfl, hc1, hc2⟩ := hm.row.form
 have c8 := hm.c8
 have c9 := hm.c9
 have f := hm.fr
 have HM := Lib.hid hm
 have HG := Lib.hid hg
 have hml := h.met
 have hz : S.op.length ≤ 1000000 := Nat.le_trans h.few h.cap
 clear hm hg h
 rw [List.length_map] at c8 hc1 HM HG
 unfold maxLen at hc2
 unfold ptr
 obtain ⟨n, hn⟩ : ∃ n, S.op.length = n := ⟨_, rfl⟩
 obtain ⟨m, hm⟩ : ∃ m, S.met = m := ⟨_, rfl⟩
 rw [hn] at c8 hc1 HM HG hml hz
 rw [hm] at c9 hml h0
 have HN := Lib.hid hn
 have HMM := Lib.hid hm
 have HS2 : Hid (∀ v, F v = { S with op := S.op.take m, ov := v }) := Lib.hid (fun v => by rw [← hm]; rw [HSS.out])
 clear hn hm
 by_cases hlt : m < n
 ·have b1 : (m : Int) < (n : Int) := by omega
  have b2 : (0 : Int) ≤ (m : Int) := by omega
  have b3 : (m : Int) ≤ (co : Int) := by omega
  have HS : Hid (PM w0 (w.setCell ⟨P, 8, none⟩ (.slice ao m m)) P tag (F (.slice ao m m))) := Lib.hid (by
   rw [HS2.out]
   have ho : Only (fun k => (tag k).1 = P ∧ w0.heap.size ≤ k) w (w.setCell ⟨P, 8, none⟩ (.slice ao m m)) := (Only.refl _ w).setCell (p := ⟨P, 8, none⟩) ⟨(by have e := HP.out.own; show (tag P).1 = P; rw [e]), HP.out.base⟩ _
   have hl : (S.op.take m).length = m := by rw [List.length_take, HN.out]; omega
   have hr : RowW w 48 (.slice ao m m) ((S.op.map ptr).take m) := HM.out.row.cut rfl (by omega) h0
   refine HP.out.open _ ho (fun g _ => rfl) (HM.out.blk.set 8 _ rfl) ?_ (fun g hg => HG.out g ((own_same ao n co m m).trans hg)) rfl (Nat.le_refl _) HP.out.cap ?_ HP.out.sk HP.out.fit HP.out.num HP.out.sgn ?_
   ·show RowW _ _ _ ((S.op.take m).map ptr)
    rw [List.map_take]
    exact hr.keep fun g hg => Below.heap_setCell _ _ _ _ (fun e => by
     have h5 := (HG.out g ((own_same ao n co m m).trans hg)).1
     rw [e, HP.out.own] at h5
     cases h5)
   ·show (S.op.take m).length ≤ S.N
    rw [hl]
    have := HP.out.few
    have := HN.out
    omega
   ·show S.met ≤ (S.op.take m).length
    rw [hl, HMM.out]
    exact Nat.le_refl _)
  clear HM HG
  go_enter Tryz.func77, Tryz.ntmps77
  go_wp2
  go_quiet (fail)
  go_wp2
  go_region
  go_end0
  refine ⟨rfl, ?_, ?_⟩
  ·rw [set_drewN]; exact ⟨_, HS.out.drewN _⟩
  ·rw [set_drewN]; exact ((Only.refl _ w).setP _ _).trans (Only.of_below (below_drewN (Below.refl _ _) _))
 ·have b1 : ¬ (m : Int) < (n : Int) := by omega
  have HE : Hid (S.op.take m = S.op) := Lib.hid (List.take_of_length_le (by rw [HN.out]; omega))
  clear HM HG
  go_enter Tryz.func77, Tryz.ntmps77
  go_wp2
  go_quiet (fail)
  go_wp2
  go_end0
  refine ⟨rfl, ⟨S.ov, by rw [HS2.out, HE.out]; exact HP.out.drewN _⟩, Only.of_below (below_drewN (Below.refl _ _) _)⟩
end
end Bk
end Go.Proofs.YtkiipaaaakhhfaaGreatDoor
end
section
namespace Go.Proofs.YtkiipaaaakhhfaaGreatDoor
open Go Go.RowKit
namespace Bk
set_option maxRecDepth 100000
set_option linter.unusedVariables false
set_option linter.unusedSimpArgs false
structure Bo where
 k : Nat
 s : Str
 t : Str
 n : Nat
 m : Nat
def boC (o : Bo) (a z : Int) : Array Value := #[.int .i64 (o.k : Nat), .string ⟨o.s.toArray⟩, .string ⟨o.t.toArray⟩, .int .i64 (o.n : Nat), .int .i64 (o.m : Nat), .bool false, .int .i64 a, .int .i64 z, .slice none 0 0]
def Bo.pt (o : Bo) (i : Nat) : Pt := { k := o.k, s := o.s, t := o.t, n := o.n, m := o.m, a := i, z := (i : Int), kids := [], ls := [], need := 0, c := 0, cnt := 0, ind := 0 }
structure BoFew (o : Bo) : Prop where
 k : o.k ≤ 30
 n : o.n ≤ 1000000000
 m : o.m ≤ 255
 ne : o.k ≠ 1
theorem BoFew.pt {o : Bo} (h : BoFew o) {i N : Nat} (hi : i ≤ 1000) : PtFew N (o.pt i) :=
 ⟨Nat.zero_le _, Nat.zero_le _, hi, by show (-1 : Int) ≤ (i : Int); omega, by show (i : Int) ≤ 1000; omega, h.k, h.n, h.m, Nat.zero_le _, Nat.zero_le _, Nat.zero_le _, fun s hs => by cases hs⟩
section
variable {w0 w w' : World} {P a hi : Nat} {tag tag' : Tag} {S : PS} {p : Pt} {L : Ln} {X : Scan Rf.Rb}
def metN (S : PS) (q : Bool) : Nat := if q = true then S.met - 1 else S.met
theorem PM.at (h : PM w0 w P tag S) {i a : Nat} (hl : S.op[i]? = some a) : ∃ g n cap, w.cell? ⟨P, 8, none⟩ = some (.slice (some ⟨g, 0, none⟩) n cap) ∧ w.cell? ⟨g, i, none⟩ = some (ptr a) ∧ (i : Int) < (n : Int) ∧ n ≤ 1000000 := by
 obtain ⟨ov, hm, hg⟩ := h.cells
 have hlt := (List.getElem?_eq_some_iff.1 hl).1
 have hne : S.op ≠ [] := fun e => by rw [e] at hlt; exact absurd hlt (Nat.not_lt_zero _)
 obtain ⟨g, cap, e, h1, h2, h3⟩ := hm.row.at (by simpa using hne)
 have c8 := hm.c8
 have hf := h.few
 have hc := h.cap
 rw [List.length_map] at e
 exact ⟨g, S.op.length, cap, by rw [c8, e], h3 i _ (by rw [List.getElem?_map, hl]; rfl), by omega, by omega⟩
set_option maxHeartbeats 8000000 in
theorem begin_any (h : PM w0 w P tag S) (o : Bo) (ho : BoFew o) {a0 b0 : Nat} {p0 pb : Pt} {q : Bool} (h0 : 2 ≤ S.met ∨ (S.met = 1 ∧ q = false)) (hl0 : S.op[S.met - 1]? = some a0) (hp0 : S.H a0 = some p0) (hq : q = decide (p0.k = 3 ∧ o.k ≠ 4))
  (hlb : S.op[metN S q - 1]? = some b0) (hpb : S.H b0 = some pb) (hN : S.N + 2 ≤ 1000000) :
  Calls Tryz.prog 71 #[ptr P, .agg (boC o 0 0)] w fun e w' => ∃ a tag' ov', e = .returned (ptr a) ∧ w.heap.size ≤ a ∧ PM w0 w' P tag' { S with op := S.op.take (metN S q) ++ [a], met := metN S q, H := S.H.begun b0 a pb (o.pt S.num), N := S.N + 2, ov := ov' } := by
 have HP : Hid (PM w0 (w.alloc (.cells (boC o 0 0) 41)) P (fun g => if g = w.heap.size then (g, 9) else tag g) S) := Lib.hid ((h.tags fun g hg => if_neg (by omega)).below ((Below.refl _ w).alloc (Nat.le_refl _) _))
 have HX : Hid (Hb (w.alloc (.cells (boC o 0 0) 41)) w.heap.size (boC o 0 0) 41) := Lib.hid (Hb.new _ _ _)
 have HT : Hid ((fun g => if g = w.heap.size then (g, 9) else tag g) w.heap.size = (w.heap.size, 9) ∧ w0.heap.size ≤ w.heap.size) := Lib.hid ⟨if_pos rfl, h.low.size⟩
 generalize (fun g => if g = w.heap.size then (g, 9) else tag g) = tag1 at HP HT
 have HA : Hid (w.heap.size ≤ (w.alloc (.cells (boC o 0 0) 41)).heap.size) := Lib.hid (by simp)
 clear h
 have hml := HP.out.met
 unfold ptr boC at *
 go_enter Tryz.func71, Tryz.ntmps71
 go_upto_region 1 with fail
 generalize w.alloc (.cells #[.int .i64 (o.k : Nat), .string ⟨o.s.toArray⟩, .string ⟨o.t.toArray⟩, .int .i64 (o.n : Nat), .int .i64 (o.m : Nat), .bool false, .int .i64 0, .int .i64 0, .slice none 0 0] 41) = W1 at *
 generalize hB : w.heap.size = B1 at *
 have HBB := Lib.hid hB
 clear hB
 go_cut [27] (fun v27 wx => v27 = .bool q ∧ Below W1.heap.size W1 wx)
 case first =>
  obtain ⟨g, n, cap, c8, ce, hlt, hn⟩ := HP.out.at hl0
  obtain ⟨ov, hm, -⟩ := HP.out.cells
  have c9 := hm.c9
  obtain ⟨pv, lv, hpc, -⟩ := (HP.out.parts a0 p0 hp0).1.cells
  have d0 := hpc.c0
  have hk := (HP.out.parts a0 p0 hp0).2.k
  have x0 : W1.cell? ⟨B1, 0, none⟩ = some (.int .i64 (o.k : Nat)) := HX.out.cell 0 rfl
  have hok := ho.k
  obtain ⟨m, hm2⟩ : ∃ m, S.met = m + 1 := ⟨S.met - 1, by omega⟩
  have hmz : m ≤ 1000000 := by have := HP.out.few; have := HP.out.cap; omega
  rw [hm2] at c9
  rw [hm2, Nat.add_sub_cancel] at ce hlt
  have b1 : (0 : Int) ≤ (m : Int) := by omega
  have b3 : IntKind.i64.wrap (m : Int) = (m : Int) := IntWalk.i64_in _ (by omega)
  unfold ptr at ce
  clear hm hpc hlb hl0 hp0 hpb h0 hml HP HX HT HA hm2 HBB
  generalize p0.k = k0 at *
  generalize o.k = k1 at *
  by_cases h3 : k0 = 3
  ·subst h3
   have g1 : decide ((3 : Int) = 3) = true := rfl
   by_cases h4 : k1 = 4
   ·subst h4
    have hq' : q = false := by rw [hq]; rfl
    subst hq'
    clear hq
    go_quiet (fail)
    go_wp2
    go_meet
    exact ⟨rfl, below_drewN (Below.refl _ _) _⟩
   ·have hq' : q = true := by rw [hq]; simp [h4]
    subst hq'
    have e1 : ((k1 : Int) != 4) = true := by rw [bne_iff_ne]; omega
    have e2 : ¬ (k1 : Int) = 4 := by omega
    have e3 : ((k1 : Int) == 4) = false := beq_eq_false_iff_ne.2 e2
    clear hq
    go_quiet (fail)
    go_wp2
    go_meet
    exact ⟨rfl, below_drewN (Below.refl _ _) _⟩
  ·have hq' : q = false := by rw [hq]; simp [h3]
   subst hq'
   have e2 : ¬ (k0 : Int) = 3 := by omega
   have e3 : ((k0 : Int) == 3) = false := beq_eq_false_iff_ne.2 e2
   have e4 : decide ((k0 : Int) = 3) = false := decide_eq_false e2
   clear hq
   go_quiet (fail)
   go_wp2
   go_meet
   exact ⟨rfl, below_drewN (Below.refl _ _) _⟩
 obtain ⟨rfl, hb2⟩ := hcut
 clear hq
 have HP2 := Lib.hid (HP.out.below hb2)
 have HX2 := Lib.hid (HX.out.below hb2)
 have HA2 := Lib.hid (Nat.le_trans HA.out hb2.size)
 have hBP : Hid (B1 ≠ P) := Lib.hid (fun e => by have h1 := HT.out.1; rw [e, HP2.out.own] at h1; cases h1)
 clear hb2 HP HX HA
 go_upto_if 27 with fail
 go_cut [] (fun wx => PM w0 wx P tag1 { S with met := metN S q } ∧ Hb wx B1 #[.int .i64 (o.k : Nat), .string ⟨o.s.toArray⟩, .string ⟨o.t.toArray⟩, .int .i64 (o.n : Nat), .int .i64 (o.m : Nat), .bool false, .int .i64 0, .int .i64 0, .slice none 0 0] 41 ∧ B1 ≤ wx.heap.size)
 case first =>
  cases q with
  | false =>
   go_wp2
   go_meet
   exact ⟨HP2.out, HX2.out, HA2.out⟩
  | true =>
   obtain ⟨ov, hm, -⟩ := HP2.out.cells
   have c9 := hm.c9
   have f := hm.fr
   obtain ⟨m, hm2⟩ : ∃ m, S.met = m + 1 := ⟨S.met - 1, by omega⟩
   have hmz : m ≤ 1000000 := by have := HP2.out.few; have := HP2.out.cap; omega
   have HM2 := Lib.hid hm2
   rw [hm2] at c9
   have b3 : IntKind.i64.wrap (m : Int) = (m : Int) := IntWalk.i64_in _ (by omega)
   clear hm hlb hl0 hp0 hpb h0 hm2
   go_wp2
   go_meet
   refine ⟨?_, ?_, by simpa using HA2.out⟩
   ·refine HP2.out.par _ ((Only.refl _ _).setP _ _) (fun ov h => h.set 9 _ ?_) rfl rfl rfl HP2.out.sk HP2.out.fit HP2.out.num HP2.out.sgn ?_
    ·show _ = parC { S with met := metN S true } ov
     have e : metN S true = m := by unfold metN; rw [if_pos rfl, HM2.out]; rfl
     rw [e]
     rfl
    ·show metN S true ≤ S.op.length
     unfold metN
     rw [if_pos rfl]
     omega
   ·exact HX2.out.other _ hBP.out
 obtain ⟨h3, hx3, ha3⟩ := hcut
 have HP3 := Lib.hid h3
 have HX3 := Lib.hid hx3
 have HA3 := Lib.hid ha3
 clear h3 hx3 ha3 HP2 HX2 HA2
 have hmp : 0 < metN S q := by
  unfold metN
  rcases h0 with h | ⟨h, rfl⟩
  ·split <;> omega
  ·rw [if_neg Bool.false_ne_true]; omega
 have HSH := Lib.hid (shut_any HP3.out hmp)
 unfold ptr at HSH
 go_wp2_with fail
 refine HSH.out.mono ?_
 rintro e w4 ⟨rfl, ⟨ov4, h4⟩, o4⟩
 have HP4 := Lib.hid h4
 have HX4 := Lib.hid (HX3.out.keep (o4.block _ HX3.out.lt hBP.out))
 have HA4 := Lib.hid (Nat.le_trans HA3.out o4.size)
 clear h4 o4 HSH HP3 HX3 HA3
 have hlast : (S.op.take (metN S q))[metN S q - 1]? = some b0 := by rw [List.getElem?_take_of_lt (by omega)]; exact hlb
 go_upto_region 4 with fail
 go_cut [] (fun wx => PM w0 wx P tag1 { S with op := S.op.take (metN S q), met := metN S q, ov := ov4 } ∧ Hb wx B1 #[.int .i64 (o.k : Nat), .string ⟨o.s.toArray⟩, .string ⟨o.t.toArray⟩, .int .i64 (o.n : Nat), .int .i64 (o.m : Nat), .bool false, .int .i64 (S.num : Nat), .int .i64 (S.num : Nat), .slice none 0 0] 41 ∧ B1 ≤ wx.heap.size)
 case first =>
  obtain ⟨ov, hm, -⟩ := HP4.out.cells
  have c6 : w4.cell? ⟨P, 6, none⟩ = some (.int .i64 (S.num : Nat)) := hm.c6
  have x6 : w4.cell? ⟨B1, 6, none⟩ = some (.int .i64 0) := HX4.out.cell 6 rfl
  have x7 : w4.cell? ⟨B1, 7, none⟩ = some (.int .i64 0) := HX4.out.cell 7 rfl
  have fx := fun k => HX4.out.fr k
  have hne := hBP.out
  have hne' : P ≠ B1 := fun e => hne e.symm
  clear hm hlb hl0 hp0 hpb h0 hlast
  go_region
  all_goals go_wp2
  all_goals go_meet
  all_goals
   refine ⟨(HP4.out.free ?_).below ((Below.refl _ _).drew), ?_, by simpa using HA4.out⟩
   ·exact ((Only.refl _ w4).setCell (p := ⟨B1, 6, none⟩) HT.out _).setCell (p := ⟨B1, 7, none⟩) HT.out _
   ·exact (HX4.out.set 6 _ rfl).set 7 _ rfl
 obtain ⟨h5, hx5, ha5⟩ := hcut
 have HP5 := Lib.hid h5
 have HA5 := Lib.hid ha5
 have x0 := hx5.cell 0 rfl
 have x1 := hx5.cell 1 rfl
 have x2 := hx5.cell 2 rfl
 have x3 := hx5.cell 3 rfl
 have x4 := hx5.cell 4 rfl
 have x5 := hx5.cell 5 rfl
 have x6 := hx5.cell 6 rfl
 have x7 := hx5.cell 7 rfl
 have x8 := hx5.cell 8 rfl
 clear h5 hx5 ha5 HP4 HX4 HA4
 go_upto_region 6 with fail
 obtain ⟨W6, hW6⟩ : ∃ W6, W6 = wc.alloc (.cells #[.int .i64 (o.k : Nat), .string ⟨o.s.toArray⟩, .string ⟨o.t.toArray⟩, .int .i64 (o.n : Nat), .int .i64 (o.m : Nat), .bool false, .int .i64 (S.num : Nat), .int .i64 (S.num : Nat), .slice none 0 0, .slice none 0 0, .slice none 0 0, .int .i64 0, .int .u8 0, .int .i64 0, .int .i64 0] 53) := ⟨_, rfl⟩
 obtain ⟨a, ha⟩ : ∃ a, wc.heap.size = a := ⟨_, rfl⟩
 obtain ⟨tag2, h6⟩ : ∃ tag2, PM w0 W6 P tag2 { S with op := S.op.take (metN S q), met := metN S q, H := S.H.set a (o.pt S.num), ov := ov4 } := ⟨_, by
  rw [hW6]
  exact HP5.out.new (q := o.pt S.num) rfl rfl (ho.pt HP5.out.num) ha.symm ho.ne⟩
 rw [← hW6, ha]
 rw [ha] at HA5
 have hab : Hid (b0 ≠ a) := Lib.hid (fun e => by have h1 := (HP5.out.parts b0 pb hpb).1.lt; rw [ha] at h1; omega)
 have HP6 := Lib.hid h6
 have hpb6 : Hid ((S.H.set a (o.pt S.num)) b0 = some pb) := Lib.hid (by rw [Hp.set_ne _ _ hab.out]; exact hpb)
 clear h6 hW6 ha HP5 x0 x1 x2 x3 x4 x5 x6 x7 x8
 go_cut [6] (fun v6 wx => v6 = .pointer (some ⟨b0, 0, none⟩) ∧ Below W6.heap.size W6 wx)
 case first =>
  obtain ⟨g, n, cap, c8, ce, hlt, hn⟩ := HP6.out.at hlast
  obtain ⟨ov, hm, -⟩ := HP6.out.cells
  have c9 : W6.cell? ⟨P, 9, none⟩ = some (.int .i64 (metN S q : Nat)) := hm.c9
  obtain ⟨m, hm2⟩ : ∃ m, metN S q = m + 1 := ⟨metN S q - 1, by omega⟩
  rw [hm2] at c9
  rw [hm2, Nat.add_sub_cancel] at ce hlt
  have b1 : (0 : Int) ≤ (m : Int) := by omega
  have b3 : IntKind.i64.wrap (m : Int) = (m : Int) := IntWalk.i64_in _ (by omega)
  unfold ptr at ce
  clear hm hlb hl0 hp0 hpb h0 hml HT HA5 hm2 HBB hlast hmp
  go_quiet (fail)
  go_wp2
  go_meet
  exact ⟨rfl, below_drewN (Below.refl _ _) _⟩
 obtain ⟨rfl, hb7⟩ := hcut
 have HP7 := Lib.hid (HP6.out.below hb7)
 clear hb7 HP6 hlast hlb hl0 hp0 hpb h0
 obtain ⟨i0, hi, hz0, hz1, hz2⟩ := info_of infoPtr
 have hz2' : i0.bytes ≤ 16 := by omega
 go_upto_region 7 with fail
 go_cut [] (fun wx => ∃ tag3, PM w0 wx P tag3 { S with op := S.op.take (metN S q), met := metN S q, H := S.H.begun b0 a pb (o.pt S.num), N := S.N + 1, ov := ov4 })
 case first =>
  obtain ⟨pv, lv, hpc, hnil, hpg, hlg⟩ := (HP7.out.parts b0 pb hpb6.out).1.cells
  obtain ⟨la, n, lc, rfl⟩ : ∃ la n lc, pv = .slice la n lc := by obtain ⟨x, y, e, _⟩ := hpc.row.form; exact ⟨x, _, y, e⟩
  have hll : (pb.kids.map ptr).length ≤ 100000000 := by rw [List.length_map]; have h1 := (HP7.out.parts b0 pb hpb6.out).2.kids; have h1 : pb.kids.length ≤ S.N := h1; omega
  have HC := Lib.hid hpc
  have HNI := Lib.hid hnil
  have HPG := Lib.hid hpg
  have HLG := Lib.hid hlg
  have HR := Lib.hid hpc.row
  have d := hpc.c9
  have f := hpc.fr
  clear hpc hnil hpg hlg
  unfold ptr at HR hll
  go_wp2_with (at_builtin; refine wpList_append_w _ rfl _ _ 49 rfl 48 i0 _ Tryz.underlying49 hi hz0 hz1 hz2' rfl _ _ rfl (HR.out.below ((Below.refl _ wc).alloc (Nat.le_refl _) _)) ⟨wc.heap.size, 0, none⟩ _ (.pointer (some ⟨a, 0, none⟩)) rfl ?a1 rfl hll ?a2)
  case a1 => exact cell_one _ _ _
  case a2 =>
   intro v' w2 hrow hg hat
   obtain ⟨va, vn, vc, rfl⟩ : ∃ va vn vc, v' = .slice va vn vc := by obtain ⟨x, y, e, _⟩ := hrow.form; exact ⟨x, _, y, e⟩
   have hb2 : Hb w2 b0 (ptC pb (.slice la n lc) lv) 53 := HC.out.blk.grown hg (fun e => by have h1 := (HPG.out b0 e).1; rw [((HP7.out.parts b0 pb hpb6.out).1).own] at h1; cases h1)
   have d2 : w2.cell? ⟨b0, 9, none⟩ = some (.slice la n lc) := hb2.cell 9 rfl
   have f2 : ∀ k, w2.frozen? ⟨b0, k, none⟩ = false := fun k => hb2.fr k
   have HE := Lib.hid (HP7.out.kids hpb6.out (by show S.N + 1 ≤ 1000000; omega) HC.out HNI.out HPG.out HLG.out hrow hg hat)
   clear hrow hg hat hb2
   go_wp2
   go_meet
   exact HE.out
 obtain ⟨tag3, h8⟩ := hcut
 have HP8 := Lib.hid h8
 clear h8 HP7 hpb6
 go_upto_region 8 with fail
 go_cut [] (fun wx => ∃ tag3 ov3, PM w0 wx P tag3 { S with op := S.op.take (metN S q) ++ [a], met := metN S q, H := S.H.begun b0 a pb (o.pt S.num), N := S.N + 2, ov := ov3 })
 case first =>
  obtain ⟨ov, hm, hog⟩ := HP8.out.cells
  obtain ⟨la, n, lc, rfl⟩ : ∃ la n lc, ov = .slice la n lc := by obtain ⟨x, y, e, _⟩ := hm.row.form; exact ⟨x, _, y, e⟩
  have hll : ((S.op.take (metN S q)).map ptr).length ≤ 100000000 := by
   rw [List.length_map]
   have h1 := HP8.out.few
   have h1 : (S.op.take (metN S q)).length ≤ S.N + 1 := h1
   omega
  have HC := Lib.hid hm
  have HOG := Lib.hid hog
  obtain ⟨xs, hxs⟩ : ∃ xs, (S.op.take (metN S q)).map ptr = xs := ⟨_, rfl⟩
  have HR : Hid (RowW wc 48 (.slice la n lc) xs) := Lib.hid (by rw [← hxs]; exact hm.row)
  have HXS := Lib.hid hxs
  rw [hxs] at hll
  clear hxs
  have d := hm.c8
  have f := hm.fr
  clear hm hog
  go_wp2_with (at_builtin; refine wpList_append_w _ rfl _ _ 49 rfl 48 i0 _ Tryz.underlying49 hi hz0 hz1 hz2' rfl _ _ rfl (HR.out.below ((Below.refl _ wc).alloc (Nat.le_refl _) _)) ⟨wc.heap.size, 0, none⟩ _ (.pointer (some ⟨a, 0, none⟩)) rfl ?a3 rfl hll ?a4)
  case a3 => exact cell_one _ _ _
  case a4 =>
   intro v' w2 hrow hg hat
   obtain ⟨va, vn, vc, rfl⟩ : ∃ va vn vc, v' = .slice va vn vc := by obtain ⟨x, y, e, _⟩ := hrow.form; exact ⟨x, _, y, e⟩
   have hb2 : Hb w2 P _ 58 := HC.out.blk.grown hg (fun e => by have h1 := (HOG.out P e).1; rw [HP8.out.own] at h1; cases h1)
   have d2 : w2.cell? ⟨P, 8, none⟩ = some (.slice la n lc) := hb2.cell 8 rfl
   have f2 : ∀ k, w2.frozen? ⟨P, k, none⟩ = false := fun k => hb2.fr k
   have HE := Lib.hid (HP8.out.opens (c := a) (by show S.N + 1 + 1 ≤ 1000000; omega) HC.out HOG.out (by show RowW w2 _ _ ((S.op.take (metN S q)).map ptr ++ [ptr a]); rw [HXS.out]; exact hrow) hg hat)
   clear hrow hg hat hb2
   go_wp2
   go_meet
   obtain ⟨tx, hx⟩ := HE.out
   exact ⟨tx, _, hx⟩
 obtain ⟨tag4, ov9, h9⟩ := hcut
 have HP9 := Lib.hid h9
 clear h9 HP8
 go_wp2
 go_ret
 exact ⟨a, tag4, ov9, rfl, by rw [HBB.out]; exact HA5.out, HP9.out⟩
end
end Bk
end Go.Proofs.YtkiipaaaakhhfaaGreatDoor
end
section
namespace Go.Proofs.YtkiipaaaakhhfaaGreatDoor
open Go Go.RowKit
namespace Bk
set_option maxRecDepth 100000
set_option linter.unusedVariables false
set_option linter.unusedSimpArgs false
def PS.beg (S : PS) (n a b : Nat) (pb q : Pt) (v : Value) : PS := { S with op := S.op.take n ++ [a], met := n, H := S.H.begun b a pb q, N := S.N + 2, ov := v }
section
variable {w0 w w' : World} {P a hi : Nat} {tag tag' : Tag} {S : PS} {p : Pt} {L : Ln} {X : Scan Rf.Rb}
theorem place_metN (hA : Abs S L hi) (hI : InL S.num L) (k : Nat) : (L.place (decide (k = 4))).length = metN S (decide (lastK L.ms = 3 ∧ k ≠ 4)) := by
 rw [place_len hA hI]
 unfold metN
 by_cases h3 : lastK L.ms = 3
 ·by_cases h4 : k = 4
  ·simp [h3, h4]
  ·simp [h3, h4]
 ·simp [h3]
theorem begin_abs (h : PM w0 w P tag S) (hA : Abs S L hi) (hI : InL S.num L) (o : Bo) (ho : BoFew o) (hN : S.N + 2 ≤ 1000000) :
  Calls Tryz.prog 71 #[ptr P, .agg (boC o 0 0)] w fun e w' => ∃ a b pb tag' v, e = .returned (ptr a) ∧ w.heap.size ≤ a ∧ S.op[(L.place (decide (o.k = 4))).length - 1]? = some b ∧ S.H b = some pb ∧ PM w0 w' P tag' (S.beg (L.place (decide (o.k = 4))).length a b pb (o.pt S.num) v) := by
 have hm := hA.met
 have hpos : 0 < L.ms.length := List.length_pos_iff.2 hA.ne
 obtain ⟨a0, p0, f0, g1, g2, g3, g4⟩ := frame_last hA.settle (fun e => hA.ne ((onLast_ne _ _).1 e))
 rw [lastK_settle] at g4
 have hlen := hA.len
 rw [last_take (by omega) (by omega)] at g1
 have hk : p0.k = lastK L.ms := g3.k.trans g4
 obtain ⟨b, pb, k1, k2, k3, k4⟩ := hA.above hI (decide (o.k = 4))
 have hpl := place_metN hA hI o.k
 have h0 : 2 ≤ S.met ∨ (S.met = 1 ∧ decide (lastK L.ms = 3 ∧ o.k ≠ 4) = false) := by
  by_cases h2 : 2 ≤ S.met
  ·exact .inl h2
  ·refine .inr ⟨by omega, ?_⟩
   rw [decide_eq_false_iff_not]
   intro e
   have := inl_two hI e.1
   omega
 refine (begin_any h o ho (q := decide (lastK L.ms = 3 ∧ o.k ≠ 4)) h0 g1 g2 (by rw [hk]) (by rw [← hpl]; exact k1) k2 hN).mono ?_
 rintro e w1 ⟨a, tag', v, e1, e2, e3⟩
 rw [← hpl] at e3
 exact ⟨a, b, pb, tag', v, e1, e2, k1, k2, e3⟩
set_option maxHeartbeats 8000000 in
theorem enter_abs (h : PM w0 w P tag S) (hA : Abs S L hi) (hI : InL S.num L) (o : Bo) (ho : BoFew o) (hN : S.N + 2 ≤ 1000000) :
  Calls Tryz.prog 97 #[ptr P, .agg (boC o 0 0)] w fun e w' => ∃ a b pb tag' v, e = .returned (ptr a) ∧ w.heap.size ≤ a ∧ S.op[(L.place (decide (o.k = 4))).length - 1]? = some b ∧ S.H b = some pb ∧ PM w0 w' P tag' { S.beg (L.place (decide (o.k = 4))).length a b pb (o.pt S.num) v with met := (L.place (decide (o.k = 4))).length + 1 } := by
 have hb0 : Below w.heap.size w (w.alloc (.cells (boC o 0 0) 41)) := (Below.refl _ w).alloc (Nat.le_refl _) _
 have HX := Hb.new w (boC o 0 0) 41
 have HBG := Lib.hid (begin_abs (h.below hb0) hA hI o ho hN)
 have HA := Lib.hid hb0.size
 have hlp : (L.place (decide (o.k = 4))).length ≤ 1000000 := by
  obtain ⟨b, pb, k1, k2, k3, k4⟩ := hA.above hI (decide (o.k = 4))
  have := h.few
  have := h.cap
  omega
 obtain ⟨-, -, -, -, hnl, hpos⟩ := hA.above hI (decide (o.k = 4))
 generalize (L.place (decide (o.k = 4))).length = n at *
 have x0 := HX.cell 0 rfl
 have x1 := HX.cell 1 rfl
 have x2 := HX.cell 2 rfl
 have x3 := HX.cell 3 rfl
 have x4 := HX.cell 4 rfl
 have x5 := HX.cell 5 rfl
 have x6 := HX.cell 6 rfl
 have x7 := HX.cell 7 rfl
 have x8 := HX.cell 8 rfl
 clear HX hb0 hA hI h
 unfold ptr boC at *
 go_enter Tryz.func97, Tryz.ntmps97
 go_wp2_with fail
 refine HBG.out.mono ?_
 rintro e w1 ⟨a, b, pb, tag', v, rfl, hsz, k1, k2, h1⟩
 have HP1 := Lib.hid h1
 have HK1 := Lib.hid k1
 have HK2 := Lib.hid k2
 have HSZ := Lib.hid (Nat.le_trans HA.out hsz)
 obtain ⟨ov, hm, -⟩ := h1.cells
 have c9 : w1.cell? ⟨P, 9, none⟩ = some (.int .i64 (n : Nat)) := hm.c9
 have f := hm.fr
 have b1 : IntKind.i64.wrap ((n : Int) + 1) = ((n + 1 : Nat) : Int) := by rw [IntWalk.i64_in _ (by omega)]; omega
 clear hm h1 k1 k2 hsz HBG x0 x1 x2 x3 x4 x5 x6 x7 x8
 go_wp2
 go_ret
 refine ⟨a, b, pb, tag', v, rfl, HSZ.out, HK1.out, HK2.out, HP1.out.par _ ((Only.refl _ _).setP _ _) (fun ov h => h.set 9 _ ?_) rfl rfl rfl HP1.out.sk HP1.out.fit HP1.out.num HP1.out.sgn ?_⟩
 ·rfl
 ·show n + 1 ≤ (S.op.take n ++ [a]).length
  rw [List.length_append, List.length_take, Nat.min_eq_left hnl]
  exact Nat.le_refl _
set_option maxHeartbeats 8000000 in
theorem lone_abs (h : PM w0 w P tag S) (hA : Abs S L hi) (hI : InL S.num L) (o : Bo) (ho : BoFew o) (hN : S.N + 2 ≤ 1000000) :
  Calls Tryz.prog 99 #[ptr P, .agg (boC o 0 0)] w fun e w' => ∃ a b pb tag' v, e = .returned (.tuple #[]) ∧ w.heap.size ≤ a ∧ S.op[(L.place (decide (o.k = 4))).length - 1]? = some b ∧ S.H b = some pb ∧ PM w0 w' P tag' { S.beg (L.place (decide (o.k = 4))).length a b pb (o.pt S.num) v with op := S.op.take (L.place (decide (o.k = 4))).length } := by
 have hb0 : Below w.heap.size w (w.alloc (.cells (boC o 0 0) 41)) := (Below.refl _ w).alloc (Nat.le_refl _) _
 have HX := Hb.new w (boC o 0 0) 41
 have HBG := Lib.hid (begin_abs (h.below hb0) hA hI o ho hN)
 have HA := Lib.hid hb0.size
 have hlp : (L.place (decide (o.k = 4))).length ≤ 1000000 := by
  obtain ⟨b, pb, k1, k2, k3, k4⟩ := hA.above hI (decide (o.k = 4))
  have := h.few
  have := h.cap
  omega
 obtain ⟨-, -, -, -, hnl, hpos⟩ := hA.above hI (decide (o.k = 4))
 generalize (L.place (decide (o.k = 4))).length = n at *
 have x0 := HX.cell 0 rfl
 have x1 := HX.cell 1 rfl
 have x2 := HX.cell 2 rfl
 have x3 := HX.cell 3 rfl
 have x4 := HX.cell 4 rfl
 have x5 := HX.cell 5 rfl
 have x6 := HX.cell 6 rfl
 have x7 := HX.cell 7 rfl
 have x8 := HX.cell 8 rfl
 clear HX hb0 hA hI h
 unfold ptr boC at *
 go_enter Tryz.func99, Tryz.ntmps99
 go_wp2_with fail
 refine HBG.out.mono ?_
 rintro e w1 ⟨a, b, pb, tag', v, rfl, hsz, k1, k2, h1⟩
 have HK1 := Lib.hid k1
 have HK2 := Lib.hid k2
 have HSZ := Lib.hid (Nat.le_trans HA.out hsz)
 have HSH := Lib.hid (shut_any h1 (by show 0 < n; exact hpos))
 unfold ptr at HSH
 clear h1 k1 k2 hsz HBG x0 x1 x2 x3 x4 x5 x6 x7 x8
 go_wp2_with fail
 refine HSH.out.mono ?_
 rintro e w2 ⟨rfl, ⟨v2, h2⟩, -⟩
 go_wp2
 go_end0
 have e : ((S.op.take n ++ [a]).take n) = S.op.take n := by
  rw [List.take_append_of_le_length (by rw [List.length_take]; omega), List.take_take, Nat.min_self]
 have h2 : PM w0 w2 P tag' { S.beg n a b pb (o.pt S.num) v2 with op := (S.op.take n ++ [a]).take n } := h2
 rw [e] at h2
 exact ⟨a, b, pb, tag', v2, rfl, HSZ.out, HK1.out, HK2.out, h2⟩
end
end Bk
end Go.Proofs.YtkiipaaaakhhfaaGreatDoor
end
