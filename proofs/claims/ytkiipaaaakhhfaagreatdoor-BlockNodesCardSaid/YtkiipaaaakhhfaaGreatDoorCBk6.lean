import Derived.Test.YtkiipaaaakhhfaaGreatDoorCBk5
section
namespace Go.Proofs.YtkiipaaaakhhfaaGreatDoor
open Go Go.RowKit
namespace Bk
set_option maxRecDepth 100000
set_option linter.unusedVariables false
set_option linter.unusedSimpArgs false
structure Like (S S' : PS) : Prop where
 mask : S'.mask = S.mask
 num : S'.num = S.num
 sgn : S'.sgn = S.sgn
 op : S'.op = S.op
 met : S'.met = S.met
 H : S'.H = S.H
 N : S'.N = S.N
 ov : S'.ov = S.ov
 suf : S'.t <:+ S.t
theorem Like.refl (S : PS) : Like S S := ⟨rfl, rfl, rfl, rfl, rfl, rfl, rfl, rfl, List.suffix_rfl⟩
theorem Like.trans {S S' S2 : PS} (h : Like S S') (h' : Like S' S2) : Like S S2 := ⟨h'.mask.trans h.mask, h'.num.trans h.num, h'.sgn.trans h.sgn, h'.op.trans h.op, h'.met.trans h.met, h'.H.trans h.H, h'.N.trans h.N, h'.ov.trans h.ov, h'.suf.trans h.suf⟩
section
variable {w0 w w' : World} {P a hi : Nat} {tag tag' : Tag} {S : PS} {p : Pt} {L : Ln} {X : Scan Rf.Rb}
theorem pass_at (HL : Low w0 X) (h : PM w0 w P tag S) (n : Nat) (hn : n ≤ S.r.aft.length) :
  Calls Tryz.prog 107 #[ptr P, .int .i64 (n : Nat)] w fun e w' => e = .returned (.tuple #[]) ∧ ∃ S', PM w0 w' P tag S' ∧ Like S S' ∧ S'.r = S.r.past n := by
 refine (pass_any HL h n hn).mono ?_
 rintro e w1 ⟨e1, h1⟩
 refine ⟨e1, _, h1, ⟨rfl, rfl, rfl, rfl, rfl, rfl, rfl, rfl, by
  have e : S.r.aft = _ := RS.aft S.t S.col S.sk
  show S.r.aft.drop n <:+ S.t
  rw [e]
  exact (List.drop_suffix _ _).trans (List.drop_suffix _ _)⟩, ?_⟩
 have hp := RS.past S.t S.col S.sk h.sk n
 show RS (S.r.aft.drop n) (S.col + Cl.indC S.t S.col + n) 0 = (RS S.t S.col S.sk).past n
 rw [hp]
 congr 1
 have := RS.aft S.t S.col S.sk
 rw [show S.r.aft = _ from this]
theorem skip_at (h : PM w0 w P tag S) (n : Nat) (hn : n ≤ 100000) :
  Calls Tryz.prog 108 #[ptr P, .int .i64 (n : Nat)] w fun e w' => e = .returned (.tuple #[]) ∧ ∃ S', PM w0 w' P tag S' ∧ Like S S' ∧ S'.r = S.r.skip n := by
 refine (skip_any h n hn).mono ?_
 rintro e w1 ⟨e1, h1⟩
 exact ⟨e1, _, h1, ⟨rfl, rfl, rfl, rfl, rfl, rfl, rfl, rfl, List.suffix_rfl⟩, (RS.skip S.t S.col S.sk h.sk n).symm⟩
theorem pass_atO (HL : Low w0 X) (h : PM w0 w P tag S) (n : Nat) (hn : n ≤ S.r.aft.length) :
  Calls Tryz.prog 107 #[ptr P, .int .i64 (n : Nat)] w fun e w' => e = .returned (.tuple #[]) ∧ (∃ S', PM w0 w' P tag S' ∧ Like S S' ∧ S'.r = S.r.past n) ∧ Only (fun k => k = P) w w' := by
 refine (pass_anyO HL h n hn).mono ?_
 rintro e w1 ⟨e1, h1, h2⟩
 refine ⟨e1, ⟨_, h1, ⟨rfl, rfl, rfl, rfl, rfl, rfl, rfl, rfl, by
  have e : S.r.aft = _ := RS.aft S.t S.col S.sk
  show S.r.aft.drop n <:+ S.t
  rw [e]
  exact (List.drop_suffix _ _).trans (List.drop_suffix _ _)⟩, ?_⟩, h2⟩
 have hp := RS.past S.t S.col S.sk h.sk n
 show RS (S.r.aft.drop n) (S.col + Cl.indC S.t S.col + n) 0 = (RS S.t S.col S.sk).past n
 rw [hp]
 congr 1
 have := RS.aft S.t S.col S.sk
 rw [show S.r.aft = _ from this]
theorem skip_atO (h : PM w0 w P tag S) (n : Nat) (hn : n ≤ 100000) :
  Calls Tryz.prog 108 #[ptr P, .int .i64 (n : Nat)] w fun e w' => e = .returned (.tuple #[]) ∧ (∃ S', PM w0 w' P tag S' ∧ Like S S' ∧ S'.r = S.r.skip n) ∧ Only (fun k => k = P) w w' := by
 refine (skip_anyO h n hn).mono ?_
 rintro e w1 ⟨e1, h1, h2⟩
 exact ⟨e1, ⟨_, h1, ⟨rfl, rfl, rfl, rfl, rfl, rfl, rfl, rfl, List.suffix_rfl⟩, (RS.skip S.t S.col S.sk h.sk n).symm⟩, h2⟩
theorem aft_len (h : PM w0 w P tag S) : S.r.aft.length ≤ 1000 ∧ S.r.ind ≤ 4000 := by
 have h1 : S.r.aft = _ := RS.aft S.t S.col S.sk
 have h2 : S.r.ind = _ := RS.ind S.t S.col S.sk
 have hf := h.fit
 have hle := Cl.indC_le S.t S.col
 rw [h1, h2, List.length_drop]
 omega
set_option maxHeartbeats 4000000 in
theorem quoteSign_any (HL : Low w0 X) (h : PM w0 w P tag S) :
  Calls Tryz.prog 92 #[ptr P] w fun e w' =>
   (¬ (S.r.ind < 4 ∧ S.r.aft.head? = some 62) ∧ e = .returned (.bool false) ∧ PM w0 w' P tag S) ∨
   ((S.r.ind < 4 ∧ S.r.aft.head? = some 62) ∧ e = .returned (.bool true) ∧ ∃ S', PM w0 w' P tag S' ∧ Like S S' ∧ S'.r = (S.r.past 1).skip 1) := by
 have HP := Lib.hid h
 have HI := Lib.hid (indent_any h)
 have hal := (aft_len h).1
 by_cases h4 : 4 ≤ S.r.ind
 ·have b1 : (4 : Int) ≤ (S.r.ind : Int) := by omega
  have hV : Hid (¬ (S.r.ind < 4 ∧ S.r.aft.head? = some 62)) := Lib.hid (fun e => by omega)
  clear h h4 hal
  generalize S.r.ind = d at *
  unfold ptr Reads at *
  go_enter Tryz.func92, Tryz.ntmps92
  go_wp2_with fail
  refine HI.out.mono ?_
  rintro e w1 ⟨rfl, m1, rfl⟩
  go_wp2
  go_ret
  exact .inl ⟨hV.out, rfl, HP.out.drewN _⟩
 have b1 : ¬ (4 : Int) ≤ (S.r.ind : Int) := by omega
 have b1' : (S.r.ind : Int) < 4 := by omega
 have h4' : S.r.ind < 4 := by omega
 have HBH := Lib.hid (fun m => behind_any (h.drewN m))
 have HPX := Lib.hid (HL.prefix1 S.r.aft (by omega))
 by_cases hd : S.r.aft.head? = some 62
 ·have e62 : (S.r.aft.head? == some 62) = true := by rw [hd]; rfl
  rw [e62] at HPX
  have hn1 : 1 ≤ S.r.aft.length := by
   cases hx : S.r.aft with
   | nil => rw [hx] at hd; cases hd
   | cons _ _ => simp
  have HPS := Lib.hid (fun W (hW : Below w.heap.size w W) => pass_at HL (h.below hW) 1 hn1)
  have hV : Hid (S.r.ind < 4 ∧ S.r.aft.head? = some 62) := Lib.hid ⟨h4', hd⟩
  clear h h4 h4' hal hd e62 hn1
  generalize S.r.ind = d at *
  generalize S.r.aft = A at *
  unfold ptr str Reads at *
  go_enter Tryz.func92, Tryz.ntmps92
  go_wp2_with fail
  refine HI.out.mono ?_
  rintro e w1 ⟨rfl, m1, rfl⟩
  go_wp2_with fail
  refine (HBH.out _).mono ?_
  rintro e w2 ⟨rfl, m2, e2⟩
  rw [World.drewN_drewN] at e2
  subst e2
  go_wp2_with fail
  refine (HPX.out.at HP.out.low (below_drewN (Below.refl _ _) _)).mono ?_
  rintro e w3 ⟨rfl, hb3⟩
  go_wp2_with fail
  refine (HPS.out _ hb3).mono ?_
  rintro e w4 ⟨rfl, S4, h4, l4, r4⟩
  have HSK := Lib.hid (skip_at h4 1 (by omega))
  have L4 := Lib.hid l4
  have R4 := Lib.hid r4
  unfold ptr at HSK
  clear h4 l4 r4 hb3
  go_wp2_with fail
  refine HSK.out.mono ?_
  rintro e w5 ⟨rfl, S5, h5, l5, r5⟩
  have H5 := Lib.hid h5
  have L5 := Lib.hid l5
  have R5 := Lib.hid r5
  clear h5 l5 r5
  go_wp2
  go_ret
  exact .inr ⟨hV.out, rfl, S5, H5.out, L4.out.trans L5.out, by rw [R5.out, R4.out]⟩
 ·have e62 : (S.r.aft.head? == some 62) = false := beq_eq_false_iff_ne.2 hd
  rw [e62] at HPX
  have hV : Hid (¬ (S.r.ind < 4 ∧ S.r.aft.head? = some 62)) := Lib.hid (fun e => hd e.2)
  clear h h4 h4' hal hd e62
  generalize S.r.ind = d at *
  generalize S.r.aft = A at *
  unfold ptr str Reads at *
  go_enter Tryz.func92, Tryz.ntmps92
  go_wp2_with fail
  refine HI.out.mono ?_
  rintro e w1 ⟨rfl, m1, rfl⟩
  go_wp2_with fail
  refine (HBH.out _).mono ?_
  rintro e w2 ⟨rfl, m2, e2⟩
  rw [World.drewN_drewN] at e2
  subst e2
  go_wp2_with fail
  refine (HPX.out.at HP.out.low (below_drewN (Below.refl _ _) _)).mono ?_
  rintro e w3 ⟨rfl, hb3⟩
  go_wp2
  go_ret
  exact .inl ⟨hV.out, rfl, HP.out.below hb3⟩
set_option maxHeartbeats 4000000 in
theorem indented_any (h : PM w0 w P tag S) (n : Nat) (hn : n ≤ 100000) :
  Calls Tryz.prog 93 #[ptr P, .int .i64 (n : Nat)] w fun e w' =>
   ((S.r.ind < n ∧ blank S.r.s = false) ∧ e = .returned (.bool false) ∧ PM w0 w' P tag S) ∨
   (¬ (S.r.ind < n ∧ blank S.r.s = false) ∧ e = .returned (.bool true) ∧ ∃ S', PM w0 w' P tag S' ∧ Like S S' ∧ S'.r = S.r.skip n) := by
 have HP := Lib.hid h
 have HI := Lib.hid (indent_any h)
 have HBK := Lib.hid (fun m => blank_any (h.drewN m))
 have HSK := Lib.hid (fun m => skip_at (h.drewN m) n hn)
 have hin := (aft_len h).2
 obtain ⟨bq, hbq⟩ : ∃ b, blank S.r.s = b := ⟨_, rfl⟩
 rw [hbq] at HBK ⊢
 clear hbq h
 by_cases hlt : S.r.ind < n
 ·have b1 : (S.r.ind : Int) < (n : Int) := by omega
  cases bq with
  | false =>
   have hV : Hid (S.r.ind < n ∧ false = false) := Lib.hid ⟨hlt, rfl⟩
   clear hlt
   generalize S.r.ind = d at *
   unfold ptr Reads at *
   go_enter Tryz.func93, Tryz.ntmps93
   go_wp2_with fail
   refine HI.out.mono ?_
   rintro e w1 ⟨rfl, m1, rfl⟩
   go_wp2_with fail
   refine (HBK.out _).mono ?_
   rintro e w2 ⟨rfl, m2, e2⟩
   rw [World.drewN_drewN] at e2
   subst e2
   go_wp2
   go_ret
   exact .inl ⟨hV.out, rfl, HP.out.drewN _⟩
  | true =>
   have hV : Hid (¬ (S.r.ind < n ∧ true = false)) := Lib.hid (fun e => by cases e.2)
   clear hlt
   generalize S.r.ind = d at *
   unfold ptr Reads at *
   go_enter Tryz.func93, Tryz.ntmps93
   go_wp2_with fail
   refine HI.out.mono ?_
   rintro e w1 ⟨rfl, m1, rfl⟩
   go_wp2_with fail
   refine (HBK.out _).mono ?_
   rintro e w2 ⟨rfl, m2, e2⟩
   rw [World.drewN_drewN] at e2
   subst e2
   go_wp2_with fail
   refine (HSK.out _).mono ?_
   rintro e w3 ⟨rfl, S3, h3, l3, r3⟩
   have H3 := Lib.hid h3
   have L3 := Lib.hid l3
   have R3 := Lib.hid r3
   clear h3 l3 r3
   go_wp2
   go_ret
   exact .inr ⟨hV.out, rfl, S3, H3.out, L3.out, R3.out⟩
 ·have b1 : ¬ (S.r.ind : Int) < (n : Int) := by omega
  have hV : Hid (¬ (S.r.ind < n ∧ bq = false)) := Lib.hid (fun e => hlt e.1)
  clear hlt HBK
  generalize S.r.ind = d at *
  unfold ptr Reads at *
  go_enter Tryz.func93, Tryz.ntmps93
  go_wp2_with fail
  refine HI.out.mono ?_
  rintro e w1 ⟨rfl, m1, rfl⟩
  go_wp2_with fail
  refine (HSK.out _).mono ?_
  rintro e w3 ⟨rfl, S3, h3, l3, r3⟩
  have H3 := Lib.hid h3
  have L3 := Lib.hid l3
  have R3 := Lib.hid r3
  clear h3 l3 r3
  go_wp2
  go_ret
  exact .inr ⟨hV.out, rfl, S3, H3.out, L3.out, R3.out⟩
theorem skip_min (r : Rest) (n : Nat) : r.skip n = r.skip (min r.ind n) := by
 unfold Rest.skip
 rw [skp_min r.s r.col n, Nat.min_comm]
 rfl
structure LikeH (S S' : PS) (H : Hp) : Prop where
 mask : S'.mask = S.mask
 num : S'.num = S.num
 sgn : S'.sgn = S.sgn
 op : S'.op = S.op
 met : S'.met = S.met
 H : S'.H = H
 N : S'.N = S.N
 ov : S'.ov = S.ov
 suf : S'.t <:+ S.t
theorem Like.h {S S' : PS} (h : Like S S') : LikeH S S' S.H := ⟨h.mask, h.num, h.sgn, h.op, h.met, h.H, h.N, h.ov, h.suf⟩
def MeetsP (w0 : World) (P : Nat) (tag : Tag) (S : PS) (a : Nat) (p : Pt) (f : Fr) (has : Bool) (e : Ending) (w' : World) : Prop :=
 (meet1 f has S.r = none ∧ e = .returned (.bool false) ∧ PM w0 w' P tag S) ∨
 ∃ r1 S', meet1 f has S.r = some r1 ∧ e = .returned (.bool true) ∧ PM w0 w' P tag S' ∧ LikeH S S' (if f.k = 2 then S.H.set a { p with z := (S.num : Int) } else S.H) ∧ S'.r = r1
set_option maxHeartbeats 4000000 in
theorem meets_list (h : PM w0 w P tag S) (hp : S.H a = some p) {f : Fr} (hf : FrAt p f) (hk : f.k = 3) (has : Bool) :
  Calls Tryz.prog 54 #[ptr P, ptr a] w fun e w' => MeetsP w0 P tag S a p f has e w' := by
 have HP := Lib.hid h
 obtain ⟨pv, lv, hpc, -⟩ := (h.parts a p hp).1.cells
 have d0 := hpc.c0
 rw [hf.k, hk] at d0
 have HV : Hid (meet1 f has S.r = some S.r ∧ ¬ f.k = 2) := Lib.hid ⟨by unfold meet1; rw [if_pos hk], by omega⟩
 clear h hp hf hk hpc
 unfold ptr
 go_enter Tryz.func54, Tryz.ntmps54
 go_wp2
 go_ret
 refine .inr ⟨S.r, S, HV.out.1, rfl, HP.out, ?_, rfl⟩
 rw [if_neg HV.out.2]
 exact (Like.refl S).h
set_option maxHeartbeats 4000000 in
theorem meets_quote (HL : Low w0 X) (h : PM w0 w P tag S) (hp : S.H a = some p) {f : Fr} (hf : FrAt p f) (hk : f.k = 2) (has : Bool) :
  Calls Tryz.prog 54 #[ptr P, ptr a] w fun e w' => MeetsP w0 P tag S a p f has e w' := by
 have HQ := Lib.hid (quoteSign_any HL h)
 obtain ⟨pv, lv, hpc, -⟩ := (h.parts a p hp).1.cells
 have d0 := hpc.c0
 rw [hf.k, hk] at d0
 have HV : Hid (meet1 f has S.r = if 4 ≤ S.r.ind then none else if S.r.aft.head? = some 62 then some ((S.r.past 1).skip 1) else none) := Lib.hid (by unfold meet1; rw [if_neg (by omega), if_pos hk])
 have HK := Lib.hid hk
 have HPP := Lib.hid hp
 clear h hp hf hk hpc
 unfold ptr at *
 go_enter Tryz.func54, Tryz.ntmps54
 go_wp2_with fail
 refine HQ.out.mono ?_
 rintro e w1 (⟨hn, rfl, h1⟩ | ⟨hy, rfl, S1, h1, l1, r1⟩)
 ·have H1 := Lib.hid h1
  have HN : Hid (meet1 f has S.r = none) := Lib.hid (by
   rw [HV.out]
   by_cases h4 : 4 ≤ S.r.ind
   ·rw [if_pos h4]
   ·rw [if_neg h4, if_neg (fun e => hn ⟨by omega, e⟩)])
  clear h1 hn HQ
  go_wp2
  go_ret
  exact .inl ⟨HN.out, rfl, H1.out⟩
 ·have H1 := Lib.hid h1
  have L1 := Lib.hid l1
  have R1 := Lib.hid r1
  have HN : Hid (meet1 f has S.r = some ((S.r.past 1).skip 1)) := Lib.hid (by
   rw [HV.out, if_neg (by have := hy.1; omega), if_pos hy.2])
  have hp1 : S1.H a = some p := by rw [l1.H]; exact HPP.out
  obtain ⟨pv1, lv1, hpc1, -⟩ := (h1.parts a p hp1).1.cells
  obtain ⟨ov1, hm1, -⟩ := h1.cells
  have c6 : w1.cell? ⟨P, 6, none⟩ = some (.int .i64 (S.num : Nat)) := by rw [← l1.num]; exact hm1.c6
  have d7 := hpc1.c7
  have f1 := hpc1.fr
  have HS := Lib.hid (h1.setPt (q := { p with z := (S.num : Int) }) hp1 7 (.int .i64 (S.num : Nat)) (fun _ _ => rfl) rfl rfl (by
   have h5 := (h1.parts a p hp1).2
   have hn9 : S1.num ≤ 1000 := h1.num
   have hn8 := l1.num
   exact ⟨h5.kids, h5.ls, h5.a, by show (-1 : Int) ≤ (S.num : Int); omega, by show (S.num : Int) ≤ 1000; omega, h5.k, h5.n, h5.m, h5.need, h5.cnt, h5.ind, h5.len⟩))
  clear h1 l1 r1 hy hp1 hpc1 hm1 HQ
  go_wp2
  go_ret
  refine .inr ⟨_, _, HN.out, rfl, HS.out, ?_, R1.out⟩
  rw [if_pos HK.out]
  exact ⟨L1.out.mask, L1.out.num, L1.out.sgn, L1.out.op, L1.out.met, by show S1.H.set a _ = _; rw [L1.out.H], L1.out.N, L1.out.ov, L1.out.suf⟩
set_option maxHeartbeats 4000000 in
theorem meets_note (h : PM w0 w P tag S) (hp : S.H a = some p) {f : Fr} (hf : FrAt p f) (hk : f.k = 13) (has : Bool) :
  Calls Tryz.prog 54 #[ptr P, ptr a] w fun e w' => MeetsP w0 P tag S a p f has e w' := by
 have HQ := Lib.hid (indented_any h 4 (by omega))
 obtain ⟨pv, lv, hpc, -⟩ := (h.parts a p hp).1.cells
 have d0 := hpc.c0
 rw [hf.k, hk] at d0
 have HV : Hid (meet1 f has S.r = if S.r.ind < 4 ∧ blank S.r.s = false then none else some (S.r.skip 4)) := Lib.hid (by
  unfold meet1
  rw [if_neg (by omega), if_neg (by omega), if_neg (fun e => by have := e.1; omega), if_neg (show ¬ f.k = 4 by omega), ← skip_min])
 have HK : Hid (¬ f.k = 2) := Lib.hid (by omega)
 clear h hp hf hk hpc
 unfold ptr at *
 go_enter Tryz.func54, Tryz.ntmps54
 go_wp2_with fail
 refine HQ.out.mono ?_
 rintro e w1 (⟨hn, rfl, h1⟩ | ⟨hy, rfl, S1, h1, l1, r1⟩)
 ·have H1 := Lib.hid h1
  have HN : Hid (meet1 f has S.r = none) := Lib.hid (by rw [HV.out, if_pos hn])
  clear h1 hn HQ
  go_wp2
  go_ret
  exact .inl ⟨HN.out, rfl, H1.out⟩
 ·have H1 := Lib.hid h1
  have L1 := Lib.hid l1
  have R1 := Lib.hid r1
  have HN : Hid (meet1 f has S.r = some (S.r.skip 4)) := Lib.hid (by rw [HV.out, if_neg hy])
  clear h1 l1 r1 hy HQ
  go_wp2
  go_ret
  refine .inr ⟨_, S1, HN.out, rfl, H1.out, ?_, R1.out⟩
  rw [if_neg HK.out]
  exact L1.out.h
set_option maxHeartbeats 4000000 in
theorem meets_item (h : PM w0 w P tag S) (hp : S.H a = some p) {f : Fr} (hf : FrAt p f) (hk : f.k = 4) {has : Bool} (hhas : p.kids.isEmpty = !has) :
  Calls Tryz.prog 54 #[ptr P, ptr a] w fun e w' => MeetsP w0 P tag S a p f has e w' := by
 have hfw := (h.parts a p hp).2
 have hneed := hfw.need
 have HQ := Lib.hid (fun m => indented_any (h.drewN m) p.need hneed)
 have HBK := Lib.hid (blank_any h)
 obtain ⟨pv, lv, hpc, -⟩ := (h.parts a p hp).1.cells
 obtain ⟨la, lc, rfl, -, -⟩ := hpc.row.form
 have d0 := hpc.c0
 have d9 := hpc.c9
 have d11 := hpc.c11
 rw [hf.k, hk] at d0
 rw [List.length_map] at d9
 have hkz : p.kids.length ≤ 1000000 := Nat.le_trans hfw.kids h.cap
 have HP := Lib.hid h
 have HV : Hid (meet1 f has S.r = if blank S.r.s = true ∧ has = false then none else if S.r.ind < p.need ∧ blank S.r.s = false then none else some (S.r.skip p.need)) := Lib.hid (by
  unfold meet1
  rw [if_neg (by omega), if_neg (by omega), if_pos hk, hf.need, ← skip_min]
  by_cases hc : blank S.r.s = true ∧ has = false
  ·rw [if_pos ⟨hk, hc⟩, if_pos hc]
  ·rw [if_neg (fun e => hc e.2), if_neg hc])
 have HK : Hid (¬ f.k = 2) := Lib.hid (by omega)
 clear h hp hf hk hpc hfw
 obtain ⟨bq, hbq⟩ : ∃ b, blank S.r.s = b := ⟨_, rfl⟩
 rw [hbq] at HBK HV HQ
 clear hbq
 obtain ⟨n, hn⟩ : ∃ n, p.kids.length = n := ⟨_, rfl⟩
 rw [hn] at d9 hkz
 have hemp : p.kids.isEmpty = decide (n = 0) := by rw [← hn]; cases p.kids <;> simp
 rw [hemp] at hhas
 clear hn hemp
 generalize p.need = nd at *
 unfold ptr Reads at *
 cases has with
 | true =>
  have hn0 : ¬ n = 0 := by intro e; rw [e] at hhas; simp at hhas
  have b1 : (0 : Int) < (n : Int) := by omega
  clear hhas hn0 HBK
  go_enter Tryz.func54, Tryz.ntmps54
  go_wp2_with fail
  refine (HQ.out 0).mono ?_
  rintro e w1 (⟨hn, rfl, h1⟩ | ⟨hy, rfl, S1, h1, l1, r1⟩)
  ·have H1 := Lib.hid h1
   have HN : Hid (meet1 f true S.r = none) := Lib.hid (by rw [HV.out, if_neg (by simp), if_pos hn])
   clear h1 hn HQ
   go_wp2
   go_ret
   exact .inl ⟨HN.out, rfl, H1.out⟩
  ·have H1 := Lib.hid h1
   have L1 := Lib.hid l1
   have R1 := Lib.hid r1
   have HN : Hid (meet1 f true S.r = some (S.r.skip nd)) := Lib.hid (by rw [HV.out, if_neg (by simp), if_neg hy])
   clear h1 l1 r1 hy HQ
   go_wp2
   go_ret
   refine .inr ⟨_, S1, HN.out, rfl, H1.out, ?_, R1.out⟩
   rw [if_neg HK.out]
   exact L1.out.h
 | false =>
  have hn0 : n = 0 := by simpa using hhas
  subst hn0
  clear hhas
  cases bq with
  | true =>
   clear HQ
   go_enter Tryz.func54, Tryz.ntmps54
   go_wp2_with fail
   refine HBK.out.mono ?_
   rintro e w1 ⟨rfl, m1, rfl⟩
   go_wp2
   go_ret
   exact .inl ⟨by rw [HV.out]; simp, rfl, HP.out.drewN _⟩
  | false =>
   go_enter Tryz.func54, Tryz.ntmps54
   go_wp2_with fail
   refine HBK.out.mono ?_
   rintro e w1 ⟨rfl, m1, rfl⟩
   go_wp2_with fail
   refine (HQ.out _).mono ?_
   rintro e w2 (⟨hn, rfl, h1⟩ | ⟨hy, rfl, S1, h1, l1, r1⟩)
   ·have H1 := Lib.hid h1
    have HN : Hid (meet1 f false S.r = none) := Lib.hid (by rw [HV.out, if_neg (by simp), if_pos hn])
    clear h1 hn HQ
    go_wp2
    go_ret
    exact .inl ⟨HN.out, rfl, H1.out⟩
   ·have H1 := Lib.hid h1
    have L1 := Lib.hid l1
    have R1 := Lib.hid r1
    have HN : Hid (meet1 f false S.r = some (S.r.skip nd)) := Lib.hid (by rw [HV.out, if_neg (by simp), if_neg hy])
    clear h1 l1 r1 hy HQ
    go_wp2
    go_ret
    refine .inr ⟨_, S1, HN.out, rfl, H1.out, ?_, R1.out⟩
    rw [if_neg HK.out]
    exact L1.out.h
theorem meets_any (HL : Low w0 X) (h : PM w0 w P tag S) (hp : S.H a = some p) {f : Fr} (hf : FrAt p f) (hk : f.k ≠ 1) {has : Bool} (hhas : p.kids.isEmpty = !has) :
  Calls Tryz.prog 54 #[ptr P, ptr a] w fun e w' => MeetsP w0 P tag S a p f has e w' := by
 rcases hf.cont with e | e | e | e | e
 ·exact absurd e hk
 ·exact meets_quote HL h hp hf e has
 ·exact meets_list h hp hf e has
 ·exact meets_item h hp hf e hhas
 ·exact meets_note h hp hf e has
set_option maxHeartbeats 4000000 in
theorem meets_leaf (h : PM w0 w P tag S) (hp : S.H a = some p) (hk : p.k = 5 ∨ p.k = 6 ∨ p.k = 7) : Reads w 54 #[ptr P, ptr a] (.bool false) := by
 obtain ⟨pv, lv, hpc, -⟩ := (h.parts a p hp).1.cells
 have d0 := hpc.c0
 clear h hp hpc
 generalize p.k = k at *
 have e1 : ¬ (k : Int) = 3 := by omega
 have e2 : ¬ (k : Int) = 2 := by omega
 have e3 : ¬ (k : Int) = 4 := by omega
 have e4 : ¬ (k : Int) = 13 := by omega
 clear hk
 unfold ptr Reads
 go_enter Tryz.func54, Tryz.ntmps54
 go_wp2
 go_ret
 exact ⟨rfl, 0, rfl⟩
end
end Bk
end Go.Proofs.YtkiipaaaakhhfaaGreatDoor
end
section
namespace Go.Proofs.YtkiipaaaakhhfaaGreatDoor
open Go Go.RowKit
namespace Bk
set_option maxRecDepth 100000
set_option linter.unusedVariables false
set_option linter.unusedSimpArgs false
structure LikeM (S S' : PS) : Prop where
 mask : S'.mask = S.mask
 num : S'.num = S.num
 sgn : S'.sgn = S.sgn
 op : S'.op = S.op
 N : S'.N = S.N
 suf : S'.t <:+ S.t
theorem LikeM.refl (S : PS) : LikeM S S := ⟨rfl, rfl, rfl, rfl, rfl, List.suffix_rfl⟩
section
variable {w0 w w' : World} {P a hi : Nat} {tag tag' : Tag} {S : PS} {p : Pt} {L : Ln} {X : Scan Rf.Rb}
theorem meets_q (HL : Low w0 X) (h : PM w0 w P tag S) (hp : S.H a = some p) {f : Fr} (hf : FrAt p f) (hk : f.k ≠ 1) {has : Bool} (hhas : p.kids.isEmpty = !has) :
  Calls Tryz.prog 54 #[ptr P, ptr a] w fun e w' => ∃ bq S', e = .returned (.bool bq) ∧ PM w0 w' P tag S' ∧ (S'.op = S.op ∧ S'.met = S.met ∧ S'.ov = S.ov) ∧ (bq = false → meet1 f has S.r = none ∧ S' = S) ∧ (bq = true → meet1 f has S.r = some S'.r ∧ LikeH S S' (if f.k = 2 then S.H.set a { p with z := (S.num : Int) } else S.H)) := by
 refine (meets_any HL h hp hf hk hhas).mono ?_
 rintro e w1 (⟨h1, h2, h3⟩ | ⟨r1, S', h1, h2, h3, h4, h5⟩)
 ·exact ⟨false, S, h2, h3, ⟨rfl, rfl, rfl⟩, fun _ => ⟨h1, rfl⟩, fun e => by cases e⟩
 ·exact ⟨true, S', h2, h3, ⟨h4.op, h4.met, h4.ov⟩, fun e => (by cases e), fun _ => ⟨by rw [h1, h5], h4⟩⟩
theorem FrAt.met {p : Pt} {f : Fr} (h : FrAt p f) (i : Nat) : FrAt (if f.k = 2 then { p with z := (i : Int) } else p) (met i f) := by
 unfold Bk.met
 by_cases hk : f.k = 2
 ·rw [if_pos hk, if_pos hk]
  exact ⟨h.k, h.s, h.t, h.n, h.m, h.need, h.a, rfl, h.ls, h.cnt, h.cont⟩
 ·rw [if_neg hk, if_neg hk]
  exact h
theorem met_kids (i : Nat) (f : Fr) : (met i f).kids = f.kids := by
 unfold met
 split <;> rfl
theorem Hp.set_same {H : Hp} {a : Nat} {p : Pt} (h : H a = some p) : H.set a p = H := by
 funext x
 by_cases hx : x = a
 ·rw [hx, Hp.set_eq, h]
 ·rw [Hp.set_ne _ _ hx]
set_option maxHeartbeats 4000000 in
theorem meet_any (HL : Low w0 X) (h : PM w0 w P tag S) {b : Fr} {fs : List Fr} {leaf : Option Lf} (hO : OpenAt S.H (b :: fs) leaf S.op 0 hi) (hk1 : ∀ f ∈ fs, f.k ≠ 1) :
  Calls Tryz.prog 36 #[ptr P] w fun e w' => e = .returned (.tuple #[]) ∧ ∃ S', PM w0 w' P tag S' ∧ Abs S' (lineL S.num b fs leaf S.r) hi ∧ LikeM S S' := by
 have HLL := Lib.hid HL
 obtain ⟨ov, hm, -⟩ := h.cells
 have c9 := hm.c9
 have f := hm.fr
 have hl := hO.len
 have HP1 : Hid (PM w0 (w.setCell ⟨P, 9, none⟩ (.int .i64 1)) P tag { S with met := 1 }) := Lib.hid (h.par _ ((Only.refl _ _).setP _ _) (fun ov h => h.set 9 _ rfl) rfl rfl rfl h.sk h.fit h.num h.sgn (by show 1 ≤ S.op.length; rw [hl, List.length_cons]; omega))
 have HO1 := Lib.hid hO
 have HK1 := Lib.hid hk1
 have HNN := Lib.hid (Nat.le_trans h.few h.cap)
 clear hm h hl hO HL hk1
 unfold ptr
 go_enter Tryz.func36, Tryz.ntmps36
 go_upto_region 0 with fail
 go_cut [] (fun wx => Hid (PM w0 wx P tag { S with met := 1 }))
 case first =>
  go_wp2
  go_meet
  exact HP1
 have HP2 := hcut
 clear hcut HP1 c9 f
 go_wp2_with fail
 go_loopg [] fs.length (fun G wr => ∃ (xs ys : List Fr) (S1 : PS), ys.length = G ∧ Hid (PM w0 wr P tag S1 ∧ OpenAt S1.H ((b :: xs) ++ ys) leaf S1.op 0 hi ∧ S1.met = xs.length + 1 ∧ LikeM S S1 ∧ meets S.num leaf fs S.r = (xs ++ (meets S.num leaf ys S1.r).1, (meets S.num leaf ys S1.r).2.1, (meets S.num leaf ys S1.r).2.2) ∧ (∀ f ∈ ys, f.k ≠ 1)))
 case atStart => exact ⟨[], fs, { S with met := 1 }, rfl, Lib.hid ⟨HP2.out, HO1.out, rfl, ⟨rfl, rfl, rfl, rfl, rfl, List.suffix_rfl⟩, rfl, HK1.out⟩⟩
 case round =>
  obtain ⟨xs, ys, S1, hG, HR⟩ := hrel
  have hlen := HR.out.2.1.len
  have hmet := HR.out.2.2.1
  have hsl := HR.out.1.few
  have hsc := HR.out.1.cap
  rw [List.length_append, List.length_cons] at hlen
  clear HP2
  cases gk with
  | zero =>
   have hys : ys = [] := List.length_eq_zero_iff.1 hG
   subst hys
   have HE : Hid (∃ S', PM w0 wr P tag S' ∧ Abs S' (lineL S.num b fs leaf S.r) hi ∧ LikeM S S') := Lib.hid (by
    obtain ⟨h1, h2, h3, h4, h5, h6⟩ := HR.out
    refine ⟨S1, h1, ⟨?_, by simp [lineL], ?_, ?_⟩, h4⟩
    ·unfold lineL
     rw [h5]
     simpa [meets] using h2
    ·unfold lineL
     rw [h5]
     simp [meets, h3]
    ·unfold lineL
     rw [h5]
     rfl)
   cases leaf with
   | none =>
    obtain ⟨ov, hm, -⟩ := HR.out.1.cells
    obtain ⟨la, lc, rfl, -, -⟩ := hm.row.form
    have c8 := hm.c8
    have c9 := hm.c9
    rw [List.length_map] at c8
    rw [hmet] at c9
    have hq : S1.op.length = xs.length + 1 := by simpa using hlen
    rw [hq] at c8
    clear hm hlen hmet hsl hsc hq HR
    generalize xs.length = k at *
    have b1 : ¬ ((k : Int) + 1 < (k : Int) + 1) := by omega
    have b2 : decide ((k : Int) + 1 < (k : Int) + 1) = false := decide_eq_false b1
    go_upto_region 1 with fail
    go_quiet (fail)
    go_wp2
    go_end0
    obtain ⟨S', k1, k2, k3⟩ := HE.out
    exact ⟨rfl, S', k1.drewN _, k2, k3⟩
   | some l =>
    obtain ⟨a, p, g1, g2, g3⟩ := leaf_get HR.out.2.1
    have hq : S1.op.length = xs.length + 2 := by simpa using hlen
    have g1' : S1.op[xs.length + 1]? = some a := by rw [List.getLast?_eq_getElem?, hq] at g1; exact g1
    obtain ⟨g, n, cap, c8, ce, hlt, hn⟩ := HR.out.1.at g1'
    obtain ⟨ov, hm, -⟩ := HR.out.1.cells
    have c9 := hm.c9
    rw [hmet] at c9
    have HM := Lib.hid (fun m => meets_leaf (HR.out.1.drewN m) g2 (by rw [g3.k]; exact g3.leaf))
    have hn2 : n = xs.length + 2 := by
     have e1 := hm.c8
     obtain ⟨la, lc, e2, -, -⟩ := hm.row.form
     rw [c8, e2] at e1
     injection e1 with e1
     injection e1 with _ e1 _
     rw [e1, List.length_map, hq]
    clear hm hlen hmet hsl hsc hq HR g1 g2 g3 g1' hn2
    unfold ptr Reads at *
    generalize xs.length = k at *
    have b0 : (k : Int) + 1 < (n : Int) := by omega
    have b1 : decide ((k : Int) + 1 < (n : Int)) = true := decide_eq_true b0
    have b2 : (0 : Int) ≤ (k : Int) + 1 := by omega
    go_upto_region 1 with fail
    go_quiet (first | (go_at_call 54; refine Calls.quiet_of (HM.out _)))
    go_wp2
    go_end0
    obtain ⟨S', k1, k2, k3⟩ := HE.out
    exact ⟨rfl, S', k1.drewN _, k2, k3⟩
  | succ G =>
   obtain ⟨y, ys', rfl⟩ : ∃ y ys', ys = y :: ys' := by
    cases ys with
    | nil => simp at hG
    | cons y ys' => exact ⟨y, ys', rfl⟩
   have hO2 := HR.out.2.1
   obtain ⟨a, p, g1, -, -, g2, g3, g4, g5⟩ := frame_at (xs := b :: xs) hO2
   have g1' : S1.op[xs.length + 1]? = some a := by simpa using g1
   obtain ⟨g, n, cap, c8, ce, hlt, hn⟩ := HR.out.1.at g1'
   have hm := HR.out.1.cellsV
   have hov : S1.ov = .slice (some ⟨g, 0, none⟩) n cap := by
    have e1 := hm.c8
    rw [c8] at e1
    injection e1 with e1
    exact e1.symm
   have HS : Hid (∀ W S2, PM w0 W P tag S2 → S2.op = S1.op → S2.met = S1.met → S2.ov = S1.ov → W.cell? ⟨P, 9, none⟩ = some (.int .i64 ((xs.length + 1 : Nat) : Int)) ∧ W.cell? ⟨P, 8, none⟩ = some (.slice (some ⟨g, 0, none⟩) n cap) ∧ W.cell? ⟨g, xs.length + 1, none⟩ = some (ptr a)) := Lib.hid (by
    intro W S2 h2 e1 e2 e3
    have hm2 := h2.cellsV
    have hr := hm2.row
    rw [e3, hov, e1] at hr
    obtain ⟨g', cap', e4, -, -, e5⟩ := hr.at (by intro e; rw [List.map_eq_nil_iff] at e; rw [e] at g1'; simp at g1')
    simp only [Value.slice.injEq, Option.some.injEq, Addr.mk.injEq] at e4
    obtain ⟨⟨e6, -⟩, -⟩ := e4
    subst e6
    have c9' := hm2.c9
    rw [e2, hmet] at c9'
    have c8' := hm2.c8
    rw [e3, hov] at c8'
    exact ⟨c9', c8', e5 (xs.length + 1) (ptr a) (by rw [List.getElem?_map, g1']; rfl)⟩)
   have HM := Lib.hid (fun W (hW : Below wr.heap.size wr W) => meets_q HLL.out (HR.out.1.below hW) g2 g3 (HR.out.2.2.2.2.2 y (by simp)) (has := hasKid y ys' leaf) g4)
   have HW := Lib.hid (Below.refl wr.heap.size wr)
   have HP1 := Lib.hid HR.out.1
   have G2 := Lib.hid g2
   have G3 := Lib.hid g3
   have G5 := Lib.hid g5
   clear hm hlen hmet hsl hsc g1 g2 g3 g1' g4 g5 hO2 c8 ce hov
   unfold ptr at *
   obtain ⟨k, hk⟩ : ∃ k, xs.length + 1 = k := ⟨_, rfl⟩
   have HKX := Lib.hid hk
   rw [hk] at hlt HS
   clear hk
   have b1 : decide ((k : Int) < (n : Int)) = true := decide_eq_true hlt
   have b2 : (0 : Int) ≤ (k : Int) := by omega
   go_upto_region 1 with fail
   go_region_held3 (fun W => W.cell? ⟨P, 9, none⟩ = some (.int .i64 (k : Nat)) ∧ W.cell? ⟨P, 8, none⟩ = some (.slice (some ⟨g, 0, none⟩) n cap) ∧ W.cell? ⟨g, k, none⟩ = some (.pointer (some ⟨a, 0, none⟩))) (first | exact HS.out _ _ (HP1.out.below HW.out.drew) rfl rfl rfl | exact HS.out _ _ h2 h5.1 h5.2.1 h5.2.2) (first | (go_at_call 54; with_reducible refine (HM.out _ HW.out.drew).mono ?_; rintro e w2 ⟨bq, S2, rfl, h2, h5, h3, h4⟩))
   all_goals
    cases bq with
    | false =>
     have HE : Hid (∃ S', PM w0 w2 P tag S' ∧ Abs S' (lineL S.num b fs leaf S.r) hi ∧ LikeM S S') := Lib.hid (by
      obtain ⟨k1, k2, k3, k4, k5, k6⟩ := HR.out
      obtain ⟨j1, rfl⟩ := h3 rfl
      have hm1 : meets S.num leaf (y :: ys') S2.r = ([], y :: ys', S2.r) := by rw [meets, j1]
      rw [hm1] at k5
      refine ⟨S2, h2, ⟨?_, by simp [lineL], ?_, ?_⟩, k4⟩
      ·unfold lineL
       rw [k5]
       simpa using k2
      ·unfold lineL
       rw [k5]
       simp [k3]
      ·unfold lineL
       rw [k5])
     clear h2 h3 h4 h5
     go_wp2
     go_end0
     exact ⟨rfl, HE.out⟩
    | true =>
     have hm2 := h2.cellsV
     have c9 : w2.cell? ⟨P, 9, none⟩ = some (.int .i64 (k : Nat)) := (HS.out _ _ h2 h5.1 h5.2.1 h5.2.2).1
     have f2 := hm2.fr
     have HE : Hid (∃ S3 : PS, PM w0 (w2.setCell ⟨P, 9, none⟩ (.int .i64 ((k + 1 : Nat) : Int))) P tag S3 ∧ OpenAt S3.H ((b :: (xs ++ [met S.num y])) ++ ys') leaf S3.op 0 hi ∧ S3.met = (xs ++ [met S.num y]).length + 1 ∧ LikeM S S3 ∧ meets S.num leaf fs S.r = ((xs ++ [met S.num y]) ++ (meets S.num leaf ys' S3.r).1, (meets S.num leaf ys' S3.r).2.1, (meets S.num leaf ys' S3.r).2.2) ∧ (∀ f ∈ ys', f.k ≠ 1)) := Lib.hid (by
      obtain ⟨k1, k2, k3, k4, k5, k6⟩ := HR.out
      obtain ⟨j1, j2⟩ := h4 rfl
      have hnum : S1.num = S.num := k4.num
      have hz : k + 1 ≤ S2.op.length := by rw [j2.op]; have e1 := k2.len; rw [List.length_append, List.length_cons, List.length_cons] at e1; have e2 := HKX.out; omega
      refine ⟨{ S2 with met := k + 1 }, h2.par _ ((Only.refl _ _).setP _ _) (fun ov h => h.set 9 _ rfl) rfl rfl rfl h2.sk h2.fit h2.num h2.sgn hz, ?_, ?_, ?_, ?_, fun f hf => k6 f (by simp [hf])⟩
      ·show OpenAt S2.H _ leaf S2.op 0 hi
       rw [j2.op, j2.H, hnum]
       have e1 := G5.out (met S.num y) (if y.k = 2 then { p with z := (S.num : Int) } else p) (G3.out.met S.num) (met_kids _ _) (by split <;> rfl)
       have e2 : (b :: (xs ++ [met S.num y])) ++ ys' = (b :: xs) ++ met S.num y :: ys' := by simp
       rw [e2]
       by_cases hy2 : y.k = 2
       ·rw [if_pos hy2] at e1 ⊢; exact e1
       ·rw [if_neg hy2] at e1 ⊢; rw [Hp.set_same G2.out] at e1; exact e1
      ·show k + 1 = (xs ++ [met S.num y]).length + 1
       rw [List.length_append, ← HKX.out]
       rfl
      ·exact ⟨j2.mask.trans k4.mask, j2.num.trans k4.num, j2.sgn.trans k4.sgn, j2.op.trans k4.op, j2.N.trans k4.N, j2.suf.trans k4.suf⟩
      ·show _ = ((xs ++ [met S.num y]) ++ (meets S.num leaf ys' S2.r).1, (meets S.num leaf ys' S2.r).2.1, (meets S.num leaf ys' S2.r).2.2)
       have hm1 : meets S.num leaf (y :: ys') S1.r = (met S.num y :: (meets S.num leaf ys' S2.r).1, (meets S.num leaf ys' S2.r).2.1, (meets S.num leaf ys' S2.r).2.2) := by rw [meets, j1]
       rw [k5, hm1]
       simp)
     have hkz : k ≤ 1000000 := by omega
     have b9 : IntKind.i64.wrap ((k : Int) + 1) = ((k + 1 : Nat) : Int) := by rw [IntWalk.i64_in _ (by omega)]; omega
     clear h2 h3 h4 h5 hm2
     go_wp2
     go_roundg G
     case rel =>
      obtain ⟨S3, k1, k2, k3, k4, k5, k6⟩ := HE.out
      exact ⟨xs ++ [met S.num y], ys', S3, by simpa using hG, Lib.hid ⟨k1, k2, k3, k4, k5, k6⟩⟩
     case measure => omega
end
end Bk
end Go.Proofs.YtkiipaaaakhhfaaGreatDoor
end
section
namespace Go.Proofs.YtkiipaaaakhhfaaGreatDoor
open Go Go.RowKit
namespace Bk
set_option maxRecDepth 100000
set_option linter.unusedVariables false
set_option linter.unusedSimpArgs false
def HtmlOk (L : Ln) : Prop := ∀ l, L.leaf = some l → l.k = 6 → 1 ≤ l.n ∧ l.n ≤ 7
theorem HtmlOk.none {L : Ln} (h : L.leaf = none) : HtmlOk L := fun l e => by rw [h] at e; cases e
structure PL (X : Scan Rf.Rb) (w0 w : World) (P : Nat) (mask : Int) (num sgn N : Nat) (L : Ln) (tag : Tag) (S : PS) (hi : Nat) : Prop where
 pm : PM w0 w P tag S
 abs : Abs S L hi
 emask : S.mask = mask
 enum : S.num = num
 esgn : S.sgn = sgn
 eN : S.N ≤ N
 inl : InL num L
 sg : ∀ u, u <:+ S.t → X.rule u = true → u.length ≤ sgn
 html : HtmlOk L
def PLx (X : Scan Rf.Rb) (w0 w : World) (P : Nat) (mask : Int) (num sgn N : Nat) (L : Ln) : Prop := ∃ tag S hi, PL X w0 w P mask num sgn N L tag S hi
section
variable {w0 w w' : World} {P a hi num sgn N : Nat} {mask : Int} {tag tag' : Tag} {S : PS} {p : Pt} {L : Ln} {X : Scan Rf.Rb}
theorem PL.below (h : PL X w0 w P mask num sgn N L tag S hi) (hb : Below w.heap.size w w') : PL X w0 w' P mask num sgn N L tag S hi :=
 ⟨h.pm.below hb, h.abs, h.emask, h.enum, h.esgn, h.eN, h.inl, h.sg, h.html⟩
theorem PL.more (h : PL X w0 w P mask num sgn N L tag S hi) {M : Nat} (hm : N ≤ M) : PL X w0 w P mask num sgn M L tag S hi :=
 ⟨h.pm, h.abs, h.emask, h.enum, h.esgn, Nat.le_trans h.eN hm, h.inl, h.sg, h.html⟩
theorem LfAt.took {p : Pt} {l : Lf} (h : LfAt p l) (i : Nat) (s : Str) : LfAt (p.take i s) (l.take i s) := by
 have hz := h.z
 unfold Pt.take Lf.take
 by_cases hb : blank s = true
 ·rw [if_pos hb, if_pos hb]
  refine ⟨h.k, h.s, h.t, h.n, h.m, h.a, ?_, h.kids, by show p.ls ++ [s] = _; rw [h.ls], h.fen, h.code, h.leaf, fun _ => by simp⟩
  show p.z = zOf l.k (l.ls ++ [s]) l.z
  rw [hz]
  unfold zOf white
  rw [List.all_append, List.all_cons, List.all_nil, hb]
  simp
 ·rw [if_neg hb, if_neg hb]
  refine ⟨h.k, h.s, h.t, h.n, h.m, h.a, ?_, h.kids, by show p.ls ++ [s] = _; rw [h.ls], h.fen, h.code, h.leaf, fun _ => by simp⟩
  show (i : Int) = zOf l.k (l.ls ++ [s]) i
  unfold zOf white
  rw [List.all_append, List.all_cons, List.all_nil, show blank s = false by simpa using hb]
  simp
theorem add_leaf {l : Lf} (hl : L.leaf = some l) (i : Nat) (s : Str) : L.add i s = { L with leaf := some (l.take i s) } := by
 unfold Ln.add
 rw [hl]
 rfl
theorem PL.took (h : PL X w0 w P mask num sgn N L tag S hi) {l : Lf} (hl : L.leaf = some l) {s : Str} (hp : S.H (lastP S) = some p) (h' : PM w0 w' P tag' { S with H := S.H.set (lastP S) (p.take S.num s), N := S.N + 1 }) :
  PLx X w0 w' P mask num sgn (N + 1) (L.add num s) := by
 obtain ⟨p', g1, g2, g3⟩ := h.abs.leaf hl
 rw [hp] at g2
 injection g2 with g2
 subst g2
 have htm : HtmlOk (L.add num s) := by
  rw [add_leaf hl]
  intro l' e hk
  injection e with e
  subst e
  have h6 : l.k = 6 := by unfold Lf.take at hk; split at hk <;> exact hk
  have h7 := h.html l hl h6
  unfold Lf.take
  split <;> exact h7
 refine ⟨tag', _, hi, h', ?_, h.emask, h.enum, h.esgn, by show S.N + 1 ≤ N + 1; have := h.eN; omega, in_add h.inl s, h.sg, htm⟩
 rw [add_leaf hl]
 refine h.abs.turn hl (g3.took num s) rfl rfl ?_ rfl
 show S.H.set (lastP S) (p.take S.num s) = _
 rw [h.enum]
theorem PL.shut (h : PL X w0 w P mask num sgn N L tag S hi) {v : Value} (h' : PM w0 w' P tag' { S with op := S.op.take S.met, ov := v }) : PLx X w0 w' P mask num sgn N L.shut :=
 ⟨tag', _, hi, h', ⟨h.abs.shut.op, h.abs.shut.ne, h.abs.shut.met, h.abs.shut.r⟩, h.emask, h.enum, h.esgn, h.eN, in_shut h.inl, h.sg, HtmlOk.none rfl⟩
theorem PL.tookShut (h : PL X w0 w P mask num sgn N L tag S hi) {l : Lf} (hl : L.leaf = some l) {s : Str} {v : Value} (hp : S.H (lastP S) = some p) (h' : PM w0 w' P tag' { S with op := S.op.take S.met, ov := v, H := S.H.set (lastP S) (p.take S.num s), N := S.N + 1 }) :
  PLx X w0 w' P mask num sgn (N + 1) (L.add num s).shut := by
 obtain ⟨p', g1, g2, g3⟩ := h.abs.leaf hl
 rw [hp] at g2
 injection g2 with g2
 subst g2
 have k1 : Abs { S with H := S.H.set (lastP S) (p.take S.num s), N := S.N + 1 } (L.add num s) hi := by
  rw [add_leaf hl]
  refine h.abs.turn hl (g3.took num s) rfl rfl ?_ rfl
  show S.H.set (lastP S) (p.take S.num s) = _
  rw [h.enum]
 exact ⟨tag', _, hi, h', ⟨k1.shut.op, k1.shut.ne, k1.shut.met, k1.shut.r⟩, h.emask, h.enum, h.esgn, by show S.N + 1 ≤ N + 1; have := h.eN; omega, in_shut (in_add h.inl s), h.sg, HtmlOk.none rfl⟩
theorem take_at (HL : Low w0 X) (h : PM w0 w P tag S) (hp : S.H a = some p) (s : Str) (hs : s.length ≤ 4000) (hN : S.N + 1 ≤ 1000000) : ∀ W, Below w.heap.size w W →
  Calls Tryz.prog 72 #[ptr a, .int .i64 (S.num : Nat), str s] W fun e w' => e = .returned (.tuple #[]) ∧ ∃ tag', PM w0 w' P tag' { S with H := S.H.set a (p.take S.num s), N := S.N + 1 } :=
 fun W hW => take_any HL (h.below hW) hp s hs hN
theorem skip_len (h : PM w0 w P tag S) (n : Nat) : (S.r.skip n).s.length ≤ 4000 := by
 have e : (S.r.skip n).s = _ := RS.without S.t S.col S.sk n
 rw [e]
 have := Cl.skp_len S.t S.col (S.sk + n)
 have := h.fit
 omega
theorem without_at (HL : Low w0 X) (h : PM w0 w P tag S) (n : Nat) (hn : n ≤ 100000) : ∀ W, Below w.heap.size w W →
  Calls Tryz.prog 76 #[ptr P, .int .i64 (n : Nat)] W fun e w' => e = .returned (str (S.r.skip n).s) ∧ Below w.heap.size w w' :=
 fun W hW => (without_any HL (h.below hW) n hn).mono fun e w' ⟨h1, h2⟩ => ⟨h1, below_later hW h2⟩
set_option maxHeartbeats 8000000 in
theorem fenceTakes_any (HL : Low w0 X) (h : PL X w0 w P mask num sgn N L tag S hi) (hu : L.us = []) {l : Lf} (hl : L.leaf = some l) (hk : l.k = 5 ∧ l.fen = true) (hN : N + 2 ≤ 1000000) :
  Calls Tryz.prog 58 #[ptr P, ptr (lastP S)] w fun e w' => e = .returned (.tuple #[]) ∧ PLx X w0 w' P mask num sgn (N + 2) (takes X num L).2 := by
 obtain ⟨p, g1, g2, g3⟩ := h.abs.leaf hl
 obtain ⟨c1, c2, c3, -⟩ := g3.code hk.2
 have htk : (takes X num L).2 = if L.r.ind < 4 ∧ X.closes L.r.aft l.c l.cnt = true then Ln.shut { L with leaf := some { l with z := num } } else L.add num (L.r.skip l.need).s := by
  rw [takes_code X hu hl hk]
  split
  ·rw [hu]
  ·rfl
 obtain ⟨pv, lv, hpc, -⟩ := (h.pm.parts _ p g2).1.cells
 have hr : L.r = S.r := h.abs.r
 rw [hr] at htk
 have d12 := hpc.c12
 have d13 := hpc.c13
 have d14 := hpc.c14
 rw [c1] at d12
 rw [c2] at d13
 rw [c3] at d14
 have hal := aft_len h.pm
 have hlz := (h.pm.parts _ p g2).2
 have hcnt : l.cnt ≤ 100000 := by rw [← c2]; exact hlz.cnt
 have hneed : l.need ≤ 100000 := by rw [← c3]; exact hlz.ind
 have hSN : S.N + 1 ≤ 1000000 := by have := h.eN; omega
 have HCL := Lib.hid (HL.closes S.r.aft l.c l.cnt (by omega) hcnt)
 have HPL := Lib.hid h
 have HG2 := Lib.hid g2
 have HG3 := Lib.hid g3
 have HLL := Lib.hid HL
 have HLF := Lib.hid hl
 have HTK := Lib.hid htk
 have HBD := Lib.hid hneed
 have HK5 := Lib.hid hk.1
 clear hpc hr hlz hl htk h HL g2 g3 g1 c1 c2 c3 hk hu hcnt hal
 unfold ptr at *
 go_enter Tryz.func58, Tryz.ntmps58
 go_upto_region 1 with fail
 obtain ⟨W1, hW1⟩ : ∃ W1, W1 = w.alloc (.cells #[.int .u8 (l.c.toNat : Nat), .int .i64 (l.cnt : Nat), .int .i64 (l.need : Nat)] 51) := ⟨_, rfl⟩
 have HX := Hb.new w #[.int .u8 (l.c.toNat : Nat), .int .i64 (l.cnt : Nat), .int .i64 (l.need : Nat)] 51
 have HP1 := Lib.hid (HPL.out.below (w' := W1) (by rw [hW1]; exact (Below.refl _ w).alloc (Nat.le_refl _) _))
 rw [← hW1] at HX ⊢
 have HXX := Lib.hid HX
 clear hW1 HX HPL d12 d13 d14
 generalize w.heap.size = F at *
 have HI := Lib.hid (fun m => indent_any (HP1.out.pm.drewN m))
 have HIB := Lib.hid (fun W (hW : Below W1.heap.size W1 W) => (indent_any (HP1.out.pm.below hW)).at hW)
 have HW := Lib.hid (Below.refl W1.heap.size W1)
 have HTA := Lib.hid (take_at HLL.out HP1.out.pm HG2.out (S.r.skip l.need).s (skip_len HP1.out.pm _) hSN)
 have HWO := Lib.hid (without_at HLL.out HP1.out.pm l.need HBD.out)
 have HC6 := Lib.hid (fun W (hW : Below W1.heap.size W1 W) => (⟨keep_cell hW HP1.out.pm.cellsV.c6, keep_cell hW (HXX.out.cell 2 rfl)⟩ : W.cell? ⟨P, 6, none⟩ = some (.int .i64 (S.num : Nat)) ∧ W.cell? ⟨F, 2, none⟩ = some (.int .i64 (l.need : Nat))))
 have HX01 := Lib.hid (fun W (hW : Below W1.heap.size W1 W) => (⟨keep_cell hW (HXX.out.cell 0 rfl), keep_cell hW (HXX.out.cell 1 rfl)⟩ : W.cell? ⟨F, 0, none⟩ = some (.int .u8 (l.c.toNat : Nat)) ∧ W.cell? ⟨F, 1, none⟩ = some (.int .i64 (l.cnt : Nat))))
 have HBH := Lib.hid (fun W (hW : Below W1.heap.size W1 W) => (behind_any (HP1.out.pm.below hW)).at hW)
 have HCC := Lib.hid (fun W (hW : Below W1.heap.size W1 W) => HCL.out.at HP1.out.pm.low hW)
 have HEN : Hid (∀ w2 tag3, ¬ (S.r.ind < 4 ∧ X.closes S.r.aft l.c l.cnt = true) → PM w0 w2 P tag3 { S with H := S.H.set (lastP S) (p.take S.num (S.r.skip l.need).s), N := S.N + 1 } → PLx X w0 w2 P mask num sgn (N + 2) (takes X num L).2) := Lib.hid (fun w2 tag3 hc h3 => by
  rw [HTK.out, if_neg hc]
  obtain ⟨t, s', hh, k⟩ := HP1.out.took HLF.out HG2.out h3
  exact ⟨t, s', hh, k.more (by omega)⟩)
 unfold ptr str at *
 by_cases h4 : S.r.ind < 4
 ·have b1 : decide ((S.r.ind : Int) < 4) = true := decide_eq_true (by omega)
  obtain ⟨cq, hcq⟩ : ∃ cq, X.closes S.r.aft l.c l.cnt = cq := ⟨_, rfl⟩
  rw [hcq] at HCC
  have HCQ := Lib.hid hcq
  have H4 := Lib.hid h4
  clear hcq h4 HI HCL
  generalize S.r.ind = d at *
  go_cut [24] (fun v24 wx => v24 = .bool cq ∧ Below W1.heap.size W1 wx)
  case first =>
   go_region_held3 (fun W => W.cell? ⟨F, 0, none⟩ = some (.int .u8 (l.c.toNat : Nat)) ∧ W.cell? ⟨F, 1, none⟩ = some (.int .i64 (l.cnt : Nat))) (first | exact HX01.out _ HW.out.drew | exact HX01.out _ (by assumption)) (first
    | (go_at_call 60; with_reducible refine (HIB.out _ (by first | exact HW.out.drew | assumption)).mono ?_; rintro e w2 ⟨rfl, hb2⟩)
    | (go_at_call 74; with_reducible refine (HBH.out _ (by first | assumption | exact HW.out.drew)).mono ?_; rintro e w3 ⟨rfl, hb3⟩)
    | (go_at_call 94; with_reducible refine (HCC.out _ (by first | exact hb3 | assumption)).mono ?_; rintro e w4 ⟨rfl, hb4⟩))
   all_goals
    go_wp2
    go_meet
    exact ⟨rfl, hb4⟩
  obtain ⟨rfl, hb7⟩ := hcut
  have HB7 := Lib.hid hb7
  clear HIB HBH HCC HX01 HXX
  cases cq with
  | true =>
   have HP7 := Lib.hid (HP1.out.pm.below hb7)
   obtain ⟨pv7, lv7, hpc7, -⟩ := (HP7.out.parts _ p HG2.out).1.cells
   have d7 := hpc7.c7
   have f7 := hpc7.fr
   have c6 := HP7.out.cellsV.c6
   have HS7 := Lib.hid (HP7.out.setPt (q := { p with z := (S.num : Int) }) HG2.out 7 (.int .i64 (S.num : Nat)) (fun _ _ => rfl) rfl rfl (by
    have h5 := (HP7.out.parts _ p HG2.out).2
    have hn9 := HP7.out.num
    exact ⟨h5.kids, h5.ls, h5.a, by show (-1 : Int) ≤ (S.num : Int); omega, by show (S.num : Int) ≤ 1000; omega, h5.k, h5.n, h5.m, h5.need, h5.cnt, h5.ind, h5.len⟩))
   have hmp : 0 < S.met := by rw [HP1.out.abs.met]; exact List.length_pos_iff.2 HP1.out.abs.ne
   have HSH := Lib.hid (shut_any HS7.out hmp)
   unfold ptr at HSH
   clear hpc7 hmp HTA HWO HC6 hb7
   go_wp2_with fail
   refine HSH.out.mono ?_
   rintro e w8 ⟨rfl, ⟨v8, h8⟩, -⟩
   have H8 := Lib.hid h8
   clear h8
   go_wp2
   refine bodyPost_ret (results_none rfl _ _ _) rfl ?_
   refine ⟨rfl, _, _, hi, H8.out, ?_, HP1.out.emask, HP1.out.enum, HP1.out.esgn, by show S.N ≤ N + 2; have := HP1.out.eN; omega, in_takes X HP1.out.inl, HP1.out.sg, ?_⟩
   rotate_left
   ·rw [HTK.out, if_pos ⟨H4.out, HCQ.out⟩]; exact HtmlOk.none rfl
   rw [HTK.out, if_pos ⟨H4.out, HCQ.out⟩, ← HP1.out.abs.r]
   have k1 := HP1.out.abs.turn (S' := { S with H := S.H.set (lastP S) { p with z := (S.num : Int) } }) HLF.out (l' := { l with z := num }) (q := { p with z := (S.num : Int) }) ⟨HG3.out.k, HG3.out.s, HG3.out.t, HG3.out.n, HG3.out.m, HG3.out.a, ?_, HG3.out.kids, HG3.out.ls, HG3.out.fen, HG3.out.code, HG3.out.leaf, HG3.out.para⟩ rfl rfl rfl rfl
   ·exact ⟨k1.shut.op, k1.shut.ne, k1.shut.met, k1.shut.r⟩
   ·show (S.num : Int) = zOf l.k l.ls num
    rw [HP1.out.enum]
    unfold zOf white
    rw [HK5.out]
    rfl
  | false =>
   have HNC : Hid (¬ (d < 4 ∧ X.closes S.r.aft l.c l.cnt = true)) := Lib.hid (fun e => by have h1 := e.2; rw [HCQ.out] at h1; cases h1)
   have HEN2 := Lib.hid (fun w2 tag3 h3 => HEN.out w2 tag3 HNC.out h3)
   clear HEN HNC
   have c6 := (HC6.out _ hb7).1
   have x2 := (HC6.out _ hb7).2
   clear hb7
   have hb7 := HB7.out
   go_wp2_with fail
   go_region_law (first
    | (go_simp; go_at_call 76; with_reducible refine (HWO.out _ (by first | exact hb7 | exact HW.out.drew | exact hb7.drew | assumption)).mono ?_; rintro e w8 ⟨rfl, hb8⟩; have c6' := (HC6.out _ hb8).1; have x2' := (HC6.out _ hb8).2)
    | (go_simp; go_at_call 72; with_reducible refine (HTA.out _ (by assumption)).mono ?_; rintro e w9 ⟨rfl, tag9, h9⟩))
   all_goals
    have HE := Lib.hid (HEN2.out _ _ h9)
    go_wp2
    go_end0
    exact ⟨rfl, HE.out⟩
 ·have b1 : decide ((S.r.ind : Int) < 4) = false := decide_eq_false (by omega)
  have b1' : ¬ (S.r.ind : Int) < 4 := by omega
  have HNC : Hid (¬ (S.r.ind < 4 ∧ X.closes S.r.aft l.c l.cnt = true)) := Lib.hid (fun e => h4 e.1)
  have HEN2 := Lib.hid (fun w2 tag3 h3 => HEN.out w2 tag3 HNC.out h3)
  clear HEN HNC
  clear h4 HIB HBH HCC HX01 HXX HCL
  generalize S.r.ind = d at *
  go_cut [24] (fun v24 wx => v24 = .bool false ∧ Below W1.heap.size W1 wx)
  case first =>
   go_quiet (first | (go_at_call 60; refine Calls.quiet_of (HI.out _)))
   go_wp2
   go_meet
   exact ⟨rfl, below_drewN (Below.refl _ _) _⟩
  obtain ⟨rfl, hb7⟩ := hcut
  have c6 := (HC6.out _ hb7).1
  have x2 := (HC6.out _ hb7).2
  go_wp2_with fail
  go_region_law (first
    | (go_simp; go_at_call 76; with_reducible refine (HWO.out _ (by first | exact hb7 | exact HW.out.drew | exact hb7.drew | assumption)).mono ?_; rintro e w8 ⟨rfl, hb8⟩; have c6' := (HC6.out _ hb8).1; have x2' := (HC6.out _ hb8).2)
    | (go_simp; go_at_call 72; with_reducible refine (HTA.out _ (by assumption)).mono ?_; rintro e w9 ⟨rfl, tag9, h9⟩))
  all_goals
   have HE := Lib.hid (HEN2.out _ _ h9)
   go_wp2
   go_end0
   exact ⟨rfl, HE.out⟩
theorem takes_html {i : Nat} {L : Ln} {l : Lf} (hu : L.us = []) (hl : L.leaf = some l) (hk : l.k = 6) : takes X i L =
  if X.ends L.r.s l.n = true then (if blank L.r.s = true then (false, L.shut) else (true, (L.add i L.r.s).shut)) else (true, L.add i L.r.s) := by
 unfold takes
 rw [hu, hl]
 show (if l.k = 5 ∧ l.fen = true then _ else if l.k = 6 then _ else _) = _
 rw [if_neg (by rw [hk]; intro e; cases e.1), if_pos hk]
theorem s_len (h : PM w0 w P tag S) : S.r.s.length ≤ 4000 := by
 have := skip_len h 0
 have e : (S.r.skip 0).s = S.r.s := by
  show (Cl.skp S.r.s S.r.col 0).1 = _
  rw [skp_zero]
 rw [e] at this
 exact this
set_option maxHeartbeats 8000000 in
theorem htmlTakes_any (HL : Low w0 X) (h : PL X w0 w P mask num sgn N L tag S hi) (hu : L.us = []) {l : Lf} (hl : L.leaf = some l) (hk : l.k = 6) (hN : N + 2 ≤ 1000000) :
  Calls Tryz.prog 59 #[ptr P, ptr (lastP S)] w fun e w' => e = .returned (.bool (takes X num L).1) ∧ PLx X w0 w' P mask num sgn (N + 2) (takes X num L).2 := by
 obtain ⟨p, g1, g2, g3⟩ := h.abs.leaf hl
 obtain ⟨n1, n7⟩ := h.html l hl hk
 have htk := takes_html (X := X) (i := num) hu hl hk
 have hr : L.r = S.r := h.abs.r
 rw [hr] at htk
 have hsl := s_len h.pm
 have hLE := left_any HL h.pm
 obtain ⟨pv, lv, hpc, -⟩ := (h.pm.parts _ p g2).1.cells
 have c3 := hpc.c3
 rw [g3.n] at c3
 have hmp : 0 < S.met := by rw [h.abs.met]; exact List.length_pos_iff.2 h.abs.ne
 have hSN : S.N + 1 ≤ 1000000 := by have := h.eN; omega
 have HEN := Lib.hid (HL.ends S.r.s l.n hsl n1 n7)
 have HPL := Lib.hid h
 have HG2 := Lib.hid g2
 have HG3 := Lib.hid g3
 have HLL := Lib.hid HL
 have HLF := Lib.hid hl
 have HTK := Lib.hid htk
 have HK6 := Lib.hid hk
 have HMP := Lib.hid hmp
 have HSL := Lib.hid hsl
 have HLE := Lib.hid hLE
 have C3 := Lib.hid (fun W (hW : Below w.heap.size w W) => keep_cell hW c3)
 clear hpc hr hl htk h HL g2 g3 g1 hk hu c3 hmp hsl hLE
 unfold ptr str at *
 go_enter Tryz.func59, Tryz.ntmps59
 go_wp2_with fail
 refine HLE.out.mono ?_
 rintro e w1 ⟨rfl, hb1⟩
 have c3 := C3.out _ hb1
 have HE1 := Lib.hid (HEN.out.at HPL.out.pm.low hb1)
 obtain ⟨eq, heq⟩ : ∃ eq, X.ends S.r.s l.n = eq := ⟨_, rfl⟩
 have HEQ := Lib.hid heq
 rw [heq] at HE1
 clear heq hb1
 go_wp2_with fail
 refine HE1.out.mono ?_
 rintro e w2 ⟨rfl, hb2⟩
 have HP2 := Lib.hid (HPL.out.below hb2)
 cases eq with
 | true =>
  have HSH := Lib.hid (shut_any HP2.out.pm HMP.out)
  unfold ptr at HSH
  clear hb2 c3 HE1 C3
  go_wp2_with fail
  refine HSH.out.mono ?_
  rintro e w3 ⟨rfl, ⟨v3, h3⟩, -⟩
  have H3 := Lib.hid h3
  obtain ⟨bq, hbq⟩ : ∃ bq, blank S.r.s = bq := ⟨_, rfl⟩
  have HBQ := Lib.hid hbq
  have HBL := Lib.hid (blank_any h3)
  have HTA := Lib.hid (fun W hW => take_at (a := lastP S) HLL.out h3 HG2.out S.r.s HSL.out hSN W hW)
  unfold Reads at HBL
  have e1 : ({ S with op := S.op.take S.met, ov := v3 } : PS).r.s = S.r.s := rfl
  rw [e1, hbq] at HBL
  have C6 := Lib.hid (fun W (hW : Below w3.heap.size w3 W) => (keep_cell hW h3.cellsV.c6 : W.cell? ⟨P, 6, none⟩ = some (.int .i64 (S.num : Nat))))
  unfold ptr at HBL
  unfold ptr str at HTA
  clear h3 hbq e1 HSH
  go_upto_region 5 with fail
  go_cut [27] (fun v27 wx => v27 = .bool bq ∧ Below w3.heap.size w3 wx)
  case first =>
   go_wp2_with fail
   refine HBL.out.mono ?_
   rintro e w4 ⟨rfl, m, rfl⟩
   go_wp2
   go_meet
   exact ⟨rfl, below_drewN (Below.refl _ _) _⟩
  obtain ⟨rfl, hb4⟩ := hcut
  cases bq with
  | true =>
   have H5 := Lib.hid (H3.out.below hb4)
   clear hb4
   go_wp2
   go_ret
   rw [HTK.out, if_pos HEQ.out, if_pos HBQ.out]
   obtain ⟨t, s', hh, k⟩ := HPL.out.shut H5.out
   exact ⟨rfl, t, s', hh, k.more (by omega)⟩
  | false =>
   have c6 := C6.out _ hb4
   have HT := Lib.hid (HTA.out _ hb4)
   clear hb4
   go_wp2_with fail
   refine HT.out.mono ?_
   rintro e w6 ⟨rfl, tag6, h6⟩
   have H6 := Lib.hid h6
   clear h6
   go_wp2
   go_ret
   rw [HTK.out, if_pos HEQ.out, if_neg (by rw [HBQ.out]; exact Bool.false_ne_true)]
   obtain ⟨t, s', hh, k⟩ := HPL.out.tookShut (v := v3) HLF.out HG2.out H6.out
   exact ⟨rfl, t, s', hh, k.more (by omega)⟩
 | false =>
  have c6 := HP2.out.pm.cellsV.c6
  have HTA := Lib.hid (take_at HLL.out HP2.out.pm HG2.out S.r.s HSL.out hSN _ (Below.refl _ _))
  unfold ptr str at HTA
  clear hb2 c3 HE1 C3
  go_upto_region 5 with fail
  go_cut [27] (fun v27 wx => v27 = .bool false ∧ wx = w2)
  case first =>
   go_wp2
   go_meet
   exact ⟨rfl, rfl⟩
  obtain ⟨rfl, rfl⟩ := hcut
  go_wp2_with fail
  refine HTA.out.mono ?_
  rintro e w6 ⟨rfl, tag6, h6⟩
  have H6 := Lib.hid h6
  clear h6
  go_wp2
  go_ret
  rw [HTK.out, if_neg (by rw [HEQ.out]; exact Bool.false_ne_true)]
  obtain ⟨t, s', hh, k⟩ := HP2.out.took HLF.out HG2.out H6.out
  exact ⟨rfl, t, s', hh, k.more (by omega)⟩
theorem takes_none {i : Nat} {L : Ln} (h : ¬ (L.us = [] ∧ L.leaf.isSome = true)) : takes X i L = (false, L) := by
 unfold takes
 cases hu : L.us with
 | cons f fs => rfl
 | nil =>
  cases hl : L.leaf with
  | none => rfl
  | some l => exact absurd ⟨hu, by rw [hl]; rfl⟩ h
theorem takes_other {i : Nat} {L : Ln} {l : Lf} (hu : L.us = []) (hl : L.leaf = some l) (h5 : ¬ (l.k = 5 ∧ l.fen = true)) (h6 : l.k ≠ 6) : takes X i L = (false, L) := by
 unfold takes
 rw [hu, hl]
 show (if l.k = 5 ∧ l.fen = true then _ else if l.k = 6 then _ else _) = _
 rw [if_neg h5, if_neg h6]
set_option maxHeartbeats 8000000 in
theorem leafTakes_any (HL : Low w0 X) (h : PL X w0 w P mask num sgn N L tag S hi) (hN : N + 2 ≤ 1000000) :
  Calls Tryz.prog 37 #[ptr P] w fun e w' => e = .returned (.bool (takes X num L).1) ∧ PLx X w0 w' P mask num sgn (N + 2) (takes X num L).2 := by
 have HLF := Lib.hid ((leaf_any h.pm h.abs).at (Below.refl _ w))
 have HAM := Lib.hid (fun W (hW : Below w.heap.size w W) => (allMet_any (h.pm.below hW) h.abs).at hW)
 have HPL := Lib.hid h
 have HLL := Lib.hid HL
 have HEND : Hid (∀ w1, Below w.heap.size w w1 → takes X num L = (false, L) → Value.bool false = .bool (takes X num L).1 ∧ PLx X w0 w1 P mask num sgn (N + 2) (takes X num L).2) := Lib.hid (fun w1 hb e => by
  rw [e]
  exact ⟨rfl, _, _, _, (h.below hb).more (by omega)⟩)
 unfold leafV at HLF
 cases hl : L.leaf with
 | none =>
  have HTK := Lib.hid (takes_none (X := X) (i := num) (L := L) (by rw [hl]; intro e; cases e.2))
  rw [hl] at HLF
  unfold ptr at *
  clear h HL hl HAM
  go_enter Tryz.func37, Tryz.ntmps37
  go_wp2_with fail
  refine HLF.out.mono ?_
  rintro e w1 ⟨rfl, hb1⟩
  have HE := Lib.hid (HEND.out _ hb1 HTK.out)
  clear hb1
  go_wp2
  go_ret
  exact ⟨congrArg _ HE.out.1, HE.out.2⟩
 | some l =>
  rw [hl] at HLF
  replace HLF : Hid (Calls Tryz.prog 55 #[ptr P] w fun e w' => e = .returned (ptr (lastP S)) ∧ Below w.heap.size w w') := HLF
  obtain ⟨p, g1, g2, g3⟩ := h.abs.leaf hl
  by_cases hu : L.us = []
  ·have hue : L.us.isEmpty = true := by rw [hu]; rfl
   rw [hue] at HAM
   have hfe := g3.fen
   have HFE := Lib.hid (fun W (hW : Below w.heap.size w W) => (fenced_any ((h.pm.below hW).parts _ p g2).1).at hW)
   rw [← hfe] at HFE
   have HC0 : Hid (∀ W, Below w.heap.size w W → W.cell? ⟨lastP S, 0, none⟩ = some (.int .i64 (l.k : Nat))) := Lib.hid (fun W hW => by
    obtain ⟨pv, lv, hpc, -⟩ := (h.pm.parts _ p g2).1.cells
    have d0 := hpc.c0
    rw [g3.k] at d0
    exact keep_cell hW d0)
   cases hfn : l.fen with
   | true =>
    rw [hfn] at HFE
    have hk5 := (g3.code hfn).2.2.2
    have HFT := Lib.hid (fun W (hW : Below w.heap.size w W) => fenceTakes_any HL (h.below hW) hu hl ⟨hk5, hfn⟩ hN)
    have HTK : Hid ((takes X num L).1 = true) := Lib.hid (by rw [takes_code X hu hl ⟨hk5, hfn⟩]; split <;> rfl)
    unfold ptr at *
    clear h HL hl hu hue hfe g1 g2 g3 hfn hk5 HEND
    go_enter Tryz.func37, Tryz.ntmps37
    go_wp2_with fail
    refine HLF.out.mono ?_
    rintro e w1 ⟨rfl, hb1⟩
    go_wp2_with fail
    refine (HAM.out _ hb1).mono ?_
    rintro e w2 ⟨rfl, hb2⟩
    go_wp2_with fail
    refine (HFE.out _ hb2).mono ?_
    rintro e w3 ⟨rfl, hb3⟩
    go_wp2_with fail
    refine (HFT.out _ hb3).mono ?_
    rintro e w4 ⟨rfl, h1⟩
    have H1 := Lib.hid h1
    clear h1 hb1 hb2 hb3
    go_wp2
    go_ret
    exact ⟨by rw [HTK.out]; rfl, H1.out⟩
   | false =>
    rw [hfn] at HFE
    by_cases h6 : l.k = 6
    ·rw [h6] at HC0
     have HHT := Lib.hid (fun W (hW : Below w.heap.size w W) => htmlTakes_any HL (h.below hW) hu hl h6 hN)
     unfold ptr at *
     clear h HL hl hu hue hfe g1 g2 g3 hfn HEND h6
     go_enter Tryz.func37, Tryz.ntmps37
     go_wp2_with fail
     refine HLF.out.mono ?_
     rintro e w1 ⟨rfl, hb1⟩
     go_wp2_with fail
     refine (HAM.out _ hb1).mono ?_
     rintro e w2 ⟨rfl, hb2⟩
     go_wp2_with fail
     refine (HFE.out _ hb2).mono ?_
     rintro e w3 ⟨rfl, hb3⟩
     have c0 := HC0.out _ hb3
     go_wp2_with fail
     refine (HHT.out _ hb3).mono ?_
     rintro e w4 ⟨rfl, h1⟩
     have H1 := Lib.hid h1
     clear h1 hb1 hb2 hb3 c0
     go_wp2
     go_ret
     exact ⟨rfl, H1.out⟩
    ·have HTK := Lib.hid (takes_other (X := X) (i := num) hu hl (by rw [hfn]; rintro ⟨-, e⟩; cases e) h6)
     have b6 : ¬ (l.k : Int) = 6 := by omega
     have b6' : decide ((l.k : Int) = 6) = false := decide_eq_false b6
     have b6'' : ((l.k : Int) == 6) = false := by rw [beq_eq_false_iff_ne]; exact b6
     have b60 : ¬ l.k = 6 := h6
     unfold ptr at *
     clear h HL hl hu hue hfe g1 g2 g3 hfn h6
     go_enter Tryz.func37, Tryz.ntmps37
     go_wp2_with fail
     refine HLF.out.mono ?_
     rintro e w1 ⟨rfl, hb1⟩
     go_wp2_with fail
     refine (HAM.out _ hb1).mono ?_
     rintro e w2 ⟨rfl, hb2⟩
     go_wp2_with fail
     refine (HFE.out _ hb2).mono ?_
     rintro e w3 ⟨rfl, hb3⟩
     have c0 := HC0.out _ hb3
     have HE := Lib.hid (HEND.out _ hb3 HTK.out)
     clear hb1 hb2 hb3
     go_wp2
     go_ret
     exact ⟨congrArg _ HE.out.1, HE.out.2⟩
  ·have hue : L.us.isEmpty = false := by
    cases hx : L.us with
    | nil => exact absurd hx hu
    | cons f fs => rfl
   rw [hue] at HAM
   have HTK := Lib.hid (takes_none (X := X) (i := num) (L := L) (fun e => hu e.1))
   unfold ptr at *
   clear h HL hl hu hue g1 g2 g3
   go_enter Tryz.func37, Tryz.ntmps37
   go_wp2_with fail
   refine HLF.out.mono ?_
   rintro e w1 ⟨rfl, hb1⟩
   go_wp2_with fail
   refine (HAM.out _ hb1).mono ?_
   rintro e w2 ⟨rfl, hb2⟩
   have HE := Lib.hid (HEND.out _ hb2 HTK.out)
   clear hb1 hb2
   go_wp2
   go_ret
   exact ⟨congrArg _ HE.out.1, HE.out.2⟩
end
end Bk
end Go.Proofs.YtkiipaaaakhhfaaGreatDoor
end
