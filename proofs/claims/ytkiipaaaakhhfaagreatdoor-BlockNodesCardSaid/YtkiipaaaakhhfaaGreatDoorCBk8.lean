import Derived.Test.YtkiipaaaakhhfaaGreatDoorCBk7
import Derived.Test.YtkiipaaaakhhfaaGreatDoorCCol1
import Derived.Test.YtkiipaaaakhhfaaGreatDoorCText1
import Derived.Test.YtkiipaaaakhhfaaGreatDoorCSc2
import Derived.Test.YtkiipaaaakhhfaaGreatDoorCSc3
import Derived.Test.YtkiipaaaakhhfaaGreatDoorCSc4
import Derived.Test.YtkiipaaaakhhfaaGreatDoorCEsc1
import Derived.Test.YtkiipaaaakhhfaaGreatDoorCRf2
import Derived.Laws.Runes
import Derived.Lib.OthersKept
import Derived.Lib.MapLaws
import Derived.LoopN
import Derived.WalkMore
import Derived.Laws.DeepStrings4
import Derived.ScopeJumps
import Derived.Test.YtkiipaaaakhhfaaGreatDoorCShelf1
import Derived.Shelf.Strings.SlTrimAsciiWalks
import Derived.Shelf.Strings.IndexAnyAll
section
namespace Go.Proofs.YtkiipaaaakhhfaaGreatDoor
open Go Go.RowKit
namespace Bk
set_option maxRecDepth 100000
set_option linter.unusedVariables false
set_option linter.unusedSimpArgs false
structure LowB (w0 : World) (X : Scan Rf.Rb) : Prop extends Low w0 X where
 label : ∀ s : Str, s.length ≤ 4000 → Tells w0 14 #[str s] (.tuple #[str (labelP s).1, .int .i64 ((labelP s).2 : Nat)])
 sgnEnd : ∀ s : Str, s.length ≤ 1000 → ∀ W, Below w0.heap.size w0 W → Calls Tryz.prog 35 #[str s] W fun e w' => ∃ n : Nat, e = .returned (.int .i64 (n : Nat)) ∧ n ≤ 1000 ∧ (∀ u, u <:+ s → X.rule u = true → u.length ≤ n) ∧ Below W.heap.size W w'
def foot32 (m : Int) : Bool := !(bits BinOp.and IntKind.i64 m 32 == 0)
theorem tw_le (p : UInt8 → Bool) (l : Str) : (l.takeWhile p).length ≤ l.length := by
 induction l with
 | nil => exact Nat.le_refl _
 | cons c t ih =>
  rw [List.takeWhile_cons]
  split
  ·simp only [List.length_cons]; omega
  ·exact Nat.zero_le _
theorem labelP_len (s : Str) : (labelP s).2 ≤ s.length := by
 unfold labelP
 split
 ·rename_i t
  split
  ·rename_i u hu
   split
   ·exact Nat.zero_le _
   ·have h1 := congrArg List.length hu
    rw [List.length_drop] at h1
    simp only [List.length_cons] at h1 ⊢
    have := tw_le nlab t
    omega
  ·exact Nat.zero_le _
 ·exact Nat.zero_le _
section
variable {w0 w w' : World} {P a b hi num sgn N : Nat} {mask : Int} {tag tag' : Tag} {S : PS} {p pb q q' : Pt} {L : Ln} {X : Scan Rf.Rb} {v : Value}
theorem note_no {foot : Bool} {i : Nat} {L : Ln} (h : foot = false ∨ L.goes = true ∨ (labelP L.r.aft).2 = 0) : note foot i L = none := if_pos h
set_option maxHeartbeats 8000000 in
theorem beginsNote_any (HL : LowB w0 X) (h : PL X w0 w P mask num sgn N L tag S hi) (hN : N + 2 ≤ 1000000) :
  Calls Tryz.prog 68 #[ptr P] w fun e w' => e = .returned (.bool (note (foot32 mask) num L).isSome) ∧ PLx X w0 w' P mask num sgn (N + 2) ((note (foot32 mask) num L).getD L) := by
 have hr : L.r = S.r := h.abs.r
 have hal := aft_len h.pm
 have HPL := Lib.hid h
 have HLL := Lib.hid HL
 have HBH := Lib.hid (fun W (hW : Below w.heap.size w W) => (behind_any (h.pm.below hW)).at hW)
 have HLA := Lib.hid (fun W (hW : Below w.heap.size w W) => (HL.label S.r.aft (by omega)).at h.pm.low hW)
 have HPA := Lib.hid (fun W (hW : Below w.heap.size w W) => (para_any (h.pm.below hW) h.abs).at hW)
 have c5 := h.pm.cellsV.c5
 rw [h.emask] at c5
 have hfe : foot32 mask = !(bits BinOp.and IntKind.i64 mask 32 == 0) := rfl
 by_cases hb : bits BinOp.and IntKind.i64 mask 32 = 0
 ·have hf : foot32 mask = false := by rw [hfe, hb]; rfl
  rw [note_no (.inl hf)]
  show Calls Tryz.prog 68 #[ptr P] w fun e w' => e = .returned (.bool false) ∧ PLx X w0 w' P mask num sgn (N + 2) L
  unfold ptr str at *
  clear h HL hr hal hfe hf
  go_enter Tryz.func68, Tryz.ntmps68
  go_wp2
  go_ret
  exact ⟨rfl, _, _, _, HPL.out.more (M := N + 2) (by omega)⟩
 ·have hb1 : (bits BinOp.and IntKind.i64 mask 32 == 0) = false := by rw [beq_eq_false_iff_ne]; exact hb
  have hf : foot32 mask = true := by rw [hfe, hb1]; rfl
  rw [hf]
  by_cases hg : L.goes = true
  ·rw [note_no (.inr (.inl hg))]
   show Calls Tryz.prog 68 #[ptr P] w fun e w' => e = .returned (.bool false) ∧ PLx X w0 w' P mask num sgn (N + 2) L
   rw [if_pos hg] at HPA
   unfold ptr str at *
   clear h HL hr hal hfe hf hg
   go_enter Tryz.func68, Tryz.ntmps68
   go_wp2_with fail
   refine (HPA.out _ (Below.refl _ _)).mono ?_
   rintro e w1 ⟨rfl, hb1⟩
   have HE := Lib.hid (HPL.out.below hb1)
   clear hb1
   go_wp2
   go_ret
   exact ⟨rfl, _, _, _, HE.out.more (M := N + 2) (by omega)⟩
  ·rw [if_neg hg] at HPA
   by_cases hn : (labelP L.r.aft).2 = 0
   ·rw [note_no (.inr (.inr hn))]
    show Calls Tryz.prog 68 #[ptr P] w fun e w' => e = .returned (.bool false) ∧ PLx X w0 w' P mask num sgn (N + 2) L
    rw [hr] at hn
    rw [hn] at HLA
    unfold ptr str at *
    clear h HL hr hal hfe hf hg hn
    go_enter Tryz.func68, Tryz.ntmps68
    go_wp2_with fail
    refine (HPA.out _ (Below.refl _ _)).mono ?_
    rintro e w1 ⟨rfl, hb1⟩
    go_wp2_with fail
    refine (HBH.out _ hb1).mono ?_
    rintro e w2 ⟨rfl, hb2⟩
    go_wp2_with fail
    refine (HLA.out _ hb2).mono ?_
    rintro e w3 ⟨rfl, hb3⟩
    have HE := Lib.hid (HPL.out.below hb3)
    clear hb1 hb2 hb3
    go_wp2
    go_ret
    exact ⟨rfl, _, _, _, HE.out.more (M := N + 2) (by omega)⟩
   ·have hnote : note true num L = some (({ L with r := (L.r.past (labelP L.r.aft).2).skip (L.r.past (labelP L.r.aft).2).ind }).contain num { nilF with k := 13, s := (labelP L.r.aft).1 } false) := if_neg (fun e => by
     rcases e with e | e | e
     ·cases e
     ·exact hg e
     ·exact hn e)
    rw [hnote]
    show Calls Tryz.prog 68 #[ptr P] w fun e w' => e = .returned (.bool true) ∧ PLx X w0 w' P mask num sgn (N + 2) (({ L with r := (L.r.past (labelP L.r.aft).2).skip (L.r.past (labelP L.r.aft).2).ind }).contain num { nilF with k := 13, s := (labelP L.r.aft).1 } false)
    have hle := labelP_len S.r.aft
    rw [hr] at hn ⊢
    have HPS := Lib.hid (fun W (hW : Below w.heap.size w W) => pass_at HL.toLow (h.pm.below hW) (labelP S.r.aft).2 hle)
    generalize (labelP S.r.aft).1 = lb at *
    generalize (labelP S.r.aft).2 = ln at *
    have b0 : ¬ (ln : Int) = 0 := by omega
    have b1 : ((ln : Int) == 0) = false := by rw [beq_eq_false_iff_ne]; exact b0
    have b2 : decide ((ln : Int) = 0) = false := decide_eq_false b0
    unfold ptr str at *
    clear h HL hr hal hfe hf hg hle hnote
    go_enter Tryz.func68, Tryz.ntmps68
    go_wp2_with fail
    refine (HPA.out _ (Below.refl _ _)).mono ?_
    rintro e w1 ⟨rfl, hb1⟩
    go_wp2_with fail
    refine (HBH.out _ hb1).mono ?_
    rintro e w2 ⟨rfl, hb2⟩
    go_wp2_with fail
    refine (HLA.out _ hb2).mono ?_
    rintro e w3 ⟨rfl, hb3⟩
    have HE := Lib.hid (HPL.out.below hb3)
    have HP3 := Lib.hid (HPS.out _ hb3)
    clear hb1 hb2 hb3 c5
    go_wp2_with fail
    refine HP3.out.mono ?_
    rintro e w4 ⟨rfl, S4, h4, hs4, hr4⟩
    have hi4 := (aft_len h4).2
    have HI4 := Lib.hid (fun W (hW : Below w4.heap.size w4 W) => (indent_any (h4.below hW)).at hW)
    have HS4 := Lib.hid (fun W (hW : Below w4.heap.size w4 W) => skip_at (h4.below hW) S4.r.ind (by omega))
    have H4 := Lib.hid (HE.out.like h4 hs4 hr4)
    have HR4 := Lib.hid hr4
    clear h4 hs4 hr4 hi4 HP3 HPS
    have HW := Lib.hid (Below.refl w4.heap.size w4)
    unfold ptr at HI4 HS4
    go_upto_region 7 with fail
    go_region_law (first
     | (go_simp; go_at_call 60; with_reducible refine (HI4.out _ (by first | exact HW.out | exact HW.out.drew | assumption)).mono ?_; rintro e w5 ⟨rfl, hb5⟩)
     | (go_simp; go_at_call 108; with_reducible refine (HS4.out _ (by first | assumption | exact HW.out)).mono ?_; rintro e w6 ⟨rfl, S6, h6, hs6, hr6⟩))
    have h6' := H4.out.like h6 hs6 hr6
    rw [HR4.out] at h6'
    have H6 := Lib.hid h6'
    have HEN : Hid (Calls Tryz.prog 97 #[.pointer (some ⟨P, 0, none⟩), agg 13 lb [] 0 0] w6 fun e w' => ∃ a b pb tag' v, e = .returned (ptr a) ∧ w6.heap.size ≤ a ∧ S6.op[(Ln.place false { L with r := (S.r.past ln).skip (S.r.past ln).ind }).length - 1]? = some b ∧ S6.H b = some pb ∧ PM w0 w' P tag' { S6.beg (Ln.place false { L with r := (S.r.past ln).skip (S.r.past ln).ind }).length a b pb ((⟨13, lb, [], 0, 0⟩ : Bo).pt num) v with met := (Ln.place false { L with r := (S.r.past ln).skip (S.r.past ln).ind }).length + 1 }) :=
     Lib.hid (enter_pl h6' ⟨13, lb, [], 0, 0⟩ ⟨by show 13 ≤ 30; decide, by show 0 ≤ 1000000000; decide, by show 0 ≤ 255; decide, by show ¬ ((13 : Nat) = 1); decide⟩ hN)
    clear h6 hs6 hr6 h6' HI4 HS4 H4 HW
    unfold agg at HEN
    go_wp2_with fail
    refine HEN.out.mono ?_
    rintro e w7 ⟨a, b, pb, tag2, v2, rfl, ha, kb, kpb, h2⟩
    have HC := Lib.hid (H6.out.contained (f := { nilF with k := 13, s := lb }) false ha kb kpb h2 ⟨rfl, rfl, rfl, rfl, rfl, rfl, rfl, rfl, rfl, rfl, by unfold contK; simp⟩ rfl (in_contain H6.out.inl _ false (by unfold okc; simp) (fun e => by cases e)))
    clear ha kb kpb h2
    unfold ptr
    go_wp2
    go_ret
    exact ⟨rfl, _, _, _, HC.out⟩
end
end Bk
end Go.Proofs.YtkiipaaaakhhfaaGreatDoor
end
section
namespace Go.Proofs.YtkiipaaaakhhfaaGreatDoor
open Go Go.RowKit
namespace Bk
set_option maxRecDepth 100000
set_option linter.unusedVariables false
set_option linter.unusedSimpArgs false
def XS (defs : Str → List Rf.Rb × Str) : Scan Rf.Rb where
 atx := Sc.atxP
 fence := Sc.fenceP
 html := Sc.htmlS
 ends := fun s n => Sc.endsP s (n : Int)
 setx := Sc.setP
 rule := Sc.ruleP
 bul := Sc.bulP
 ord := Sc.ordP
 closes := fun s c n => Sc.closesP s c (n : Int)
 une := Es.une
 defs := defs
section
variable {w0 : World} {defs : Str → List Rf.Rb × Str}
theorem low_indent (s : Str) (col : Nat) (hs : s.length ≤ 4000) (hc : col ≤ 4000) : Tells w0 52 #[str s, .int .i64 (col : Nat)] (.tuple #[.int .i64 (Cl.indC s col : Nat), .int .i64 (Cl.indB s col : Nat)]) :=
 fun W hW => Cl.indent_any ⟨s.toArray⟩ col W (by show s.length ≤ _; omega) (by omega)
theorem low_skip (s : Str) (col n : Nat) (hs : s.length ≤ 4000) (hc : col ≤ 4000) (hn : n ≤ 200000) : Tells w0 113 #[str s, .int .i64 (col : Nat), .int .i64 (n : Nat)] (.tuple #[str (Cl.skp s col n).1, .int .i64 ((Cl.skp s col n).2 : Nat)]) :=
 fun W hW => Cl.skip_any ⟨s.toArray⟩ col n W (by show s.length ≤ _; omega) (by omega) (by omega)
theorem low_trimL (s : Str) (hs : s.length ≤ 4000) : Tells w0 73 #[str s] (str (Cl.lft s)) :=
 fun W hW => Cl.trimLeft_any ⟨s.toArray⟩ W (by show s.length ≤ _; omega)
theorem low_trimR (s : Str) (hs : s.length ≤ 1000000000) : Tells w0 100 #[str s] (str (Cl.rgt s)) :=
 fun W hW => Cl.trimRight_any ⟨s.toArray⟩ W (by show s.length ≤ _; omega)
theorem low_atx (s : Str) (hs : s.length ≤ 4000) : Tells w0 98 #[str s] (.tuple #[.int .i64 ((Sc.atxP s).1 : Nat), str (Sc.atxP s).2]) :=
 fun W hW => Sc.atx_any ⟨s.toArray⟩ W (by show s.length ≤ _; omega)
theorem low_fence (s : Str) (hs : s.length ≤ 4000) : Tells w0 101 #[str s] (.tuple #[.int .u8 ((Sc.fenceP s).1.toNat : Nat), .int .i64 ((Sc.fenceP s).2.1 : Nat), str (Sc.fenceP s).2.2]) :=
 fun W hW => Sc.fence_any ⟨s.toArray⟩ W (by show s.length ≤ _; omega)
theorem low_html (hL : Ks.Laid w0) (s : Str) (hs : s.length ≤ 4000) : Tells w0 103 #[str s] (.int .i64 (Sc.htmlS s : Nat)) :=
 fun W hW => Sc.html_any ⟨s.toArray⟩ W (by show s.length ≤ _; omega) (hL.below hW)
theorem low_ends (hL : Sc.LaidS w0) (s : Str) (n : Nat) (hs : s.length ≤ 4000) : Tells w0 96 #[str s, .int .i64 (n : Nat)] (.bool (Sc.endsP s (n : Int))) :=
 fun W hW => Sc.htmlEnds_any ⟨s.toArray⟩ (n : Int) W (by show s.length ≤ _; omega) (hL.below hW)
theorem low_setx (s : Str) (hs : s.length ≤ 4000) : Tells w0 104 #[str s] (.int .i64 (Sc.setP s : Nat)) :=
 fun W hW => Sc.setext_any ⟨s.toArray⟩ W (by show s.length ≤ _; omega)
theorem low_rule (s : Str) (hs : s.length ≤ 4000) : Tells w0 106 #[str s] (.bool (Sc.ruleP s)) :=
 fun W hW => Sc.rule_any ⟨s.toArray⟩ W (by show s.length ≤ _; omega)
theorem low_bul (s : Str) (hs : s.length ≤ 4000) : Tells w0 138 #[str s] (.int .i64 (Sc.bulP s : Nat)) :=
 fun W hW => (Sc.bullet_any ⟨s.toArray⟩ W (by show s.length ≤ _; omega)).mono fun e w' ⟨h1, h2⟩ => ⟨h1, by rw [← h2]; exact Below.refl _ _⟩
theorem low_ord (s : Str) (hs : s.length ≤ 4000) : Tells w0 139 #[str s] (.tuple #[.int .i64 ((Sc.ordP s).1 : Nat), .int .u8 ((Sc.ordP s).2.1.toNat : Nat), .int .i64 ((Sc.ordP s).2.2 : Nat)]) :=
 fun W hW => Sc.ordered_any ⟨s.toArray⟩ W (by show s.length ≤ _; omega)
theorem low_closes (s : Str) (c : UInt8) (n : Nat) (hs : s.length ≤ 4000) : Tells w0 94 #[str s, .int .u8 (c.toNat : Nat), .int .i64 (n : Nat)] (.bool (Sc.closesP s c (n : Int))) :=
 fun W hW => Sc.closes_any ⟨s.toArray⟩ c (n : Int) W (by show s.length ≤ _; omega)
theorem low_une (hL : Es.LaidK w0) (s : Str) (hs : s.length ≤ 4000) : Tells w0 102 #[str s] (str (Es.une s)) :=
 fun W hW => Es.unescape_any ⟨s.toArray⟩ W (by show s.length ≤ _; omega) (hL.below hW)
theorem low_blank (s : Str) (hs : s.length ≤ 1000000000) : Tells w0 111 #[str s] (.bool (Tx.blank s)) :=
 fun W hW => Tx.blank_any ⟨s.toArray⟩ W (by show s.length ≤ _; omega)
end
theorem ahead_le (t : Str) : (Sc.ahead t).length ≤ t.length := by
 obtain ⟨k, h⟩ := Sc.ahead_cut t
 have := congrArg List.length h
 rw [List.length_append] at this
 omega
theorem woP_le (t : Str) : (Sc.woP t).length ≤ t.length := by
 unfold Sc.woP
 split
 ·exact Nat.zero_le _
 ·split
  ·exact Nat.le_trans (Sc.trimR_len _) (ahead_le t)
  ·exact Nat.le_refl _
theorem atx_le (s : Str) : (Sc.atxP s).1 ≤ 6 ∧ (Sc.atxP s).2.length ≤ s.length := by
 unfold Sc.atxP
 split
 ·rename_i h
  refine ⟨h.2.1, ?_⟩
  have h1 := woP_le (Sc.trimB (s.drop (Sc.runN 35 s)))
  have h2 := Sc.trimB_len (s.drop (Sc.runN 35 s))
  rw [List.length_drop] at h2
  show (Sc.woP _).length ≤ _
  omega
 ·exact ⟨by decide, Nat.zero_le _⟩
theorem fence_le (s : Str) : (Sc.fenceP s).2.1 ≤ s.length ∧ (Sc.fenceP s).2.2.length ≤ s.length := by
 unfold Sc.fenceP
 split
 ·exact ⟨Nat.zero_le _, Nat.zero_le _⟩
 ·rename_i c t
  split
  ·refine ⟨Sc.runN_le c (c :: t), ?_⟩
   have h2 := Sc.trimB_len ((c :: t).drop (Sc.runN c (c :: t)))
   rw [List.length_drop] at h2
   show (Sc.trimB _).length ≤ _
   omega
  ·exact ⟨Nat.zero_le _, Nat.zero_le _⟩
theorem html_le (s : Str) : Sc.htmlS s ≤ 7 := by
 unfold Sc.htmlS
 repeat' split
 all_goals omega
theorem setx_le (s : Str) : Sc.setP s ≤ 2 := by
 unfold Sc.setP
 repeat' split
 all_goals omega
theorem bul_le (s : Str) : Sc.bulP s ≤ 1 ∧ Sc.bulP s ≤ s.length ∧ (0 < Sc.bulP s → ∃ c t, s = c :: t ∧ bl c = false ∧ c ≠ 46 ∧ c ≠ 41) := by
 unfold Sc.bulP
 split
 ·exact ⟨by decide, by decide, fun h => absurd h (Nat.lt_irrefl 0)⟩
 ·rename_i c t
  split
  ·rename_i h
   refine ⟨Nat.le_refl _, by simp, fun _ => ⟨c, t, rfl, ?_⟩⟩
   have h1 := h.1
   simp at h1
   rcases h1 with rfl | rfl | rfl
   ·exact ⟨rfl, by decide, by decide⟩
   ·exact ⟨rfl, by decide, by decide⟩
   ·exact ⟨rfl, by decide, by decide⟩
  ·exact ⟨by decide, Nat.zero_le _, fun h => absurd h (Nat.lt_irrefl 0)⟩
theorem digs_take (s : Str) : ∀ c ∈ s.take (Sc.digN s), Sc.digU c = true := by
 unfold Sc.digN
 induction s with
 | nil => intro c hc; simp at hc
 | cons x t ih =>
  intro c hc
  by_cases hx : Sc.digU x = true
  ·rw [List.takeWhile_cons_of_pos hx, List.length_cons, List.take_succ_cons] at hc
   rcases List.mem_cons.1 hc with rfl | hc
   ·exact hx
   ·exact ih c hc
  ·rw [List.takeWhile_cons_of_neg hx] at hc
   simp at hc
theorem dig_bl {c : UInt8} (h : Sc.digU c = true) : bl c = false := by
 have h1 : c ≠ 32 := fun e => by rw [e] at h; exact absurd h (by decide)
 have h2 : c ≠ 9 := fun e => by rw [e] at h; exact absurd h (by decide)
 unfold bl
 rw [beq_eq_false_iff_ne.2 h1, beq_eq_false_iff_ne.2 h2]
 rfl
theorem ord_le (s : Str) : (Sc.ordP s).1 ≤ 1000000000 ∧ (Sc.ordP s).2.2 ≤ s.length ∧ ∀ c ∈ s.take (Sc.ordP s).2.2, bl c = false := by
 have hd := digs_take s
 unfold Sc.ordP
 cases hx : s.drop (Sc.digN s) with
 | nil => exact ⟨Nat.zero_le _, Nat.zero_le _, fun c hc => by simp at hc⟩
 | cons x t =>
  dsimp only
  have hl := congrArg List.length hx
  rw [List.length_drop, List.length_cons] at hl
  split
  ·rename_i h
   obtain ⟨h1, h2, h3, h4⟩ := h
   refine ⟨?_, by show Sc.digN s + 1 ≤ _; omega, fun c hc => ?_⟩
   ·have hv := Sc.val_small (l := s) (m := Sc.digN s) (k := 9) (Nat.le_refl _) h2
    show Sc.valN (s.take (Sc.digN s)) ≤ _
    have e9 : (10 : Nat) ^ 9 = 1000000000 := by decide
    omega
   ·have e : s.take (Sc.digN s + 1) = s.take (Sc.digN s) ++ [x] := by
     rw [List.take_add_one]
     have : s[Sc.digN s]? = some x := by
      have := congrArg List.head? hx
      rw [List.head?_drop] at this
      exact this
     rw [this]
     rfl
    have hc : c ∈ s.take (Sc.digN s + 1) := hc
    rw [e] at hc
    rcases List.mem_append.1 hc with hc | hc
    ·exact dig_bl (hd c hc)
    ·rw [List.mem_singleton.1 hc]
     rcases h3 with rfl | rfl <;> rfl
  ·exact ⟨Nat.zero_le _, Nat.zero_le _, fun c hc => by simp at hc⟩
theorem prefix_one (s : Str) : Lib.hasPrefix s [62] = (s.head? == some 62) := by
 cases s with
 | nil => rfl
 | cons c t =>
  show _ = (some c == some 62)
  by_cases h : c = 62
  ·subst h
   simp [Lib.hasPrefix]
  ·have h1 : (some c == some (62 : UInt8)) = false := by rw [beq_eq_false_iff_ne]; intro e; injection e with e; exact h e
   rw [h1]
   show ((62 : UInt8) == c && _) = false
   rw [beq_eq_false_iff_ne.2 (fun e => h e.symm)]
   rfl
theorem low_prefix {w0 : World} (s : Str) : Tells w0 30 #[str s, .string ⟨#[62]⟩] (.bool (s.head? == some 62)) := fun W hW => by
 rw [← prefix_one]
 exact (Tryz.strings_HasPrefix ⟨s.toArray⟩ ⟨#[62]⟩ W).mono fun e w' ⟨h1, h2⟩ => ⟨h1, by rw [h2]; exact Below.refl _ _⟩
theorem low_of {w0 : World} (hK : Ks.Laid w0) (hS : Sc.LaidS w0) (hE : Es.LaidK w0) (defs : Str → List Rf.Rb × Str) (hn : defs [] = ([], []))
  (hall : ∀ (s : Str) (W : World), s.length ≤ 100000 → Below w0.heap.size w0 W → Calls Tryz.prog 105 #[str s] W fun e w' => ∃ v, e = .returned (.tuple #[v, str (defs s).2]) ∧ Rf.Refs w' v (defs s).1 ∧ Below W.heap.size W w') : Low w0 (XS defs) where
 indent := low_indent
 skip := low_skip
 trimL := low_trimL
 trimR := low_trimR
 blank := low_blank
 prefix1 := fun s _ => low_prefix s
 atx := fun s hs => ⟨(atx_le s).1, Nat.le_trans (atx_le s).2 hs, low_atx s hs⟩
 fence := fun s hs => ⟨Nat.le_trans (fence_le s).1 hs, Nat.le_trans (fence_le s).2 hs, low_fence s hs⟩
 html := fun s hs => ⟨html_le s, low_html hK s hs⟩
 ends := fun s n hs _ _ => low_ends hS s n hs
 setx := fun s hs => ⟨setx_le s, low_setx s hs⟩
 rule := low_rule
 bul := fun s hs => ⟨(bul_le s).1, (bul_le s).2.1, (bul_le s).2.2, low_bul s hs⟩
 ord := fun s hs => ⟨(ord_le s).1, (ord_le s).2.1, low_ord s hs⟩
 ordB := fun s => (ord_le s).2.2
 closes := fun s c n hs _ => low_closes s c n hs
 une := low_une hE
 all := hall
 none := hn
end Bk
end Go.Proofs.YtkiipaaaakhhfaaGreatDoor
end
section
namespace Go.Proofs.YtkiipaaaakhhfaaGreatDoor
open Go Go.RowKit
namespace Bk
set_option maxRecDepth 100000
set_option linter.unusedVariables false
set_option linter.unusedSimpArgs false
def toRb (r : Rf.R) : Rf.Rb := ⟨⟨r.lab.toArray⟩, ⟨r.dst.toArray⟩, ⟨r.tit.toArray⟩⟩
def defsZ (s : Str) : List Rf.Rb × Str := ((Rf.allP s).1.map toRb, (Rf.allP s).2)
theorem defsZ_nil : defsZ [] = ([], []) := rfl
theorem map_toRb (l : List Rf.R) : (l.map toRb).map Rf.Rb.r = l := by
 rw [List.map_map]
 conv => rhs; rw [← List.map_id l]
 rfl
theorem low_all {w0 : World} (hL : Rf.LaidR w0) (s : Str) (W : World) (hs : s.length ≤ 100000) (hW : Below w0.heap.size w0 W) : Calls Tryz.prog 105 #[str s] W fun e w' => ∃ v, e = .returned (.tuple #[v, str (defsZ s).2]) ∧ Rf.Refs w' v (defsZ s).1 ∧ Below W.heap.size W w' := by
 refine Rf.zall_any 0 ⟨s.toArray⟩ W hs (defsZ s).1 ⟨(defsZ s).2.toArray⟩ ?_ ?_
 ·show Rf.allP s = ((((Rf.allP s).1.map toRb)).map Rf.Rb.r, (Rf.allP s).2)
  rw [map_toRb]
 ·intro W2 hW2 s2 b n hs2 ht
  exact Rf.ztake_any s2 W2 hs2 (hL.below (below_later hW hW2)) b n ht
end Bk
end Go.Proofs.YtkiipaaaakhhfaaGreatDoor
end
section
namespace Go.Proofs.YtkiipaaaakhhfaaGreatDoor
open Go Go.RowKit
namespace Bk
set_option maxRecDepth 100000
set_option linter.unusedVariables false
set_option linter.unusedSimpArgs false
theorem enc_hi (r : Int) (h : 128 ≤ r) : 2 ≤ (Utf8.encode r).size ∧ (Utf8.encode r).size ≤ 4 ∧ ∀ (i : Nat) (x : UInt8), (Utf8.encode r).data.toList[i]? = some x → 128 ≤ x.toNat := by
 obtain ⟨c, hc⟩ : ∃ c : Nat, (if Utf8.valid r then r.toNat else Utf8.runeError) = c := ⟨_, rfl⟩
 have h1 : 128 ≤ c ∧ c ≤ 1114111 := by
  rw [← hc]
  unfold Utf8.valid Utf8.runeError
  split
  ·rename_i hv
   simp at hv
   omega
  ·omega
 have hb : ∀ n : Nat, 128 ≤ n → n < 256 → 128 ≤ (UInt8.ofNat n).toNat := fun n a b => by
  rw [UInt8.toNat_ofNat']
  omega
 unfold Utf8.encode
 simp only [hc]
 rw [if_neg (by omega)]
 split
 ·refine ⟨by show 2 ≤ 2; omega, by show 2 ≤ 4; omega, fun i x hx => ?_⟩
  rcases i with _ | _ | i
  ·(cases hx; exact hb _ (by omega) (by omega))
  ·(cases hx; exact hb _ (by omega) (by omega))
  ·simp at hx
 ·split
  ·refine ⟨by show 2 ≤ 3; omega, by show 3 ≤ 4; omega, fun i x hx => ?_⟩
   rcases i with _ | _ | _ | i
   ·(cases hx; exact hb _ (by omega) (by omega))
   ·(cases hx; exact hb _ (by omega) (by omega))
   ·(cases hx; exact hb _ (by omega) (by omega))
   ·simp at hx
  ·refine ⟨by show 2 ≤ 4; omega, by show 4 ≤ 4; omega, fun i x hx => ?_⟩
   rcases i with _ | _ | _ | _ | i
   ·(cases hx; exact hb _ (by omega) (by omega))
   ·(cases hx; exact hb _ (by omega) (by omega))
   ·(cases hx; exact hb _ (by omega) (by omega))
   ·(cases hx; exact hb _ (by omega) (by omega))
   ·simp at hx
set_option maxHeartbeats 8000000 in
theorem idx_hi (s : ByteArray) (w : World) (r : Int) (h4 : 4 ≤ s.size) (h8 : s.size ≤ 8) (ha : ∀ (j : Nat) b, s.data.toList[j]? = some b → b.toNat < 128) (h : 128 ≤ r) (h2 : r ≠ 65533) (hv : Lib.validRune r = true) : Calls Tryz.prog 45 #[.string s, .int .i32 r] w fun e w' => e = .returned (.int .i64 (-1)) ∧ Below w.heap.size w w' := by
 obtain ⟨e1, e2, e3⟩ := enc_hi r h
 obtain ⟨E, hE⟩ : ∃ E, Utf8.encode r = E := ⟨_, rfl⟩
 rw [hE] at e1 e2 e3
 have HV := Lib.hid (fun W : World => Tryz.utf8_ValidRune r W)
 rw [hv] at HV
 have t1 : ¬ r < 128 := by omega
 have t2 : (r == 65533) = false := beq_eq_false_iff_ne.2 h2
 have t3 : (0 : Int) ≤ r := by omega
 obtain ⟨l, hl⟩ : ∃ l, l + 1 = E.size := ⟨E.size - 1, by omega⟩
 have s1 : IntKind.i64.wrap ((E.size : Int) - 1) = (l : Int) := by rw [IntWalk.i64_in _ (by omega)]; omega
 have s2 : (l : Int) < (s.size : Int) := by omega
 have s3 : (0 : Int) ≤ (l : Int) := by omega
 have s4 : (l : Int) < (E.size : Int) := by omega
 obtain ⟨k, hk⟩ : ∃ k, l + 1 = k := ⟨_, rfl⟩
 have s5 : IntKind.i64.wrap ((l : Int) + 1) = (k : Int) := by rw [IntWalk.i64_in _ (by omega)]; omega
 have s6 : (k : Int) ≤ (s.size : Int) := by omega
 have s7 : (0 : Int) ≤ (k : Int) := by omega
 have hls : l < s.size := by omega
 have hle : l < E.size := by omega
 obtain ⟨x, hx⟩ : ∃ x, s[l] = x := ⟨_, rfl⟩
 obtain ⟨y, hy⟩ : ∃ y, E[l] = y := ⟨_, rfl⟩
 have x1 : x.toNat < 128 := ha l x (by rw [← hx]; exact Lib.data_getElem? s l hls)
 have y1 : 128 ≤ y.toNat := e3 l y (by rw [← hy]; exact Lib.data_getElem? E l hle)
 have n1 : ((x.toNat : Int) != (y.toNat : Int)) = true := bne_iff_ne.2 (by omega)
 have n2 : ((x.toNat : Int) == (y.toNat : Int)) = false := beq_eq_false_iff_ne.2 (by omega)
 have n3 : ¬ (x.toNat : Int) = (y.toNat : Int) := by omega
 have HI := Lib.hid (fun W : World => reads_same ((Tryz.strings_IndexByte (s.extract k s.size) (y.toNat : Int) W).mono fun e w' h => ⟨h.1, h.2.symm⟩))
 have hib : Lib.indexByte (s.extract k s.size).data.toList (y.toNat : Int).toNat.toUInt8 = -1 := by
  have e : (y.toNat : Int).toNat.toUInt8 = y := by simp
  rw [e]
  have hc := Lib.contains_iff_indexByte (s.extract k s.size).data.toList y
  have hn : (s.extract k s.size).data.toList.contains y = false := by
   rw [Bool.eq_false_iff]
   intro h
   rw [List.contains_iff_mem] at h
   have h := mem_extract h
   obtain ⟨j, hj⟩ := List.mem_iff_getElem?.1 h
   have := ha j y hj
   omega
  rw [hn] at hc
  have h5 : ¬ (0 ≤ Lib.indexByte (s.extract k s.size).data.toList y) := of_decide_eq_false hc.symm
  have h6 := Lib.indexByte_ge (s.extract k s.size).data.toList y
  omega
 rw [hib] at HI
 have HE := Lib.hid hl
 have hcv := fun W : World => run_convert_int_string (P := Tryz.prog) W 21 9 .i32 r (by kernel_rfl) Tryz.underlying9
 rw [hE] at hcv
 clear hv e3 ha hib hl h4 h8 e1 e2 hk
 go_enter Tryz.func45, Tryz.ntmps45
 go_wp2_with fail
 refine (HV.out _).mono ?_
 rintro e w1 ⟨rfl, rfl⟩
 go_wp2
 go_step3
 go_wp2
 refine wp_loop_rounds 1 ?_
 rw [rounds_succ]
 go_wp2
 go_step3
 go_wp2
 go_quiet (fail)
 go_wp2
 go_region_law (go_simp; go_at_call 83; refine (HI.out _).mono ?_; rintro e w2 ⟨rfl, mm, rfl⟩)
 go_wp2
 simp only [Exit.noGoto, Exit.inBlock, Exit.then]
 go_ret
 exact ⟨rfl, below_drewN (Below.refl _ _) _⟩
theorem iter_below (w : World) (s : ByteArray) (p : Nat) : Below w.heap.size w (w.iter s p) := (Below.refl _ w).alloc (Nat.le_refl _) _
set_option maxHeartbeats 8000000 in
theorem idx_err (s : ByteArray) (w : World) (ha : ∀ (j : Nat) b, s.data.toList[j]? = some b → b.toNat < 128) : Calls Tryz.prog 45 #[.string s, .int .i32 65533] w fun e w' => e = .returned (.int .i64 (-1)) ∧ Below w.heap.size w w' := by
 have HA := Lib.hid ha
 clear ha
 go_enter Tryz.func45, Tryz.ntmps45
 go_wp2_with fail
 go_loopg [5, 6] s.size (fun g _ _ wx => ∃ i : Nat, i + g = s.size ∧ wx = w.iter s i)
 case atStart => exact ⟨0, by omega, rfl⟩
 case round =>
  obtain ⟨i, hig, rfl⟩ := hrel
  cases gk with
  | zero =>
   obtain rfl : i = s.size := by omega
   have hnx := fun t => run_next_end (P := Tryz.prog) w s s.size t (Nat.lt_irrefl _)
   go_wp2
   go_ret
   exact ⟨rfl, iter_below _ _ _⟩
  | succ g =>
   have hi : i < s.size := by omega
   obtain ⟨x, hx⟩ : ∃ x : UInt8, s[i]'hi = x := ⟨_, rfl⟩
   have hx128 : x.toNat < 128 := HA.out i x (by rw [← hx]; exact Lib.data_getElem? s i hi)
   have hnx := fun ty => run_next_ascii (P := Tryz.prog) w s i ty hi (by rw [hx]; exact hx128)
   rw [hx] at hnx
   have n1 : ((x.toNat : Int) == 65533) = false := beq_eq_false_iff_ne.2 (by omega)
   have n2 : ¬ (x.toNat : Int) = 65533 := by omega
   clear hx
   go_wp2
   go_roundg g
   case measure => omega
   case rel => exact ⟨i + 1, by omega, rfl⟩
end Bk
end Go.Proofs.YtkiipaaaakhhfaaGreatDoor
end
section
namespace Go.Proofs.YtkiipaaaakhhfaaGreatDoor
open Go Go.RowKit
namespace Bk
set_option maxRecDepth 100000
set_option linter.unusedVariables false
set_option linter.unusedSimpArgs false
theorem get_at {s : ByteArray} {j : Nat} (h : j < s.size) : s.get! j = s[j] := by
 simp [ByteArray.get!, getElem!_pos, h]
 rfl
theorem dec_facts (s : ByteArray) (i : Nat) (h : i < s.size) :
  ((s[i]'h).toNat < 128 ∧ Utf8.decode s i = ((s[i]'h).toNat, 1)) ∨
  (128 ≤ (Utf8.decode s i).1 ∧ Lib.validRune ((Utf8.decode s i).1 : Int) = true ∧ 1 ≤ (Utf8.decode s i).2 ∧ i + (Utf8.decode s i).2 ≤ s.size ∧ ∀ j, i ≤ j → j < i + (Utf8.decode s i).2 → 128 ≤ (s.get! j).toNat) := by
 by_cases ha : (s[i]'h).toNat < 128
 ·exact .inl ⟨ha, decode_ascii s i h ha⟩
 ·right
  have e0 : s.get! i = s[i]'h := get_at h
  have hb0 : ¬ (s.get! i).toNat < 128 := by rw [e0]; exact ha
  rw [Lib.decode_at]
  have hv : ∀ r : Nat, (r < 55296 ∨ 57343 < r ∧ r ≤ 1114111) → Lib.validRune (r : Int) = true := fun r hr => by
   unfold Lib.validRune
   rw [decide_eq_true]
   omega
  rcases Lib.decodeN_shape (s.size - i) (s.get! i).toNat (s.get! (i + 1)).toNat (s.get! (i + 2)).toNat (s.get! (i + 3)).toNat with ⟨c, e⟩ | ⟨c1, c2, c3, c4, e⟩ | ⟨c1, c2, c3, c4, c5, c6, e⟩ | ⟨c1, c2, c3, c4, c5, c6, c7, e⟩ | e
  ·exact absurd c hb0
  ·rw [e]
   refine ⟨c4, hv _ (by omega), (by decide : 1 ≤ 2), by show i + 2 ≤ s.size; omega, fun j h1 h2 => ?_⟩
   have h2 : j < i + 2 := h2
   rcases (by omega : j = i ∨ j = i + 1) with rfl | rfl <;> omega
  ·rw [e]
   refine ⟨by show 128 ≤ (s.get! i).toNat % 16 * 4096 + (s.get! (i + 1)).toNat % 64 * 64 + (s.get! (i + 2)).toNat % 64; omega, hv _ (by omega), (by decide : 1 ≤ 3), by show i + 3 ≤ s.size; omega, fun j h1 h2 => ?_⟩
   have h2 : j < i + 3 := h2
   rcases (by omega : j = i ∨ j = i + 1 ∨ j = i + 2) with rfl | rfl | rfl <;> omega
  ·rw [e]
   refine ⟨by show 128 ≤ (s.get! i).toNat % 8 * 262144 + (s.get! (i + 1)).toNat % 64 * 4096 + (s.get! (i + 2)).toNat % 64 * 64 + (s.get! (i + 3)).toNat % 64; omega, hv _ (by omega), (by decide : 1 ≤ 4), by show i + 4 ≤ s.size; omega, fun j h1 h2 => ?_⟩
   have h2 : j < i + 4 := h2
   rcases (by omega : j = i ∨ j = i + 1 ∨ j = i + 2 ∨ j = i + 3) with rfl | rfl | rfl | rfl <;> omega
  ·rw [e]
   refine ⟨(by decide : 128 ≤ 65533), hv _ (by omega), (by decide : 1 ≤ 1), by show i + 1 ≤ s.size; omega, fun j h1 h2 => ?_⟩
   have h2 : j < i + 1 := h2
   obtain rfl : j = i := by omega
   omega
def idxN (t : Str) : Int := if (t.takeWhile nlab).length < t.length then ((t.takeWhile nlab).length : Nat) else -1
theorem tw_at {p : UInt8 → Bool} : ∀ (t : Str) (i : Nat), i ≤ t.length → (∀ (j : Nat) (c : UInt8), j < i → t[j]? = some c → p c = true) → (i = t.length ∨ ∃ c, t[i]? = some c ∧ p c = false) → (t.takeWhile p).length = i
 | [], i, hi, h, h2 => by simp at hi; subst hi; rfl
 | c :: t, 0, hi, h, h2 => by
  rcases h2 with h2 | ⟨d, h2, h3⟩
  ·simp at h2
  ·simp at h2
   subst h2
   rw [List.takeWhile_cons, h3]; rfl
 | c :: t, i + 1, hi, h, h2 => by
  have h0 := h 0 c (Nat.succ_pos _) rfl
  rw [List.takeWhile_cons, h0, if_pos rfl, List.length_cons, tw_at t i (by simpa using hi) (fun j d hj hd => h (j + 1) d (by omega) (by simpa using hd)) (by
   rcases h2 with h2 | ⟨d, h2, h3⟩
   ·exact .inl (by simpa using h2)
   ·exact .inr ⟨d, by simpa using h2, h3⟩)]
theorem idxN_hit {t : Str} {i : Nat} {c : UInt8} (h : ∀ (j : Nat) (c : UInt8), j < i → t[j]? = some c → nlab c = true) (hc : t[i]? = some c) (hn : nlab c = false) : idxN t = (i : Nat) := by
 have hi : i < t.length := (List.getElem?_eq_some_iff.1 hc).1
 unfold idxN
 rw [tw_at t i (Nat.le_of_lt hi) h (.inr ⟨c, hc, hn⟩), if_pos hi]
theorem idxN_none {t : Str} (h : ∀ (j : Nat) (c : UInt8), j < t.length → t[j]? = some c → nlab c = true) : idxN t = -1 := by
 unfold idxN
 rw [tw_at t t.length (Nat.le_refl _) h (.inl rfl), if_neg (Nat.lt_irrefl _)]
theorem nlab_has (c : UInt8) : ([32, 9, 10, 91, 93] : List UInt8).contains c = !nlab c := by
 unfold nlab
 simp only [List.contains_cons, List.contains_nil, Bool.or_false, Bool.not_not, Bool.or_assoc]
theorem idx_any : ∀ l : Str, Lib.indexAny l [32, 9, 10, 91, 93] = idxN l
 | [] => rfl
 | b :: l => by
  rw [Lib.indexAny, nlab_has, idx_any l]
  unfold idxN
  rw [List.takeWhile_cons]
  cases hb : nlab b with
  | false => rfl
  | true =>
   simp only [Bool.not_true, Bool.false_eq_true, if_false, if_true, List.length_cons]
   by_cases h : (l.takeWhile nlab).length < l.length
   ·rw [if_pos h, if_pos (Nat.succ_lt_succ h), if_neg (by rw [beq_iff_eq]; omega)]
    omega
   ·rw [if_neg h, if_neg (fun e => h (Nat.lt_of_succ_lt_succ e))]
    rfl
theorem pos_byte {s : ByteArray} {j : Nat} {c : UInt8} (h : s.data.toList[j]? = some c) : s.get! j = c := by
 have hj : j < s.size := by
  have := (List.getElem?_eq_some_iff.1 h).1
  rw [Array.length_toList] at this
  exact this
 rw [get_at hj]
 have := Lib.data_getElem? s j hj
 rw [h] at this
 injection this with this
 exact this.symm
theorem iterAt_below {w wr : World} {B k p : Nat} {s : ByteArray} (h : Below B w wr) (hk : B ≤ k) : Below B w (wr.iterAt k s p) :=
 ⟨h.os, h.tape, h.output, by show _ ≤ (wr.heap.setIfInBounds k _).size; rw [Array.size_setIfInBounds]; exact h.size, fun i hi => by
  show (wr.heap.setIfInBounds k _)[i]? = _
  rw [Array.getElem?_setIfInBounds_ne (by omega)]
  exact h.block i hi⟩
set_option maxHeartbeats 16000000 in
theorem any_short (s : ByteArray) (w : World) (h8 : s.size ≤ 8) : Calls Tryz.prog 29 #[.string s, .string ⟨#[32, 9, 10, 91, 93]⟩] w fun e w' => e = .returned (.int .i64 (idxN s.data.toList)) ∧ Below w.heap.size w w' := by
 have h8z : decide ((8 : Int) < (s.size : Int)) = false := decide_eq_false (by omega)
 have HS := Lib.hid (fun W : World => Tryz.strings_shouldUseASCIISet (s.size : Int) W)
 rw [h8z] at HS
 have HX := Lib.hid (fun (r : Nat) (W : World) (h : 128 ≤ r) (hv : Lib.validRune (r : Int) = true) => (by
  by_cases he : (r : Int) = 65533
  ·rw [he]; exact idx_err ⟨#[32, 9, 10, 91, 93]⟩ W (fun j b hb => by
    rcases j with _ | _ | _ | _ | _ | j
    all_goals first
     | (cases hb; decide)
     | (simp at hb))
  ·exact idx_hi ⟨#[32, 9, 10, 91, 93]⟩ W r (by decide) (by decide) (fun j b hb => by
    rcases j with _ | _ | _ | _ | _ | j
    all_goals first
     | (cases hb; decide)
     | (simp at hb)) (by omega) he hv : Calls Tryz.prog 45 #[.string ⟨#[32, 9, 10, 91, 93]⟩, .int .i32 (r : Int)] W fun e w' => e = .returned (.int .i64 (-1)) ∧ Below W.heap.size W w'))
 have HY := Lib.hid (fun (x : UInt8) (W : World) (h : x.toNat < 128) => (by
  have h1 := Tryz.strings_IndexRune_ascii ⟨#[32, 9, 10, 91, 93]⟩ (x.toNat : Int) W (by omega) (by omega)
  have hback : ((x.toNat : Int)).toNat.toUInt8 = x := by simp
  rw [hback] at h1
  exact h1 : Calls Tryz.prog 45 #[.string ⟨#[32, 9, 10, 91, 93]⟩, .int .i32 (x.toNat : Int)] W fun e w' => e = .returned (.int .i64 (Lib.indexByte [32, 9, 10, 91, 93] x)) ∧ w' = W))
 clear h8 h8z
 go_enter Tryz.func29, Tryz.ntmps29
 go_wp2_with fail
 refine (HS.out _).mono ?_
 rintro e w1 ⟨rfl, rfl⟩
 go_wp2
 go_loopg [9, 10] s.size (fun g _ _ wx => ∃ i : Nat, s.size - i = g ∧ i ≤ s.size ∧ wx.heap[w1.heap.size]? = some (.stringIter s i) ∧ Hid (∀ (j : Nat) (c : UInt8), j < i → s.data.toList[j]? = some c → nlab c = true) ∧ Hid (Below w1.heap.size w1 wx))
 case atStart => exact ⟨0, by omega, Nat.zero_le _, World.iter_heap _ _ _, Lib.hid (fun j c hj => absurd hj (Nat.not_lt_zero _)), Lib.hid (iter_below _ _ _)⟩
 case round =>
  obtain ⟨i, hig, hin, hk, HA, HB⟩ := hrel
  cases gk with
  | zero =>
   have hsz : ¬ i < s.size := by omega
   have hnx := fun ty => Lib.run_next_end_at (P := Tryz.prog) wr w1.heap.size s i ty hk hsz
   have HV : Hid (idxN s.data.toList = -1) := Lib.hid (idxN_none fun j c hj hc => HA.out j c (by rw [Array.length_toList] at hj; have : j < s.size := hj; omega) hc)
   go_wp2
   go_ret
   exact ⟨by rw [HV.out]; rfl, HB.out⟩
  | succ G =>
   have hi : i < s.size := by omega
   have hks : w1.heap.size < wr.heap.size := (Array.getElem?_eq_some_iff.1 hk).1
   rcases dec_facts s i hi with ⟨ha, hd⟩ | ⟨d1, d2, d3, d4, d5⟩
   ·obtain ⟨x, hx⟩ : ∃ x : UInt8, s[i]'hi = x := ⟨_, rfl⟩
    have hxl : s.data.toList[i]? = some x := by rw [← hx]; exact Lib.data_getElem? s i hi
    have hnx := fun ty => Lib.run_next_ascii_at (P := Tryz.prog) wr w1.heap.size s i ty hk hi ha
    rw [hx] at hnx ha
    have hk2 := Lib.iterAt_heap wr w1.heap.size s i (i + 1) hk
    have HB2 := Lib.hid (iterAt_below (p := i + 1) (s := s) HB.out (Nat.le_refl _))
    have HK2 := Lib.hid hk2
    have hcon := Lib.contains_iff_indexByte [32, 9, 10, 91, 93] x
    rw [nlab_has] at hcon
    have HYx := Lib.hid (fun W => HY.out x W ha)
    have HXL := Lib.hid hxl
    clear hx hd hk2 hxl hk
    obtain ⟨ib, hib⟩ : ∃ z, Lib.indexByte [32, 9, 10, 91, 93] x = z := ⟨_, rfl⟩
    rw [hib] at HYx hcon
    obtain ⟨W, hW⟩ : ∃ W, wr.iterAt w1.heap.size s (i + 1) = W := ⟨_, rfl⟩
    rw [hW] at hnx HB2 HK2
    cases hn : nlab x with
    | false =>
     rw [hn] at hcon
     have hge : (0 : Int) ≤ ib := of_decide_eq_true hcon.symm
     have HV : Hid (idxN s.data.toList = (i : Nat)) := Lib.hid (idxN_hit HA.out HXL.out hn)
     clear hn hcon hib hW
     go_wp2_with fail
     refine (HYx.out _).mono ?_
     rintro e w2 ⟨rfl, rfl⟩
     go_wp2
     go_ret
     exact ⟨by rw [HV.out]; rfl, HB2.out⟩
    | true =>
     rw [hn] at hcon
     have hlt : ¬ (0 : Int) ≤ ib := of_decide_eq_false hcon.symm
     have HA2 : Hid (∀ (j : Nat) (c : UInt8), j < i + 1 → s.data.toList[j]? = some c → nlab c = true) := Lib.hid (fun j c hj hc => by
      rcases Nat.lt_or_ge j i with h | h
      ·exact HA.out j c h hc
      ·obtain rfl : j = i := by omega
       have := HXL.out
       rw [hc] at this
       injection this with this
       rw [this]; exact hn)
     clear hn hcon hib hW
     go_wp2_with fail
     refine (HYx.out _).mono ?_
     rintro e w2 ⟨rfl, rfl⟩
     go_wp2
     go_roundg G
     case measure => omega
     case rel => exact ⟨i + 1, by omega, by omega, HK2.out, HA2, HB2⟩
   ·have hnx := fun ty => Lib.run_next_any_at (P := Tryz.prog) wr w1.heap.size s i ty hk hi
    obtain ⟨r, hr⟩ : ∃ r, (Utf8.decode s i).1 = r := ⟨_, rfl⟩
    obtain ⟨k, hkk⟩ : ∃ k, (Utf8.decode s i).2 = k := ⟨_, rfl⟩
    rw [hr] at d1 d2
    rw [hkk] at d3 d4 d5
    rw [hr, hkk] at hnx
    have hk2 := Lib.iterAt_heap wr w1.heap.size s i (i + k) hk
    have HB2 := Lib.hid (iterAt_below (p := i + k) (s := s) HB.out (Nat.le_refl _))
    have HK2 := Lib.hid hk2
    have HXr := Lib.hid (fun W => HX.out r W d1 d2)
    have HA2 : Hid (∀ (j : Nat) (c : UInt8), j < i + k → s.data.toList[j]? = some c → nlab c = true) := Lib.hid (fun j c hj hc => by
     rcases Nat.lt_or_ge j i with h | h
     ·exact HA.out j c h hc
     ·have h3 := d5 j h hj
      rw [pos_byte hc] at h3
      unfold nlab
      have hn : ∀ y : UInt8, y.toNat < 128 → (c == y) = false := fun y hy => by
       rw [beq_eq_false_iff_ne]
       rintro rfl
       omega
      rw [hn 32 (by decide), hn 9 (by decide), hn 10 (by decide), hn 91 (by decide), hn 93 (by decide)]
      rfl)
    obtain ⟨W, hW⟩ : ∃ W, wr.iterAt w1.heap.size s (i + k) = W := ⟨_, rfl⟩
    rw [hW] at hnx HB2 HK2
    clear hk hk2 hr hkk hW d1 d2 d5
    go_wp2_with fail
    refine (HXr.out _).mono ?_
    rintro e w2 ⟨rfl, hb2⟩
    have HB3 : Hid (Below w1.heap.size w1 w2) := Lib.hid (HB2.out.trans (hb2.mono HB2.out.size))
    have HK3 : Hid (w2.heap[w1.heap.size]? = some (.stringIter s (i + k))) := Lib.hid ((hb2.block _ (Array.getElem?_eq_some_iff.1 HK2.out).1).trans HK2.out)
    clear hb2
    go_wp2
    go_roundg (s.size - (i + k))
    case measure => omega
    case rel => exact ⟨i + k, rfl, d4, HK3.out, HA2, HB3⟩
end Bk
end Go.Proofs.YtkiipaaaakhhfaaGreatDoor
end
section
namespace Go.Proofs.YtkiipaaaakhhfaaGreatDoor
open Go Go.RowKit
namespace Bk
set_option maxRecDepth 100000
set_option linter.unusedVariables false
set_option linter.unusedSimpArgs false
theorem wp_scope_jump1 {P : Program} {c rest : Code} {Q : Exit → Act → World → Prop} {a : Act} {w : World} (l : Nat) (W : World → Prop) (A : Act) (hf : findLabel c l = some rest)
  (first : c.wp P (Exit.jump l (fun a' w' => a' = A ∧ W w') Q) a w)
  (pass : ∀ w, W w → rest.wp P (Exit.jump l (fun a' w' => (a' = A ∧ W w') ∧ (0 : Nat) < 0) Q) A w) : (Code.scope c).wp P Q a w :=
 wp_scope_jumps l (fun a' w' => a' = A ∧ W w') (fun _ _ => 0) hf first (by rintro a w ⟨rfl, h⟩; exact pass w h)
section
variable {S : ByteArray} {c : UInt8} {r : Int} {E : ByteArray}
theorem ib_none (s : ByteArray) (y : UInt8) (h : ∀ (j : Nat) b, s.data.toList[j]? = some b → b ≠ y) : Lib.indexByte s.data.toList (y.toNat : Int).toNat.toUInt8 = -1 := by
 have e : (y.toNat : Int).toNat.toUInt8 = y := by simp
 rw [e]
 have hc := Lib.contains_iff_indexByte s.data.toList y
 have hn : s.data.toList.contains y = false := by
  rw [Bool.eq_false_iff]
  intro h2
  rw [List.contains_iff_mem] at h2
  obtain ⟨j, hj⟩ := List.mem_iff_getElem?.1 h2
  exact h j y hj rfl
 rw [hn] at hc
 have h5 : ¬ (0 ≤ Lib.indexByte s.data.toList y) := of_decide_eq_false hc.symm
 have h6 := Lib.indexByte_ge s.data.toList y
 omega
set_option maxHeartbeats 16000000 in
theorem idx3_3 (w : World) (hS : S.size = 3) (hS1 : ∃ h : 1 < S.size, S[1]'h = 9) (hS2 : ∃ h : 2 < S.size, S[2]'h = c) (h : 128 ≤ r) (h2 : r ≠ 65533) (hv : Lib.validRune r = true) (hE : Utf8.encode r = E) (hL : E.size = 3) (e3 : ∀ (i : Nat) (x : UInt8), E.data.toList[i]? = some x → 128 ≤ x.toNat) :
  Calls Tryz.prog 45 #[.string S, .int .i32 r] w fun e w' => e = .returned (.int .i64 (-1)) ∧ Below w.heap.size w w' := by
 have HV := Lib.hid (fun W : World => Tryz.utf8_ValidRune r W)
 rw [hv] at HV
 have t1 : ¬ r < 128 := by omega
 have t2 : (r == 65533) = false := beq_eq_false_iff_ne.2 h2
 have t3 : (0 : Int) ≤ r := by omega
 have s1 : IntKind.i64.wrap ((E.size : Int) - 1) = 2 := by rw [hL]; rfl
 have w1 : IntKind.i64.wrap 1 = 1 := rfl
 have w2 : IntKind.i64.wrap 2 = 2 := rfl
 have w3 : IntKind.i64.wrap 3 = 3 := rfl
 have s2 : (2 : Int) < (S.size : Int) := by omega
 have s4 : (2 : Int) < (E.size : Int) := by omega
 have s5 : (1 : Int) < (E.size : Int) := by omega
 have s6 : (1 : Int) < (S.size : Int) := by omega
 have s7 : (3 : Int) ≤ (S.size : Int) := by omega
 have s8 : ¬ (3 : Int) < (S.size : Int) := by omega
 have hle2 : 2 < E.size := by omega
 have hle1 : 1 < E.size := by omega
 obtain ⟨hs1, x1⟩ := hS1
 obtain ⟨hs2, x2⟩ := hS2
 obtain ⟨y2, hy2⟩ : ∃ y, E[2] = y := ⟨_, rfl⟩
 obtain ⟨y1, hy1⟩ : ∃ y, E[1] = y := ⟨_, rfl⟩
 have g1 : 128 ≤ y1.toNat := e3 1 y1 (by rw [← hy1]; exact Lib.data_getElem? E 1 hle1)
 have n1 : ((9 : Int) != (y1.toNat : Int)) = true := bne_iff_ne.2 (by omega)
 have n2 : ((9 : Int) == (y1.toNat : Int)) = false := beq_eq_false_iff_ne.2 (by omega)
 have n3 : ¬ (9 : Int) = (y1.toNat : Int) := by omega
 have HI := Lib.hid (fun W : World => reads_same ((Tryz.strings_IndexByte (S.extract 3 S.size) (y2.toNat : Int) W).mono fun e w' h => ⟨h.1, h.2.symm⟩))
 rw [ib_none (S.extract 3 S.size) y2 (fun j b hb => by
  have hz : (S.extract 3 S.size).data.toList.length = 0 := by rw [Array.length_toList, ByteArray.data_extract, Array.size_extract]; have : S.data.size = 3 := hS; omega
  rw [List.length_eq_zero_iff.1 hz] at hb
  simp at hb)] at HI
 have hcv := fun W : World => run_convert_int_string (P := Tryz.prog) W 21 9 .i32 r (by kernel_rfl) Tryz.underlying9
 rw [hE] at hcv
 have HCu := Lib.hid (fun W : World => Tryz.bytealg_Cutover 3 (by decide) (by decide) W)
 by_cases hc : c = y2
 ·have m1 : ((c.toNat : Int) != (y2.toNat : Int)) = false := by rw [hc]; simp
  have m2 : ((c.toNat : Int) == (y2.toNat : Int)) = true := by rw [hc]; simp
  clear hv e3 hS hL hE HI hc
  go_enter Tryz.func45, Tryz.ntmps45
  go_wp2_with fail
  refine (HV.out _).mono ?_
  rintro e wa ⟨rfl, rfl⟩
  go_wp2
  go_step3
  go_wp2
  refine wp_loop_rounds 2 ?_
  rw [rounds_succ]
  go_wp2
  apply wp_scope_jump1 (l := 0) (W := fun w' => ∃ n, w' = wa.drewN n) (hf := rfl)
  case first =>
   go_wp2
   go_quiet (fail)
   go_wp2
   refine wp_loop_rounds 1 ?_
   rw [rounds_succ]
   go_wp2
   go_quiet (fail)
   go_wp2
   go_step3
   exact ⟨rfl, rfl, _, World.drewN_drewN ..⟩
  case pass =>
   rintro w' ⟨nn, rfl⟩
   go_wp2_with fail
   refine (HCu.out _).mono ?_
   rintro e wb ⟨rfl, rfl⟩
   go_wp2
   simp only [Exit.jump, Exit.inBlock, Exit.then]
   rw [rounds_succ]
   go_wp2
   simp only [Exit.noGoto, Exit.inBlock, Exit.then]
   go_ret
   exact ⟨rfl, below_drewN (Below.refl _ _) _⟩
 ·have m1 : ((c.toNat : Int) != (y2.toNat : Int)) = true := bne_iff_ne.2 (fun e => hc (UInt8.toNat_inj.1 (by omega)))
  have m2 : ((c.toNat : Int) == (y2.toNat : Int)) = false := beq_eq_false_iff_ne.2 (fun e => hc (UInt8.toNat_inj.1 (by omega)))
  have m3 : ¬ (c.toNat : Int) = (y2.toNat : Int) := fun e => hc (UInt8.toNat_inj.1 (by omega))
  clear hv e3 hS hL hE hc
  go_enter Tryz.func45, Tryz.ntmps45
  go_wp2_with fail
  refine (HV.out _).mono ?_
  rintro e wa ⟨rfl, rfl⟩
  go_wp2
  go_step3
  go_wp2
  refine wp_loop_rounds 1 ?_
  rw [rounds_succ]
  go_wp2
  go_step3
  go_wp2
  go_quiet (fail)
  go_wp2
  go_region_law (go_simp; go_at_call 83; refine (HI.out _).mono ?_; rintro e w2 ⟨rfl, mm, rfl⟩)
  go_wp2
  simp only [Exit.noGoto, Exit.inBlock, Exit.then]
  go_ret
  exact ⟨rfl, below_drewN (Below.refl _ _) _⟩
set_option maxHeartbeats 16000000 in
theorem idx3_4 (w : World) (hS : S.size = 3) (h : 128 ≤ r) (h2 : r ≠ 65533) (hv : Lib.validRune r = true) (hE : Utf8.encode r = E) (hL : E.size = 4) :
  Calls Tryz.prog 45 #[.string S, .int .i32 r] w fun e w' => e = .returned (.int .i64 (-1)) ∧ Below w.heap.size w w' := by
 have HV := Lib.hid (fun W : World => Tryz.utf8_ValidRune r W)
 rw [hv] at HV
 have t1 : ¬ r < 128 := by omega
 have t2 : (r == 65533) = false := beq_eq_false_iff_ne.2 h2
 have t3 : (0 : Int) ≤ r := by omega
 have s1 : IntKind.i64.wrap ((E.size : Int) - 1) = 3 := by rw [hL]; rfl
 have s8 : ¬ (3 : Int) < (S.size : Int) := by omega
 have hcv := fun W : World => run_convert_int_string (P := Tryz.prog) W 21 9 .i32 r (by kernel_rfl) Tryz.underlying9
 rw [hE] at hcv
 clear hv hS hL hE
 go_enter Tryz.func45, Tryz.ntmps45
 go_wp2_with fail
 refine (HV.out _).mono ?_
 rintro e wa ⟨rfl, rfl⟩
 go_wp2
 go_step3
 go_wp2
 refine wp_loop_rounds 1 ?_
 rw [rounds_succ]
 go_wp2
 simp only [Exit.noGoto, Exit.inBlock, Exit.then]
 go_ret
 exact ⟨rfl, Below.refl _ _⟩
set_option maxHeartbeats 16000000 in
theorem idx3_2 (w : World) (hS : S.size = 3) (hS1 : ∃ h : 1 < S.size, S[1]'h = 9) (hS2 : ∃ h : 2 < S.size, S[2]'h = c) (h : 128 ≤ r) (h2 : r ≠ 65533) (hv : Lib.validRune r = true) (hE : Utf8.encode r = E) (hL : E.size = 2) (e3 : ∀ (i : Nat) (x : UInt8), E.data.toList[i]? = some x → 128 ≤ x.toNat) :
  Calls Tryz.prog 45 #[.string S, .int .i32 r] w fun e w' => e = .returned (.int .i64 (-1)) ∧ Below w.heap.size w w' := by
 have HV := Lib.hid (fun W : World => Tryz.utf8_ValidRune r W)
 rw [hv] at HV
 have t1 : ¬ r < 128 := by omega
 have t2 : (r == 65533) = false := beq_eq_false_iff_ne.2 h2
 have t3 : (0 : Int) ≤ r := by omega
 have s1 : IntKind.i64.wrap ((E.size : Int) - 1) = 1 := by rw [hL]; rfl
 have w1 : IntKind.i64.wrap 1 = 1 := rfl
 have w2 : IntKind.i64.wrap 2 = 2 := rfl
 have w3 : IntKind.i64.wrap 3 = 3 := rfl
 have w0 : IntKind.i64.wrap 0 = 0 := rfl
 have s2 : (2 : Int) < (S.size : Int) := by omega
 have s2' : (2 : Int) ≤ (S.size : Int) := by omega
 have s5 : (1 : Int) < (E.size : Int) := by omega
 have s5' : (0 : Int) < (E.size : Int) := by omega
 have s6 : (1 : Int) < (S.size : Int) := by omega
 have s8 : ¬ (3 : Int) < (S.size : Int) := by omega
 have hle0 : 0 < E.size := by omega
 have hle1 : 1 < E.size := by omega
 obtain ⟨hs1, x1⟩ := hS1
 obtain ⟨hs2, x2⟩ := hS2
 obtain ⟨y0, hy0⟩ : ∃ y, E[0] = y := ⟨_, rfl⟩
 obtain ⟨y1, hy1⟩ : ∃ y, E[1] = y := ⟨_, rfl⟩
 have g1 : 128 ≤ y1.toNat := e3 1 y1 (by rw [← hy1]; exact Lib.data_getElem? E 1 hle1)
 have g0 : 128 ≤ y0.toNat := e3 0 y0 (by rw [← hy0]; exact Lib.data_getElem? E 0 hle0)
 have n1 : ((9 : Int) != (y1.toNat : Int)) = true := bne_iff_ne.2 (by omega)
 have n2 : ((9 : Int) == (y1.toNat : Int)) = false := beq_eq_false_iff_ne.2 (by omega)
 have n3 : ¬ (9 : Int) = (y1.toNat : Int) := by omega
 have n4 : ((9 : Int) != (y0.toNat : Int)) = true := bne_iff_ne.2 (by omega)
 have n5 : ((9 : Int) == (y0.toNat : Int)) = false := beq_eq_false_iff_ne.2 (by omega)
 have n6 : ¬ (9 : Int) = (y0.toNat : Int) := by omega
 have HI := Lib.hid (fun W : World => reads_same ((Tryz.strings_IndexByte (S.extract 2 S.size) (y1.toNat : Int) W).mono fun e w' h => ⟨h.1, h.2.symm⟩))
 have hlst : (S.extract 2 S.size).data.toList = [c] := by
  have hl : S.data.toList.length = 3 := by rw [Array.length_toList]; exact hS
  have h2 := Lib.data_getElem? S 2 hs2
  rw [x2] at h2
  rw [ByteArray.data_extract, Array.toList_extract]
  show (S.data.toList.drop 2).take (S.size - 2) = [c]
  rw [hS, List.drop_eq_getElem_cons (by omega), List.drop_of_length_le (by omega)]
  rw [List.getElem?_eq_getElem (by omega)] at h2
  injection h2 with h2
  rw [h2]; rfl
 have hcv := fun W : World => run_convert_int_string (P := Tryz.prog) W 21 9 .i32 r (by kernel_rfl) Tryz.underlying9
 rw [hE] at hcv
 have HCu := Lib.hid (fun W : World => Tryz.bytealg_Cutover 3 (by decide) (by decide) W)
 by_cases hc : c = y1
 ·rw [hlst] at HI
  have h0 : Lib.indexByte [c] (y1.toNat : Int).toNat.toUInt8 = 0 := by
   have e : (y1.toNat : Int).toNat.toUInt8 = y1 := by simp
   rw [e, hc]
   simp [Lib.indexByte]
  rw [h0] at HI
  clear hv e3 hS hL hE hc hlst h0
  go_enter Tryz.func45, Tryz.ntmps45
  go_wp2_with fail
  refine (HV.out _).mono ?_
  rintro e wa ⟨rfl, rfl⟩
  go_wp2
  go_step3
  go_wp2
  refine wp_loop_rounds 2 ?_
  rw [rounds_succ]
  go_wp2
  apply wp_scope_jump1 (l := 0) (W := fun w' => ∃ n, w' = wa.drewN n) (hf := rfl)
  case first =>
   go_wp2
   go_quiet (fail)
   go_wp2
   go_region_law (go_simp; go_at_call 83; refine (HI.out _).mono ?_; rintro e w2 ⟨rfl, mm, rfl⟩)
   go_wp2
   refine wp_loop_rounds 1 ?_
   rw [rounds_succ]
   go_wp2
   go_quiet (fail)
   go_wp2
   go_step3
   exact ⟨rfl, rfl, _, World.drewN_drewN ..⟩
  case pass =>
   rintro w' ⟨nn, rfl⟩
   go_wp2_with fail
   refine (HCu.out _).mono ?_
   rintro e wb ⟨rfl, rfl⟩
   go_wp2
   simp only [Exit.jump, Exit.inBlock, Exit.then]
   rw [rounds_succ]
   go_wp2
   simp only [Exit.noGoto, Exit.inBlock, Exit.then]
   go_ret
   exact ⟨rfl, below_drewN (Below.refl _ _) _⟩
 ·rw [ib_none (S.extract 2 S.size) y1 (fun j b hb => by
   rw [hlst] at hb
   cases j with
   | zero => simp at hb; rw [← hb]; exact hc
   | succ j => simp at hb)] at HI
  clear hv e3 hS hL hE hc hlst
  go_enter Tryz.func45, Tryz.ntmps45
  go_wp2_with fail
  refine (HV.out _).mono ?_
  rintro e wa ⟨rfl, rfl⟩
  go_wp2
  go_step3
  go_wp2
  refine wp_loop_rounds 1 ?_
  rw [rounds_succ]
  go_wp2
  go_step3
  go_wp2
  go_quiet (fail)
  go_wp2
  go_region_law (go_simp; go_at_call 83; refine (HI.out _).mono ?_; rintro e w2 ⟨rfl, mm, rfl⟩)
  go_wp2
  simp only [Exit.noGoto, Exit.inBlock, Exit.then]
  go_ret
  exact ⟨rfl, below_drewN (Below.refl _ _) _⟩
end
end Bk
end Go.Proofs.YtkiipaaaakhhfaaGreatDoor
end
section
namespace Go.Proofs.YtkiipaaaakhhfaaGreatDoor
open Go Go.Shelf Go.RowKit Go.Lib
namespace Bk
set_option maxRecDepth 1000000
set_option linter.unusedVariables false
set_option linter.unusedSimpArgs false
section
variable {P : Program} {ρ : Ren}
set_option maxHeartbeats 4000000 in
theorem makeSet_stop (L : Lays.n227 P ρ) (hv116 : ∀ w, (zeroValue (ρ.t 116)).run P w = .ok (.agg (Array.replicate 256 (.bool false))) w) (hi116 : (P.info? (ρ.t 116)).map (·.size) = some 256) (chars : ByteArray) (w : World) (hs : chars.size < 4294967281) (m : Nat) (hm : m < chars.size)
  (hascii : ∀ (j : Nat) b, j < m → chars.data.toList[j]? = some b → b.toNat < 128) (hx : 128 ≤ (chars[m]'hm).toNat) :
  Calls P (ρ.f 227) #[.string chars] w fun e w' => e = .returned (.tuple #[.agg (Lib.setCells (chars.data.toList.take m)), .bool false]) ∧ w' = w.alloc (.cells (Lib.setCells (chars.data.toList.take m)) (ρ.t 116)) := by
 have HA : Aside (∀ (j : Nat) b, j < m → chars.data.toList[j]? = some b → b.toNat < 128) := hascii
 clear hascii
 have t3 := L.t3; have a3 := L.a3; have z3 := L.z3; have v3 := L.v3
 have t4 := L.t4; have a4 := L.a4; have z4 := L.z4; have v4 := L.v4
 have t5 := L.t5; have a5 := L.a5; have z5 := L.z5; have v5 := L.v5
 have t9 := L.t9; have a9 := L.a9; have z9 := L.z9; have v9 := L.v9
 have t116 := L.t116
 go_enter L.f227, Body.n227_ntmps ρ
 go_wp2
 rw [← Lib.setCells_nil]
 go_loopg [4] m (fun g s4 wx => ∃ i : Nat, i + g = m ∧ s4 = .int .i64 i ∧ wx = w.alloc (.cells (Lib.setCells (chars.data.toList.take i)) (ρ.t 116)))
 case atStart => exact ⟨0, by omega, rfl, rfl⟩
 case round =>
  obtain ⟨i, hig, rfl, rfl⟩ := hrel
  cases gk with
  | zero =>
   obtain rfl : i = m := by omega
   have hiz : (i : Int) < (chars.size : Int) := by omega
   obtain ⟨x, hxx⟩ : ∃ x : UInt8, chars[i]'hm = x := ⟨_, rfl⟩
   rw [hxx] at hx
   have hx128 : (128 : Int) ≤ (x.toNat : Int) := by omega
   have hld := run_loadVar_new (P := P) w (ρ.t 116) (Lib.setCells (chars.data.toList.take i)) 256 (ρ.t 4) L.t116 (by rw [Lib.setCells_size]; exact hi116)
   have hsz := Lib.setCells_size (chars.data.toList.take i)
   have hlc := run_loadCellsFrom_new (P := P) w (ρ.t 116) (Lib.setCells (chars.data.toList.take i)) 256 hsz
   have hsc := run_storeCells_new (P := P) w (ρ.t 116) (Lib.setCells (chars.data.toList.take i)) (Lib.setCells (chars.data.toList.take i)) (by rw [hsz]; exact hi116) rfl (Lib.setCells_one _)
   go_wp2
   simp only [L.a116, L.z116, Result.andThen, ↓reduceIte, hlc]
   rw [Oper.upon_value]
   go_wp2
   simp only [L.z116, Result.andThen, ↓reduceIte, hsc]
   rw [Oper.upon_skip]
   go_wp2
   (try simp only [Exit.inBlock, Exit.then])
   refine bodyPost_ret (v := .tuple #[.agg (Lib.setCells (chars.data.toList.take i)), .bool false]) ?_ rfl ⟨rfl, rfl⟩
   rw [results_cell_tmp rfl]
   simp [asAddr, Result.andThen, hld]
  | succ g =>
   have hi : i < chars.size := by omega
   have hiz : (i : Int) < (chars.size : Int) := by omega
   obtain ⟨x, hx⟩ : ∃ x : UInt8, chars[i]'hi = x := ⟨_, rfl⟩
   have hxl : chars.data.toList[i]? = some x := by rw [← hx]; exact Lib.data_getElem? chars i hi
   have hx128 : ¬ ((128 : Int) ≤ (x.toNat : Int)) := by have := HA.out i x (by omega) hxl; omega
   have hx256 : (x.toNat : Int) < 256 := by have := HA.out i x (by omega) hxl; omega
   have hcell := Lib.setCells_at (chars.data.toList.take i) x
   have Hx : Aside (chars.data.toList[i]? = some x) := hxl
   clear hxl
   go_wp2
   go_roundg g
   case measure => omega
   case rel => exact ⟨i + 1, by omega, by first | rfl | simp, by rw [List.take_add_one, Hx.out]; simp only [Option.toList]; rw [Lib.setCells_snoc]⟩
set_option maxHeartbeats 8000000 in
theorem trimRight_u (L : Lays.n162 P ρ) (hv116 : ∀ w, (zeroValue (ρ.t 116)).run P w = .ok (.agg (Array.replicate 256 (.bool false))) w) (hi116 : (P.info? (ρ.t 116)).map (·.size) = some 256) (s cutset : ByteArray) (w : World) (h2 : 2 ≤ cutset.size) (h0 : 0 < s.size) (hs : s.size ≤ 9223372036854775807) (hcs : cutset.size < 4294967281) (m : Nat) (hm : m < cutset.size)
  (hascii : ∀ (j : Nat) b, j < m → cutset.data.toList[j]? = some b → b.toNat < 128) (hx : 128 ≤ (cutset[m]'hm).toNat) (R : ByteArray → Prop)
  (hT : ∀ W, Below w.heap.size w W → Calls P (ρ.f 236) #[.string s, .string cutset] W fun e w' => (∃ r, e = .returned (.string r) ∧ R r) ∧ Below W.heap.size W w') :
  Calls P (ρ.f 162) #[.string s, .string cutset] w fun e w' => (∃ r, e = .returned (.string r) ∧ R r) ∧ Below w.heap.size w w' := by
 have hM := makeSet_stop { L with } hv116 hi116 cutset w hcs m hm hascii hx
 clear hascii hx
 have hemp : cutset.toList.isEmpty = false := by
  rw [Lib.toList_data]
  cases h : cutset.data.toList with
  | nil => have := Lib.size_eq cutset; rw [h, List.length_nil] at this; omega
  | cons _ _ => rfl
 have hemps : s.toList.isEmpty = false := by
  rw [Lib.toList_data]
  cases h : s.data.toList with
  | nil => have := Lib.size_eq s; rw [h, List.length_nil] at this; omega
  | cons _ _ => rfl
 have hn1 : ((cutset.size : Int) == 1) = false := beq_eq_false_iff_ne.2 (by omega)
 obtain ⟨C, hC⟩ : ∃ C, cutset.data.toList.take m = C := ⟨_, rfl⟩
 rw [hC] at hM
 have hsc : (storeCells ⟨w.heap.size + 1, 0, none⟩ (Lib.setCells C).toList 0).run P ((w.alloc (.cells (Lib.setCells C) (ρ.t 116))).alloc (.cells (Array.replicate 256 (.bool false)) (ρ.t 116))) = .ok () ((w.alloc (.cells (Lib.setCells C) (ρ.t 116))).alloc (.cells (Lib.setCells C) (ρ.t 116))) := by
  have := run_storeCells_new (P := P) (w.alloc (.cells (Lib.setCells C) (ρ.t 116))) (ρ.t 116) (Array.replicate 256 (.bool false)) (Lib.setCells C) (by rw [Lib.setCells_size]; exact hi116) (by rw [Lib.setCells_size, Array.size_replicate]) (Lib.setCells_one _)
  simpa using this
 have hsz := Lib.setCells_size C
 have hb : Below w.heap.size w ((w.alloc (.cells (Lib.setCells C) (ρ.t 116))).alloc (.cells (Lib.setCells C) (ρ.t 116))) := ((Below.refl _ w).alloc (Nat.le_refl _) _).alloc (by simp) _
 have hTT := hT _ hb
 clear hT hC
 have mixed := L.mixed; have t0 := L.t0; have a0 := L.a0; have z0 := L.z0; have v0 := L.v0; have t3 := L.t3; have a3 := L.a3; have z3 := L.z3; have v3 := L.v3; have t4 := L.t4; have a4 := L.a4; have z4 := L.z4; have v4 := L.v4; have t5 := L.t5; have a5 := L.a5; have z5 := L.z5; have v5 := L.v5; have t9 := L.t9; have a9 := L.a9; have z9 := L.z9; have v9 := L.v9; have t21 := L.t21; have a21 := L.a21; have z21 := L.z21; have v21 := L.v21; have t46 := L.t46; have a46 := L.a46; have z46 := L.z46; have v46 := L.v46; have t105 := L.t105; have a105 := L.a105; have z105 := L.z105; have v105 := L.v105; have t116 := L.t116; have t124 := L.t124; have a124 := L.a124; have z124 := L.z124; have v124 := L.v124
 have e227 : ∀ args w, (callFunc (ρ.f 227) args).run P w = .ok (.enter (ρ.f 227) args) w := enters_of L.f227 (by kernel_rfl) rfl
 have e236 : ∀ args w, (callFunc (ρ.f 236) args).run P w = .ok (.enter (ρ.f 236) args) w := enters_of L.f236 (by kernel_rfl) rfl
 have HB := hb
 go_enter L.f162, Body.n162_ntmps ρ
 go_wp2_with (go_at_fn (ρ.f 227); refine hM.mono ?_; rintro e w' ⟨rfl, hw⟩; rw [hw])
 simp only [L.z116, Result.andThen, ↓reduceIte, hsc]
 rw [Oper.upon_skip]
 clear hM hsc
 go_wp2_with (go_at_fn (ρ.f 236); refine hTT.mono ?_; rintro e w' ⟨⟨r, rfl, hr⟩, hbw⟩)
 go_ret
 exact ⟨⟨r, rfl, hr⟩, HB.trans (hbw.mono HB.size)⟩
end
end Bk
end Go.Proofs.YtkiipaaaakhhfaaGreatDoor
end
