import Derived.Test.YtkiipaaaakhhfaaGreatDoorCBk1
import Derived.Test.YtkiipaaaakhhfaaGreatDoorProg
import Derived.WalkKit
import Derived.BigCall
import Derived.BigQuiet
import Derived.Below
import Derived.WideShapes
import Derived.Deep.LoopGhost
import Derived.OwnWalk
import Derived.Lib.Hide
import Derived.RegionTactic
import Derived.Laws.ResultCell
import Derived.Laws.Rows
import Derived.Test.YtkiipaaaakhhfaaGreatDoorCBk3
import Derived.Laws.AppendOwn
import Derived.Test.YtkiipaaaakhhfaaGreatDoorCSc1
import Derived.Test.YtkiipaaaakhhfaaGreatDoorCText1
import Derived.Test.YtkiipaaaakhhfaaGreatDoorCSc3
import Derived.Test.YtkiipaaaakhhfaaGreatDoorCClass1
import Derived.Lib.IndexMore
import Derived.Test.YtkiipaaaakhhfaaGreatDoorCBk8
import Derived.Test.YtkiipaaaakhhfaaGreatDoorCRf1
import Derived.Test.YtkiipaaaakhhfaaGreatDoorCRf2
import Derived.Laws.BitsAllLaws
import Derived.Laws.BitsLemmas
import Derived.Laws.IdiomStrings
section
set_option linter.unusedVariables false
set_option linter.unusedSimpArgs false
set_option maxRecDepth 100000
namespace Go.Proofs.YtkiipaaaakhhfaaGreatDoor
namespace Bk
section
variable {ρ : Type} (X : Scan ρ)
theorem tail_leaf (foot : Bool) (i n : Nat) {b : Fr} {leaf : Option Lf} {c : UInt8} {t : Str} {L1 : Ln} (hc : bl c = false) (h62 : c ≠ 62) (h : leaves X i (ln b leaf (c :: t)) = some L1) : tail X foot i (n + 1) (ln b leaf (c :: t)) = L1 := by
 have : begins X foot i (n + 1) (ln b leaf (c :: t)) = (true, L1) := by
  rw [begins]
  rw [if_neg (by show ¬ blank (c :: t) = true; rw [blank_cons, hc]; exact Bool.false_ne_true)]
  rw [if_neg (by show ¬ 4 ≤ (⟨c :: t, 0⟩ : Rest).ind; rw [(ind_head hc t 0).1]; decide)]
  rw [if_neg (by show ¬ ((⟨c :: t, 0⟩ : Rest).aft).head? = some 62; rw [(ind_head hc t 0).2]; intro e; injection e with e; exact h62 e), h]
 unfold tail
 rw [this, if_pos rfl]
structure RuleOk (s : Str) : Prop where
 atx : (X.atx s).1 = 0
 fence : (X.fence s).2.1 = 0
 html : X.html s = 0
 rule : X.rule s = true
def ruleB (i : Nat) : B := .mk 9 [] [] 0 0 false false [] i i []
def headB (n : Nat) (h : Str) (i : Nat) : B := .mk 8 (Cl.rgt h) [] n 0 false false [] i i []
theorem rule_line (foot : Bool) (i : Nat) (b : Fr) {c : UInt8} {t : Str} (hc : bl c = false) (h62 : c ≠ 62) (hX : RuleOk X (c :: t)) : line X foot i ⟨[b], none⟩ (c :: t) = ⟨[grow [ruleB i] b], none⟩ := by
 have hl : leaves X i (ln b none (c :: t)) = some ((ln b none (c :: t)).lay i ruleB) := by
  unfold leaves
  rw [show (ln b none (c :: t)).r.aft = c :: t from (ind_head hc t 0).2, hX.atx, hX.fence, hX.html, if_neg (by omega), if_neg (by omega), if_neg (fun e => by have := e.1; omega), if_neg (fun e => by have := e.2.2.1; cases this), if_pos hX.rule]
  rfl
 rw [line_none, tail_leaf X foot i _ hc h62 hl]
 unfold Ln.lay
 rw [show (ln b none (c :: t)).place false = [grow [] b] from rfl, grow_nil]
 rfl
theorem head_line (foot : Bool) (i : Nat) (b : Fr) {c : UInt8} {t h : Str} {n : Nat} (hc : bl c = false) (h62 : c ≠ 62) (hn : 0 < n) (hX : X.atx (c :: t) = (n, h)) : line X foot i ⟨[b], none⟩ (c :: t) = ⟨[grow [headB n h i] b], none⟩ := by
 have hl : leaves X i (ln b none (c :: t)) = some ((ln b none (c :: t)).lay i (headB n h)) := by
  unfold leaves
  rw [show (ln b none (c :: t)).r.aft = c :: t from (ind_head hc t 0).2, hX, if_pos hn]
  rfl
 rw [line_none, tail_leaf X foot i _ hc h62 hl]
 unfold Ln.lay
 rw [show (ln b none (c :: t)).place false = [grow [] b] from rfl, grow_nil]
 rfl
end
end Bk
end Go.Proofs.YtkiipaaaakhhfaaGreatDoor
end
section
set_option linter.unusedVariables false
set_option linter.unusedSimpArgs false
set_option maxRecDepth 100000
namespace Go.Proofs.YtkiipaaaakhhfaaGreatDoor
namespace Bk
section
variable {ρ : Type} (X : Scan ρ)
def rl (j : Nat) : Str := if j % 3 = 0 then [42, 42, 42] else if j % 3 = 1 then [35, 35, 32, 97] else [95, 32, 95, 32, 95]
structure RulesOk : Prop where
 star : RuleOk X [42, 42, 42]
 head : X.atx [35, 35, 32, 97] = (2, [97])
 low : RuleOk X [95, 32, 95, 32, 95]
def rb (j : Nat) : B := if j % 3 = 1 then headB 2 [97] j else ruleB j
theorem rl_line (hX : RulesOk X) (foot : Bool) (i j : Nat) (b : Fr) : line X foot i ⟨[b], none⟩ (rl j) = ⟨[grow [if j % 3 = 1 then headB 2 [97] i else ruleB i] b], none⟩ := by
 unfold rl
 by_cases h0 : j % 3 = 0
 ·rw [if_pos h0, if_neg (by omega)]
  exact rule_line X foot i b (by decide) (by decide) hX.star
 rw [if_neg h0]
 by_cases h1 : j % 3 = 1
 ·rw [if_pos h1, if_pos h1]
  exact head_line X foot i b (by decide) (by decide) (by decide) hX.head
 ·rw [if_neg h1, if_neg h1]
  exact rule_line X foot i b (by decide) (by decide) hX.low
theorem rl_go (hX : RulesOk X) (foot : Bool) : ∀ (n i : Nat) (b : Fr), ∃ b', go X foot i ⟨[b], none⟩ ((List.range' i n).map rl) = ⟨[b'], none⟩ ∧ b'.kids = b.kids ++ (List.range' i n).map rb
 | 0, i, b => ⟨b, rfl, by simp⟩
 | n + 1, i, b => by
  obtain ⟨b', h1, h2⟩ := rl_go hX foot n (i + 1) (grow [if i % 3 = 1 then headB 2 [97] i else ruleB i] b)
  refine ⟨b', ?_, ?_⟩
  ·rw [List.range'_succ, List.map_cons]
   show go X foot (i + 1) (line X foot i ⟨[b], none⟩ (rl i)) _ = _
   rw [rl_line X hX]
   exact h1
  ·rw [h2, List.range'_succ, List.map_cons]
   show (b.kids ++ [_]) ++ _ = b.kids ++ (rb i :: _)
   rw [List.append_assoc]
   rfl
theorem out_head (n : Nat) (h : Str) (j : Nat) : out X (headB n h j) = [.mk 8 (Cl.rgt h) [] n 0 false j j []] ∧ defsO X (headB n h j) = [] := by
 unfold headB
 constructor
 ·rw [out, outL_nil]; rfl
 ·rw [defsO, defsL_nil]; rfl
theorem out_rule (j : Nat) : out X (ruleB j) = [.mk 9 [] [] 0 0 false j j []] ∧ defsO X (ruleB j) = [] := by
 unfold ruleB
 constructor
 ·rw [out, outL_nil]; rfl
 ·rw [defsO, defsL_nil]; rfl
def rk (j : Nat) : Blk := if j % 3 = 1 then .mk 8 (Cl.rgt [97]) [] 2 0 false j j [] else .mk 9 [] [] 0 0 false j j []
theorem rb_out (l : List Nat) : outL X (l.map rb) = l.map rk ∧ defsL X (l.map rb) = [] := by
 induction l with
 | nil => exact ⟨outL_nil X, defsL_nil X⟩
 | cons j l ih =>
  rw [List.map_cons, List.map_cons, outL_cons, defsL_cons, ih.1, ih.2]
  unfold rb rk
  split
  ·rw [(out_head X 2 [97] j).1, (out_head X 2 [97] j).2]; exact ⟨rfl, rfl⟩
  ·rw [(out_rule X j).1, (out_rule X j).2]; exact ⟨rfl, rfl⟩
theorem rules (hX : RulesOk X) (foot : Bool) (k : Nat) : parse X foot ((List.range k).map rl) = ((List.range k).map rk, []) := by
 obtain ⟨b', h1, h2⟩ := rl_go X hX foot k 0 docF
 have hk : (go X foot 0 doc0 ((List.range k).map rl)).kids = (List.range k).map rb := by
  rw [List.range_eq_range']
  unfold St.kids
  rw [show go X foot 0 doc0 ((List.range' 0 k).map rl) = ⟨[b'], none⟩ from h1]
  show b'.kids ++ [] = _
  rw [List.append_nil, h2]
  rfl
 unfold parse
 rw [hk, (rb_out X _).1, (rb_out X _).2]
end
end Bk
end Go.Proofs.YtkiipaaaakhhfaaGreatDoor
end
section
namespace Go.Proofs.YtkiipaaaakhhfaaGreatDoor
open Go Go.RowKit
namespace Bk
set_option maxRecDepth 100000
set_option linter.unusedVariables false
set_option linter.unusedSimpArgs false
theorem OwnS.ssl {w : World} {B : Nat} {v : Value} {L : List Str} (h : OwnS w B v L) : SSl w v L := by
 unfold OwnS at h
 have h0 := h
 rcases h.2 with ⟨rfl, h1⟩ | ⟨g, cap, cur, rfl, _, hg, hn, hm, hs, hc⟩
 ·have : L = [] := List.length_eq_zero_iff.1 h1
  subst this
  exact ⟨none, 0, rfl, by decide, fun h => absurd rfl h⟩
 ·refine ⟨some ⟨g, 0, none⟩, cap, rfl, Nat.le_trans hn hm, fun _ => ⟨g, 0, rfl, fun i hi => ?_⟩⟩
  have := h0.cellAt i (by omega)
  rw [Nat.zero_add, this]
  simp [List.getElem?_eq_getElem hi]
end Bk
end Go.Proofs.YtkiipaaaakhhfaaGreatDoor
end
section
namespace Go.Proofs.YtkiipaaaakhhfaaGreatDoor
open Go Go.RowKit
namespace Bk
set_option maxRecDepth 100000
set_option linter.unusedVariables false
set_option linter.unusedSimpArgs false
theorem strInfo : (Tryz.prog.info? 9).map (fun i => (i.zero, i.size, i.bytes)) = some (some (.string ByteArray.empty), 1, 16) := by kernel_rfl
theorem OwnS.more {w w1 w2 : World} {B : Nat} {L : List Str} {x : Str} {u v' : Value} {o : Obj} (hB : w.heap.size ≤ B) (hown : OwnS w1 B u L) (hbw : Below w.heap.size w w1)
  (hown' : w2.ownsRow B 9 1 v' (L.length + 1) (L.map str ++ [str x])) (hgrow : (w1.alloc o).grownBy w2 u.ownBlock) : OwnS w2 B v' (L ++ [x]) ∧ Below w.heap.size w w2 := by
 have hsz := hbw.size
 refine ⟨?_, (hbw.alloc (by omega) _).grown hgrow (by simp; omega) (fun k hk => Nat.le_trans hB (hown.lt k hk).1)⟩
 unfold OwnS
 rw [List.length_append, List.map_append]
 exact hown'
theorem OwnS.form {w : World} {B : Nat} {v : Value} {L : List Str} (h : OwnS w B v L) : ∃ a c, v = .slice a L.length c := by
 rcases h.2 with ⟨rfl, e⟩ | ⟨g, cap, cur, rfl, _⟩
 ·exact ⟨none, 0, by rw [e]⟩
 ·exact ⟨_, _, rfl⟩
theorem InS.one {w : World} {C : Nat → Prop} {b : Blk} {v : Value} (h : InS w C [b] v) : ∃ bb off cp L, v = .slice (some ⟨bb, off, none⟩) 1 cp ∧ Cells9 w bb off b.ow L ∧ InS w C b.kids L := by
 obtain ⟨a, cap, rfl, _, h | ⟨bb, off, rfl, _, hc⟩⟩ := h
 ·cases h
 ·obtain ⟨L, q, g⟩ := hc.get (i := 0) rfl
  rw [Nat.zero_mul, Nat.add_zero] at q
  exact ⟨bb, off, cap, L, rfl, q, g.kids⟩
theorem InS.any {w : World} {C : Nat → Prop} {l : List Blk} {v : Value} (h : InS w C l v) : InS w (fun _ => True) l v := h.carry (fun _ _ _ _ _ => trivial) fun _ _ _ _ h => h
end Bk
end Go.Proofs.YtkiipaaaakhhfaaGreatDoor
end
section
set_option linter.unusedVariables false
set_option linter.unusedSimpArgs false
set_option maxRecDepth 100000
namespace Go.Proofs.YtkiipaaaakhhfaaGreatDoor
namespace Bk
theorem star_rule : Sc.ruleP [42, 42, 42] = true ∧ (Sc.atxP [42, 42, 42]).1 = 0 ∧ (Sc.fenceP [42, 42, 42]).2.1 = 0 := by decide
theorem low_ruleS : Sc.ruleP [95, 32, 95, 32, 95] = true ∧ (Sc.atxP [95, 32, 95, 32, 95]).1 = 0 ∧ (Sc.fenceP [95, 32, 95, 32, 95]).2.1 = 0 := by decide
theorem head_two : Sc.atxP [35, 35, 32, 97] = (2, [97]) := by decide
end Bk
end Go.Proofs.YtkiipaaaakhhfaaGreatDoor
end
section
namespace Go.Proofs.YtkiipaaaakhhfaaGreatDoor
open Go Go.RowKit
namespace Tx
set_option maxRecDepth 100000
set_option linter.unusedVariables false
set_option linter.unusedSimpArgs false
def OwnL (w : World) (B : Nat) (v : Value) (L : List (List UInt8)) : Prop := w.ownsRow B 9 1 v L.length (L.map str)
theorem OwnL.ssl {w : World} {B : Nat} {v : Value} {L : List (List UInt8)} (h : OwnL w B v L) (hl : L.length ≤ 9223372036854775807) : SSl w v L := by
 unfold OwnL at h
 have h0 := h
 rcases h.2 with ⟨rfl, h1⟩ | ⟨g, cap, cur, rfl, _, hg, hn, _, hs, hc⟩
 ·have : L = [] := List.length_eq_zero_iff.1 h1
  subst this
  exact ⟨none, 0, rfl, hl, fun h => absurd rfl h⟩
 ·refine ⟨some ⟨g, 0, none⟩, cap, rfl, hl, fun _ => ⟨g, 0, rfl, fun i hi => ?_⟩⟩
  have := h0.cellAt i (by omega)
  rw [Nat.zero_add, this]
  simp [List.getElem?_eq_getElem hi]
end Tx
end Go.Proofs.YtkiipaaaakhhfaaGreatDoor
end
section
namespace Go.Proofs.YtkiipaaaakhhfaaGreatDoor
open Go Go.RowKit
namespace Sc
set_option maxRecDepth 100000
set_option linter.unusedVariables false
set_option linter.unusedSimpArgs false
theorem pre_none {l p : List UInt8} (h : sgn 60 l = none) : Lib.hasPrefix l (60 :: p) = false := by
 cases l with
 | nil => rfl
 | cons c t =>
  have hc : c ≠ 60 := by
   intro e
   rw [e, sgn_self] at h
   cases h
  unfold Lib.hasPrefix
  rw [List.isPrefixOf_cons_cons]
  have : (60 == c) = false := by rw [beq_eq_false_iff_ne]; exact Ne.symm hc
  rw [this]; rfl
theorem htmlS_none {l : List UInt8} (h : sgn 60 l = none) : htmlS l = 0 := by
 have h1 : verP l = false := by unfold verP; rw [h]
 have ht : tagName l = ([], l) := by unfold tagName; rw [h]
 have h2 : knownP l = false := by unfold knownP; rw [ht]; rfl
 have h3 : otherP l = false := by unfold otherP; rw [ht]; rfl
 have h4 : declP l = false := by unfold declP; rw [pre_none h]; rfl
 unfold htmlS
 rw [h1, pre_none h, pre_none h, h4, pre_none h, h2, h3]
 rfl
end Sc
end Go.Proofs.YtkiipaaaakhhfaaGreatDoor
end
section
namespace Go.Proofs.YtkiipaaaakhhfaaGreatDoor
namespace Bk
set_option maxRecDepth 100000
set_option linter.unusedVariables false
set_option linter.unusedSimpArgs false
theorem html_not {x : UInt8} (t : Str) (h : x ≠ 60) : Sc.htmlS (x :: t) = 0 := by
 refine Sc.htmlS_none ?_
 show (if x = 60 then some t else none) = none
 rw [if_neg h]
theorem ruleStar : RuleOk (XS defsZ) [42, 42, 42] := ⟨star_rule.2.1, star_rule.2.2, (html_not (x := 42) [42, 42] (by decide) : Sc.htmlS [42, 42, 42] = 0), star_rule.1⟩
theorem rulesOk : RulesOk (XS defsZ) := ⟨ruleStar, head_two, ⟨low_ruleS.2.1, low_ruleS.2.2, (html_not (x := 95) [32, 95, 32, 95] (by decide) : Sc.htmlS [95, 32, 95, 32, 95] = 0), low_ruleS.1⟩⟩
end Bk
end Go.Proofs.YtkiipaaaakhhfaaGreatDoor
end
section
namespace Go.Proofs.YtkiipaaaakhhfaaGreatDoor
open Go Go.RowKit
namespace Rf
set_option maxRecDepth 100000
set_option linter.unusedVariables false
set_option linter.unusedSimpArgs false
theorem ofInt_i64R (a : Nat) (ha : a < 9223372036854775808) : (BitVec.ofInt 64 (a : Int)).toNat = a := by
 rw [BitVec.ofInt_natCast, BitVec.toNat_ofNat]; exact Nat.mod_eq_of_lt (by omega)
def mskR (n : Int) (m : Nat) : Nat := ((BitVec.ofInt 64 n) &&& (BitVec.ofInt 64 (m : Int))).toNat
theorem mskR_le (n : Int) (m : Nat) (hm : m < 9223372036854775808) : mskR n m ≤ m := by
 unfold mskR
 rw [BitVec.toNat_and, ofInt_i64R m hm]; exact Nat.and_le_right
theorem bits_andR (n : Int) (m : Nat) (hm : m < 9223372036854775808) : bits .and .i64 n (m : Int) = (mskR n m : Nat) := by
 have h := mskR_le n m hm
 show IntKind.i64.wrap (((BitVec.ofInt 64 n) &&& (BitVec.ofInt 64 (m : Int))).toNat : Int) = _
 rw [IntKind.wrap_i64]
 unfold mskR at *
 omega
end Rf
end Go.Proofs.YtkiipaaaakhhfaaGreatDoor
end
section
namespace Go.Proofs.YtkiipaaaakhhfaaGreatDoor
open Go Go.RowKit
namespace Bk
set_option maxRecDepth 100000
set_option linter.unusedVariables false
set_option linter.unusedSimpArgs false
theorem tmod3 (i : Nat) : (i : Int).tmod 3 = ((i % 3 : Nat) : Int) := by
 rw [Int.tmod_eq_emod_of_nonneg (by omega)]
 omega
theorem rl_len (i : Nat) : (rl i).length ≤ 200 := by
 unfold rl
 split
 ·decide
 ·split <;> decide
set_option maxHeartbeats 8000000 in
theorem rules_law {ρ : Type} {X : Scan ρ} (w : World) (P : Prog11 w X) (hR : RulesOk X) (n m : Int) :
  Calls Tryz.prog 8 #[.int .i64 n, .int .i64 m] w fun e w' => e = .returned (.bool true) ∧ Below w.heap.size w w' := by
 have HA := Lib.hid P.awake
 obtain ⟨k, hk⟩ : ∃ k, Rf.mskR n 31 = k := ⟨_, rfl⟩
 have hmk : bits .and .i64 n 31 = (k : Int) := by rw [← hk]; exact Rf.bits_andR n 31 (by decide)
 have hk31 : k ≤ 31 := by rw [← hk]; exact Rf.mskR_le n 31 (by decide)
 clear hk
 have HP := Lib.hid (fun W (hW : Below w.heap.size w W) u (hu : SSl W u ((List.range k).map rl)) => P.parse W hW u _ m hu ⟨by rw [List.length_map, List.length_range]; omega, fun s hs => by
  obtain ⟨j, _, rfl⟩ := List.mem_map.1 hs
  exact rl_len j⟩)
 have HQ := Lib.hid (Bk.rules X hR (P.foot m) k)
 obtain ⟨i0, hi, hz0, hz1, hz2⟩ := info_parts strInfo
 go_enter Tryz.func8, Tryz.ntmps8
 go_wp2_with fail
 refine HA.out.mono ?_
 rintro e w1 ⟨rfl, hb1⟩
 have HB1 := Lib.hid hb1
 clear hb1
 go_wp2
 go_loopg [7, 8] k (fun G s7 s8 wr => ∃ (i : Nat), i + G = k ∧ s8 = .int .i64 (i : Int) ∧ Hid (OwnS wr w1.heap.size s7 ((List.range i).map rl)) ∧ Hid (Below w1.heap.size w1 wr))
 case atStart => exact ⟨0, by omega, rfl, Lib.hid (OwnS.nil _ _), Lib.hid (Below.refl _ _)⟩
 case round =>
  obtain ⟨i, hig, rfl, HO, HBw⟩ := hrel
  obtain ⟨a3, c3, e3⟩ := HO.out.form
  have hti : ((List.range i).map rl).length = i := by rw [List.length_map, List.length_range]
  rw [hti] at e3
  subst e3
  cases gk with
  | zero =>
   have hlt : ¬ (i : Int) < (k : Int) := by omega
   obtain rfl : i = k := by omega
   have HBr := Lib.hid (HB1.out.trans (HBw.out.mono HB1.out.size))
   have HS := Lib.hid HO.out.ssl
   have HPl := Lib.hid (HP.out wr HBr.out (.slice a3 i c3) HS.out)
   rw [HQ.out] at HPl
   clear HP HQ hti
   go_wp2_with fail
   refine HPl.out.mono ?_
   rintro e w2 ⟨u, r, rfl, hin, hcn, hr, hb2, _⟩
   obtain ⟨au, cu, rfl, hul, hk⟩ := hin
   obtain ⟨ar, cr, rfl⟩ := P.formR hr
   rw [P.len0]
   have hkl : ((List.range i).map rk).length = i := by rw [List.length_map, List.length_range]
   rw [hkl]
   have HK := Lib.hid hk
   have HX2 := Lib.hid (below_later HBr.out hb2)
   clear hcn hr hb2 hul hk hkl
   go_wp2
   go_loopg [11] i (fun G s11 wr2 => ∃ (j : Nat), j + G = i ∧ s11 = .int .i64 (j : Int) ∧ w2 = wr2)
   case atStart => exact ⟨0, by omega, rfl, rfl⟩
   case round =>
    obtain ⟨j, hjg, rfl, rfl⟩ := hrel
    cases gk with
    | zero =>
     have hlt2 : ¬ (j : Int) < (i : Int) := by omega
     go_wp2
     go_ret
     exact ⟨rfl, HX2.out⟩
    | succ G =>
     have hlt2 : (j : Int) < (i : Int) := by omega
     have hj : ((List.range i).map rk)[j]? = some (rk j) := by rw [List.getElem?_map, List.getElem?_range (by omega)]; rfl
     rcases HK.out with h0 | ⟨bb, off, rfl, _, hcell⟩
     ·rw [h0] at hj; simp at hj
     obtain ⟨L1, q, _⟩ := hcell.get hj
     have hm3 := tmod3 j
     have s5 : IntKind.i64.wrap ((j : Int) + 1) = ((j + 1 : Nat) : Int) := by rw [IntWalk.i64_in _ (by omega)]; omega
     have s4 : (0 : Int) ≤ (j : Int) := by omega
     by_cases h1 : j % 3 = 1
     ·have hrk : (rk j).ow = ⟨8, Cl.rgt [97], [], 2, 0, false, j, j⟩ := by unfold rk; rw [if_pos h1]; rfl
      rw [hrk] at q
      have c0 : w2.cell? ⟨bb, off + j * 9, none⟩ = some (.int .i64 8) := q.c0
      have c6 : w2.cell? ⟨bb, off + j * 9 + 6, none⟩ = some (.int .i64 (j : Nat)) := q.c6
      have c7 : w2.cell? ⟨bb, off + j * 9 + 7, none⟩ = some (.int .i64 (j : Nat)) := q.c7
      have e1 : (j : Int).tmod 3 = 1 := by rw [hm3, h1]; rfl
      clear hj hcell q hrk h1 hm3
      go_wp2
      go_roundg G
      case rel => exact ⟨j + 1, by omega, rfl, rfl⟩
      case measure => omega
     ·have hrk : (rk j).ow = ⟨9, [], [], 0, 0, false, j, j⟩ := by unfold rk; rw [if_neg h1]; rfl
      rw [hrk] at q
      have c0 : w2.cell? ⟨bb, off + j * 9, none⟩ = some (.int .i64 9) := q.c0
      have c6 : w2.cell? ⟨bb, off + j * 9 + 6, none⟩ = some (.int .i64 (j : Nat)) := q.c6
      have c7 : w2.cell? ⟨bb, off + j * 9 + 7, none⟩ = some (.int .i64 (j : Nat)) := q.c7
      have e1 : ((j : Int).tmod 3 == 1) = false := by rw [hm3, beq_eq_false_iff_ne]; omega
      have e2 : ¬ (j : Int).tmod 3 = 1 := by rw [hm3]; omega
      clear hj hcell q hrk h1 hm3
      go_wp2
      go_roundg G
      case rel => exact ⟨j + 1, by omega, rfl, rfl⟩
      case measure => omega
  | succ G =>
   have hlt : (i : Int) < (k : Int) := by omega
   have hm3 := tmod3 i
   obtain ⟨q, hq⟩ : ∃ q, i % 3 = q := ⟨_, rfl⟩
   rw [hq] at hm3
   have hq3 : q < 3 := by omega
   have q1 : (0 : Int) ≤ (q : Int) := by omega
   have q2 : (q : Int) < 3 := by omega
   have HRl : Hid ((#[.string ⟨#[42, 42, 42]⟩, .string ⟨#[35, 35, 32, 97]⟩, .string ⟨#[95, 32, 95, 32, 95]⟩] : Array Value)[q]? = some (str (rl i))) := Lib.hid (by
    unfold rl
    rw [hq]
    rcases (by omega : q = 0 ∨ q = 1 ∨ q = 2) with rfl | rfl | rfl <;> rfl)
   obtain ⟨Y, hY⟩ : ∃ Y : ByteArray, ⟨(rl i).toArray⟩ = Y := ⟨_, rfl⟩
   have HYs : Hid (str (rl i) = .string Y) := Lib.hid (by unfold str; rw [hY])
   have HTk : Hid ((List.range (i + 1)).map rl = (List.range i).map rl ++ [rl i]) := Lib.hid (by rw [List.range_succ, List.map_append]; rfl)
   obtain ⟨A, hA⟩ : ∃ A, (List.range i).map rl = A := ⟨_, rfl⟩
   rw [hA] at HO hti HTk
   have HLt := Lib.hid hti
   have kc : (wr.alloc (.cells #[.string ⟨#[42, 42, 42]⟩, .string ⟨#[35, 35, 32, 97]⟩, .string ⟨#[95, 32, 95, 32, 95]⟩] 9)).cell? ⟨wr.heap.size, q, none⟩ = some (.string Y) := by
    rw [cell_of_row _ _ q _ _ _ (heap_alloc_new wr _), HRl.out, HYs.out]
   have s5 : IntKind.i64.wrap ((i : Int) + 1) = ((i + 1 : Nat) : Int) := by rw [IntWalk.i64_in _ (by omega)]; omega
   have HSZ : Hid (w1.heap.size ≤ wr.heap.size) := Lib.hid HBw.out.size
   have HN1 : Hid (((wr.alloc (.cells #[.string ⟨#[42, 42, 42]⟩, .string ⟨#[35, 35, 32, 97]⟩, .string ⟨#[95, 32, 95, 32, 95]⟩] 9)).alloc (.cells #[.string Y] 9)).heap[wr.heap.size + 1]? = some (.cells #[.string Y] 9 (0, 0))) := Lib.hid (by
    have := heap_alloc_new (wr.alloc (.cells #[.string ⟨#[42, 42, 42]⟩, .string ⟨#[35, 35, 32, 97]⟩, .string ⟨#[95, 32, 95, 32, 95]⟩] 9)) (.cells #[.string Y] 9)
    rw [World.size_alloc] at this
    exact this)
   have HOW : Hid (OwnS (wr.alloc (.cells #[.string ⟨#[42, 42, 42]⟩, .string ⟨#[35, 35, 32, 97]⟩, .string ⟨#[95, 32, 95, 32, 95]⟩] 9)) w1.heap.size (.slice a3 i c3) A) := Lib.hid (World.ownsRow.alloc HO.out _)
   have HBW : Hid (Below w1.heap.size w1 (wr.alloc (.cells #[.string ⟨#[42, 42, 42]⟩, .string ⟨#[35, 35, 32, 97]⟩, .string ⟨#[95, 32, 95, 32, 95]⟩] 9))) := Lib.hid (HBw.out.alloc HSZ.out _)
   have HSZ2 : Hid (w1.heap.size ≤ ((wr.alloc (.cells #[.string ⟨#[42, 42, 42]⟩, .string ⟨#[35, 35, 32, 97]⟩, .string ⟨#[95, 32, 95, 32, 95]⟩] 9)).alloc (.cells #[.string Y] 9)).heap.size) := Lib.hid (by rw [World.size_alloc, World.size_alloc]; have := HSZ.out; omega)
   clear hq hY hti hA hq3
   go_wp2_with (at_builtin; refine wpList_append_own _ rfl _ _ 22 rfl w1.heap.size 9 i0 (.string ByteArray.empty) 1 16 Tryz.underlying22 hi hz0 hz1 hz2 rfl (by decide) _ _ _ rfl (World.ownsRow.alloc HOW.out _) ⟨wr.heap.size + 1, 0, none⟩ 1 1 [.string Y] rfl rfl ?c1 ?c2 ?c3 ?c4 HSZ2.out ?_)
   case c1 => intro j u hu; rw [add_off, Nat.zero_add]; cases j with
    | zero => rw [cell_of_row _ _ 0 _ _ _ HN1.out]; exact hu
    | succ j => simp at hu
   case c2 => intro u hu; simp at hu; subst hu; rfl
   case c3 => have := HLt.out; unfold maxLen; omega
   case c4 => have := HLt.out; omega
   intro v' w3 hown' hgrow _
   have hM := OwnS.more (w := w1) (x := rl i) (Nat.le_refl _) HOW.out HBW.out (by rw [HYs.out]; exact hown') hgrow
   rw [← HTk.out] at hM
   have HM := Lib.hid hM.1
   have HM2 := Lib.hid hM.2
   clear hM hown' hgrow kc
   go_wp2
   go_roundg G
   case rel => exact ⟨i + 1, by omega, rfl, HM, HM2⟩
   case measure => omega
end Bk
end Go.Proofs.YtkiipaaaakhhfaaGreatDoor
end
