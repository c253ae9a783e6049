import Derived.Test.YtkiipaaaakhhfaaGreatDoorCBk1
import Derived.Test.YtkiipaaaakhhfaaGreatDoorProg
import Derived.WalkKit
import Derived.BigCall
import Derived.BigQuiet
import Derived.Below
import Derived.WideShapes
import Derived.Deep.LoopGhost
import Derived.OwnWalk
import Derived.Lib.Hide
import Derived.RegionTactic
import Derived.Laws.ResultCell
import Derived.Laws.Rows
import Derived.Test.YtkiipaaaakhhfaaGreatDoorCBk2
import Derived.Deep.Upon
import Derived.Maps.AppendAt
import Derived.Deep.QuietTactic
import Derived.Deep.CutBlock
import Derived.Test.YtkiipaaaakhhfaaGreatDoorCBkL1
import Derived.Deep.AppendLies
import Derived.Deep.DrawnRows
import Derived.Deep.RegionHeld3
import Derived.Test.YtkiipaaaakhhfaaGreatDoorCSc1
import Derived.Test.YtkiipaaaakhhfaaGreatDoorCText1
import Derived.Test.YtkiipaaaakhhfaaGreatDoorCSc3
import Derived.Test.YtkiipaaaakhhfaaGreatDoorCClass1
import Derived.Lib.IndexMore
import Derived.Test.YtkiipaaaakhhfaaGreatDoorCBk8
import Derived.Test.YtkiipaaaakhhfaaGreatDoorCBk13
import Derived.Test.YtkiipaaaakhhfaaGreatDoorCKit1
import Derived.Test.YtkiipaaaakhhfaaGreatDoorCRf2
import Derived.SliceStrings
import Derived.Lib.LaidU8
import Derived.Test.YtkiipaaaakhhfaaGreatDoorCBk3
import Derived.Laws.AppendOwn
section
set_option linter.unusedVariables false
set_option linter.unusedSimpArgs false
set_option maxRecDepth 100000
namespace Go.Proofs.YtkiipaaaakhhfaaGreatDoor
namespace Bk
theorem shBs_empty (d : Nat) (l : List B) : (shBs d l).isEmpty = l.isEmpty := by cases l <;> simp [shBs]
variable (E : Env)
variable {E : Env} {i : Nat}
variable {L L' : Ln}
section
variable {ρ : Type} (X : Scan ρ)
theorem takes_sim (h : Sim E i L L') : (takes X (i + E.d) L').1 = (takes X i L).1 ∧ Sim E i (takes X i L).2 (takes X (i + E.d) L').2 := by
 unfold takes
 have hu := h.us
 have hl := h.leaf
 cases hus : L.us with
 | cons f fs =>
  rw [hus] at hu
  rw [hu]
  exact ⟨rfl, h⟩
 | nil =>
  rw [hus] at hu
  rw [hu]
  cases hlf : L.leaf with
  | none =>
   rw [hlf] at hl
   rw [hl]
   exact ⟨rfl, h⟩
  | some l =>
   rw [hlf] at hl
   rw [hl]
   simp only [Option.map_some, List.map_nil, h.r.ind, h.r.aft]
   show _ ∧ _
   by_cases h1 : l.k = 5 ∧ l.fen = true
   ·rw [if_pos h1, if_pos (show (shL E.d l).k = 5 ∧ (shL E.d l).fen = true from h1)]
    by_cases h2 : L.r.ind < 4 ∧ X.closes L.r.aft l.c l.cnt = true
    ·rw [if_pos h2, if_pos (show L.r.ind < 4 ∧ X.closes L.r.aft (shL E.d l).c (shL E.d l).cnt = true from h2)]
     refine ⟨rfl, ?_⟩
     have h5 : Sim E i ⟨L.ms, [], some { l with z := i }, L.r⟩ ⟨L'.ms, [], some { shL E.d l with z := i + E.d }, L'.r⟩ := ⟨h.ms, rfl, rfl, h.r⟩
     exact h5.shut
    ·rw [if_neg h2, if_neg (show ¬ (L.r.ind < 4 ∧ X.closes L.r.aft (shL E.d l).c (shL E.d l).cnt = true) from h2)]
     refine ⟨rfl, ?_⟩
     show Sim E i (L.add i (L.r.skip l.need).s) (L'.add (i + E.d) (L'.r.skip l.need).s)
     rw [(h.r.skip l.need).s]
     exact h.add _
   ·rw [if_neg h1, if_neg (show ¬ ((shL E.d l).k = 5 ∧ (shL E.d l).fen = true) from h1)]
    by_cases h2 : l.k = 6
    ·rw [if_pos h2, if_pos (show (shL E.d l).k = 6 from h2)]
     rw [h.r.s]
     by_cases h3 : X.ends L.r.s l.n = true
     ·rw [if_pos h3, if_pos (show X.ends L.r.s (shL E.d l).n = true from h3)]
      by_cases h4 : blank L.r.s = true
      ·rw [if_pos h4, if_pos h4]
       exact ⟨rfl, h.shut⟩
      ·rw [if_neg h4, if_neg h4]
       exact ⟨rfl, (h.add _).shut⟩
     ·rw [if_neg h3, if_neg (show ¬ X.ends L.r.s (shL E.d l).n = true from h3)]
      exact ⟨rfl, h.add _⟩
    ·rw [if_neg h2, if_neg (show ¬ (shL E.d l).k = 6 from h2)]
     exact ⟨rfl, h⟩
theorem indented_sim (h : Sim E i L L') : Sim E i (indented i L) (indented (i + E.d) L') := by
 unfold indented
 rw [h.bare, (h.r.skip 4).s]
 by_cases hb : bare L = true
 ·rw [if_pos hb, if_pos hb]; exact h.add _
 ·rw [if_neg hb, if_neg hb]; exact (h.open _).add _
theorem setRest_sim (h : Sim E i L L') : setRest X L' = setRest X L := by
 unfold setRest
 rw [h.leaf]
 cases L.leaf <;> rfl
def OptS (R : Ln → Ln → Prop) (o o' : Option Ln) : Prop := match o, o' with
 | none, none => True
 | some a, some a' => R a a'
 | _, _ => False
theorem leaves_sim (h : Sim E i L L') : OptS (Sim E i) (leaves X i L) (leaves X (i + E.d) L') := by
 unfold leaves
 rw [h.r.aft, h.goes, h.r.s, h.r.ind, setRest_sim X h, h.leaf]
 by_cases h1 : 0 < (X.atx L.r.aft).1
 ·rw [if_pos h1, if_pos h1]
  exact h.lay (by rw [shB, shBs_nil])
 rw [if_neg h1, if_neg h1]
 by_cases h2 : 0 < (X.fence L.r.aft).2.1
 ·rw [if_pos h2, if_pos h2]
  exact h.open _
 rw [if_neg h2, if_neg h2]
 by_cases h3 : 0 < X.html L.r.aft ∧ ¬ (X.html L.r.aft = 7 ∧ L.goes = true)
 ·rw [if_pos h3, if_pos h3]
  by_cases h4 : X.ends L.r.s (X.html L.r.aft) = true
  ·rw [if_pos h4, if_pos h4]
   exact h.lay (by rw [shB, shBs_nil])
  ·rw [if_neg h4, if_neg h4]
   exact h.open _
 rw [if_neg h3, if_neg h3]
 by_cases h5 : 0 < X.setx L.r.aft ∧ L.us = [] ∧ L.goes = true ∧ setRest X L = true
 ·rw [if_pos h5, if_pos ⟨h5.1, h.empty.2 h5.2.1, h5.2.2.1, h5.2.2.2⟩]
  cases hl : L.leaf with
  | none => exact trivial
  | some l =>
   simp only [Option.map_some]
   refine ⟨?_, h.us, rfl, h.r⟩
   have := h.ms.onLast [.mk 8 [] [] (X.setx L.r.aft) 0 false true l.ls l.a i []]
   rw [shBs_cons, shBs_nil, shB, shBs_nil] at this
   exact this
 have h5' : ¬ (0 < X.setx L.r.aft ∧ L'.us = [] ∧ L.goes = true ∧ setRest X L = true) := fun e => h5 ⟨e.1, h.empty.1 e.2.1, e.2.2.1, e.2.2.2⟩
 rw [if_neg h5, if_neg h5']
 by_cases h6 : X.rule L.r.aft = true
 ·rw [if_pos h6, if_pos h6]
  exact h.lay (by rw [shB, shBs_nil])
 ·rw [if_neg h6, if_neg h6]
  exact trivial
theorem note_sim (foot : Bool) (h : Sim E i L L') : OptS (Sim E i) (note foot i L) (note foot (i + E.d) L') := by
 unfold note
 rw [h.r.aft, h.goes]
 by_cases h1 : foot = false ∨ L.goes = true ∨ (labelP L.r.aft).2 = 0
 ·rw [if_pos h1, if_pos h1]; exact trivial
 ·rw [if_neg h1, if_neg h1, (h.r.past _).ind]
  exact Sim.contain (h.rest ((h.r.past _).skip _)) _ _
theorem width_sim (h : Sim E i L L') (m : Nat) : width L' m = width L m := by
 unfold width
 rw [h.r.wide, h.r.aft]
theorem item_sim (h : Sim E i L L') : OptS (Sim E i) (item X i L) (item X (i + E.d) L') := by
 unfold item
 rw [h.r.aft, h.goes, h.r.ind]
 simp only []
 by_cases h1 : (sign X L.r.aft).2.2 = 0
 ·rw [if_pos h1, if_pos h1]; exact trivial
 rw [if_neg h1, if_neg h1]
 by_cases h2 : L.us = [] ∧ L.goes = true ∧ (blank (L.r.aft.drop (sign X L.r.aft).2.2) = true ∨ (isOrd (sign X L.r.aft).2.1 = true ∧ (sign X L.r.aft).1 ≠ 1))
 ·rw [if_pos h2, if_pos ⟨h.empty.2 h2.1, h2.2⟩]; exact trivial
 have h2' : ¬ (L'.us = [] ∧ L.goes = true ∧ (blank (L.r.aft.drop (sign X L.r.aft).2.2) = true ∨ (isOrd (sign X L.r.aft).2.1 = true ∧ (sign X L.r.aft).1 ≠ 1))) := fun e => h2 ⟨h.empty.1 e.1, e.2⟩
 rw [if_neg h2, if_neg h2']
 rw [width_sim h, h.ms.lastIs]
 have h3 : Sim E i { L with r := (L.r.past (sign X L.r.aft).2.2).skip (width L (sign X L.r.aft).2.2) } { L' with r := (L'.r.past (sign X L.r.aft).2.2).skip (width L (sign X L.r.aft).2.2) } := h.rest ((h.r.past _).skip _)
 by_cases h4 : lastIs (sign X L.r.aft).2.1.toNat L.ms = true
 ·rw [if_pos h4, if_pos h4]
  exact h3.contain _ _
 ·rw [if_neg h4, if_neg h4]
  exact (h3.contain _ _).contain _ _
theorem begins_sim (foot : Bool) : ∀ (n : Nat) (L L' : Ln), Sim E i L L' → (begins X foot (i + E.d) n L').1 = (begins X foot i n L).1 ∧ Sim E i (begins X foot i n L).2 (begins X foot (i + E.d) n L').2
 | 0, L, L', h => ⟨rfl, h⟩
 | n + 1, L, L', h => by
  rw [begins, begins]
  rw [h.r.s, h.r.ind, h.goes, h.r.aft]
  by_cases h1 : blank L.r.s = true
  ·rw [if_pos h1, if_pos h1]; exact ⟨rfl, h⟩
  rw [if_neg h1, if_neg h1]
  by_cases h2 : 4 ≤ L.r.ind
  ·rw [if_pos h2, if_pos h2]
   by_cases h3 : L.goes = true
   ·rw [if_pos h3, if_pos h3]; exact ⟨rfl, h⟩
   ·rw [if_neg h3, if_neg h3]; exact ⟨rfl, indented_sim h⟩
  rw [if_neg h2, if_neg h2]
  by_cases h4 : L.r.aft.head? = some 62
  ·rw [if_pos h4, if_pos h4]
   exact begins_sim foot n _ _ (Sim.contain (h.rest ((h.r.past 1).skip 1)) _ _)
  rw [if_neg h4, if_neg h4]
  have hl := leaves_sim X h
  cases hA : leaves X i L with
  | some L1 =>
   cases hB : leaves X (i + E.d) L' with
   | none => rw [hA, hB] at hl; exact hl.elim
   | some L2 => rw [hA, hB] at hl; exact ⟨rfl, hl⟩
  | none =>
   cases hB : leaves X (i + E.d) L' with
   | some L2 => rw [hA, hB] at hl; exact hl.elim
   | none =>
    simp only []
    have hn := note_sim foot h
    cases hC : note foot i L with
    | some L1 =>
     cases hD : note foot (i + E.d) L' with
     | none => rw [hC, hD] at hn; exact hn.elim
     | some L2 => rw [hC, hD] at hn; exact begins_sim foot n _ _ hn
    | none =>
     cases hD : note foot (i + E.d) L' with
     | some L2 => rw [hC, hD] at hn; exact hn.elim
     | none =>
      simp only []
      have hi := item_sim X h
      cases hE : item X i L with
      | some L1 =>
       cases hF : item X (i + E.d) L' with
       | none => rw [hE, hF] at hi; exact hi.elim
       | some L2 => rw [hE, hF] at hi; exact begins_sim foot n _ _ hi
      | none =>
       cases hF : item X (i + E.d) L' with
       | some L2 => rw [hE, hF] at hi; exact hi.elim
       | none => exact ⟨rfl, h⟩
theorem text_sim (h : Sim E i L L') : Sim E i (text i L) (text (i + E.d) L') := by
 unfold text
 rw [h.r.s, h.bare, h.goes]
 by_cases h1 : blank L.r.s = true
 ·rw [if_pos h1, if_pos h1]
  by_cases h2 : bare L = true
  ·rw [if_pos h2, if_pos h2, (h.r.skip 4).s]; exact h.add _
  ·rw [if_neg h2, if_neg h2]; exact h.shut
 rw [if_neg h1, if_neg h1]
 by_cases h5 : L.goes = true
 ·rw [if_pos h5, if_pos h5]; exact h.add _
 ·rw [if_neg h5, if_neg h5]; exact (h.open _).add _
theorem rest_sim (foot : Bool) (h : Sim E i L L') : Sim E i (rest X foot i L) (rest X foot (i + E.d) L') := by
 obtain ⟨h1, h2⟩ := takes_sim X h
 unfold rest
 simp only []
 rw [h1]
 cases ht : (takes X i L).1 with
 | true => rw [if_pos rfl, if_pos rfl]; exact h2
 | false =>
  rw [if_neg Bool.false_ne_true, if_neg Bool.false_ne_true]
  rw [h2.r.s]
  obtain ⟨h5, h6⟩ := begins_sim X foot (nb (takes X i L).2.r.s + 1) _ _ h2
  rw [h5]
  cases hq : (begins X foot i (nb (takes X i L).2.r.s + 1) (takes X i L).2).1 with
  | true => rw [if_pos rfl, if_pos rfl]; exact h6
  | false => rw [if_neg Bool.false_ne_true, if_neg Bool.false_ne_true]; exact text_sim h6
end
theorem hasKid_sh (d : Nat) (f : Fr) (fs : List Fr) (leaf : Option Lf) : hasKid (shF d f) (fs.map (shF d)) (leaf.map (shL d)) = hasKid f fs leaf := by
 unfold hasKid shF
 rw [shBs_empty, List.isEmpty_map, Option.isSome_map]
theorem meet1_sh (d : Nat) (f : Fr) (has : Bool) {r r' : Rest} (hr : RR r r') : (meet1 f has r = none ∧ meet1 (shF d f) has r' = none) ∨ ∃ q q', meet1 f has r = some q ∧ meet1 (shF d f) has r' = some q' ∧ RR q q' := by
 unfold meet1
 rw [hr.ind, hr.aft, hr.s]
 simp only [show (shF d f).k = f.k from rfl, show (shF d f).need = f.need from rfl]
 by_cases h1 : f.k = 3
 ·rw [if_pos h1, if_pos h1]; exact .inr ⟨_, _, rfl, rfl, hr⟩
 rw [if_neg h1, if_neg h1]
 by_cases h2 : f.k = 2
 ·rw [if_pos h2, if_pos h2]
  by_cases h3 : 4 ≤ r.ind
  ·rw [if_pos h3, if_pos h3]; exact .inl ⟨rfl, rfl⟩
  rw [if_neg h3, if_neg h3]
  by_cases h4 : r.aft.head? = some 62
  ·rw [if_pos h4, if_pos h4]; exact .inr ⟨_, _, rfl, rfl, (hr.past 1).skip 1⟩
  ·rw [if_neg h4, if_neg h4]; exact .inl ⟨rfl, rfl⟩
 rw [if_neg h2, if_neg h2]
 by_cases h5 : f.k = 4 ∧ blank r.s = true ∧ has = false
 ·rw [if_pos h5, if_pos h5]; exact .inl ⟨rfl, rfl⟩
 rw [if_neg h5, if_neg h5]
 by_cases h6 : r.ind < (if f.k = 4 then f.need else 4) ∧ blank r.s = false
 ·rw [if_pos h6, if_pos h6]; exact .inl ⟨rfl, rfl⟩
 rw [if_neg h6, if_neg h6]
 exact .inr ⟨_, _, rfl, rfl, hr.skip _⟩
theorem met_sh (i d : Nat) (f : Fr) : met (i + d) (shF d f) = shF d (met i f) := by
 unfold met
 rw [show (shF d f).k = f.k from rfl]
 split <;> rfl
theorem meets_sh (d : Nat) (i : Nat) (leaf : Option Lf) : ∀ (fs : List Fr) (r r' : Rest), RR r r' →
  (meets (i + d) (leaf.map (shL d)) (fs.map (shF d)) r').1 = (meets i leaf fs r).1.map (shF d) ∧ (meets (i + d) (leaf.map (shL d)) (fs.map (shF d)) r').2.1 = (meets i leaf fs r).2.1.map (shF d) ∧
  RR (meets i leaf fs r).2.2 (meets (i + d) (leaf.map (shL d)) (fs.map (shF d)) r').2.2
 | [], r, r', h => ⟨rfl, rfl, h⟩
 | f :: fs, r, r', h => by
  rw [List.map_cons, meets, meets, hasKid_sh]
  rcases meet1_sh d f (hasKid f fs leaf) h with ⟨h1, h2⟩ | ⟨q, q', h1, h2, h3⟩
  ·rw [h1, h2]; exact ⟨rfl, rfl, h⟩
  ·rw [h1, h2]
   obtain ⟨a1, a2, a3⟩ := meets_sh d i leaf fs q q' h3
   simp only []
   refine ⟨?_, a2, a3⟩
   rw [a1, List.map_cons, ← met_sh]
end Bk
end Go.Proofs.YtkiipaaaakhhfaaGreatDoor
end
section
set_option linter.unusedVariables false
set_option linter.unusedSimpArgs false
set_option maxRecDepth 100000
namespace Go.Proofs.YtkiipaaaakhhfaaGreatDoor
namespace Bk
section
variable {ρ : Type} (X : Scan ρ)
theorem doc_kids {E : Env} {j : Nat} {st st' : St} (h : SS E j st st') : ∃ b' ctx', st'.fs = ctx' ++ b' :: (st.fs.drop 1).map (shF E.d) ∧ ctx'.map clr = E.ctx.map clr ∧ clrK b' = clrK E.b0 ∧ (E.zc = true → b'.z = j + E.d) ∧ b'.kids ++ shut ((st.fs.drop 1).map (shF E.d)) st'.leaf = E.K0 ++ shBs E.d st.kids := by
 obtain ⟨⟨b, b', fs, ctx', h1, h2, hb, hc⟩, hl⟩ := h
 refine ⟨b', ctx', ?_, hc, hb.2.2.1, hb.2.2.2, ?_⟩
 ·rw [h1]; exact h2
 ·unfold St.kids
  rw [h1, hl]
  show b'.kids ++ shut (fs.map (shF E.d)) (st.leaf.map (shL E.d)) = E.K0 ++ shBs E.d (b.kids ++ shut fs st.leaf)
  rw [hb.1, shut_sh, shBs_app, List.append_assoc]
end
end Bk
end Go.Proofs.YtkiipaaaakhhfaaGreatDoor
end
section
set_option linter.unusedVariables false
set_option linter.unusedSimpArgs false
set_option maxRecDepth 100000
namespace Go.Proofs.YtkiipaaaakhhfaaGreatDoor
namespace Bk
mutual
def shK (d : Nat) : Blk → Blk
 | .mk k s t n m f a z kids => .mk k s t n m f (a + d) (z + d) (shKs d kids)
def shKs (d : Nat) : List Blk → List Blk
 | [] => []
 | b :: l => shK d b :: shKs d l
end
theorem shKs_nil (d : Nat) : shKs d [] = [] := by rw [shKs]
theorem shKs_cons (d : Nat) (b : Blk) (l : List Blk) : shKs d (b :: l) = shK d b :: shKs d l := by rw [shKs]
theorem shKs_app (d : Nat) : ∀ (l m : List Blk), shKs d (l ++ m) = shKs d l ++ shKs d m
 | [], m => by rw [shKs_nil]; rfl
 | b :: l, m => by rw [List.cons_append, shKs_cons, shKs_cons, shKs_app d l m]; rfl
mutual
theorem zB_sh (d : Nat) : ∀ (b : B) (acc : Nat), zB (shB d b) (acc + d) = zB b acc + d
 | .mk k s t n m fen stx ls a z kids, acc => by
  rw [shB, zB_mk, zB_mk]
  split
  ·rfl
  ·rw [show max (acc + d) (z + d) = max acc z + d by omega, zL_sh d kids]
theorem zL_sh (d : Nat) : ∀ (l : List B) (acc : Nat), zL (shBs d l) (acc + d) = zL l acc + d
 | [], acc => by rw [shBs_nil, zL_nil, zL_nil]
 | b :: l, acc => by rw [shBs_cons, zL_cons, zL_cons, zB_sh d b, zL_sh d l]
end
theorem shB_az (d : Nat) (b : B) : (shB d b).a = b.a + d ∧ (shB d b).z = b.z + d ∧ (shB d b).kids = shBs d b.kids := by
 cases b; rw [shB]; exact ⟨rfl, rfl, rfl⟩
theorem apart_sh (d : Nat) : ∀ l : List B, apart (shBs d l) = apart l
 | [] => by rw [shBs_nil]
 | [x] => by rw [shBs_cons, shBs_nil]; rfl
 | x :: y :: l => by
  have ih := apart_sh d (y :: l)
  rw [shBs_cons] at ih
  rw [shBs_cons, shBs_cons, apart, apart, ih, (shB_az d x).1, (shB_az d y).1, zB_sh]
  congr 1
  rw [decide_eq_decide]
  omega
theorem tight_sh (d : Nat) (l : List B) : tight (shBs d l) = tight l := by
 unfold tight
 rw [apart_sh]
 congr 1
 induction l with
 | nil => rw [shBs_nil]
 | cons b l ih => rw [shBs_cons, List.all_cons, List.all_cons, ih, (shB_az d b).2.2, apart_sh]
section
variable {ρ : Type} (X : Scan ρ)
mutual
theorem out_sh (d : Nat) : ∀ b : B, out X (shB d b) = shKs d (out X b)
 | .mk k s t n m fen stx ls a z kids => by
  rw [shB, out, out, outL_sh d kids, tight_sh, zL_sh]
  split
  ·rw [shKs_nil]
  ·rw [shKs_cons, shKs_nil, shK]
theorem outL_sh (d : Nat) : ∀ l : List B, outL X (shBs d l) = shKs d (outL X l)
 | [] => by rw [shBs_nil, outL_nil, shKs_nil]
 | b :: l => by rw [shBs_cons, outL_cons, outL_cons, shKs_app, out_sh d b, outL_sh d l]
end
mutual
theorem defs_sh (d : Nat) : ∀ b : B, defsO X (shB d b) = defsO X b
 | .mk k s t n m fen stx ls a z kids => by rw [shB, defsO, defsO, defsL_sh d kids]
theorem defsL_sh (d : Nat) : ∀ l : List B, defsL X (shBs d l) = defsL X l
 | [] => by rw [shBs_nil]
 | b :: l => by rw [shBs_cons, defsL_cons, defsL_cons, defs_sh d b, defsL_sh d l]
end
theorem tail_leaf (foot : Bool) (i n : Nat) {b : Fr} {leaf : Option Lf} {c : UInt8} {t : Str} {L1 : Ln} (hc : bl c = false) (h62 : c ≠ 62) (h : leaves X i (ln b leaf (c :: t)) = some L1) : tail X foot i (n + 1) (ln b leaf (c :: t)) = L1 := by
 have : begins X foot i (n + 1) (ln b leaf (c :: t)) = (true, L1) := by
  rw [begins]
  rw [if_neg (by show ¬ blank (c :: t) = true; rw [blank_cons, hc]; exact Bool.false_ne_true)]
  rw [if_neg (by show ¬ 4 ≤ (⟨c :: t, 0⟩ : Rest).ind; rw [(ind_head hc t 0).1]; decide)]
  rw [if_neg (by show ¬ ((⟨c :: t, 0⟩ : Rest).aft).head? = some 62; rw [(ind_head hc t 0).2]; intro e; injection e with e; exact h62 e), h]
 unfold tail
 rw [this, if_pos rfl]
structure RuleOk (s : Str) : Prop where
 atx : (X.atx s).1 = 0
 fence : (X.fence s).2.1 = 0
 html : X.html s = 0
 rule : X.rule s = true
def ruleB (i : Nat) : B := .mk 9 [] [] 0 0 false false [] i i []
def headB (n : Nat) (h : Str) (i : Nat) : B := .mk 8 (Cl.rgt h) [] n 0 false false [] i i []
theorem rule_line (foot : Bool) (i : Nat) (b : Fr) {c : UInt8} {t : Str} (hc : bl c = false) (h62 : c ≠ 62) (hX : RuleOk X (c :: t)) : line X foot i ⟨[b], none⟩ (c :: t) = ⟨[grow [ruleB i] b], none⟩ := by
 have hl : leaves X i (ln b none (c :: t)) = some ((ln b none (c :: t)).lay i ruleB) := by
  unfold leaves
  rw [show (ln b none (c :: t)).r.aft = c :: t from (ind_head hc t 0).2, hX.atx, hX.fence, hX.html, if_neg (by omega), if_neg (by omega), if_neg (fun e => by have := e.1; omega), if_neg (fun e => by have := e.2.2.1; cases this), if_pos hX.rule]
  rfl
 rw [line_none, tail_leaf X foot i _ hc h62 hl]
 unfold Ln.lay
 rw [show (ln b none (c :: t)).place false = [grow [] b] from rfl, grow_nil]
 rfl
theorem empty_line (foot : Bool) (i : Nat) (b : Fr) : line X foot i ⟨[b], none⟩ [] = ⟨[b], none⟩ := by
 rw [line_none, tail_empty]
 show (⟨[grow [] b] ++ [], none⟩ : St) = _
 rw [grow_nil]
 rfl
def EA : Env := ⟨2, [ruleB 0], [], docF, false, by decide⟩
theorem nil_ctx {l : List Fr} (h : l.map clr = []) : l = [] := List.map_eq_nil_iff.1 h
theorem later_line {E : Env} (hE : E.ctx = []) (hz : E.zc = false) (foot : Bool) {i j : Nat} {st st' : St} (h : SS E j st st') (x : Str) : SS E i (line X foot i st x) (line X foot (i + E.d) st' x) := by
 obtain ⟨⟨b, b', fs, ctx', h1, h2, hb, hc⟩, hl⟩ := h
 rw [hE] at hc
 obtain rfl := nil_ctx hc
 obtain ⟨f0, leaf⟩ := st
 obtain ⟨f1, leaf'⟩ := st'
 dsimp only at h1 h2 hl
 subst h1 h2 hl
 show SS E i (line X foot i ⟨b :: fs, leaf⟩ x) (line X foot (i + E.d) ⟨b' :: fs.map (shF E.d), leaf.map (shL E.d)⟩ x)
 rw [line_cons, line_cons]
 refine (rest_sim X foot ?_).st
 obtain ⟨a1, a2, a3⟩ := meets_sh E.d i leaf fs ⟨x, 0⟩ ⟨x, 0⟩ (.inl rfl)
 unfold lineL
 refine ⟨⟨_, b', _, [], rfl, ?_, hb.later hz, by rw [hE]⟩, a2, rfl, a3⟩
 rw [← a1]; rfl
theorem later_go {E : Env} (hE : E.ctx = []) (hz : E.zc = false) (foot : Bool) : ∀ (l : List Str) (i j : Nat) (st st' : St), SS E j st st' → ∃ j', SS E j' (go X foot i st l) (go X foot (i + E.d) st' l)
 | [], i, j, st, st', h => ⟨j, h⟩
 | x :: l, i, j, st, st', h => by
  obtain ⟨j', hj⟩ := later_go hE hz foot l (i + 1) i _ _ (later_line X hE hz foot (i := i) h x)
  refine ⟨j', ?_⟩
  show SS E j' (go X foot (i + 1) (line X foot i st x) l) (go X foot (i + E.d + 1) (line X foot (i + E.d) st' x) l)
  rw [show i + E.d + 1 = i + 1 + E.d by omega]
  exact hj
theorem behind_rule (foot : Bool) (l : List Str) {c : UInt8} {t : Str} (hc : bl c = false) (h62 : c ≠ 62) (hX : RuleOk X (c :: t)) :
  parse X foot ((c :: t) :: [] :: l) = (.mk 9 [] [] 0 0 false 0 0 [] :: shKs 2 (parse X foot l).1, (parse X foot l).2) := by
 have e0 : line X foot 0 doc0 (c :: t) = ⟨[grow [ruleB 0] docF], none⟩ := rule_line X foot 0 docF hc h62 hX
 have e1 : go X foot 0 doc0 ((c :: t) :: [] :: l) = go X foot 2 ⟨[grow [ruleB 0] docF], none⟩ l := by
  show go X foot 2 (line X foot 1 (line X foot 0 doc0 (c :: t)) []) l = _
  rw [e0, empty_line]
 obtain ⟨j', hj⟩ := later_go X (E := EA) rfl rfl foot l 0 0 doc0 ⟨[grow [ruleB 0] docF], none⟩ ⟨⟨docF, _, [], [], rfl, rfl, ⟨rfl, by decide, rfl, fun e => (by cases e)⟩, rfl⟩, rfl⟩
 obtain ⟨b', ctx', h1, h2, h3, h4, h5⟩ := doc_kids hj
 obtain rfl := nil_ctx h2
 have hk : (go X foot 0 doc0 ((c :: t) :: [] :: l)).kids = ruleB 0 :: shBs 2 (go X foot 0 doc0 l).kids := by
  rw [e1]
  unfold St.kids at h5 ⊢
  have h1' : (go X foot 2 ⟨[grow [ruleB 0] docF], none⟩ l).fs = b' :: ((go X foot 0 doc0 l).fs.drop 1).map (shF EA.d) := h1
  rw [h1']
  exact h5
 unfold parse
 rw [hk, outL_cons, defsL_cons, outL_sh, defsL_sh]
 have o1 : out X (ruleB 0) = [.mk 9 [] [] 0 0 false 0 0 []] := by
  unfold ruleB
  rw [out]
  rfl
 have o2 : defsO X (ruleB 0) = [] := by
  unfold ruleB
  rw [defsO, defsL_nil]
  rfl
 rw [o1, o2]
 rfl
end
end Bk
end Go.Proofs.YtkiipaaaakhhfaaGreatDoor
end
section
set_option linter.unusedVariables false
set_option linter.unusedSimpArgs false
set_option maxRecDepth 100000
namespace Go.Proofs.YtkiipaaaakhhfaaGreatDoor
namespace Bk
variable {i : Nat} {L : Ln}
section
variable {ρ : Type} (X : Scan ρ)
theorem in_indented (h : InL i L) : InL i (indented i L) := by
 unfold indented
 split
 ·exact in_add h _
 ·exact in_add (in_open h _ (.inl rfl)) _
theorem in_leaves {L1 : Ln} (h : InL i L) (e : leaves X i L = some L1) : InL i L1 := by
 unfold leaves at e
 split at e
 ·cases e; exact in_lay h _ ⟨8, _, _, _, _, _, _, _, rfl, by decide, by decide⟩
 ·split at e
  ·cases e; exact in_open h _ (.inl rfl)
  ·split at e
   ·split at e
    ·cases e; exact in_lay h _ ⟨6, _, _, _, _, _, _, _, rfl, by decide, by decide⟩
    ·cases e; exact in_open h _ (.inr (.inl rfl))
   ·split at e
    ·rename_i hc
     split at e
     ·cases e
     ·rename_i l hl
      cases e
      have h1 := h.1
      rw [hl, hc.2.1, List.append_nil] at h1
      refine ⟨?_, fun e => h.2 ((onLast_ne _ _).1 e)⟩
      show wPath (onLast (grow [.mk 8 [] [] (X.setx L.r.aft) 0 false true l.ls l.a i []]) L.ms ++ L.us) none 0 (i + 1) 0
      rw [hc.2.1, List.append_nil]
      have key : ∀ {ms : List Fr} {a p : Nat}, ms ≠ [] → wPath ms (some l) a (i + 1) p → wPath (onLast (grow [.mk 8 [] [] (X.setx L.r.aft) 0 false true l.ls l.a i []]) ms) none a (i + 1) p := by
       intro ms
       induction ms with
       | nil => intro a p e; exact absurd rfl e
       | cons f ms ih =>
        intro a p _ h
        obtain ⟨k1, k2, k3, k4, k5, k6⟩ := h
        rw [onLast_cons]
        by_cases hm : ms = []
        ·subst hm
         rw [if_pos rfl]
         refine ⟨k1, k2, k3, k4, (wAll_app _ _ _ _ _).2 ⟨k5, ?_⟩, trivial⟩
         obtain ⟨j1, j2, j3, j4, j5, j6⟩ := k6
         rw [wAll_cons, wOne_mk]
         exact ⟨⟨j4, by omega, by omega, j1, .inr ⟨by decide, by decide, j2, rfl⟩, wAll_nil _ _ _⟩, wAll_nil _ _ _⟩
        ·rw [if_neg hm]
         exact ⟨k1, k2, k3, k4, k5, ih hm k6⟩
      exact key h.2 h1
    ·split at e
     ·cases e; exact in_lay h _ ⟨9, _, _, _, _, _, _, _, rfl, by decide, by decide⟩
     ·cases e
theorem in_note {L1 : Ln} (foot : Bool) (h : InL i L) (e : note foot i L = some L1) : InL i L1 := by
 unfold note at e
 split at e
 ·cases e
 ·cases e
  exact in_contain (in_rest h _) _ false (by unfold okc; simp) (fun e => by cases e)
theorem in_begins (foot : Bool) : ∀ (n : Nat) (L : Ln), InL i L → InL i (begins X foot i n L).2
 | 0, L, h => h
 | n + 1, L, h => by
  rw [begins]
  split
  ·exact h
  split
  ·split
   ·exact h
   ·exact in_indented h
  split
  ·exact in_begins foot n _ (in_contain (in_rest h _) _ false (by unfold okc; simp) (fun e => by cases e))
  split
  ·rename_i L1 e; exact in_leaves X h e
  split
  ·rename_i L1 e; exact in_begins foot n _ (in_note foot h e)
  split
  ·rename_i L1 e; exact in_begins foot n _ (in_item X h e)
  ·exact h
theorem in_text (h : InL i L) : InL i (text i L) := by
 unfold text
 split
 ·split
  ·exact in_add h _
  ·exact in_shut h
 ·split
  ·exact in_add h _
  ·exact in_add (in_open h _ (.inr (.inr rfl))) _
theorem in_rest_all (foot : Bool) (h : InL i L) : InL i (rest X foot i L) := by
 unfold rest
 simp only []
 split
 ·exact in_takes X h
 ·split
  ·exact in_begins X foot _ _ (in_takes X h)
  ·exact in_text (in_begins X foot _ _ (in_takes X h))
theorem in_line (foot : Bool) {st : St} {n : Nat} (h : wPath st.fs st.leaf 0 n 0) (hn : n ≤ i + 1) (hne : st.fs ≠ []) (s : Str) : wPath (line X foot i st s).fs (line X foot i st s).leaf 0 (i + 1) 0 ∧ (line X foot i st s).fs ≠ [] := by
 obtain ⟨f0, leaf⟩ := st
 have h := wPath_mono hn h
 cases f0 with
 | nil => exact absurd rfl hne
 | cons b fs =>
  rw [line_cons]
  have hL : InL i (lineL i b fs leaf ⟨s, 0⟩) := by
   refine ⟨?_, by unfold lineL; simp⟩
   obtain ⟨h1, h2, h3, h4, h5, h6⟩ := h
   have ih := in_meets (i := i) leaf leaf (r := ⟨s, 0⟩) h6
   exact ⟨h1, h2, h3, h4, h5, ih⟩
  have := in_rest_all X foot hL
  exact ⟨this.1, by show _ ++ _ ≠ []; intro e; exact this.2 (List.append_eq_nil_iff.1 e).1⟩
theorem in_go (foot : Bool) : ∀ (l : List Str) (i n : Nat) (st : St), wPath st.fs st.leaf 0 n 0 → n ≤ i + 1 → st.fs ≠ [] → wPath (go X foot i st l).fs (go X foot i st l).leaf 0 (if l = [] then n else i + l.length) 0 ∧ (go X foot i st l).fs ≠ []
 | [], i, n, st, h, hn, hne => by rw [if_pos rfl]; exact ⟨h, hne⟩
 | s :: l, i, n, st, h, hn, hne => by
  obtain ⟨h1, h2⟩ := in_line X foot (i := i) h hn hne s
  obtain ⟨h3, h4⟩ := in_go foot l (i + 1) (i + 1) _ h1 (by omega) h2
  refine ⟨?_, h4⟩
  rw [if_neg (by simp)]
  refine wPath_mono ?_ h3
  rw [List.length_cons]
  split <;> omega
mutual
theorem zB_ge : ∀ (b : B) (acc : Nat), acc ≤ zB b acc
 | .mk k s t n m fen stx ls a z kids, acc => by
  rw [zB_mk]
  split
  ·exact Nat.le_refl _
  ·exact Nat.le_trans (Nat.le_max_left _ _) (zL_ge kids _)
theorem zL_ge : ∀ (l : List B) (acc : Nat), acc ≤ zL l acc
 | [], acc => by rw [zL_nil]; exact Nat.le_refl _
 | b :: l, acc => by rw [zL_cons]; exact Nat.le_trans (zB_ge b acc) (zL_ge l _)
end
mutual
theorem zB_mono : ∀ (b : B) {x y : Nat}, x ≤ y → zB b x ≤ zB b y
 | .mk k s t n m fen stx ls a z kids, x, y, h => by
  rw [zB_mk, zB_mk]
  split
  ·exact h
  ·exact zL_mono kids (by omega)
theorem zL_mono : ∀ (l : List B) {x y : Nat}, x ≤ y → zL l x ≤ zL l y
 | [], x, y, h => by rw [zL_nil, zL_nil]; exact h
 | b :: l, x, y, h => by rw [zL_cons, zL_cons]; exact zL_mono l (zB_mono b h)
end
mutual
theorem zB_lt : ∀ {b : B} {a n p : Nat}, wOne b a n p → ∀ {acc : Nat}, acc < n → zB b acc < n
 | .mk k s t m1 m2 fen stx ls a0 z kids, a, n, p, h, acc, hacc => by
  rw [wOne_mk] at h
  rw [zB_mk]
  split
  ·exact hacc
  ·exact zL_lt h.2.2.2.2.2 (by have := h.2.2.1; omega)
theorem zL_lt : ∀ {l : List B} {a n p : Nat}, wAll l a n p → ∀ {acc : Nat}, acc < n → zL l acc < n
 | [], a, n, p, h, acc, hacc => by rw [zL_nil]; exact hacc
 | b :: l, a, n, p, h, acc, hacc => by
  rw [wAll_cons] at h
  rw [zL_cons]
  exact zL_lt h.2 (zB_lt h.1 hacc)
end
theorem white_gone (hX : X.defs [] = ([], [])) {k : Nat} {ls : List Str} (h : white k ls = true) : goneB X k ls = true := by
 unfold white at h
 rw [Bool.and_eq_true] at h
 unfold goneB
 rw [h.1, body_white h.2, hX]
 rfl
mutual
def insB : Blk → Nat → Nat → Bool → Bool
 | .mk k s t n m f a z kids => fun at' last list => decide (at' ≤ a) && decide (a ≤ z) && decide (z < last) && ((k == 4) == list) && (holds k || kids.isEmpty) && insL kids a (z + 1) (k == 3)
def insL : List Blk → Nat → Nat → Bool → Bool
 | [] => fun _ _ _ => true
 | b :: l => fun at' last list => insB b at' last list && insL l b.a last list
end
theorem insL_nil (a n : Nat) (b : Bool) : insL [] a n b = true := by rw [insL]
theorem insL_cons (b : Blk) (l : List Blk) (a n : Nat) (q : Bool) : insL (b :: l) a n q = (insB b a n q && insL l b.a n q) := by rw [insL]
theorem insB_at {b : Blk} {a a' n : Nat} {q : Bool} (h : insB b a n q = true) (ha : a' ≤ a) : insB b a' n q = true := by
 cases b
 rw [insB] at h ⊢
 simp only [Bool.and_eq_true, decide_eq_true_eq] at h ⊢
 obtain ⟨⟨⟨⟨⟨h1, h2⟩, h3⟩, h4⟩, h5⟩, h6⟩ := h
 exact ⟨⟨⟨⟨⟨by omega, h2⟩, h3⟩, h4⟩, h5⟩, h6⟩
theorem insL_at {l : List Blk} {a a' n : Nat} {q : Bool} (h : insL l a n q = true) (ha : a' ≤ a) : insL l a' n q = true := by
 cases l with
 | nil => exact insL_nil _ _ _
 | cons b l =>
  rw [insL_cons, Bool.and_eq_true] at h ⊢
  exact ⟨insB_at h.1 ha, h.2⟩
mutual
theorem ins_out (hX : X.defs [] = ([], [])) : ∀ (b : B) (a n p : Nat), wOne b a n p → ∀ acc N, zB b acc < N → (out X b = [] ∨ ∃ b', out X b = [b'] ∧ b'.a = b.a ∧ insB b' a N (p == 3) = true)
 | .mk k s t m1 m2 f x ls a z kids, at', n, p, h, acc, N, hN => by
  rw [wOne_mk] at h
  obtain ⟨h1, h2, h3, h4, h5, h6⟩ := h
  rw [out]
  split
  ·exact .inl rfl
  ·rename_i hg
   have hw : ¬ white k ls = true := fun e => hg (white_gone X hX e)
   rw [zB_mk, if_neg hw] at hN
   have hz : zL kids z < N := Nat.lt_of_le_of_lt (zL_mono kids (Nat.le_max_right acc z)) hN
   refine .inr ⟨_, rfl, rfl, ?_⟩
   rw [insB]
   show (decide (at' ≤ a) && decide (a ≤ zL kids z) && decide (zL kids z < N) && ((k == 4) == (p == 3)) && (holds k || (outL X kids).isEmpty) && insL (outL X kids) a (zL kids z + 1) (k == 3)) = true
   have hk := ins_outL hX kids a n k h6 z (zL kids z + 1) (Nat.lt_succ_self _)
   rw [hk]
   have e4 : ((k == 4) == (p == 3)) = true := by
    have hiff : (k = 4) ↔ (p = 3) := by
     rcases h5 with h5 | h5
     ·unfold okc at h5; omega
     ·omega
    have : (k == 4) = (p == 3) := by
     rw [Bool.eq_iff_iff, beq_iff_eq, beq_iff_eq]; exact hiff
    rw [this, beq_self_eq_true]
   have e5 : (holds k || (outL X kids).isEmpty) = true := by
    rcases h5 with h5 | ⟨_, _, _, h5⟩
    ·have : holds k = true := by
      unfold holds
      unfold okc at h5
      have : k = 2 ∨ k = 3 ∨ k = 4 ∨ k = 13 := by omega
      rcases this with rfl | rfl | rfl | rfl <;> rfl
     rw [this]; rfl
    ·rw [h5, outL_nil]; simp
   rw [e4, e5, decide_eq_true h1, decide_eq_true (Nat.le_trans h2 (zL_ge kids z)), decide_eq_true hz]
   rfl
theorem ins_outL (hX : X.defs [] = ([], [])) : ∀ (l : List B) (a n p : Nat), wAll l a n p → ∀ acc N, zL l acc < N → insL (outL X l) a N (p == 3) = true
 | [], a, n, p, _, acc, N, _ => by rw [outL_nil]; exact insL_nil _ _ _
 | b :: l, a, n, p, h, acc, N, hN => by
  rw [wAll_cons] at h
  rw [zL_cons] at hN
  rw [outL_cons]
  have ih := ins_outL hX l b.a n p h.2 _ N hN
  have hab : a ≤ b.a := by
   cases b
   have := h.1
   rw [wOne_mk] at this
   exact this.1
  rcases ins_out hX b a n p h.1 acc N (Nat.lt_of_le_of_lt (zL_ge l _) hN) with e | ⟨b', e, ea, hb⟩
  ·rw [e, List.nil_append]; exact insL_at ih hab
  ·rw [e, List.singleton_append, insL_cons, hb, ea, ih]; rfl
end
theorem go_w (foot : Bool) {l : List Str} (hl : l ≠ []) : wAll (go X foot 0 doc0 l).kids 0 l.length 1 := by
 obtain ⟨h1, h2⟩ := in_go X foot l 0 1 doc0 ⟨.inl ⟨rfl, rfl⟩, Nat.le_refl _, Nat.le_refl _, by decide, wAll_nil _ _ _, trivial⟩ (by omega) (by decide)
 rw [if_neg hl, Nat.zero_add] at h1
 cases hf : (go X foot 0 doc0 l).fs with
 | nil => exact absurd hf h2
 | cons b fs =>
  rw [hf] at h1
  obtain ⟨k1, k2, k3, k4, k5, k6⟩ := h1
  have hk : b.k = 1 := by unfold okc at k1; omega
  unfold St.kids
  rw [hf]
  rw [hk] at k5 k6
  have := (wAll_app _ _ _ _ _).2 ⟨k5, w_shut k6 (by decide)⟩
  have at0 : ∀ {l : List B} {a n p : Nat}, wAll l a n p → wAll l 0 n p := fun {l} {a n p} h => by
   cases l with
   | nil => exact wAll_nil _ _ _
   | cons b l =>
    rw [wAll_cons] at h ⊢
    refine ⟨?_, h.2⟩
    cases b
    have := h.1
    rw [wOne_mk] at this ⊢
    exact ⟨Nat.zero_le _, this.2⟩
  exact at0 this
theorem inside (hX : X.defs [] = ([], [])) (foot : Bool) (l : List Str) : insL (parse X foot l).1 0 l.length false = true := by
 show insL (outL X (go X foot 0 doc0 l).kids) 0 l.length false = true
 by_cases hl : l = []
 ·subst hl
  show insL (outL X []) 0 0 false = true
  rw [outL_nil]
  exact insL_nil _ _ _
 have hw := go_w X foot hl
 exact ins_outL X hX _ _ _ 1 hw 0 _ (zL_lt hw (List.length_pos_iff.2 hl))
end
end Bk
end Go.Proofs.YtkiipaaaakhhfaaGreatDoor
end
section
set_option linter.unusedVariables false
set_option linter.unusedSimpArgs false
set_option maxRecDepth 100000
namespace Go.Proofs.YtkiipaaaakhhfaaGreatDoor
namespace Bk
section
variable {ρ : Type} (X : Scan ρ)
def rb (j : Nat) : B := if j % 3 = 1 then headB 2 [97] j else ruleB j
end
end Bk
end Go.Proofs.YtkiipaaaakhhfaaGreatDoor
end
section
namespace Go.Proofs.YtkiipaaaakhhfaaGreatDoor
open Go Go.RowKit
namespace Bk
set_option maxRecDepth 100000
set_option linter.unusedVariables false
set_option linter.unusedSimpArgs false
theorem cnt_len : ∀ l : List Blk, l.length ≤ cntK l
 | [] => Nat.zero_le _
 | b :: l => by rw [cntK_cons, cntB_eq, List.length_cons]; have := cnt_len l; omega
theorem cnt_mem : ∀ {l : List Blk} {b : Blk}, b ∈ l → cntK b.kids ≤ cntK l
 | x :: l, b, h => by
  rw [cntK_cons]
  rcases List.mem_cons.1 h with rfl | h
  ·rw [cntB_eq]; omega
  ·have := cnt_mem h; omega
theorem OwnS.ssl {w : World} {B : Nat} {v : Value} {L : List Str} (h : OwnS w B v L) : SSl w v L := by
 unfold OwnS at h
 have h0 := h
 rcases h.2 with ⟨rfl, h1⟩ | ⟨g, cap, cur, rfl, _, hg, hn, hm, hs, hc⟩
 ·have : L = [] := List.length_eq_zero_iff.1 h1
  subst this
  exact ⟨none, 0, rfl, by decide, fun h => absurd rfl h⟩
 ·refine ⟨some ⟨g, 0, none⟩, cap, rfl, Nat.le_trans hn hm, fun _ => ⟨g, 0, rfl, fun i hi => ?_⟩⟩
  have := h0.cellAt i (by omega)
  rw [Nat.zero_add, this]
  simp [List.getElem?_eq_getElem hi]
end Bk
end Go.Proofs.YtkiipaaaakhhfaaGreatDoor
end
section
namespace Go.Proofs.YtkiipaaaakhhfaaGreatDoor
open Go Go.RowKit
namespace Bk
set_option maxRecDepth 100000
set_option linter.unusedVariables false
set_option linter.unusedSimpArgs false
set_option maxHeartbeats 4000000 in
theorem few_any (l : List Str) (v : Value) (w : World) (h : SSl w v l) :
  Calls Tryz.prog 12 #[v] w fun e w' => (e = .returned (.bool false) ∨ (e = .returned (.bool true) ∧ FewS l)) ∧ w = w' := by
 obtain ⟨a, cap, rfl, hlm, hk⟩ := h
 unfold maxLen at hlm
 have HK := Lib.hid hk
 clear hk
 obtain ⟨n, hn⟩ : ∃ n, l.length = n := ⟨_, rfl⟩
 rw [hn] at hlm ⊢
 have HN := Lib.hid hn
 clear hn
 by_cases h40 : (40 : Int) < (n : Int)
 ·go_enter Tryz.func12, Tryz.ntmps12
  go_wp2
  go_ret
  exact ⟨.inl rfl, rfl⟩
 go_enter Tryz.func12, Tryz.ntmps12
 go_wp2
 go_loopg [3] n (fun G s3 wr => ∃ i : Nat, i + G = n ∧ s3 = .int .i64 (i : Int) ∧ Hid (∀ j s, j < i → l[j]? = some s → s.length ≤ 80) ∧ w = wr)
 case atStart => exact ⟨0, by omega, rfl, Lib.hid (fun j s hj => by omega), rfl⟩
 case round =>
  obtain ⟨i, hig, rfl, HA, rfl⟩ := hrel
  cases gk with
  | zero =>
   have hlt : ¬ (i : Int) < (n : Int) := by omega
   have hin : i = n := by omega
   have HV : Hid (FewS l) := Lib.hid ⟨by rw [HN.out]; omega, fun s hs => by
    obtain ⟨j, hj⟩ := List.mem_iff_getElem?.1 hs
    have := (List.getElem?_eq_some_iff.1 hj).1
    exact HA.out j s (by rw [hin, ← HN.out]; exact this) hj⟩
   clear hin
   go_wp2
   go_ret
   exact ⟨.inr ⟨rfl, HV.out⟩, rfl⟩
  | succ G =>
   have hlt : (i : Int) < (n : Int) := by omega
   have hil : i < l.length := by have := HN.out; omega
   obtain ⟨s, hs⟩ : ∃ s, l[i] = s := ⟨_, rfl⟩
   have HS : Hid (l[i]? = some s) := Lib.hid (by rw [List.getElem?_eq_getElem hil, hs])
   obtain ⟨b, off, rfl, hcell⟩ := HK.out (fun e => by rw [e] at hil; exact absurd hil (Nat.not_lt_zero _))
   have q0 := hcell i hil
   rw [hs] at q0
   unfold str at q0
   obtain ⟨S, hS⟩ : ∃ S : ByteArray, ⟨s.toArray⟩ = S := ⟨_, rfl⟩
   have HZ : Hid (S.size = s.length) := Lib.hid (by rw [← hS]; rfl)
   rw [hS] at q0
   clear hcell hs hS hil
   by_cases hbig : (80 : Int) < (S.size : Int)
   ·go_wp2
    go_ret
    exact ⟨.inl rfl, rfl⟩
   ·have HA2 : Hid (∀ j r, j < i + 1 → l[j]? = some r → r.length ≤ 80) := Lib.hid (fun j r hj hr => by
     rcases Nat.lt_or_ge j i with h | h
     ·exact HA.out j r h hr
     ·have : j = i := by omega
      subst this
      have := HS.out
      rw [hr] at this
      injection this with this
      subst this
      have := HZ.out
      omega)
    go_wp2
    go_roundg G
    case rel => exact ⟨i + 1, by omega, by go_num, HA2, rfl⟩
    case measure => omega
set_option maxHeartbeats 16000000 in
theorem rsame_blk (C : Nat → Prop) (b : Blk) : ∀ (w : World) (v v' : Value), InS w C b.kids v → InS w C b.kids v' →
  Calls Tryz.prog 22 #[v, v'] w fun e w' => e = .returned (.bool true) ∧ Below w.heap.size w w' := by
 induction b using Blk.ind with
 | h k s t n m f a z kids ih =>
  intro w v v' hin hin'
  have hin : InS w C kids v := hin
  have hin' : InS w C kids v' := hin'
  obtain ⟨a1, cap, rfl, hlm, hk⟩ := hin
  obtain ⟨a1', cap', rfl, _, hk'⟩ := hin'
  unfold maxLen at hlm
  have HK := Lib.hid hk
  have HK' := Lib.hid hk'
  have IH := Lib.hid ih
  clear hk hk' ih
  obtain ⟨N, hN⟩ : ∃ N, kids.length = N := ⟨_, rfl⟩
  rw [hN] at hlm ⊢
  have HN := Lib.hid hN
  clear hN
  go_enter Tryz.func22, Tryz.ntmps22
  go_wp2
  go_loopg [5] N (fun G s5 wr => ∃ i : Nat, i + G = N ∧ s5 = .int .i64 (i : Int) ∧ Below w.heap.size w wr)
  case atStart => exact ⟨0, by omega, rfl, Below.refl _ _⟩
  case round =>
   obtain ⟨i, hig, rfl, hbw⟩ := hrel
   cases gk with
   | zero =>
    have hlt : ¬ (i : Int) < (N : Int) := by omega
    go_wp2
    go_ret
    exact ⟨rfl, hbw⟩
   | succ G =>
    have hlt : (i : Int) < (N : Int) := by omega
    obtain ⟨c, hc⟩ : ∃ c, kids[i]? = some c := ⟨_, List.getElem?_eq_getElem (by have := HN.out; omega)⟩
    rcases HK.out with rfl | ⟨bb, off, rfl, _, hcell⟩
    ·simp at hc
    rcases HK'.out with rfl | ⟨bb', off', rfl, _, hcell'⟩
    ·simp at hc
    obtain ⟨L1, q, g1⟩ := hcell.get hc
    obtain ⟨L2, q', g2⟩ := hcell'.get hc
    obtain ⟨c0, c1, c2, c3, c4, c5, c6, c7, c8⟩ := q.keep hbw
    have G1 := Lib.hid (g1.kids.keep hbw)
    have G2 := Lib.hid (g2.kids.keep hbw)
    have HC := Lib.hid (fun W (hW : Below wr.heap.size wr W) => IH.out c (List.mem_of_getElem? hc) W L1 L2 (G1.out.keep hW) (G2.out.keep hW))
    obtain ⟨ao, cpo, e1, _⟩ := G1.out.form
    obtain ⟨ao', cpo', e2, _⟩ := G2.out.form
    subst e1 e2
    obtain ⟨d0, d1, d2, d3, d4, d5, d6, d7, d8⟩ := (q'.keep hbw).keep ((Below.refl _ wr).alloc (Nat.le_refl _) (.cells (ar9 c.ow (.slice ao c.kids.length cpo)) 73))
    unfold str at c1 c2 d1 d2
    have HBw := Lib.hid hbw
    have hX := (Box.new wr (ar9 c.ow (.slice ao c.kids.length cpo)) 73).alloc (.cells (ar9 c.ow (.slice ao' c.kids.length cpo')) 73)
    have hY := Box.new (wr.alloc (.cells (ar9 c.ow (.slice ao c.kids.length cpo)) 73)) (ar9 c.ow (.slice ao' c.kids.length cpo')) 73
    have HB2 : Hid (Below wr.heap.size wr ((wr.alloc (.cells (ar9 c.ow (.slice ao c.kids.length cpo)) 73)).alloc (.cells (ar9 c.ow (.slice ao' c.kids.length cpo')) 73))) := Lib.hid (((Below.refl _ wr).alloc (Nat.le_refl _) _).alloc (by simp) _)
    rw [World.size_alloc] at hY
    have x0 := hX.cell 0 rfl
    have x1 := hX.cell 1 rfl
    have x2 := hX.cell 2 rfl
    have x3 := hX.cell 3 rfl
    have x4 := hX.cell 4 rfl
    have x5 := hX.cell 5 rfl
    have x6 := hX.cell 6 rfl
    have x7 := hX.cell 7 rfl
    have x8 := hX.cell 8 rfl
    have y0 := hY.cell 0 rfl
    have y1 := hY.cell 1 rfl
    have y2 := hY.cell 2 rfl
    have y3 := hY.cell 3 rfl
    have y4 := hY.cell 4 rfl
    have y5 := hY.cell 5 rfl
    have y6 := hY.cell 6 rfl
    have y7 := hY.cell 7 rfl
    have y8 := hY.cell 8 rfl
    unfold ar9 at HB2 d0 d1 d2 d3 d4 d5 d6 d7 d8 x0 x1 x2 x3 x4 x5 x6 x7 x8 y0 y1 y2 y3 y4 y5 y6 y7 y8
    clear hcell hcell' hc q q' g1 g2 G1 G2 hX hY hbw IH
    generalize c.ow = o at *
    generalize c.kids.length = kl at *
    go_wp2_with fail
    refine (HC.out _ HB2.out).mono ?_
    rintro e w2 ⟨rfl, hb2⟩
    have HB3 := Lib.hid (below_later HBw.out (below_later HB2.out hb2))
    clear hb2 x0 x1 x2 x3 x4 x5 x6 x7 x8 y0 y1 y2 y3 y4 y5 y6 y7 y8 c0 c1 c2 c3 c4 c5 c6 c7 c8 d0 d1 d2 d3 d4 d5 d6 d7 d8
    go_wp2
    go_roundg G
    case rel => exact ⟨i + 1, by omega, by go_num, HB3.out⟩
    case measure => omega
theorem rsame_any (C : Nat → Prop) (l : List Blk) (w : World) (v v' : Value) (h : InS w C l v) (h' : InS w C l v') :
  Calls Tryz.prog 22 #[v, v'] w fun e w' => e = .returned (.bool true) ∧ Below w.heap.size w w' :=
 rsame_blk C (.mk 0 [] [] 0 0 false 0 0 l) w v v' h h'
end Bk
end Go.Proofs.YtkiipaaaakhhfaaGreatDoor
end
section
namespace Go.Proofs.YtkiipaaaakhhfaaGreatDoor
open Go Go.RowKit
namespace Bk
set_option maxRecDepth 100000
set_option linter.unusedVariables false
set_option linter.unusedSimpArgs false
def nilO : Ow := ⟨0, [], [], 0, 0, false, 0, 0⟩
theorem blkInfo : (Tryz.prog.info? 73).map (fun i => (i.zero, i.size, i.bytes)) = some (some (.agg (ar9 nilO (.slice none 0 0))), 9, 104) := by kernel_rfl
theorem cells9_one (o : Ow) (a : Option Addr) (n c : Nat) : ∀ u ∈ (ar9 o (.slice a n c)).toList, u.oneCell' = true := by
 intro u hu
 simp [ar9] at hu
 rcases hu with rfl | rfl | rfl | rfl | rfl | rfl | rfl | rfl | rfl <;> rfl
set_option maxHeartbeats 16000000 in
theorem theirs_blk (C : Nat → Prop) (b : Blk) : ∀ (w : World) (v : Value), InS w C b.kids v → cntK b.kids ≤ 1000000000 →
  Calls Tryz.prog 19 #[v] w fun e w' => ∃ u, e = .returned u ∧ InS w' (fun g => w.heap.size ≤ g) b.kids u ∧ Below w.heap.size w w' := by
 induction b using Blk.ind with
 | h k s t n m f a z kids ih =>
  intro w v hin hcnt
  have hin : InS w C kids v := hin
  have hcnt : cntK kids ≤ 1000000000 := hcnt
  show Calls _ _ _ _ fun e w' => ∃ u, e = .returned u ∧ InS w' (fun g => w.heap.size ≤ g) kids u ∧ Below w.heap.size w w'
  obtain ⟨iN, hi, hz0, hz1, hz2⟩ := info_parts blkInfo
  obtain ⟨a1, cap, rfl, hlm, hk⟩ := hin
  unfold maxLen at hlm
  have hlen := cnt_len kids
  have HK := Lib.hid hk
  have IH := Lib.hid ih
  have HCn := Lib.hid hcnt
  obtain ⟨N, hN⟩ : ∃ N, kids.length = N := ⟨_, rfl⟩
  rw [hN] at hlm hlen ⊢
  have hN9 : N ≤ 1000000000 := by omega
  have HN := Lib.hid hN
  clear hN hk ih hcnt hlen
  go_enter Tryz.func19, Tryz.ntmps19
  go_wp2
  go_loopg [3, 4] N (fun G s3 s4 wr => ∃ (i : Nat) (l : List (Blk × Value)), i + G = N ∧ s4 = .int .i64 (i : Int) ∧ Hid (l.map Prod.fst = kids.take i) ∧ l.length = i ∧ Hid (OwnT wr w.heap.size 73 s3 l) ∧ Below w.heap.size w wr)
  case atStart => exact ⟨0, [], by omega, rfl, Lib.hid rfl, rfl, Lib.hid (OwnT.nil _ _ _), Below.refl _ _⟩
  case round =>
   obtain ⟨i, l, hig, rfl, HM, hli, HO, hbw⟩ := hrel
   obtain ⟨a3, c3, e3⟩ := HO.out.form
   rw [hli] at e3
   subst e3
   have HLi := Lib.hid hli
   clear hli
   cases gk with
   | zero =>
    have hlt : ¬ (i : Int) < (N : Int) := by omega
    have HE : Hid (InS wr (fun g => w.heap.size ≤ g) kids (.slice a3 i c3)) := Lib.hid (by
     have h1 := HO.out.inS
     rw [HM.out, List.take_of_length_le (by rw [HN.out]; omega)] at h1
     exact h1)
    go_wp2
    go_ret
    exact ⟨_, rfl, HE.out, hbw⟩
   | succ G =>
    have hlt : (i : Int) < (N : Int) := by omega
    obtain ⟨c, hc⟩ : ∃ c, kids[i]? = some c := ⟨_, List.getElem?_eq_getElem (by have := HN.out; omega)⟩
    rcases HK.out with rfl | ⟨bb, off, rfl, _, hcell⟩
    ·simp at hc
    obtain ⟨L1, q, g1⟩ := hcell.get hc
    obtain ⟨c0, c1, c2, c3', c4, c5, c6, c7, c8⟩ := q.keep hbw
    have G1 := Lib.hid (g1.kids.keep hbw)
    have HTk : Hid (kids.take (i + 1) = kids.take i ++ [c]) := Lib.hid (by rw [List.take_add_one, hc]; rfl)
    have hcn : cntK c.kids ≤ 1000000000 := Nat.le_trans (cnt_mem (List.mem_of_getElem? hc)) HCn.out
    have HC := Lib.hid (fun W (hW : Below wr.heap.size wr W) => IH.out c (List.mem_of_getElem? hc) W L1 (G1.out.keep hW) hcn)
    obtain ⟨ao, cpo, e1, _⟩ := G1.out.form
    subst e1
    unfold str at c1 c2
    have HBw := Lib.hid hbw
    have hX := Box.new wr (ar9 c.ow (.slice ao c.kids.length cpo)) 41
    have HB2 : Hid (Below wr.heap.size wr (wr.alloc (.cells (ar9 c.ow (.slice ao c.kids.length cpo)) 41))) := Lib.hid ((Below.refl _ wr).alloc (Nat.le_refl _) _)
    obtain ⟨W2, hW2⟩ : ∃ W2, wr.alloc (.cells (ar9 c.ow (.slice ao c.kids.length cpo)) 41) = W2 := ⟨_, rfl⟩
    rw [hW2] at hX HB2
    have x0 := hX.cell 0 rfl
    have x1 := hX.cell 1 rfl
    have x2 := hX.cell 2 rfl
    have x3 := hX.cell 3 rfl
    have x4 := hX.cell 4 rfl
    have x5 := hX.cell 5 rfl
    have x6 := hX.cell 6 rfl
    have x7 := hX.cell 7 rfl
    have x8 := hX.cell 8 rfl
    have HW2 := Lib.hid hW2
    have HOw : Hid (c.ow = c.ow) := Lib.hid rfl
    have hsW : W2.heap.size = wr.heap.size + 1 := by rw [← hW2, World.size_alloc]
    have HBx := Lib.hid hX
    have hvb := HO.out.row.lt
    have HVB := Lib.hid hvb
    have HC2 := Lib.hid (HC.out W2.drew HB2.out.drew)
    obtain ⟨o, ho⟩ : ∃ o, c.ow = o := ⟨_, rfl⟩
    obtain ⟨kl, hkl⟩ : ∃ n, c.kids.length = n := ⟨_, rfl⟩
    rw [ho] at c0 c1 c2 c3' c4 c5 c6 c7 x0 x1 x2 x3 x4 x5 x6 x7 HW2 HBx
    rw [hkl] at c8 x8 HW2 HBx HC2
    have HO2 := Lib.hid ho
    have HS : Hid (∀ W, Box W wr.heap.size (ar9 o (.slice ao kl cpo)) 41 → W.cell? ⟨wr.heap.size, 0, none⟩ = some (.int .i64 (o.k : Int)) ∧ W.cell? ⟨wr.heap.size, 1, none⟩ = some (.string ⟨o.s.toArray⟩) ∧ W.cell? ⟨wr.heap.size, 2, none⟩ = some (.string ⟨o.t.toArray⟩) ∧ W.cell? ⟨wr.heap.size, 3, none⟩ = some (.int .i64 (o.n : Int)) ∧ W.cell? ⟨wr.heap.size, 4, none⟩ = some (.int .i64 (o.m : Int)) ∧ W.cell? ⟨wr.heap.size, 5, none⟩ = some (.bool o.f) ∧ W.cell? ⟨wr.heap.size, 6, none⟩ = some (.int .i64 (o.a : Int)) ∧ W.cell? ⟨wr.heap.size, 7, none⟩ = some (.int .i64 (o.z : Int)) ∧ W.cell? ⟨wr.heap.size, 8, none⟩ = some (.slice ao kl cpo)) := Lib.hid (fun W hW =>
     ⟨hW.cell 0 rfl, hW.cell 1 rfl, hW.cell 2 rfl, hW.cell 3 rfl, hW.cell 4 rfl, hW.cell 5 rfl, hW.cell 6 rfl, hW.cell 7 rfl, hW.cell 8 rfl⟩)
    have HKp : Hid (∀ W, Below (wr.heap.size + 1) W2 W → Box W wr.heap.size (ar9 o (.slice ao kl cpo)) 41) := Lib.hid (fun W hW => HBx.out.keep (by rw [hsW]; exact hW))
    have HNr : Hid ((Value.slice a3 i c3).ownBlock ≠ some wr.heap.size) := Lib.hid (fun e => absurd (HVB.out _ e).2 (Nat.lt_irrefl _))
    have HB3 : Hid (Below (wr.heap.size + 1) W2 W2.drew) := Lib.hid (Below.refl _ _).drew
    have HX3 : Hid (∀ W, Below W2.heap.size W2.drew W → Below (wr.heap.size + 1) W2 W) := Lib.hid (fun W h => HB3.out.trans (by rw [← hsW]; exact h))
    have HRow := Lib.hid (fun W (hW : Below wr.heap.size wr W) => owns_block HO.out.row fun k hk => hW.block k (HVB.out k hk).2)
    have HLc : Hid (l.length ≤ 1000000000) := Lib.hid (by rw [HLi.out]; omega)
    clear hcell hc q g1 G1 hX hbw IH hW2 hvb HC HOw ho hkl
    unfold ar9 at HW2
    go_wp2_with fail
    rw [HW2.out]
    go_region_held3 (fun W => W.cell? ⟨wr.heap.size, 0, none⟩ = some (.int .i64 (o.k : Int)) ∧ W.cell? ⟨wr.heap.size, 1, none⟩ = some (.string ⟨o.s.toArray⟩) ∧ W.cell? ⟨wr.heap.size, 2, none⟩ = some (.string ⟨o.t.toArray⟩) ∧ W.cell? ⟨wr.heap.size, 3, none⟩ = some (.int .i64 (o.n : Int)) ∧ W.cell? ⟨wr.heap.size, 4, none⟩ = some (.int .i64 (o.m : Int)) ∧ W.cell? ⟨wr.heap.size, 5, none⟩ = some (.bool o.f) ∧ W.cell? ⟨wr.heap.size, 6, none⟩ = some (.int .i64 (o.a : Int)) ∧ W.cell? ⟨wr.heap.size, 7, none⟩ = some (.int .i64 (o.z : Int)) ∧ W.cell? ⟨wr.heap.size, 8, none⟩ = some (.slice ao kl cpo))
     (first | exact HS.out _ HBx.out | exact HS.out _ (HKp.out _ HB3.out) | exact HS.out _ (by assumption) | exact HS.out _ (HKp.out _ (by assumption)))
     (first
      | (go_at_call 19; refine HC2.out.mono ?_; rintro e w3 ⟨u, rfl, hin3, hb3⟩; obtain ⟨a2, cp2, rfl, _⟩ := hin3.form; have hx3 := HX3.out _ hb3; have HIN := Lib.hid hin3; have HX4 := Lib.hid hx3; have hxA := HX4.out.alloc (by have := hx3.size; omega) (.cells (ar9 o (.slice a2 c.kids.length cp2)) 73); unfold ar9 at hxA)
      | (refine step_append_lies _ rfl (.tmp 16) (.tmp 37) 35 rfl w.heap.size 73 iN (.agg (ar9 nilO (.slice none 0 0))) 9 104 Tryz.underlying35 hi hz0 hz1 hz2 rfl (by decide) (.slice a3 i c3) l.length (rowC l) (by simp [Act.eval, Act.put]) (HRow.out _ (HB2.out.trans (hxA.mono (Nat.le_succ _)))) ⟨w3.heap.size, 0, none⟩ 1 1 (cells9 o (.slice a2 c.kids.length cp2)) (by simp [Act.eval, Act.put]) rfl (World.news_of_block (heap_alloc_new w3 _)) (cells9_one _ _ _ _) (by decide) (by have := HLc.out; unfold maxLen; omega) (by have := HLc.out; omega) (Nat.le_trans HBw.out.size (HB2.out.trans (hxA.mono (Nat.le_succ _))).size) _ rfl ?_; intro g' cap' w4 hown4 hgrow4 hat4 hlt4; have hb4 := (HKp.out _ hxA).grown hgrow4 HNr.out))
    all_goals
     have hw3 : Below wr.heap.size wr w3 := HB2.out.trans (HX4.out.mono (Nat.le_succ _))
     have hM := OwnT.more (w := w) (w1 := w3) (w2 := w4) (x := (c, .slice a2 c.kids.length cp2)) (Nat.le_refl _) (HO.out.keep hw3)
      (HIN.out.carry (fun b off v (h : W2.heap.size ≤ b) _ => ⟨fun e => by have := (HVB.out b e).2; omega, by have := HBw.out.size; omega⟩) fun _ _ _ _ h => h)
      (below_later HBw.out hw3) (by rw [show ((c, (.slice a2 c.kids.length cp2)) : Blk × Value).1.ow = o from HO2.out]; exact hown4) hgrow4
      (fun k e => by injection e with e; subst e; exact hat4.imp id (fun e => by show w3.heap.size ≤ g'; rw [e, World.size_alloc]; exact Nat.le_succ _))
     have HM2 := Lib.hid hM.1
     have HB4 := Lib.hid hM.2
     have HLL : Hid ((l ++ [(c, Value.slice a2 c.kids.length cp2)]).length = i + 1) := Lib.hid (by simp [HLi.out])
     clear hM hw3 hgrow4 hown4 hat4 hlt4 hb4 hxA hx3 hb3 hin3
     go_wp2
     go_roundg G
     case rel => exact ⟨i + 1, l ++ [(c, .slice a2 c.kids.length cp2)], by omega, rfl, Lib.hid (by rw [List.map_append, HM.out, HTk.out]; rfl), HLL.out, HM2, HB4.out⟩
     case measure => omega
end Bk
end Go.Proofs.YtkiipaaaakhhfaaGreatDoor
end
section
namespace Go.Proofs.YtkiipaaaakhhfaaGreatDoor
open Go Go.RowKit
namespace Bk
set_option maxRecDepth 100000
set_option linter.unusedVariables false
set_option linter.unusedSimpArgs false
theorem insB_kids {b : Blk} {a n : Nat} {q : Bool} (h : insB b a n q = true) :
  a ≤ b.ow.a ∧ b.ow.a ≤ b.ow.z ∧ b.ow.z < n ∧ ((b.ow.k == 4) = q) ∧ (holds b.ow.k = true ∨ b.kids = []) ∧ insL b.kids b.ow.a (b.ow.z + 1) (b.ow.k == 3) = true ∧ b.a = b.ow.a := by
 cases b with
 | mk k s t n' m f a' z kids =>
  rw [insB] at h
  simp only [Bool.and_eq_true, decide_eq_true_eq, Bool.or_eq_true, List.isEmpty_iff, beq_iff_eq] at h
  obtain ⟨⟨⟨⟨⟨h1, h2⟩, h3⟩, h4⟩, h5⟩, h6⟩ := h
  exact ⟨h1, h2, h3, h4, h5, h6, rfl⟩
end Bk
end Go.Proofs.YtkiipaaaakhhfaaGreatDoor
end
section
namespace Go.Proofs.YtkiipaaaakhhfaaGreatDoor
open Go Go.RowKit
namespace Bk
set_option maxRecDepth 100000
set_option linter.unusedVariables false
set_option linter.unusedSimpArgs false
theorem shKs_map (d : Nat) : ∀ l, shKs d l = l.map (shK d)
 | [] => by rw [shKs_nil]; rfl
 | b :: l => by rw [shKs_cons, shKs_map d l]; rfl
theorem shK_kids (d : Nat) (b : Blk) : (shK d b).kids = shKs d b.kids := by cases b; rw [shK]; rfl
theorem shK_ow (d : Nat) (b : Blk) : (shK d b).ow = { b.ow with a := b.ow.a + d, z := b.ow.z + d } := by cases b; rw [shK]; rfl
theorem insL_get {n : Nat} {q : Bool} : ∀ {l : List Blk} {p : Nat}, insL l p n q = true → ∀ {c}, c ∈ l → ∃ p', insB c p' n q = true
 | b :: l, p, h, c, hc => by
  rw [insL_cons, Bool.and_eq_true] at h
  rcases List.mem_cons.1 hc with rfl | hc
  ·exact ⟨p, h.1⟩
  ·exact insL_get h.2 hc
set_option maxHeartbeats 16000000 in
theorem shift_blk (C : Nat → Prop) (d : Nat) (hd : d ≤ 1000000) (b : Blk) : ∀ (w : World) (v : Value) (p n : Nat) (q : Bool), InS w C b.kids v → insL b.kids p n q = true → n ≤ 1000000 → cntK b.kids ≤ 1000000000 →
  Calls Tryz.prog 24 #[v, .int .i64 (d : Int)] w fun e w' => ∃ u, e = .returned u ∧ InS w' (fun g => w.heap.size ≤ g) (shKs d b.kids) u ∧ Below w.heap.size w w' := by
 induction b using Blk.ind with
 | h k s t nn m f a z kids ih =>
  intro w v p n q hin hins hn hcnt
  have hin : InS w C kids v := hin
  have hins : insL kids p n q = true := hins
  have hcnt : cntK kids ≤ 1000000000 := hcnt
  show Calls _ _ _ _ fun e w' => ∃ u, e = .returned u ∧ InS w' (fun g => w.heap.size ≤ g) (shKs d kids) u ∧ Below w.heap.size w w'
  obtain ⟨iN, hi, hz0, hz1, hz2⟩ := info_parts blkInfo
  obtain ⟨a1, cap, rfl, hlm, hk⟩ := hin
  unfold maxLen at hlm
  have hlen := cnt_len kids
  have HK := Lib.hid hk
  have IH := Lib.hid ih
  have HIns := Lib.hid hins
  have HCn := Lib.hid hcnt
  obtain ⟨N, hN⟩ : ∃ N, kids.length = N := ⟨_, rfl⟩
  rw [hN] at hlm hlen ⊢
  have hN9 : N ≤ 1000000000 := by omega
  have HN := Lib.hid hN
  clear hN hk ih hcnt hlen hins
  go_enter Tryz.func24, Tryz.ntmps24
  go_wp2
  go_loopg [5, 6] N (fun G s5 s6 wr => ∃ (i : Nat) (l : List (Blk × Value)), i + G = N ∧ s6 = .int .i64 (i : Int) ∧ Hid (l.map Prod.fst = (kids.take i).map (shK d)) ∧ l.length = i ∧ Hid (OwnT wr w.heap.size 73 s5 l) ∧ Below w.heap.size w wr)
  case atStart => exact ⟨0, [], by omega, rfl, Lib.hid rfl, rfl, Lib.hid (OwnT.nil _ _ _), Below.refl _ _⟩
  case round =>
   obtain ⟨i, l, hig, rfl, HM, hli, HO, hbw⟩ := hrel
   obtain ⟨a3, c3, e3⟩ := HO.out.form
   rw [hli] at e3
   subst e3
   have HLi := Lib.hid hli
   clear hli
   cases gk with
   | zero =>
    have hlt : ¬ (i : Int) < (N : Int) := by omega
    have HE : Hid (InS wr (fun g => w.heap.size ≤ g) (shKs d kids) (.slice a3 i c3)) := Lib.hid (by
     have h1 := HO.out.inS
     rw [HM.out, List.take_of_length_le (by rw [HN.out]; omega), ← shKs_map] at h1
     exact h1)
    go_wp2
    go_ret
    exact ⟨_, rfl, HE.out, hbw⟩
   | succ G =>
    have hlt : (i : Int) < (N : Int) := by omega
    obtain ⟨c, hc⟩ : ∃ c, kids[i]? = some c := ⟨_, List.getElem?_eq_getElem (by have := HN.out; omega)⟩
    have hcm := List.mem_of_getElem? hc
    obtain ⟨p', hb'⟩ := insL_get HIns.out hcm
    obtain ⟨j1, j2, j3, j4, j5, j6, j7⟩ := insB_kids hb'
    rcases HK.out with rfl | ⟨bb, off, rfl, _, hcell⟩
    ·simp at hc
    obtain ⟨L1, qq, g1⟩ := hcell.get hc
    obtain ⟨c0, c1, c2, c3', c4, c5, c6, c7, c8⟩ := qq.keep hbw
    have G1 := Lib.hid (g1.kids.keep hbw)
    have HTk : Hid ((kids.take (i + 1)).map (shK d) = (kids.take i).map (shK d) ++ [shK d c]) := Lib.hid (by rw [List.take_add_one, hc]; simp)
    have hcn : cntK c.kids ≤ 1000000000 := Nat.le_trans (cnt_mem hcm) HCn.out
    have HC := Lib.hid (fun W (hW : Below wr.heap.size wr W) => IH.out c hcm W L1 c.ow.a (c.ow.z + 1) _ (G1.out.keep hW) j6 (by omega) hcn)
    obtain ⟨ao, cpo, e1, _⟩ := G1.out.form
    subst e1
    unfold str at c1 c2
    have HBw := Lib.hid hbw
    obtain ⟨o, ho⟩ : ∃ o, c.ow = o := ⟨_, rfl⟩
    obtain ⟨kl, hkl⟩ : ∃ n, c.kids.length = n := ⟨_, rfl⟩
    have HOw : Hid ((shK d c).ow = { o with a := o.a + d, z := o.z + d }) := Lib.hid (by rw [shK_ow, ho])
    have HKd : Hid ((shK d c).kids = shKs d c.kids) := Lib.hid (shK_kids d c)
    have ja : o.a ≤ 1000000 := by rw [← ho]; omega
    have jz : o.z ≤ 1000000 := by rw [← ho]; omega
    rw [ho] at c0 c1 c2 c3' c4 c5 c6 c7
    rw [hkl] at c8 HC
    have HVB := Lib.hid HO.out.row.lt
    have HRow := Lib.hid (fun W (hW : Below wr.heap.size wr W) => owns_block HO.out.row fun k hk => hW.block k (HVB.out k hk).2)
    have HLc : Hid (l.length ≤ 1000000000) := Lib.hid (by rw [HLi.out]; omega)
    clear hcell hc hcm qq g1 G1 IH j1 j2 j3 j4 j5 j6 j7 hb' ho hkl
    obtain ⟨ok, os, ot, on, om, of', oa, oz⟩ := o
    dsimp only at c0 c1 c2 c3' c4 c5 c6 c7 HOw ja jz
    have hX := Box.new wr #[.int .i64 (ok : Int), .string ⟨os.toArray⟩, .string ⟨ot.toArray⟩, .int .i64 (on : Int), .int .i64 (om : Int), .bool of', .int .i64 ((oa : Int) + (d : Int)), .int .i64 ((oz : Int) + (d : Int)), .slice ao kl cpo] 73
    have HB2 : Hid (Below wr.heap.size wr (wr.alloc (.cells #[.int .i64 (ok : Int), .string ⟨os.toArray⟩, .string ⟨ot.toArray⟩, .int .i64 (on : Int), .int .i64 (om : Int), .bool of', .int .i64 ((oa : Int) + (d : Int)), .int .i64 ((oz : Int) + (d : Int)), .slice ao kl cpo] 73))) := Lib.hid ((Below.refl _ wr).alloc (Nat.le_refl _) _)
    obtain ⟨W2, hW2⟩ : ∃ W2, wr.alloc (.cells #[.int .i64 (ok : Int), .string ⟨os.toArray⟩, .string ⟨ot.toArray⟩, .int .i64 (on : Int), .int .i64 (om : Int), .bool of', .int .i64 ((oa : Int) + (d : Int)), .int .i64 ((oz : Int) + (d : Int)), .slice ao kl cpo] 73) = W2 := ⟨_, rfl⟩
    rw [hW2] at hX HB2
    have hsW : W2.heap.size = wr.heap.size + 1 := by rw [← hW2, World.size_alloc]
    have HC2 := Lib.hid (HC.out W2 HB2.out)
    have HX := Lib.hid hX
    have HW2 := Lib.hid hW2
    have HSz := Lib.hid hsW
    clear hX hW2 hsW HC
    go_wp2_with fail
    rw [HW2.out]
    refine HC2.out.mono ?_
    rintro e w3 ⟨u, rfl, hin3, hb3⟩
    obtain ⟨a2, cp2, rfl, _⟩ := hin3.form
    have hx3 := HX.out.keep hb3
    have x0 := hx3.cell 0 rfl
    have x1 := hx3.cell 1 rfl
    have x2 := hx3.cell 2 rfl
    have x3 := hx3.cell 3 rfl
    have x4 := hx3.cell 4 rfl
    have x5 := hx3.cell 5 rfl
    have x6 := hx3.cell 6 rfl
    have x7 := hx3.cell 7 rfl
    have x8 := hx3.cell 8 rfl
    have f8 := hx3.fr 8
    have HN8 : Hid (Below wr.heap.size wr (w3.setCell ⟨wr.heap.size, 8, none⟩ (.slice a2 (shKs d c.kids).length cp2))) := Lib.hid ((below_later HB2.out hb3).setCell (Nat.le_refl _) _)
    have HIN : Hid (InS (w3.setCell ⟨wr.heap.size, 8, none⟩ (.slice a2 (shKs d c.kids).length cp2)) (NotOf (.slice a3 i c3) w.heap.size) (shKs d c.kids) (.slice a2 (shKs d c.kids).length cp2)) := Lib.hid (hin3.carry
     (fun b off v (h : W2.heap.size ≤ b) _ => ⟨fun e => by have := (HVB.out b e).2; have := HSz.out; omega, by have := HBw.out.size; have := HSz.out; omega⟩)
     (fun b off v (h : W2.heap.size ≤ b) hq => (World.cell?_setCell_other _ _ _ _ (by intro e; have e2 : wr.heap.size = b := (by injection e); have := HSz.out; omega)).trans hq))
    have hz3 : wr.heap.size ≤ w3.heap.size := by have := hb3.size; have := HSz.out; omega
    have HZ3 := Lib.hid hz3
    have hs8 : (w3.setCell ⟨wr.heap.size, 8, none⟩ (.slice a2 (shKs d c.kids).length cp2)).heap.size = w3.heap.size := by simp
    have HS8 := Lib.hid hs8
    obtain ⟨W4, hW4⟩ : ∃ W4, w3.setCell ⟨wr.heap.size, 8, none⟩ (.slice a2 (shKs d c.kids).length cp2) = W4 := ⟨_, rfl⟩
    rw [hW4] at HN8 HIN HS8
    have HW4 := Lib.hid hW4
    have HR4 := Lib.hid ((HRow.out _ HN8.out).alloc (.cells #[.int .i64 (ok : Int), .string ⟨os.toArray⟩, .string ⟨ot.toArray⟩, .int .i64 (on : Int), .int .i64 (om : Int), .bool of', .int .i64 ((oa : Int) + (d : Int)), .int .i64 ((oz : Int) + (d : Int)), .slice a2 (shKs d c.kids).length cp2] 73))
    have hzw := HBw.out.size
    have HZw := Lib.hid hzw
    clear hin3 hb3 hx3 hs8 hW4 hz3 hzw
    go_wp2_with (at_builtin; (try rw [HW4.out]); refine wpList_append_lies _ rfl _ _ 35 rfl w.heap.size 73 iN (.agg (ar9 nilO (.slice none 0 0))) 9 104 Tryz.underlying35 hi hz0 hz1 hz2 rfl (by decide) (.slice a3 i c3) l.length (rowC l) rfl HR4.out ⟨W4.heap.size, 0, none⟩ 1 1 [.int .i64 (ok : Int), .string ⟨os.toArray⟩, .string ⟨ot.toArray⟩, .int .i64 (on : Int), .int .i64 (om : Int), .bool of', .int .i64 ((oa : Int) + (d : Int)), .int .i64 ((oz : Int) + (d : Int)), .slice a2 (shKs d c.kids).length cp2] (by rw [HS8.out]; rfl) rfl (World.news_of_block (heap_alloc_new W4 _)) (cells9_one ⟨ok, os, ot, on, om, of', oa + d, oz + d⟩ a2 _ cp2) (by decide) ?c3 ?c4 ?c5 _ rfl ?_)
    case c3 => have := HLc.out; unfold maxLen; omega
    case c4 => have := HLc.out; omega
    case c5 => have := HZ3.out; have := HZw.out; have := HS8.out; rw [World.size_alloc]; omega
    intro g' cap' w4 hown4 hgrow4 hat4 hlt4
    have hM := OwnT.more (w := w) (w1 := W4) (w2 := w4) (x := (shK d c, .slice a2 (shKs d c.kids).length cp2)) (Nat.le_refl _) (HO.out.keep HN8.out)
     (by show InS _ _ (shK d c).kids _; rw [HKd.out]; exact HIN.out)
     (below_later HBw.out HN8.out) (by rw [show ((shK d c, (.slice a2 (shKs d c.kids).length cp2)) : Blk × Value).1.ow = _ from HOw.out]; exact hown4) hgrow4
     (fun k e => by injection e with e; subst e; exact hat4.imp id (fun e => by show W4.heap.size ≤ g'; rw [e]; exact Nat.le_succ _))
    have HM2 := Lib.hid hM.1
    have HB4 := Lib.hid hM.2
    have HLL : Hid ((l ++ [(shK d c, Value.slice a2 (shKs d c.kids).length cp2)]).length = i + 1) := Lib.hid (by simp [HLi.out])
    clear hM hgrow4 hown4 hat4 hlt4 x0 x1 x2 x3 x4 x5 x6 x7 x8 f8
    go_wp2
    go_roundg G
    case rel => exact ⟨i + 1, l ++ [(shK d c, .slice a2 (shKs d c.kids).length cp2)], by omega, by go_num, Lib.hid (by rw [List.map_append, HM.out, HTk.out]; rfl), HLL.out, HM2, HB4.out⟩
    case measure => omega
end Bk
end Go.Proofs.YtkiipaaaakhhfaaGreatDoor
end
section
namespace Go.Proofs.YtkiipaaaakhhfaaGreatDoor
open Go Go.RowKit
namespace Bk
set_option maxRecDepth 100000
set_option linter.unusedVariables false
set_option linter.unusedSimpArgs false
theorem theirs_any (C : Nat → Prop) (l : List Blk) (w : World) (v : Value) (hi : InS w C l v) (h : cntK l ≤ 1000000000) :
  Calls Tryz.prog 19 #[v] w fun e w' => ∃ u, e = .returned u ∧ InS w' (fun g => w.heap.size ≤ g) l u ∧ Below w.heap.size w w' :=
 theirs_blk C (.mk 0 [] [] 0 0 false 0 0 l) w v hi h
theorem shift_any (C : Nat → Prop) (d : Nat) (hd : d ≤ 1000000) (l : List Blk) (w : World) (v : Value) (p n : Nat) (q : Bool) (hi : InS w C l v) (h : insL l p n q = true) (hn : n ≤ 1000000) (hc : cntK l ≤ 1000000000) :
  Calls Tryz.prog 24 #[v, .int .i64 (d : Int)] w fun e w' => ∃ u, e = .returned u ∧ InS w' (fun g => w.heap.size ≤ g) (shKs d l) u ∧ Below w.heap.size w w' :=
 shift_blk C d hd (.mk 0 [] [] 0 0 false 0 0 l) w v p n q hi h hn hc
end Bk
end Go.Proofs.YtkiipaaaakhhfaaGreatDoor
end
section
set_option linter.unusedVariables false
set_option linter.unusedSimpArgs false
set_option maxRecDepth 100000
namespace Go.Proofs.YtkiipaaaakhhfaaGreatDoor
namespace Bk
theorem star_rule : Sc.ruleP [42, 42, 42] = true ∧ (Sc.atxP [42, 42, 42]).1 = 0 ∧ (Sc.fenceP [42, 42, 42]).2.1 = 0 := by decide
end Bk
end Go.Proofs.YtkiipaaaakhhfaaGreatDoor
end
section
namespace Go.Proofs.YtkiipaaaakhhfaaGreatDoor
open Go Go.RowKit
namespace Tx
set_option maxRecDepth 100000
set_option linter.unusedVariables false
set_option linter.unusedSimpArgs false
def OwnL (w : World) (B : Nat) (v : Value) (L : List (List UInt8)) : Prop := w.ownsRow B 9 1 v L.length (L.map str)
theorem OwnL.ssl {w : World} {B : Nat} {v : Value} {L : List (List UInt8)} (h : OwnL w B v L) (hl : L.length ≤ 9223372036854775807) : SSl w v L := by
 unfold OwnL at h
 have h0 := h
 rcases h.2 with ⟨rfl, h1⟩ | ⟨g, cap, cur, rfl, _, hg, hn, _, hs, hc⟩
 ·have : L = [] := List.length_eq_zero_iff.1 h1
  subst this
  exact ⟨none, 0, rfl, hl, fun h => absurd rfl h⟩
 ·refine ⟨some ⟨g, 0, none⟩, cap, rfl, hl, fun _ => ⟨g, 0, rfl, fun i hi => ?_⟩⟩
  have := h0.cellAt i (by omega)
  rw [Nat.zero_add, this]
  simp [List.getElem?_eq_getElem hi]
end Tx
end Go.Proofs.YtkiipaaaakhhfaaGreatDoor
end
section
namespace Go.Proofs.YtkiipaaaakhhfaaGreatDoor
open Go Go.RowKit
namespace Sc
set_option maxRecDepth 100000
set_option linter.unusedVariables false
set_option linter.unusedSimpArgs false
theorem pre_none {l p : List UInt8} (h : sgn 60 l = none) : Lib.hasPrefix l (60 :: p) = false := by
 cases l with
 | nil => rfl
 | cons c t =>
  have hc : c ≠ 60 := by
   intro e
   rw [e, sgn_self] at h
   cases h
  unfold Lib.hasPrefix
  rw [List.isPrefixOf_cons_cons]
  have : (60 == c) = false := by rw [beq_eq_false_iff_ne]; exact Ne.symm hc
  rw [this]; rfl
theorem htmlS_none {l : List UInt8} (h : sgn 60 l = none) : htmlS l = 0 := by
 have h1 : verP l = false := by unfold verP; rw [h]
 have ht : tagName l = ([], l) := by unfold tagName; rw [h]
 have h2 : knownP l = false := by unfold knownP; rw [ht]; rfl
 have h3 : otherP l = false := by unfold otherP; rw [ht]; rfl
 have h4 : declP l = false := by unfold declP; rw [pre_none h]; rfl
 unfold htmlS
 rw [h1, pre_none h, pre_none h, h4, pre_none h, h2, h3]
 rfl
end Sc
end Go.Proofs.YtkiipaaaakhhfaaGreatDoor
end
section
namespace Go.Proofs.YtkiipaaaakhhfaaGreatDoor
namespace Bk
set_option maxRecDepth 100000
set_option linter.unusedVariables false
set_option linter.unusedSimpArgs false
theorem html_not {x : UInt8} (t : Str) (h : x ≠ 60) : Sc.htmlS (x :: t) = 0 := by
 refine Sc.htmlS_none ?_
 show (if x = 60 then some t else none) = none
 rw [if_neg h]
theorem ruleStar : RuleOk (XS defsZ) [42, 42, 42] := ⟨star_rule.2.1, star_rule.2.2, (html_not (x := 42) [42, 42] (by decide) : Sc.htmlS [42, 42, 42] = 0), star_rule.1⟩
end Bk
end Go.Proofs.YtkiipaaaakhhfaaGreatDoor
end
section
namespace Go.Proofs.YtkiipaaaakhhfaaGreatDoor
open Go Go.ChangeShapes Go.WideShapes Go.ChangeAt Go.RowKit
namespace Bk
set_option maxRecDepth 100000
theorem open_texts {H : Type} {enc : TypeId × Value → H} {W : World} {v : Value} {d : DataW H} {ps : List MemPlace} {r : Reach} {b0 : Nat} (hval : Value.okWide Tryz.prog W r b0 22 v)
  (h : DataW.Trod enc Tryz.prog W 0 (fun _ => true) true 22 v d ps) : ∃ L : List Str, SSl W v L := by
 obtain ⟨a0, len, cap, rfl⟩ := okWide_slice Tryz.underlying22 hval
 obtain ⟨fuel, hf⟩ := h
 rcases open_strings Tryz.underlying22 Tryz.underlying9 (by kernel_rfl) hf with ⟨hcs, hx⟩ | ⟨a, len', cap', ss, hcs, _, hl, hm, hz, hx, hcell, hws⟩
 ·simp [Value.cells] at hcs
  obtain ⟨rfl, rfl, rfl⟩ := hcs
  exact ⟨[], none, 0, rfl, Nat.zero_le _, fun hne => absurd rfl hne⟩
 ·simp [Value.cells] at hcs
  obtain ⟨rfl, rfl, rfl⟩ := hcs
  simp only [if_true] at hz
  have hlen : ((ss.take len).map (fun s => s.data.toList)).length = len := by simp; omega
  refine ⟨(ss.take len).map (fun s => s.data.toList), some a, cap, by rw [hlen], by rw [hlen]; omega, fun hne => ?_⟩
  have hpos : 0 < len := by rw [← hlen]; exact List.length_pos_iff.2 hne
  obtain ⟨b, off, spot⟩ := a
  have hspot : spot = none := by simpa [Addr.add] using World.cell?_spot (hcell 0 (by omega))
  subst hspot
  refine ⟨b, off, rfl, fun i hi => ?_⟩
  have hi2 : i < len := by rw [hlen] at hi; exact hi
  have hc := hcell i (by omega)
  rw [add_off] at hc
  rw [hc, List.getD, List.getElem?_eq_getElem (by omega)]
  simp [str]
end Bk
end Go.Proofs.YtkiipaaaakhhfaaGreatDoor
end
section
namespace Go.Proofs.YtkiipaaaakhhfaaGreatDoor
open Go Go.RowKit
namespace Bk
set_option maxRecDepth 100000
set_option linter.unusedVariables false
set_option linter.unusedSimpArgs false
theorem strInfo2 : (Tryz.prog.info? 9).map (fun i => (i.zero, i.size, i.bytes)) = some (some (.string ByteArray.empty), 1, 16) := by kernel_rfl
theorem wpList_append_lines {w : World} {ops : Array Oper} {rest : List Oper} {o : Oper} {a : Act} {Q : Exit → Act → World → Prop} (hgd : o.guard = none) (s x : Operand)
  (ho : o.op = .call { callee := .builtin .append, args := #[s, x], argTypes := #[22, 22] }) (B : Nat) (u v : Value) (L l : List Str) (hs : a.eval s = u) (hx : a.eval x = v)
  (hown : OwnS w B u L) (hl : SSl w v l) (hz : L.length + l.length ≤ 1000000) (hB : B ≤ w.heap.size)
  (h : ∀ u' w', OwnS w' B u' (L ++ l) → Below B w w' → wpList Tryz.prog ops Q rest (a.put o.dst u') w') : wpList Tryz.prog ops Q (o :: rest) a w := by
 obtain ⟨i0, hi, hz0, hz1, hz2⟩ := info_parts strInfo2
 obtain ⟨ao, cap, rfl, hlm, hk⟩ := hl
 cases ao with
 | none =>
  have hl0 : l = [] := by
   cases l with
   | nil => rfl
   | cons y r => obtain ⟨b, off, e, _⟩ := hk (by simp); cases e
  subst hl0
  have hu : ∃ g c, u = .slice g L.length c ∧ L.length ≤ c := by
   rcases hown.2 with ⟨rfl, e⟩ | ⟨g, c, cur, rfl, _, _, hle, _⟩
   ·exact ⟨none, 0, by rw [e], by rw [e]; exact Nat.le_refl 0⟩
   ·exact ⟨_, c, rfl, hle⟩
  obtain ⟨g, c, rfl, hle⟩ := hu
  refine wpList_plain hgd fun K hK => ?_
  have hr := run_append_nothing (P := Tryz.prog) w 22 22 o.type 9 i0 (show Tryz.prog.underlying 22 = some (.slice 9) from rfl) hi g L.length c hle _ (Src.ofNil (w := w) (show Tryz.prog.underlying 22 = some (.slice 9) from rfl) cap)
  unfold Oper.wp execOp
  simp only [ho, resolve, invoke, builtin, Sem.run_bind, Sem.run_pure, Result.andThen_ok, List.map_toArray, List.map_cons, List.map_nil, hs, hx, List.length_nil, hr]
  exact hK _ _ (h _ _ (by rw [List.append_nil]; exact hown) (Below.refl _ _))
 | some ad =>
  refine wpList_append_own w hgd s x 22 ho B 9 i0 (.string ByteArray.empty) 1 16 rfl hi hz0 hz1 hz2 rfl (by decide) u L.length (L.map str) hs hown ad l.length cap (l.map str) hx (by simp) ?_ ?_ (by unfold maxLen; omega) (by omega) hB ?_
  ·intro j y hy
   rw [List.getElem?_map] at hy
   obtain ⟨r, hr, rfl⟩ := Option.map_eq_some_iff.1 hy
   obtain ⟨hj, rfl⟩ := List.getElem?_eq_some_iff.1 hr
   obtain ⟨b, off, e, hc⟩ := hk (fun e => by rw [e] at hj; exact absurd hj (Nat.not_lt_zero _))
   injection e with e
   subst e
   rw [add_off]
   exact hc j hj
  ·intro y hy
   obtain ⟨r, _, rfl⟩ := List.mem_map.1 hy
   rfl
  ·intro v' w' h1 h2 _
   refine h v' w' ?_ ((Below.refl _ w).grown h2 hB (fun k hk => (hown.lt k hk).1))
   unfold OwnS
   rw [List.length_append, List.map_append]
   exact h1
end Bk
end Go.Proofs.YtkiipaaaakhhfaaGreatDoor
end
section
namespace Go.Proofs.YtkiipaaaakhhfaaGreatDoor
open Go Go.RowKit
namespace Bk
set_option maxRecDepth 100000
set_option linter.unusedVariables false
set_option linter.unusedSimpArgs false
theorem shKs_len (d : Nat) (l : List Blk) : (shKs d l).length = l.length := by rw [shKs_map, List.length_map]
theorem InS.any' {w : World} {C : Nat → Prop} {l : List Blk} {v : Value} (h : InS w C l v) : InS w (fun _ => True) l v := h.carry (fun _ _ _ _ _ => trivial) fun _ _ _ _ h => h
theorem InS.split {w : World} {C : Nat → Prop} {b : Blk} {l : List Blk} {v : Value} (h : InS w C (b :: l) v) : ∃ bb off cp L, v = .slice (some ⟨bb, off, none⟩) (l.length + 1) cp ∧ Cells9 w bb off b.ow L ∧ ∀ c, InS w C l (.slice (some ⟨bb, off + 9, none⟩) l.length c) := by
 obtain ⟨a, cap, rfl, hm, h | ⟨bb, off, rfl, hC, hc⟩⟩ := h
 ·cases h
 ·obtain ⟨L, q, _⟩ := hc.get (i := 0) rfl
  rw [Nat.zero_mul, Nat.add_zero] at q
  refine ⟨bb, off, cap, L, rfl, q, fun c => ⟨_, c, rfl, by rw [List.length_cons] at hm; omega, .inr ⟨bb, off + 9, rfl, hC, InK.mk fun i t ht => ?_⟩⟩⟩
  obtain ⟨L2, q2, g2⟩ := hc.get (i := i + 1) (t := t) (by simpa using ht)
  exact ⟨L2, by rw [show off + 9 + i * 9 = off + (i + 1) * 9 by omega]; exact q2, g2⟩
set_option maxHeartbeats 8000000 in
theorem apart_law {ρ : Type} {X : Scan ρ} (w : World) (P : Prog11 w X) (hRu : RuleOk X [42, 42, 42]) (v : Value) (l : List Str) (m : Int) (hl : SSl w v l) :
  Calls Tryz.prog 10 #[v, .int .i64 m] w fun e w' => e = .returned (.bool true) ∧ Below w.heap.size w w' := by
 have HA := Lib.hid (P.awake)
 have HF := Lib.hid (fun W (hW : Below w.heap.size w W) => few_any l v W (hl.keep hW))
 have HP := Lib.hid (fun W (hW : Below w.heap.size w W) (hf : FewS l) => P.parse W hW v l m (hl.keep hW) hf.fit)
 have HL := Lib.hid (fun W (hW : Below w.heap.size w W) => hl.keep hW)
 have HPq := Lib.hid (fun W u (hW : Below w.heap.size w W) (hu : SSl W u ([42, 42, 42] :: [] :: l)) (hf : FewS l) => P.parse W hW u _ m hu ⟨by simp only [List.length_cons]; have := hf.1; omega, fun s hs => by
  rcases List.mem_cons.1 hs with rfl | hs
  ·decide
  ·rcases List.mem_cons.1 hs with rfl | hs
   ·decide
   ·have := hf.2 s hs; omega⟩)
 obtain ⟨ao, cap, e0, hlm, _⟩ := hl
 subst e0
 obtain ⟨N, hN⟩ : ∃ N, l.length = N := ⟨_, rfl⟩
 rw [hN] at hlm HF HP HL ⊢
 have HN := Lib.hid hN
 clear hN
 unfold maxLen at hlm
 go_enter Tryz.func10, Tryz.ntmps10
 go_wp2_with fail
 refine HA.out.mono ?_
 rintro e w1 ⟨rfl, hb1⟩
 go_wp2_with fail
 refine (HF.out w1 hb1).mono ?_
 rintro e w2 ⟨he, rfl⟩
 rcases he with rfl | ⟨rfl, hf⟩
 ·go_wp2
  go_ret
  exact ⟨rfl, hb1⟩
 have HFw := Lib.hid hf
 have HPl := Lib.hid (HP.out w1 hb1 hf)
 have HB1 := Lib.hid hb1
 have HI := Lib.hid (Bk.inside X P.none (P.foot m) l)
 have HQ := Lib.hid (Bk.behind_rule X (P.foot m) l (c := 42) (t := [42, 42]) (by decide) (by decide) hRu)
 clear hf hb1
 go_wp2_with fail
 refine HPl.out.mono ?_
 rintro e w2 ⟨ua, ra, rfl, hin, hcn, hr, hb2, _⟩
 obtain ⟨aa, ca, rfl, _⟩ := hin.form
 obtain ⟨ar, cr, rfl⟩ := P.formR hr
 have HIa := Lib.hid hin
 have HCa := Lib.hid hcn
 have HB2 := Lib.hid hb2
 have HL2 := Lib.hid (HL.out w2 (below_later HB1.out hb2))
 clear hin hcn hr hb2
 have hsz2 : w2.heap.size ≤ w2.heap.size + 1 := Nat.le_succ _
 go_wp2_with (at_builtin; refine wpList_append_lines rfl _ _ rfl w2.heap.size (.slice (some ⟨w2.heap.size, 0, none⟩) 2 2) (.slice ao N cap) [[42, 42, 42], []] l rfl rfl ?c1 ?c2 ?c3 ?c4 ?_)
 case c1 => exact ⟨rfl, .inr ⟨w2.heap.size, 2, _, rfl, Nat.le_refl _, heap_alloc_new w2 _, Nat.le_refl _, by decide, rfl, rfl⟩⟩
 case c2 => exact HL2.out.keep ((Below.refl _ w2).alloc (Nat.le_refl _) _)
 case c3 => have := HFw.out.1; simp only [List.length_cons, List.length_nil]; omega
 case c4 => rw [World.size_alloc]; exact Nat.le_succ _
 intro u' w3 hown hb3
 have HPQ := Lib.hid (HPq.out w3 u' (below_later HB1.out (below_later HB2.out (((Below.refl _ w2).alloc (Nat.le_refl _) _).trans hb3))) hown.ssl HFw.out)
 rw [HQ.out] at HPQ
 have HB3 := Lib.hid (((Below.refl _ w2).alloc (Nat.le_refl _) _).trans hb3)
 obtain ⟨a3, c3, rfl, _, _⟩ := hown.form (by simp)
 obtain ⟨n3, hn3⟩ : ∃ n3, ([42, 42, 42] :: [] :: l : List Str).length = n3 := ⟨_, rfl⟩
 dsimp only [List.append_eq, List.cons_append, List.nil_append] at *
 rw [hn3] at HPQ ⊢
 clear hown hb3 hn3
 go_wp2_with fail
 refine HPQ.out.mono ?_
 rintro e w4 ⟨ub, rb, rfl, hin, hcn, hr, hb4, hroom⟩
 have HX4 := Lib.hid (below_later HB1.out (below_later HB2.out (below_later HB3.out hb4)))
 obtain ⟨bb, off2, cb, L, rfl, hq, htl⟩ := hin.split
 rw [shKs_len] at htl
 rw [shKs_len]
 obtain ⟨br, cbr, rfl⟩ := P.formR hr
 obtain ⟨d0, _, _, _, _, _, _, _, _⟩ := hq
 have c0 : w4.cell? ⟨bb, off2, none⟩ = some (.int .i64 9) := d0
 have HCb : Hid (cntK (shKs 2 (parse X (P.foot m) l).1) ≤ 1000000000) := Lib.hid (by have := hcn; rw [cntK_cons] at this; omega)
 have HIa4 := Lib.hid (HIa.out.keep (below_later HB3.out hb4))
 have HTa := Lib.hid (fun W (hW : Below w4.heap.size w4 W) => theirs_any _ _ W _ (HIa4.out.keep hW) HCa.out)
 have HTb := Lib.hid (fun W c (hW : Below w4.heap.size w4 W) => theirs_any _ _ W _ ((htl c).keep hW) HCb.out)
 have HSh := Lib.hid (fun W u (hu : InS W (fun _ => True) (parse X (P.foot m) l).1 u) => shift_any _ 2 (by decide) _ W u _ _ _ hu HI.out (Nat.le_trans HFw.out.1 (by decide)) HCa.out)
 have HSm := Lib.hid (fun W u u2 (hu : InS W (fun _ => True) (shKs 2 (parse X (P.foot m) l).1) u) (hu2 : InS W (fun _ => True) (shKs 2 (parse X (P.foot m) l).1) u2) => rsame_any _ _ W u u2 hu hu2)
 obtain ⟨n, hn⟩ : ∃ n, (parse X (P.foot m) l).1.length = n := ⟨_, rfl⟩
 have hnl : n ≤ 1000000000 := by rw [← hn]; exact Nat.le_trans (cnt_len _) HCa.out
 rw [hn] at HTa HTb ⊢
 clear hin hcn hr d0 htl
 have hcb : n + 1 ≤ cb ∧ cb ≤ 2 ^ 63 - 1 := by
  obtain ⟨_, _, _, e, h1, h2⟩ := hroom
  injection e with e1 e2 e3
  subst e3
  rw [← hn, ← shKs_len 2, e2]
  exact ⟨h1, h2⟩
 have h01 : (1 : Int) ≤ (n : Int) + 1 := by omega
 have hc1 : (n : Int) + 1 ≤ (cb : Int) := by omega
 have hc2 : (cb : Int) ≤ 9223372036854775807 := by omega
 have hcut : (n : Int) + 1 - 1 = (n : Int) := by omega
 clear hroom
 have hp0 : n = 0 → shKs 2 (parse X (P.foot m) l).1 = [] := fun e => List.length_eq_zero_iff.1 (by rw [shKs_len, hn, e])
 clear hn
 generalize (parse X (P.foot m) l).1 = pa at *
 generalize (parse X (P.foot m) l).2 = da at *
 clear HQ HPQ HI HPq HP HPl HIa HIa4 HCa
 rcases (show (cb = 1 ∧ n = 0) ∨ 1 < cb by omega) with ⟨rfl, rfl⟩ | hcb2
 ·have HTb := Lib.hid (fun W (c : Nat) (hW : Below w4.heap.size w4 W) => theirs_any (fun _ => True) (shKs 2 pa) W (.slice (some ⟨bb, off2, none⟩) 0 0) (by rw [hp0 rfl]; exact ⟨_, 0, rfl, by decide, .inl rfl⟩) HCb.out)
  clear HCb hp0
  go_wp2_with fail
  go_region_held3 (fun _ => True) (trivial) (first
   | (go_at_call 19; have hB6' := hB6; refine (HTb.out _ 0 hB6').mono ?_; rintro e w7 ⟨u7, rfl, hin7, hb7⟩; obtain ⟨a7, c7, rfl, _⟩ := hin7.form; have hT7 := hin7.any'; have hT67 := hT6.keep hb7)
   | (go_at_call 19; refine (HTa.out _ (by first | exact (Below.refl _ _).drew | exact Below.refl _ _)).mono ?_; rintro e w5 ⟨u5, rfl, hin5, hb5⟩; obtain ⟨a5, c5, rfl, _⟩ := hin5.form; have hB5 := below_later ((Below.refl _ w4).drew) hb5; have hT5 := hin5.any')
   | (go_at_call 24; refine (HSh.out w5 _ hT5).mono ?_; rintro e w6 ⟨u6, rfl, hin6, hb6⟩; obtain ⟨a6, c6, rfl, _⟩ := hin6.form; have hB6 := below_later hB5 hb6; have hT6 := hin6.any')
   | (go_at_call 22; refine (HSm.out _ _ _ hT67 hT7).mono ?_; rintro e w8 ⟨rfl, hb8⟩))
  all_goals
   (try refine NoPanic.normal ?_)
   go_wp2
   go_ret
   exact ⟨rfl, below_later (below_later (below_later HX4.out hB6') hb7) hb8⟩
 ·have hcb3 : (1 : Int) < (cb : Int) := by omega
  go_wp2_with fail
  go_region_held3 (fun _ => True) (trivial) (first
   | (go_at_call 19; have hB6' := hB6; refine (HTb.out _ _ hB6').mono ?_; rintro e w7 ⟨u7, rfl, hin7, hb7⟩; obtain ⟨a7, c7, rfl, _⟩ := hin7.form; have hT7 := hin7.any'; have hT67 := hT6.keep hb7)
   | (go_at_call 19; refine (HTa.out _ (by first | exact (Below.refl _ _).drew | exact Below.refl _ _)).mono ?_; rintro e w5 ⟨u5, rfl, hin5, hb5⟩; obtain ⟨a5, c5, rfl, _⟩ := hin5.form; have hB5 := below_later ((Below.refl _ w4).drew) hb5; have hT5 := hin5.any')
   | (go_at_call 24; refine (HSh.out w5 _ hT5).mono ?_; rintro e w6 ⟨u6, rfl, hin6, hb6⟩; obtain ⟨a6, c6, rfl, _⟩ := hin6.form; have hB6 := below_later hB5 hb6; have hT6 := hin6.any')
   | (go_at_call 22; refine (HSm.out _ _ _ hT67 hT7).mono ?_; rintro e w8 ⟨rfl, hb8⟩))
  all_goals
   (try refine NoPanic.normal ?_)
   go_wp2
   go_ret
   exact ⟨rfl, below_later (below_later (below_later HX4.out hB6') hb7) hb8⟩
end Bk
end Go.Proofs.YtkiipaaaakhhfaaGreatDoor
end
