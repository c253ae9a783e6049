import Derived.Test.YtkiipaaaakhhfaaGreatDoorCBk1
import Derived.Test.YtkiipaaaakhhfaaGreatDoorProg
import Derived.WalkKit
import Derived.BigCall
import Derived.BigQuiet
import Derived.Below
import Derived.WideShapes
import Derived.Deep.LoopGhost
import Derived.OwnWalk
import Derived.Lib.Hide
import Derived.RegionTactic
import Derived.Laws.ResultCell
import Derived.Laws.Rows
import Derived.Test.YtkiipaaaakhhfaaGreatDoorCBk2
import Derived.Deep.Upon
import Derived.Maps.AppendAt
import Derived.Deep.QuietTactic
import Derived.Deep.CutBlock
import Derived.Test.YtkiipaaaakhhfaaGreatDoorCBkL1
import Derived.Lib.Bytealg
import Derived.Laws.DeepStrings4
import Derived.Deep.AppendLies
import Derived.Deep.DrawnRows
import Derived.Deep.RegionHeld3
import Derived.Test.YtkiipaaaakhhfaaGreatDoorCBk3
import Derived.Laws.AppendOwn
import Derived.Test.YtkiipaaaakhhfaaGreatDoorCText1
import Derived.Test.YtkiipaaaakhhfaaGreatDoorCBk13
import Derived.Test.YtkiipaaaakhhfaaGreatDoorCKit1
import Derived.Test.YtkiipaaaakhhfaaGreatDoorCRf2
import Derived.SliceStrings
import Derived.Lib.LaidU8
section
set_option linter.unusedVariables false
set_option linter.unusedSimpArgs false
set_option maxRecDepth 100000
namespace Go.Proofs.YtkiipaaaakhhfaaGreatDoor
namespace Bk
mutual
theorem shB_zero : ∀ b : B, shB 0 b = b
 | .mk k s t n m f x ls a z kids => by rw [shB, shBs_zero kids]; rfl
theorem shBs_zero : ∀ l : List B, shBs 0 l = l
 | [] => by rw [shBs_nil]
 | b :: l => by rw [shBs_cons, shB_zero b, shBs_zero l]
end
theorem shBs_empty (d : Nat) (l : List B) : (shBs d l).isEmpty = l.isEmpty := by cases l <;> simp [shBs]
variable (E : Env)
variable {E : Env} {i : Nat}
variable {L L' : Ln}
section
variable {ρ : Type} (X : Scan ρ)
theorem takes_sim (h : Sim E i L L') : (takes X (i + E.d) L').1 = (takes X i L).1 ∧ Sim E i (takes X i L).2 (takes X (i + E.d) L').2 := by
 unfold takes
 have hu := h.us
 have hl := h.leaf
 cases hus : L.us with
 | cons f fs =>
  rw [hus] at hu
  rw [hu]
  exact ⟨rfl, h⟩
 | nil =>
  rw [hus] at hu
  rw [hu]
  cases hlf : L.leaf with
  | none =>
   rw [hlf] at hl
   rw [hl]
   exact ⟨rfl, h⟩
  | some l =>
   rw [hlf] at hl
   rw [hl]
   simp only [Option.map_some, List.map_nil, h.r.ind, h.r.aft]
   show _ ∧ _
   by_cases h1 : l.k = 5 ∧ l.fen = true
   ·rw [if_pos h1, if_pos (show (shL E.d l).k = 5 ∧ (shL E.d l).fen = true from h1)]
    by_cases h2 : L.r.ind < 4 ∧ X.closes L.r.aft l.c l.cnt = true
    ·rw [if_pos h2, if_pos (show L.r.ind < 4 ∧ X.closes L.r.aft (shL E.d l).c (shL E.d l).cnt = true from h2)]
     refine ⟨rfl, ?_⟩
     have h5 : Sim E i ⟨L.ms, [], some { l with z := i }, L.r⟩ ⟨L'.ms, [], some { shL E.d l with z := i + E.d }, L'.r⟩ := ⟨h.ms, rfl, rfl, h.r⟩
     exact h5.shut
    ·rw [if_neg h2, if_neg (show ¬ (L.r.ind < 4 ∧ X.closes L.r.aft (shL E.d l).c (shL E.d l).cnt = true) from h2)]
     refine ⟨rfl, ?_⟩
     show Sim E i (L.add i (L.r.skip l.need).s) (L'.add (i + E.d) (L'.r.skip l.need).s)
     rw [(h.r.skip l.need).s]
     exact h.add _
   ·rw [if_neg h1, if_neg (show ¬ ((shL E.d l).k = 5 ∧ (shL E.d l).fen = true) from h1)]
    by_cases h2 : l.k = 6
    ·rw [if_pos h2, if_pos (show (shL E.d l).k = 6 from h2)]
     rw [h.r.s]
     by_cases h3 : X.ends L.r.s l.n = true
     ·rw [if_pos h3, if_pos (show X.ends L.r.s (shL E.d l).n = true from h3)]
      by_cases h4 : blank L.r.s = true
      ·rw [if_pos h4, if_pos h4]
       exact ⟨rfl, h.shut⟩
      ·rw [if_neg h4, if_neg h4]
       exact ⟨rfl, (h.add _).shut⟩
     ·rw [if_neg h3, if_neg (show ¬ X.ends L.r.s (shL E.d l).n = true from h3)]
      exact ⟨rfl, h.add _⟩
    ·rw [if_neg h2, if_neg (show ¬ (shL E.d l).k = 6 from h2)]
     exact ⟨rfl, h⟩
theorem indented_sim (h : Sim E i L L') : Sim E i (indented i L) (indented (i + E.d) L') := by
 unfold indented
 rw [h.bare, (h.r.skip 4).s]
 by_cases hb : bare L = true
 ·rw [if_pos hb, if_pos hb]; exact h.add _
 ·rw [if_neg hb, if_neg hb]; exact (h.open _).add _
theorem setRest_sim (h : Sim E i L L') : setRest X L' = setRest X L := by
 unfold setRest
 rw [h.leaf]
 cases L.leaf <;> rfl
def OptS (R : Ln → Ln → Prop) (o o' : Option Ln) : Prop := match o, o' with
 | none, none => True
 | some a, some a' => R a a'
 | _, _ => False
theorem leaves_sim (h : Sim E i L L') : OptS (Sim E i) (leaves X i L) (leaves X (i + E.d) L') := by
 unfold leaves
 rw [h.r.aft, h.goes, h.r.s, h.r.ind, setRest_sim X h, h.leaf]
 by_cases h1 : 0 < (X.atx L.r.aft).1
 ·rw [if_pos h1, if_pos h1]
  exact h.lay (by rw [shB, shBs_nil])
 rw [if_neg h1, if_neg h1]
 by_cases h2 : 0 < (X.fence L.r.aft).2.1
 ·rw [if_pos h2, if_pos h2]
  exact h.open _
 rw [if_neg h2, if_neg h2]
 by_cases h3 : 0 < X.html L.r.aft ∧ ¬ (X.html L.r.aft = 7 ∧ L.goes = true)
 ·rw [if_pos h3, if_pos h3]
  by_cases h4 : X.ends L.r.s (X.html L.r.aft) = true
  ·rw [if_pos h4, if_pos h4]
   exact h.lay (by rw [shB, shBs_nil])
  ·rw [if_neg h4, if_neg h4]
   exact h.open _
 rw [if_neg h3, if_neg h3]
 by_cases h5 : 0 < X.setx L.r.aft ∧ L.us = [] ∧ L.goes = true ∧ setRest X L = true
 ·rw [if_pos h5, if_pos ⟨h5.1, h.empty.2 h5.2.1, h5.2.2.1, h5.2.2.2⟩]
  cases hl : L.leaf with
  | none => exact trivial
  | some l =>
   simp only [Option.map_some]
   refine ⟨?_, h.us, rfl, h.r⟩
   have := h.ms.onLast [.mk 8 [] [] (X.setx L.r.aft) 0 false true l.ls l.a i []]
   rw [shBs_cons, shBs_nil, shB, shBs_nil] at this
   exact this
 have h5' : ¬ (0 < X.setx L.r.aft ∧ L'.us = [] ∧ L.goes = true ∧ setRest X L = true) := fun e => h5 ⟨e.1, h.empty.1 e.2.1, e.2.2.1, e.2.2.2⟩
 rw [if_neg h5, if_neg h5']
 by_cases h6 : X.rule L.r.aft = true
 ·rw [if_pos h6, if_pos h6]
  exact h.lay (by rw [shB, shBs_nil])
 ·rw [if_neg h6, if_neg h6]
  exact trivial
theorem note_sim (foot : Bool) (h : Sim E i L L') : OptS (Sim E i) (note foot i L) (note foot (i + E.d) L') := by
 unfold note
 rw [h.r.aft, h.goes]
 by_cases h1 : foot = false ∨ L.goes = true ∨ (labelP L.r.aft).2 = 0
 ·rw [if_pos h1, if_pos h1]; exact trivial
 ·rw [if_neg h1, if_neg h1, (h.r.past _).ind]
  exact Sim.contain (h.rest ((h.r.past _).skip _)) _ _
theorem width_sim (h : Sim E i L L') (m : Nat) : width L' m = width L m := by
 unfold width
 rw [h.r.wide, h.r.aft]
theorem item_sim (h : Sim E i L L') : OptS (Sim E i) (item X i L) (item X (i + E.d) L') := by
 unfold item
 rw [h.r.aft, h.goes, h.r.ind]
 simp only []
 by_cases h1 : (sign X L.r.aft).2.2 = 0
 ·rw [if_pos h1, if_pos h1]; exact trivial
 rw [if_neg h1, if_neg h1]
 by_cases h2 : L.us = [] ∧ L.goes = true ∧ (blank (L.r.aft.drop (sign X L.r.aft).2.2) = true ∨ (isOrd (sign X L.r.aft).2.1 = true ∧ (sign X L.r.aft).1 ≠ 1))
 ·rw [if_pos h2, if_pos ⟨h.empty.2 h2.1, h2.2⟩]; exact trivial
 have h2' : ¬ (L'.us = [] ∧ L.goes = true ∧ (blank (L.r.aft.drop (sign X L.r.aft).2.2) = true ∨ (isOrd (sign X L.r.aft).2.1 = true ∧ (sign X L.r.aft).1 ≠ 1))) := fun e => h2 ⟨h.empty.1 e.1, e.2⟩
 rw [if_neg h2, if_neg h2']
 rw [width_sim h, h.ms.lastIs]
 have h3 : Sim E i { L with r := (L.r.past (sign X L.r.aft).2.2).skip (width L (sign X L.r.aft).2.2) } { L' with r := (L'.r.past (sign X L.r.aft).2.2).skip (width L (sign X L.r.aft).2.2) } := h.rest ((h.r.past _).skip _)
 by_cases h4 : lastIs (sign X L.r.aft).2.1.toNat L.ms = true
 ·rw [if_pos h4, if_pos h4]
  exact h3.contain _ _
 ·rw [if_neg h4, if_neg h4]
  exact (h3.contain _ _).contain _ _
theorem begins_sim (foot : Bool) : ∀ (n : Nat) (L L' : Ln), Sim E i L L' → (begins X foot (i + E.d) n L').1 = (begins X foot i n L).1 ∧ Sim E i (begins X foot i n L).2 (begins X foot (i + E.d) n L').2
 | 0, L, L', h => ⟨rfl, h⟩
 | n + 1, L, L', h => by
  rw [begins, begins]
  rw [h.r.s, h.r.ind, h.goes, h.r.aft]
  by_cases h1 : blank L.r.s = true
  ·rw [if_pos h1, if_pos h1]; exact ⟨rfl, h⟩
  rw [if_neg h1, if_neg h1]
  by_cases h2 : 4 ≤ L.r.ind
  ·rw [if_pos h2, if_pos h2]
   by_cases h3 : L.goes = true
   ·rw [if_pos h3, if_pos h3]; exact ⟨rfl, h⟩
   ·rw [if_neg h3, if_neg h3]; exact ⟨rfl, indented_sim h⟩
  rw [if_neg h2, if_neg h2]
  by_cases h4 : L.r.aft.head? = some 62
  ·rw [if_pos h4, if_pos h4]
   exact begins_sim foot n _ _ (Sim.contain (h.rest ((h.r.past 1).skip 1)) _ _)
  rw [if_neg h4, if_neg h4]
  have hl := leaves_sim X h
  cases hA : leaves X i L with
  | some L1 =>
   cases hB : leaves X (i + E.d) L' with
   | none => rw [hA, hB] at hl; exact hl.elim
   | some L2 => rw [hA, hB] at hl; exact ⟨rfl, hl⟩
  | none =>
   cases hB : leaves X (i + E.d) L' with
   | some L2 => rw [hA, hB] at hl; exact hl.elim
   | none =>
    simp only []
    have hn := note_sim foot h
    cases hC : note foot i L with
    | some L1 =>
     cases hD : note foot (i + E.d) L' with
     | none => rw [hC, hD] at hn; exact hn.elim
     | some L2 => rw [hC, hD] at hn; exact begins_sim foot n _ _ hn
    | none =>
     cases hD : note foot (i + E.d) L' with
     | some L2 => rw [hC, hD] at hn; exact hn.elim
     | none =>
      simp only []
      have hi := item_sim X h
      cases hE : item X i L with
      | some L1 =>
       cases hF : item X (i + E.d) L' with
       | none => rw [hE, hF] at hi; exact hi.elim
       | some L2 => rw [hE, hF] at hi; exact begins_sim foot n _ _ hi
      | none =>
       cases hF : item X (i + E.d) L' with
       | some L2 => rw [hE, hF] at hi; exact hi.elim
       | none => exact ⟨rfl, h⟩
theorem text_sim (h : Sim E i L L') : Sim E i (text i L) (text (i + E.d) L') := by
 unfold text
 rw [h.r.s, h.bare, h.goes]
 by_cases h1 : blank L.r.s = true
 ·rw [if_pos h1, if_pos h1]
  by_cases h2 : bare L = true
  ·rw [if_pos h2, if_pos h2, (h.r.skip 4).s]; exact h.add _
  ·rw [if_neg h2, if_neg h2]; exact h.shut
 rw [if_neg h1, if_neg h1]
 by_cases h5 : L.goes = true
 ·rw [if_pos h5, if_pos h5]; exact h.add _
 ·rw [if_neg h5, if_neg h5]; exact (h.open _).add _
theorem rest_sim (foot : Bool) (h : Sim E i L L') : Sim E i (rest X foot i L) (rest X foot (i + E.d) L') := by
 obtain ⟨h1, h2⟩ := takes_sim X h
 unfold rest
 simp only []
 rw [h1]
 cases ht : (takes X i L).1 with
 | true => rw [if_pos rfl, if_pos rfl]; exact h2
 | false =>
  rw [if_neg Bool.false_ne_true, if_neg Bool.false_ne_true]
  rw [h2.r.s]
  obtain ⟨h5, h6⟩ := begins_sim X foot (nb (takes X i L).2.r.s + 1) _ _ h2
  rw [h5]
  cases hq : (begins X foot i (nb (takes X i L).2.r.s + 1) (takes X i L).2).1 with
  | true => rw [if_pos rfl, if_pos rfl]; exact h6
  | false => rw [if_neg Bool.false_ne_true, if_neg Bool.false_ne_true]; exact text_sim h6
end
theorem hasKid_sh (d : Nat) (f : Fr) (fs : List Fr) (leaf : Option Lf) : hasKid (shF d f) (fs.map (shF d)) (leaf.map (shL d)) = hasKid f fs leaf := by
 unfold hasKid shF
 rw [shBs_empty, List.isEmpty_map, Option.isSome_map]
theorem meet1_sh (d : Nat) (f : Fr) (has : Bool) {r r' : Rest} (hr : RR r r') : (meet1 f has r = none ∧ meet1 (shF d f) has r' = none) ∨ ∃ q q', meet1 f has r = some q ∧ meet1 (shF d f) has r' = some q' ∧ RR q q' := by
 unfold meet1
 rw [hr.ind, hr.aft, hr.s]
 simp only [show (shF d f).k = f.k from rfl, show (shF d f).need = f.need from rfl]
 by_cases h1 : f.k = 3
 ·rw [if_pos h1, if_pos h1]; exact .inr ⟨_, _, rfl, rfl, hr⟩
 rw [if_neg h1, if_neg h1]
 by_cases h2 : f.k = 2
 ·rw [if_pos h2, if_pos h2]
  by_cases h3 : 4 ≤ r.ind
  ·rw [if_pos h3, if_pos h3]; exact .inl ⟨rfl, rfl⟩
  rw [if_neg h3, if_neg h3]
  by_cases h4 : r.aft.head? = some 62
  ·rw [if_pos h4, if_pos h4]; exact .inr ⟨_, _, rfl, rfl, (hr.past 1).skip 1⟩
  ·rw [if_neg h4, if_neg h4]; exact .inl ⟨rfl, rfl⟩
 rw [if_neg h2, if_neg h2]
 by_cases h5 : f.k = 4 ∧ blank r.s = true ∧ has = false
 ·rw [if_pos h5, if_pos h5]; exact .inl ⟨rfl, rfl⟩
 rw [if_neg h5, if_neg h5]
 by_cases h6 : r.ind < (if f.k = 4 then f.need else 4) ∧ blank r.s = false
 ·rw [if_pos h6, if_pos h6]; exact .inl ⟨rfl, rfl⟩
 rw [if_neg h6, if_neg h6]
 exact .inr ⟨_, _, rfl, rfl, hr.skip _⟩
theorem met_sh (i d : Nat) (f : Fr) : met (i + d) (shF d f) = shF d (met i f) := by
 unfold met
 rw [show (shF d f).k = f.k from rfl]
 split <;> rfl
theorem meets_sh (d : Nat) (i : Nat) (leaf : Option Lf) : ∀ (fs : List Fr) (r r' : Rest), RR r r' →
  (meets (i + d) (leaf.map (shL d)) (fs.map (shF d)) r').1 = (meets i leaf fs r).1.map (shF d) ∧ (meets (i + d) (leaf.map (shL d)) (fs.map (shF d)) r').2.1 = (meets i leaf fs r).2.1.map (shF d) ∧
  RR (meets i leaf fs r).2.2 (meets (i + d) (leaf.map (shL d)) (fs.map (shF d)) r').2.2
 | [], r, r', h => ⟨rfl, rfl, h⟩
 | f :: fs, r, r', h => by
  rw [List.map_cons, meets, meets, hasKid_sh]
  rcases meet1_sh d f (hasKid f fs leaf) h with ⟨h1, h2⟩ | ⟨q, q', h1, h2, h3⟩
  ·rw [h1, h2]; exact ⟨rfl, rfl, h⟩
  ·rw [h1, h2]
   obtain ⟨a1, a2, a3⟩ := meets_sh d i leaf fs q q' h3
   simp only []
   refine ⟨?_, a2, a3⟩
   rw [a1, List.map_cons, ← met_sh]
end Bk
end Go.Proofs.YtkiipaaaakhhfaaGreatDoor
end
section
set_option linter.unusedVariables false
set_option linter.unusedSimpArgs false
set_option maxRecDepth 100000
namespace Go.Proofs.YtkiipaaaakhhfaaGreatDoor
namespace Bk
section
variable {ρ : Type} (X : Scan ρ)
theorem tail_sim {E : Env} {i : Nat} {L L' : Ln} (foot : Bool) (n : Nat) (h : Sim E i L L') : Sim E i (tail X foot i n L) (tail X foot (i + E.d) n L') := by
 obtain ⟨h5, h6⟩ := begins_sim X foot n _ _ h
 unfold tail
 rw [h5]
 cases hq : (begins X foot i n L).1 with
 | true => rw [if_pos rfl, if_pos rfl]; exact h6
 | false => rw [if_neg Bool.false_ne_true, if_neg Bool.false_ne_true]; exact text_sim h6
theorem clr_k {f g : Fr} (h : clr f = clr g) : f.k = g.k ∧ f.kids = g.kids ∧ f.a = g.a ∧ f.n = g.n ∧ f.m = g.m ∧ f.s = g.s ∧ f.need = g.need :=
 ⟨congrArg (fun f => f.k) h, congrArg (fun f => f.kids) h, congrArg (fun f => f.a) h, congrArg (fun f => f.n) h, congrArg (fun f => f.m) h, congrArg (fun f => f.s) h, congrArg (fun f => f.need) h⟩
theorem clrK_k {f g : Fr} (h : clrK f = clrK g) : f.k = g.k ∧ f.a = g.a ∧ f.n = g.n ∧ f.m = g.m ∧ f.s = g.s ∧ f.need = g.need :=
 ⟨congrArg (fun f => f.k) h, congrArg (fun f => f.a) h, congrArg (fun f => f.n) h, congrArg (fun f => f.m) h, congrArg (fun f => f.s) h, congrArg (fun f => f.need) h⟩
def EQ : Env := ⟨0, [], [docF], { nilF with k := 2 }, true, by decide⟩
def qt (x : Str) : Str := 62 :: 32 :: x
theorem quote_ind (x : Str) : (⟨qt x, 0⟩ : Rest).ind = 0 := rfl
theorem quote_aft (x : Str) : (⟨qt x, 0⟩ : Rest).aft = qt x := rfl
theorem quote_rest (x : Str) : ((⟨qt x, 0⟩ : Rest).past 1).skip 1 = ⟨x, 2⟩ := by
 show (⟨(Cl.skp (32 :: x) 1 1).1, (Cl.skp (32 :: x) 1 1).2⟩ : Rest) = _
 rw [Cl.skp]
 rfl
theorem one_ctx {c : Fr} {l : List Fr} (h : l.map clr = [clr c]) : ∃ c', l = [c'] ∧ clr c' = clr c := by
 match l with
 | [] => cases h
 | [a] => exact ⟨a, rfl, by injection h⟩
 | a :: b :: t => injection h with _ h; cases h
theorem quote_line (foot : Bool) {i j : Nat} {st st' : St} {x : Str} (h : SS EQ j st st') (hx : NT x) : SS EQ i (line X foot i st x) (line X foot i st' (qt x)) := by
 obtain ⟨⟨b, b', fs, ctx', h1, h2, hb, hc⟩, hl⟩ := h
 obtain ⟨c', rfl, hc'⟩ := one_ctx hc
 obtain ⟨f0, leaf⟩ := st
 obtain ⟨f1, leaf'⟩ := st'
 dsimp only at h1 h2 hl
 subst h1 h2 hl
 have hk : b'.k = 2 := (clrK_k hb.2.2.1).1
 show SS EQ i (line X foot i ⟨b :: fs, leaf⟩ x) (line X foot i ⟨c' :: b' :: fs.map (shF 0), leaf.map (shL 0)⟩ (qt x))
 rw [line_cons, line_cons]
 refine (rest_sim X foot ?_).st
 obtain ⟨a1, a2, a3⟩ := meets_sh 0 i leaf fs ⟨x, 0⟩ ⟨x, 2⟩ (.inr ⟨rfl, hx⟩)
 have hm : meet1 b' (hasKid b' (fs.map (shF 0)) (leaf.map (shL 0))) ⟨qt x, 0⟩ = some ⟨x, 2⟩ := by
  unfold meet1
  rw [if_neg (by rw [hk]; decide), if_pos hk, quote_ind, quote_aft, if_neg (by decide), if_pos (show (qt x).head? = some 62 from rfl), quote_rest]
 have hms : meets i (leaf.map (shL 0)) (b' :: fs.map (shF 0)) ⟨qt x, 0⟩ = (met i b' :: (meets i (leaf.map (shL 0)) (fs.map (shF 0)) ⟨x, 2⟩).1, (meets i (leaf.map (shL 0)) (fs.map (shF 0)) ⟨x, 2⟩).2.1, (meets i (leaf.map (shL 0)) (fs.map (shF 0)) ⟨x, 2⟩).2.2) := by
  rw [meets, hm]
 unfold lineL
 rw [hms]
 refine ⟨?_, a2, rfl, a3⟩
 refine ⟨_, met i b', _, [c'], rfl, ?_, ?_, ?_⟩
 ·rw [show (EQ).d = 0 from rfl, ← a1]; rfl
 ·have e : met i b' = touch i b' := by unfold met; rw [if_pos hk]
  rw [e]
  exact ⟨hb.1, hb.2.1, hb.2.2.1, fun _ => rfl⟩
 ·show [clr c'] = [clr docF]
  rw [hc']
theorem doc_first (foot : Bool) (i : Nat) (s : Str) : line X foot i doc0 s = (tail X foot i (nb s + 1) { ms := [docF], us := [], leaf := none, r := ⟨s, 0⟩ }).st := by
 show (rest X foot i (lineL i docF [] none ⟨s, 0⟩)).st = _
 rw [rest_none X foot i (by rfl)]
 rfl
theorem tail_again (foot : Bool) (i n : Nat) {L L1 : Ln} (h : begins X foot i (n + 1) L = begins X foot i n L1) : tail X foot i (n + 1) L = tail X foot i n L1 := by
 unfold tail
 rw [h]
theorem quote_first (foot : Bool) {x : Str} (hx : NT x) : SS EQ 0 (line X foot 0 doc0 x) (line X foot 0 doc0 (qt x)) := by
 rw [doc_first, doc_first]
 have hn : nb (qt x) + 1 = (nb x + 1) + 1 := by
  unfold qt
  rw [nb_cons, nb_cons]
  rfl
 have hq : begins X foot 0 (nb x + 1 + 1) { ms := [docF], us := [], leaf := none, r := ⟨qt x, 0⟩ } = begins X foot 0 (nb x + 1) (Ln.contain 0 { nilF with k := 2 } false { ms := [docF], us := [], leaf := none, r := ⟨x, 2⟩ }) := by
  rw [begins]
  rw [if_neg (by rw [show ({ ms := [docF], us := [], leaf := none, r := ⟨qt x, 0⟩ } : Ln).r.s = qt x from rfl]; unfold qt; rw [blank_cons]; exact fun e => by cases e)]
  rw [if_neg (by rw [show ({ ms := [docF], us := [], leaf := none, r := ⟨qt x, 0⟩ } : Ln).r.ind = 0 from rfl]; decide), if_pos (show ({ ms := [docF], us := [], leaf := none, r := ⟨qt x, 0⟩ } : Ln).r.aft.head? = some 62 from rfl)]
  rw [show ({ ms := [docF], us := [], leaf := none, r := ⟨qt x, 0⟩ } : Ln).r = ⟨qt x, 0⟩ from rfl, quote_rest]
 rw [hn, tail_again X foot 0 _ hq]
 have hS : Sim EQ 0 { ms := [docF], us := [], leaf := none, r := ⟨x, 0⟩ } (Ln.contain 0 { nilF with k := 2 } false { ms := [docF], us := [], leaf := none, r := ⟨x, 2⟩ }) :=
  ⟨⟨docF, { nilF with k := 2 }, [], [docF], rfl, rfl, ⟨rfl, by decide, rfl, fun _ => rfl⟩, rfl⟩, rfl, rfl, .inr ⟨rfl, hx⟩⟩
 exact (tail_sim X foot (nb x + 1) hS).st
theorem quote_go (foot : Bool) : ∀ (l : List Str) (i j : Nat) (st st' : St), SS EQ j st st' → (∀ x ∈ l, NT x) → ∃ j', SS EQ j' (go X foot i st l) (go X foot i st' (l.map qt)) ∧ (l = [] → j' = j) ∧ (l ≠ [] → j' + 1 = i + l.length)
 | [], i, j, st, st', h, _ => ⟨j, h, fun _ => rfl, fun e => absurd rfl e⟩
 | x :: l, i, j, st, st', h, hl => by
  obtain ⟨j', h1, h2, h3⟩ := quote_go foot l (i + 1) i _ _ (quote_line X foot (i := i) h (hl x List.mem_cons_self)) (fun y hy => hl y (List.mem_cons_of_mem _ hy))
  refine ⟨j', h1, fun e => (by cases e), fun _ => ?_⟩
  rw [List.length_cons]
  by_cases he : l = []
  ·have := h2 he; rw [he, List.length_nil]; omega
  ·have := h3 he; omega
theorem doc_kids {E : Env} {j : Nat} {st st' : St} (h : SS E j st st') : ∃ b' ctx', st'.fs = ctx' ++ b' :: (st.fs.drop 1).map (shF E.d) ∧ ctx'.map clr = E.ctx.map clr ∧ clrK b' = clrK E.b0 ∧ (E.zc = true → b'.z = j + E.d) ∧ b'.kids ++ shut ((st.fs.drop 1).map (shF E.d)) st'.leaf = E.K0 ++ shBs E.d st.kids := by
 obtain ⟨⟨b, b', fs, ctx', h1, h2, hb, hc⟩, hl⟩ := h
 refine ⟨b', ctx', ?_, hc, hb.2.2.1, hb.2.2.2, ?_⟩
 ·rw [h1]; exact h2
 ·unfold St.kids
  rw [h1, hl]
  show b'.kids ++ shut (fs.map (shF E.d)) (st.leaf.map (shL E.d)) = E.K0 ++ shBs E.d (b.kids ++ shut fs st.leaf)
  rw [hb.1, shut_sh, shBs_app, List.append_assoc]
theorem out_box {k : Nat} {s : Str} {n m a z : Nat} {kids : List B} (h : k = 2 ∨ k = 3 ∨ k = 4 ∨ k = 13) : out X (.mk k s [] n m false false [] a z kids) = [.mk k s [] n m (k == 3 && tight kids) a (zL kids z) (outL X kids)] := by
 rw [out]
 have : goneB X k [] = false := by rcases h with rfl | rfl | rfl | rfl <;> rfl
 rw [this, if_neg Bool.false_ne_true]
 have : sOf X k s false false [] = s := by rcases h with rfl | rfl | rfl | rfl <;> rfl
 rw [this]
theorem defs_box {k : Nat} {s : Str} {n m a z : Nat} {kids : List B} (h : k = 2 ∨ k = 3 ∨ k = 4 ∨ k = 13) : defsO X (.mk k s [] n m false false [] a z kids) = defsL X kids := by
 rw [defsO]
 have : defsB X k false [] = [] := by rcases h with rfl | rfl | rfl | rfl <;> rfl
 rw [this]; rfl
theorem quotes0 (foot : Bool) (l : List Str) (hl : l ≠ []) (hn : ∀ x ∈ l, NT x) : parse X foot (l.map qt) = ([.mk 2 [] [] 0 0 false 0 (zL (go X foot 0 doc0 l).kids (l.length - 1)) (parse X foot l).1], (parse X foot l).2) := by
 match l, hl with
 | x :: l, _ =>
  obtain ⟨j', h1, h2, h3⟩ := quote_go X foot l 1 0 _ _ (quote_first X foot (hn x List.mem_cons_self)) (fun y hy => hn y (List.mem_cons_of_mem _ hy))
  have hj : j' = (x :: l).length - 1 := by
   rw [List.length_cons]
   by_cases he : l = []
   ·rw [h2 he, he]; rfl
   ·have := h3 he; omega
  have hs : SS EQ j' (go X foot 0 doc0 (x :: l)) (go X foot 0 doc0 ((x :: l).map qt)) := h1
  obtain ⟨b', ctx', e1, e2, e3, e4, e5⟩ := doc_kids hs
  obtain ⟨c', rfl, hc'⟩ := one_ctx e2
  obtain ⟨k1, k2, k3, k4, k5, k6⟩ := clrK_k e3
  have hz := e4 rfl
  have hk : (go X foot 0 doc0 ((x :: l).map qt)).kids = [.mk 2 [] [] 0 0 false false [] 0 j' (go X foot 0 doc0 (x :: l)).kids] := by
   unfold St.kids at e5 ⊢
   rw [e1]
   show c'.kids ++ shut (b' :: _) _ = _
   rw [(clr_k hc').2.1, shut]
   show [b'.b _] = _
   unfold Fr.b
   rw [e5, k1, k2, k3, k4, k5, hz]
   rw [show EQ.K0 = [] from rfl, show EQ.d = 0 from rfl, shBs_zero]
   rfl
  unfold parse
  rw [hk, outL_cons, outL_nil, defsL_cons, defsL_nil, out_box X (.inl rfl), defs_box X (.inl rfl), hj]
  rw [List.append_nil, List.append_nil]
  rfl
end
end Bk
end Go.Proofs.YtkiipaaaakhhfaaGreatDoor
end
section
set_option linter.unusedVariables false
set_option linter.unusedSimpArgs false
set_option maxRecDepth 100000
namespace Go.Proofs.YtkiipaaaakhhfaaGreatDoor
namespace Bk
section
variable {ρ : Type} (X : Scan ρ)
def ruleB (i : Nat) : B := .mk 9 [] [] 0 0 false false [] i i []
def headB (n : Nat) (h : Str) (i : Nat) : B := .mk 8 (Cl.rgt h) [] n 0 false false [] i i []
end
end Bk
end Go.Proofs.YtkiipaaaakhhfaaGreatDoor
end
section
set_option linter.unusedVariables false
set_option linter.unusedSimpArgs false
set_option maxRecDepth 100000
namespace Go.Proofs.YtkiipaaaakhhfaaGreatDoor
namespace Bk
variable {i : Nat} {L : Ln}
section
variable {ρ : Type} (X : Scan ρ)
theorem in_indented (h : InL i L) : InL i (indented i L) := by
 unfold indented
 split
 ·exact in_add h _
 ·exact in_add (in_open h _ (.inl rfl)) _
theorem in_leaves {L1 : Ln} (h : InL i L) (e : leaves X i L = some L1) : InL i L1 := by
 unfold leaves at e
 split at e
 ·cases e; exact in_lay h _ ⟨8, _, _, _, _, _, _, _, rfl, by decide, by decide⟩
 ·split at e
  ·cases e; exact in_open h _ (.inl rfl)
  ·split at e
   ·split at e
    ·cases e; exact in_lay h _ ⟨6, _, _, _, _, _, _, _, rfl, by decide, by decide⟩
    ·cases e; exact in_open h _ (.inr (.inl rfl))
   ·split at e
    ·rename_i hc
     split at e
     ·cases e
     ·rename_i l hl
      cases e
      have h1 := h.1
      rw [hl, hc.2.1, List.append_nil] at h1
      refine ⟨?_, fun e => h.2 ((onLast_ne _ _).1 e)⟩
      show wPath (onLast (grow [.mk 8 [] [] (X.setx L.r.aft) 0 false true l.ls l.a i []]) L.ms ++ L.us) none 0 (i + 1) 0
      rw [hc.2.1, List.append_nil]
      have key : ∀ {ms : List Fr} {a p : Nat}, ms ≠ [] → wPath ms (some l) a (i + 1) p → wPath (onLast (grow [.mk 8 [] [] (X.setx L.r.aft) 0 false true l.ls l.a i []]) ms) none a (i + 1) p := by
       intro ms
       induction ms with
       | nil => intro a p e; exact absurd rfl e
       | cons f ms ih =>
        intro a p _ h
        obtain ⟨k1, k2, k3, k4, k5, k6⟩ := h
        rw [onLast_cons]
        by_cases hm : ms = []
        ·subst hm
         rw [if_pos rfl]
         refine ⟨k1, k2, k3, k4, (wAll_app _ _ _ _ _).2 ⟨k5, ?_⟩, trivial⟩
         obtain ⟨j1, j2, j3, j4, j5, j6⟩ := k6
         rw [wAll_cons, wOne_mk]
         exact ⟨⟨j4, by omega, by omega, j1, .inr ⟨by decide, by decide, j2, rfl⟩, wAll_nil _ _ _⟩, wAll_nil _ _ _⟩
        ·rw [if_neg hm]
         exact ⟨k1, k2, k3, k4, k5, ih hm k6⟩
      exact key h.2 h1
    ·split at e
     ·cases e; exact in_lay h _ ⟨9, _, _, _, _, _, _, _, rfl, by decide, by decide⟩
     ·cases e
theorem in_note {L1 : Ln} (foot : Bool) (h : InL i L) (e : note foot i L = some L1) : InL i L1 := by
 unfold note at e
 split at e
 ·cases e
 ·cases e
  exact in_contain (in_rest h _) _ false (by unfold okc; simp) (fun e => by cases e)
theorem in_begins (foot : Bool) : ∀ (n : Nat) (L : Ln), InL i L → InL i (begins X foot i n L).2
 | 0, L, h => h
 | n + 1, L, h => by
  rw [begins]
  split
  ·exact h
  split
  ·split
   ·exact h
   ·exact in_indented h
  split
  ·exact in_begins foot n _ (in_contain (in_rest h _) _ false (by unfold okc; simp) (fun e => by cases e))
  split
  ·rename_i L1 e; exact in_leaves X h e
  split
  ·rename_i L1 e; exact in_begins foot n _ (in_note foot h e)
  split
  ·rename_i L1 e; exact in_begins foot n _ (in_item X h e)
  ·exact h
theorem in_text (h : InL i L) : InL i (text i L) := by
 unfold text
 split
 ·split
  ·exact in_add h _
  ·exact in_shut h
 ·split
  ·exact in_add h _
  ·exact in_add (in_open h _ (.inr (.inr rfl))) _
theorem in_rest_all (foot : Bool) (h : InL i L) : InL i (rest X foot i L) := by
 unfold rest
 simp only []
 split
 ·exact in_takes X h
 ·split
  ·exact in_begins X foot _ _ (in_takes X h)
  ·exact in_text (in_begins X foot _ _ (in_takes X h))
theorem in_line (foot : Bool) {st : St} {n : Nat} (h : wPath st.fs st.leaf 0 n 0) (hn : n ≤ i + 1) (hne : st.fs ≠ []) (s : Str) : wPath (line X foot i st s).fs (line X foot i st s).leaf 0 (i + 1) 0 ∧ (line X foot i st s).fs ≠ [] := by
 obtain ⟨f0, leaf⟩ := st
 have h := wPath_mono hn h
 cases f0 with
 | nil => exact absurd rfl hne
 | cons b fs =>
  rw [line_cons]
  have hL : InL i (lineL i b fs leaf ⟨s, 0⟩) := by
   refine ⟨?_, by unfold lineL; simp⟩
   obtain ⟨h1, h2, h3, h4, h5, h6⟩ := h
   have ih := in_meets (i := i) leaf leaf (r := ⟨s, 0⟩) h6
   exact ⟨h1, h2, h3, h4, h5, ih⟩
  have := in_rest_all X foot hL
  exact ⟨this.1, by show _ ++ _ ≠ []; intro e; exact this.2 (List.append_eq_nil_iff.1 e).1⟩
theorem in_go (foot : Bool) : ∀ (l : List Str) (i n : Nat) (st : St), wPath st.fs st.leaf 0 n 0 → n ≤ i + 1 → st.fs ≠ [] → wPath (go X foot i st l).fs (go X foot i st l).leaf 0 (if l = [] then n else i + l.length) 0 ∧ (go X foot i st l).fs ≠ []
 | [], i, n, st, h, hn, hne => by rw [if_pos rfl]; exact ⟨h, hne⟩
 | s :: l, i, n, st, h, hn, hne => by
  obtain ⟨h1, h2⟩ := in_line X foot (i := i) h hn hne s
  obtain ⟨h3, h4⟩ := in_go foot l (i + 1) (i + 1) _ h1 (by omega) h2
  refine ⟨?_, h4⟩
  rw [if_neg (by simp)]
  refine wPath_mono ?_ h3
  rw [List.length_cons]
  split <;> omega
mutual
theorem zB_ge : ∀ (b : B) (acc : Nat), acc ≤ zB b acc
 | .mk k s t n m fen stx ls a z kids, acc => by
  rw [zB_mk]
  split
  ·exact Nat.le_refl _
  ·exact Nat.le_trans (Nat.le_max_left _ _) (zL_ge kids _)
theorem zL_ge : ∀ (l : List B) (acc : Nat), acc ≤ zL l acc
 | [], acc => by rw [zL_nil]; exact Nat.le_refl _
 | b :: l, acc => by rw [zL_cons]; exact Nat.le_trans (zB_ge b acc) (zL_ge l _)
end
mutual
theorem zB_lt : ∀ {b : B} {a n p : Nat}, wOne b a n p → ∀ {acc : Nat}, acc < n → zB b acc < n
 | .mk k s t m1 m2 fen stx ls a0 z kids, a, n, p, h, acc, hacc => by
  rw [wOne_mk] at h
  rw [zB_mk]
  split
  ·exact hacc
  ·exact zL_lt h.2.2.2.2.2 (by have := h.2.2.1; omega)
theorem zL_lt : ∀ {l : List B} {a n p : Nat}, wAll l a n p → ∀ {acc : Nat}, acc < n → zL l acc < n
 | [], a, n, p, h, acc, hacc => by rw [zL_nil]; exact hacc
 | b :: l, a, n, p, h, acc, hacc => by
  rw [wAll_cons] at h
  rw [zL_cons]
  exact zL_lt h.2 (zB_lt h.1 hacc)
end
theorem go_w (foot : Bool) {l : List Str} (hl : l ≠ []) : wAll (go X foot 0 doc0 l).kids 0 l.length 1 := by
 obtain ⟨h1, h2⟩ := in_go X foot l 0 1 doc0 ⟨.inl ⟨rfl, rfl⟩, Nat.le_refl _, Nat.le_refl _, by decide, wAll_nil _ _ _, trivial⟩ (by omega) (by decide)
 rw [if_neg hl, Nat.zero_add] at h1
 cases hf : (go X foot 0 doc0 l).fs with
 | nil => exact absurd hf h2
 | cons b fs =>
  rw [hf] at h1
  obtain ⟨k1, k2, k3, k4, k5, k6⟩ := h1
  have hk : b.k = 1 := by unfold okc at k1; omega
  unfold St.kids
  rw [hf]
  rw [hk] at k5 k6
  have := (wAll_app _ _ _ _ _).2 ⟨k5, w_shut k6 (by decide)⟩
  have at0 : ∀ {l : List B} {a n p : Nat}, wAll l a n p → wAll l 0 n p := fun {l} {a n p} h => by
   cases l with
   | nil => exact wAll_nil _ _ _
   | cons b l =>
    rw [wAll_cons] at h ⊢
    refine ⟨?_, h.2⟩
    cases b
    have := h.1
    rw [wOne_mk] at this ⊢
    exact ⟨Nat.zero_le _, this.2⟩
  exact at0 this
theorem quotes (foot : Bool) (l : List Str) (hl : l ≠ []) (hn : ∀ x ∈ l, NT x) : parse X foot (l.map qt) = ([.mk 2 [] [] 0 0 false 0 (l.length - 1) (parse X foot l).1], (parse X foot l).2) := by
 have hw := go_w X foot hl
 have hp := List.length_pos_iff.2 hl
 have h1 := zL_lt hw (show l.length - 1 < l.length by omega)
 have h2 := zL_ge (go X foot 0 doc0 l).kids (l.length - 1)
 rw [quotes0 X foot l hl hn, show zL (go X foot 0 doc0 l).kids (l.length - 1) = l.length - 1 by omega]
end
end Bk
end Go.Proofs.YtkiipaaaakhhfaaGreatDoor
end
section
set_option linter.unusedVariables false
set_option linter.unusedSimpArgs false
set_option maxRecDepth 100000
namespace Go.Proofs.YtkiipaaaakhhfaaGreatDoor
namespace Bk
section
variable {ρ : Type} (X : Scan ρ)
def rb (j : Nat) : B := if j % 3 = 1 then headB 2 [97] j else ruleB j
end
end Bk
end Go.Proofs.YtkiipaaaakhhfaaGreatDoor
end
section
namespace Go.Proofs.YtkiipaaaakhhfaaGreatDoor
open Go Go.RowKit
namespace Bk
set_option maxRecDepth 100000
set_option linter.unusedVariables false
set_option linter.unusedSimpArgs false
theorem cnt_len : ∀ l : List Blk, l.length ≤ cntK l
 | [] => Nat.zero_le _
 | b :: l => by rw [cntK_cons, cntB_eq, List.length_cons]; have := cnt_len l; omega
theorem cnt_mem : ∀ {l : List Blk} {b : Blk}, b ∈ l → cntK b.kids ≤ cntK l
 | x :: l, b, h => by
  rw [cntK_cons]
  rcases List.mem_cons.1 h with rfl | h
  ·rw [cntB_eq]; omega
  ·have := cnt_mem h; omega
theorem OwnS.ssl {w : World} {B : Nat} {v : Value} {L : List Str} (h : OwnS w B v L) : SSl w v L := by
 unfold OwnS at h
 have h0 := h
 rcases h.2 with ⟨rfl, h1⟩ | ⟨g, cap, cur, rfl, _, hg, hn, hm, hs, hc⟩
 ·have : L = [] := List.length_eq_zero_iff.1 h1
  subst this
  exact ⟨none, 0, rfl, by decide, fun h => absurd rfl h⟩
 ·refine ⟨some ⟨g, 0, none⟩, cap, rfl, Nat.le_trans hn hm, fun _ => ⟨g, 0, rfl, fun i hi => ?_⟩⟩
  have := h0.cellAt i (by omega)
  rw [Nat.zero_add, this]
  simp [List.getElem?_eq_getElem hi]
end Bk
end Go.Proofs.YtkiipaaaakhhfaaGreatDoor
end
section
namespace Go.Proofs.YtkiipaaaakhhfaaGreatDoor
open Go Go.RowKit
namespace Bk
set_option maxRecDepth 100000
set_option linter.unusedVariables false
set_option linter.unusedSimpArgs false
set_option maxHeartbeats 4000000 in
theorem few_any (l : List Str) (v : Value) (w : World) (h : SSl w v l) :
  Calls Tryz.prog 12 #[v] w fun e w' => (e = .returned (.bool false) ∨ (e = .returned (.bool true) ∧ FewS l)) ∧ w = w' := by
 obtain ⟨a, cap, rfl, hlm, hk⟩ := h
 unfold maxLen at hlm
 have HK := Lib.hid hk
 clear hk
 obtain ⟨n, hn⟩ : ∃ n, l.length = n := ⟨_, rfl⟩
 rw [hn] at hlm ⊢
 have HN := Lib.hid hn
 clear hn
 by_cases h40 : (40 : Int) < (n : Int)
 ·go_enter Tryz.func12, Tryz.ntmps12
  go_wp2
  go_ret
  exact ⟨.inl rfl, rfl⟩
 go_enter Tryz.func12, Tryz.ntmps12
 go_wp2
 go_loopg [3] n (fun G s3 wr => ∃ i : Nat, i + G = n ∧ s3 = .int .i64 (i : Int) ∧ Hid (∀ j s, j < i → l[j]? = some s → s.length ≤ 80) ∧ w = wr)
 case atStart => exact ⟨0, by omega, rfl, Lib.hid (fun j s hj => by omega), rfl⟩
 case round =>
  obtain ⟨i, hig, rfl, HA, rfl⟩ := hrel
  cases gk with
  | zero =>
   have hlt : ¬ (i : Int) < (n : Int) := by omega
   have hin : i = n := by omega
   have HV : Hid (FewS l) := Lib.hid ⟨by rw [HN.out]; omega, fun s hs => by
    obtain ⟨j, hj⟩ := List.mem_iff_getElem?.1 hs
    have := (List.getElem?_eq_some_iff.1 hj).1
    exact HA.out j s (by rw [hin, ← HN.out]; exact this) hj⟩
   clear hin
   go_wp2
   go_ret
   exact ⟨.inr ⟨rfl, HV.out⟩, rfl⟩
  | succ G =>
   have hlt : (i : Int) < (n : Int) := by omega
   have hil : i < l.length := by have := HN.out; omega
   obtain ⟨s, hs⟩ : ∃ s, l[i] = s := ⟨_, rfl⟩
   have HS : Hid (l[i]? = some s) := Lib.hid (by rw [List.getElem?_eq_getElem hil, hs])
   obtain ⟨b, off, rfl, hcell⟩ := HK.out (fun e => by rw [e] at hil; exact absurd hil (Nat.not_lt_zero _))
   have q0 := hcell i hil
   rw [hs] at q0
   unfold str at q0
   obtain ⟨S, hS⟩ : ∃ S : ByteArray, ⟨s.toArray⟩ = S := ⟨_, rfl⟩
   have HZ : Hid (S.size = s.length) := Lib.hid (by rw [← hS]; rfl)
   rw [hS] at q0
   clear hcell hs hS hil
   by_cases hbig : (80 : Int) < (S.size : Int)
   ·go_wp2
    go_ret
    exact ⟨.inl rfl, rfl⟩
   ·have HA2 : Hid (∀ j r, j < i + 1 → l[j]? = some r → r.length ≤ 80) := Lib.hid (fun j r hj hr => by
     rcases Nat.lt_or_ge j i with h | h
     ·exact HA.out j r h hr
     ·have : j = i := by omega
      subst this
      have := HS.out
      rw [hr] at this
      injection this with this
      subst this
      have := HZ.out
      omega)
    go_wp2
    go_roundg G
    case rel => exact ⟨i + 1, by omega, by go_num, HA2, rfl⟩
    case measure => omega
set_option maxHeartbeats 16000000 in
theorem rsame_blk (C : Nat → Prop) (b : Blk) : ∀ (w : World) (v v' : Value), InS w C b.kids v → InS w C b.kids v' →
  Calls Tryz.prog 22 #[v, v'] w fun e w' => e = .returned (.bool true) ∧ Below w.heap.size w w' := by
 induction b using Blk.ind with
 | h k s t n m f a z kids ih =>
  intro w v v' hin hin'
  have hin : InS w C kids v := hin
  have hin' : InS w C kids v' := hin'
  obtain ⟨a1, cap, rfl, hlm, hk⟩ := hin
  obtain ⟨a1', cap', rfl, _, hk'⟩ := hin'
  unfold maxLen at hlm
  have HK := Lib.hid hk
  have HK' := Lib.hid hk'
  have IH := Lib.hid ih
  clear hk hk' ih
  obtain ⟨N, hN⟩ : ∃ N, kids.length = N := ⟨_, rfl⟩
  rw [hN] at hlm ⊢
  have HN := Lib.hid hN
  clear hN
  go_enter Tryz.func22, Tryz.ntmps22
  go_wp2
  go_loopg [5] N (fun G s5 wr => ∃ i : Nat, i + G = N ∧ s5 = .int .i64 (i : Int) ∧ Below w.heap.size w wr)
  case atStart => exact ⟨0, by omega, rfl, Below.refl _ _⟩
  case round =>
   obtain ⟨i, hig, rfl, hbw⟩ := hrel
   cases gk with
   | zero =>
    have hlt : ¬ (i : Int) < (N : Int) := by omega
    go_wp2
    go_ret
    exact ⟨rfl, hbw⟩
   | succ G =>
    have hlt : (i : Int) < (N : Int) := by omega
    obtain ⟨c, hc⟩ : ∃ c, kids[i]? = some c := ⟨_, List.getElem?_eq_getElem (by have := HN.out; omega)⟩
    rcases HK.out with rfl | ⟨bb, off, rfl, _, hcell⟩
    ·simp at hc
    rcases HK'.out with rfl | ⟨bb', off', rfl, _, hcell'⟩
    ·simp at hc
    obtain ⟨L1, q, g1⟩ := hcell.get hc
    obtain ⟨L2, q', g2⟩ := hcell'.get hc
    obtain ⟨c0, c1, c2, c3, c4, c5, c6, c7, c8⟩ := q.keep hbw
    have G1 := Lib.hid (g1.kids.keep hbw)
    have G2 := Lib.hid (g2.kids.keep hbw)
    have HC := Lib.hid (fun W (hW : Below wr.heap.size wr W) => IH.out c (List.mem_of_getElem? hc) W L1 L2 (G1.out.keep hW) (G2.out.keep hW))
    obtain ⟨ao, cpo, e1, _⟩ := G1.out.form
    obtain ⟨ao', cpo', e2, _⟩ := G2.out.form
    subst e1 e2
    obtain ⟨d0, d1, d2, d3, d4, d5, d6, d7, d8⟩ := (q'.keep hbw).keep ((Below.refl _ wr).alloc (Nat.le_refl _) (.cells (ar9 c.ow (.slice ao c.kids.length cpo)) 73))
    unfold str at c1 c2 d1 d2
    have HBw := Lib.hid hbw
    have hX := (Box.new wr (ar9 c.ow (.slice ao c.kids.length cpo)) 73).alloc (.cells (ar9 c.ow (.slice ao' c.kids.length cpo')) 73)
    have hY := Box.new (wr.alloc (.cells (ar9 c.ow (.slice ao c.kids.length cpo)) 73)) (ar9 c.ow (.slice ao' c.kids.length cpo')) 73
    have HB2 : Hid (Below wr.heap.size wr ((wr.alloc (.cells (ar9 c.ow (.slice ao c.kids.length cpo)) 73)).alloc (.cells (ar9 c.ow (.slice ao' c.kids.length cpo')) 73))) := Lib.hid (((Below.refl _ wr).alloc (Nat.le_refl _) _).alloc (by simp) _)
    rw [World.size_alloc] at hY
    have x0 := hX.cell 0 rfl
    have x1 := hX.cell 1 rfl
    have x2 := hX.cell 2 rfl
    have x3 := hX.cell 3 rfl
    have x4 := hX.cell 4 rfl
    have x5 := hX.cell 5 rfl
    have x6 := hX.cell 6 rfl
    have x7 := hX.cell 7 rfl
    have x8 := hX.cell 8 rfl
    have y0 := hY.cell 0 rfl
    have y1 := hY.cell 1 rfl
    have y2 := hY.cell 2 rfl
    have y3 := hY.cell 3 rfl
    have y4 := hY.cell 4 rfl
    have y5 := hY.cell 5 rfl
    have y6 := hY.cell 6 rfl
    have y7 := hY.cell 7 rfl
    have y8 := hY.cell 8 rfl
    unfold ar9 at HB2 d0 d1 d2 d3 d4 d5 d6 d7 d8 x0 x1 x2 x3 x4 x5 x6 x7 x8 y0 y1 y2 y3 y4 y5 y6 y7 y8
    clear hcell hcell' hc q q' g1 g2 G1 G2 hX hY hbw IH
    generalize c.ow = o at *
    generalize c.kids.length = kl at *
    go_wp2_with fail
    refine (HC.out _ HB2.out).mono ?_
    rintro e w2 ⟨rfl, hb2⟩
    have HB3 := Lib.hid (below_later HBw.out (below_later HB2.out hb2))
    clear hb2 x0 x1 x2 x3 x4 x5 x6 x7 x8 y0 y1 y2 y3 y4 y5 y6 y7 y8 c0 c1 c2 c3 c4 c5 c6 c7 c8 d0 d1 d2 d3 d4 d5 d6 d7 d8
    go_wp2
    go_roundg G
    case rel => exact ⟨i + 1, by omega, by go_num, HB3.out⟩
    case measure => omega
theorem rsame_any (C : Nat → Prop) (l : List Blk) (w : World) (v v' : Value) (h : InS w C l v) (h' : InS w C l v') :
  Calls Tryz.prog 22 #[v, v'] w fun e w' => e = .returned (.bool true) ∧ Below w.heap.size w w' :=
 rsame_blk C (.mk 0 [] [] 0 0 false 0 0 l) w v v' h h'
end Bk
end Go.Proofs.YtkiipaaaakhhfaaGreatDoor
end
section
namespace Go.Proofs.YtkiipaaaakhhfaaGreatDoor
open Go Go.RowKit
namespace Bk
set_option maxRecDepth 100000
set_option linter.unusedVariables false
set_option linter.unusedSimpArgs false
theorem toL (a : ByteArray) : a.toList = a.data.toList := Go.ByteArray.toList_eq a
theorem one_at {s : ByteArray} {k : Nat} {c : UInt8} {t : List UInt8} (h : s.data.toList.drop k = c :: t) : (s.extract k (k + 1)).toList = [c] := by
 rw [toL, Lib.extract_data, show k + 1 - k = 1 by omega, h]; rfl
set_option maxHeartbeats 2000000 in
theorem within_tab (l : Str) (w : World) (hs : l.length ≤ 1000000) :
  Calls Tryz.prog 33 #[str l, .string ⟨#[9]⟩] w fun e w' => e = .returned (.bool (decide ((9 : UInt8) ∈ l))) ∧ w = w' := by
 unfold str
 obtain ⟨s, hS⟩ : ∃ S : ByteArray, ⟨l.toArray⟩ = S := ⟨_, rfl⟩
 obtain ⟨t, hT⟩ : ∃ T : ByteArray, (⟨#[9]⟩ : ByteArray) = T := ⟨_, rfl⟩
 have HD : Hid (s.data.toList = l) := Lib.hid (by rw [← hS])
 have hsz : s.size ≤ 1000000 := by rw [← hS]; exact hs
 have HT1 : Hid (t.size = 1) := Lib.hid (by rw [← hT]; rfl)
 have h0 : 0 < t.size := by rw [HT1.out]; decide
 have ht : t.size ≤ 1000000 := by rw [HT1.out]; decide
 have HT : Hid (t.toList = [9]) := Lib.hid (by rw [toL, ← hT])
 rw [hS, hT]
 clear hS hT
 go_enter Tryz.func33, Tryz.ntmps33
 go_wp2_with fail
 go_loopg [5] (s.size + 1) (fun G v5 wr => ∃ m : Nat, m + G = s.size + 1 ∧ m ≤ s.size ∧ v5 = .int .i64 (m : Int) ∧ w = wr ∧ Hid (decide ((9 : UInt8) ∈ l) = decide ((9 : UInt8) ∈ s.data.toList.drop m)))
 case atStart => exact ⟨0, by omega, by omega, rfl, rfl, Lib.hid (by rw [HD.out]; rfl)⟩
 case round =>
  obtain ⟨m, hm, hms, rfl, rfl, HR⟩ := hrel
  by_cases hle : m + t.size ≤ s.size
  ·have hle' : (m : Int) + (t.size : Int) ≤ (s.size : Int) := by omega
   have hlt : m < s.size := by omega
   obtain ⟨c, d, hd, hdt⟩ := cons_at hlt
   obtain ⟨E, hE⟩ : ∃ E : ByteArray, s.extract m (m + t.size) = E := ⟨_, rfl⟩
   have HP : Hid ((E.toList == t.toList) = (c == 9)) := Lib.hid (by
    rw [← hE, HT1.out, one_at hd, HT.out]
    simp)
   have HC : Hid (decide ((9 : UInt8) ∈ l) = ((E.toList == t.toList) || decide ((9 : UInt8) ∈ s.data.toList.drop (m + 1)))) := Lib.hid (by
    rw [HR.out, hd, HP.out, hdt, Bool.eq_iff_iff, decide_eq_true_eq, List.mem_cons, Bool.or_eq_true, beq_iff_eq, decide_eq_true_eq, eq_comm])
   clear hd hdt
   cases he : (E.toList == t.toList) with
   | true =>
    have HV : Hid (decide ((9 : UInt8) ∈ l) = true) := Lib.hid (by rw [HC.out, he]; rfl)
    go_wp2
    go_ret
    exact ⟨retB HV.out.symm, rfl⟩
   | false =>
    have HV : Hid (decide ((9 : UInt8) ∈ l) = decide ((9 : UInt8) ∈ s.data.toList.drop (m + 1))) := Lib.hid (by rw [HC.out, he]; rfl)
    go_wp2
    go_roundg (gk - 1)
    case rel => exact ⟨m + 1, by omega, by omega, by go_num, rfl, HV⟩
    case measure => omega
  ·have hle' : (s.size : Int) < (m : Int) + (t.size : Int) := by omega
   have HV : Hid (decide ((9 : UInt8) ∈ l) = false) := Lib.hid (by rw [HR.out, List.drop_eq_nil_of_le (by rw [szB]; have := HT1.out; omega)]; rfl)
   go_wp2
   go_ret
   exact ⟨retB HV.out.symm, rfl⟩
def tabsS (l : List Str) : Bool := l.any fun s => decide ((9 : UInt8) ∈ s)
set_option maxHeartbeats 4000000 in
theorem tabs_any (l : List Str) (v : Value) (w : World) (h : SSl w v l) (hf : FewS l) :
  Calls Tryz.prog 21 #[v] w fun e w' => e = .returned (.bool (tabsS l)) ∧ w = w' := by
 obtain ⟨a, cap, rfl, hlm, hk⟩ := h
 unfold maxLen at hlm
 have HK := Lib.hid hk
 have HF := Lib.hid hf
 clear hk hf
 obtain ⟨n, hn⟩ : ∃ n, l.length = n := ⟨_, rfl⟩
 rw [hn] at hlm ⊢
 have HN := Lib.hid hn
 clear hn
 go_enter Tryz.func21, Tryz.ntmps21
 go_wp2
 go_loopg [3] n (fun G s3 wr => ∃ i : Nat, i + G = n ∧ s3 = .int .i64 (i : Int) ∧ Hid (tabsS l = tabsS (l.drop i)) ∧ w = wr)
 case atStart => exact ⟨0, by omega, rfl, Lib.hid rfl, rfl⟩
 case round =>
  obtain ⟨i, hig, rfl, HA, rfl⟩ := hrel
  cases gk with
  | zero =>
   have hlt : ¬ (i : Int) < (n : Int) := by omega
   have HV : Hid (tabsS l = false) := Lib.hid (by rw [HA.out, List.drop_eq_nil_of_le (by rw [HN.out]; omega)]; rfl)
   go_wp2
   go_ret
   exact ⟨retB HV.out.symm, rfl⟩
  | succ G =>
   have hlt : (i : Int) < (n : Int) := by omega
   have hil : i < l.length := by have := HN.out; omega
   obtain ⟨s, hs⟩ : ∃ s, l[i] = s := ⟨_, rfl⟩
   have HC : Hid (tabsS l = (decide ((9 : UInt8) ∈ s) || tabsS (l.drop (i + 1)))) := Lib.hid (by
    rw [HA.out, List.drop_eq_getElem_cons hil, hs]; rfl)
   obtain ⟨b, off, rfl, hcell⟩ := HK.out (fun e => by rw [e] at hil; exact absurd hil (Nat.not_lt_zero _))
   have q0 := hcell i hil
   rw [hs] at q0
   have HW := Lib.hid (within_tab s w (Nat.le_trans (HF.out.2 s (hs ▸ List.getElem_mem hil)) (by decide)))
   unfold str at q0 HW
   clear hcell hs hil
   cases hv : decide ((9 : UInt8) ∈ s) with
   | true =>
    rw [hv] at HW HC
    go_wp2_with (go_at_call 33; refine HW.out.mono ?_; rintro e w1 ⟨rfl, rfl⟩)
    go_ret
    exact ⟨retB HC.out.symm, rfl⟩
   | false =>
    rw [hv] at HW HC
    go_wp2_with (go_at_call 33; refine HW.out.mono ?_; rintro e w1 ⟨rfl, rfl⟩)
    go_roundg G
    case rel => exact ⟨i + 1, by omega, by go_num, HC, rfl⟩
    case measure => omega
end Bk
end Go.Proofs.YtkiipaaaakhhfaaGreatDoor
end
section
namespace Go.Proofs.YtkiipaaaakhhfaaGreatDoor
open Go Go.RowKit
namespace Bk
set_option maxRecDepth 100000
set_option linter.unusedVariables false
set_option linter.unusedSimpArgs false
def nilO : Ow := ⟨0, [], [], 0, 0, false, 0, 0⟩
theorem blkInfo : (Tryz.prog.info? 73).map (fun i => (i.zero, i.size, i.bytes)) = some (some (.agg (ar9 nilO (.slice none 0 0))), 9, 104) := by kernel_rfl
theorem cells9_one (o : Ow) (a : Option Addr) (n c : Nat) : ∀ u ∈ (ar9 o (.slice a n c)).toList, u.oneCell' = true := by
 intro u hu
 simp [ar9] at hu
 rcases hu with rfl | rfl | rfl | rfl | rfl | rfl | rfl | rfl | rfl <;> rfl
set_option maxHeartbeats 16000000 in
theorem theirs_blk (C : Nat → Prop) (b : Blk) : ∀ (w : World) (v : Value), InS w C b.kids v → cntK b.kids ≤ 1000000000 →
  Calls Tryz.prog 19 #[v] w fun e w' => ∃ u, e = .returned u ∧ InS w' (fun g => w.heap.size ≤ g) b.kids u ∧ Below w.heap.size w w' := by
 induction b using Blk.ind with
 | h k s t n m f a z kids ih =>
  intro w v hin hcnt
  have hin : InS w C kids v := hin
  have hcnt : cntK kids ≤ 1000000000 := hcnt
  show Calls _ _ _ _ fun e w' => ∃ u, e = .returned u ∧ InS w' (fun g => w.heap.size ≤ g) kids u ∧ Below w.heap.size w w'
  obtain ⟨iN, hi, hz0, hz1, hz2⟩ := info_parts blkInfo
  obtain ⟨a1, cap, rfl, hlm, hk⟩ := hin
  unfold maxLen at hlm
  have hlen := cnt_len kids
  have HK := Lib.hid hk
  have IH := Lib.hid ih
  have HCn := Lib.hid hcnt
  obtain ⟨N, hN⟩ : ∃ N, kids.length = N := ⟨_, rfl⟩
  rw [hN] at hlm hlen ⊢
  have hN9 : N ≤ 1000000000 := by omega
  have HN := Lib.hid hN
  clear hN hk ih hcnt hlen
  go_enter Tryz.func19, Tryz.ntmps19
  go_wp2
  go_loopg [3, 4] N (fun G s3 s4 wr => ∃ (i : Nat) (l : List (Blk × Value)), i + G = N ∧ s4 = .int .i64 (i : Int) ∧ Hid (l.map Prod.fst = kids.take i) ∧ l.length = i ∧ Hid (OwnT wr w.heap.size 73 s3 l) ∧ Below w.heap.size w wr)
  case atStart => exact ⟨0, [], by omega, rfl, Lib.hid rfl, rfl, Lib.hid (OwnT.nil _ _ _), Below.refl _ _⟩
  case round =>
   obtain ⟨i, l, hig, rfl, HM, hli, HO, hbw⟩ := hrel
   obtain ⟨a3, c3, e3⟩ := HO.out.form
   rw [hli] at e3
   subst e3
   have HLi := Lib.hid hli
   clear hli
   cases gk with
   | zero =>
    have hlt : ¬ (i : Int) < (N : Int) := by omega
    have HE : Hid (InS wr (fun g => w.heap.size ≤ g) kids (.slice a3 i c3)) := Lib.hid (by
     have h1 := HO.out.inS
     rw [HM.out, List.take_of_length_le (by rw [HN.out]; omega)] at h1
     exact h1)
    go_wp2
    go_ret
    exact ⟨_, rfl, HE.out, hbw⟩
   | succ G =>
    have hlt : (i : Int) < (N : Int) := by omega
    obtain ⟨c, hc⟩ : ∃ c, kids[i]? = some c := ⟨_, List.getElem?_eq_getElem (by have := HN.out; omega)⟩
    rcases HK.out with rfl | ⟨bb, off, rfl, _, hcell⟩
    ·simp at hc
    obtain ⟨L1, q, g1⟩ := hcell.get hc
    obtain ⟨c0, c1, c2, c3', c4, c5, c6, c7, c8⟩ := q.keep hbw
    have G1 := Lib.hid (g1.kids.keep hbw)
    have HTk : Hid (kids.take (i + 1) = kids.take i ++ [c]) := Lib.hid (by rw [List.take_add_one, hc]; rfl)
    have hcn : cntK c.kids ≤ 1000000000 := Nat.le_trans (cnt_mem (List.mem_of_getElem? hc)) HCn.out
    have HC := Lib.hid (fun W (hW : Below wr.heap.size wr W) => IH.out c (List.mem_of_getElem? hc) W L1 (G1.out.keep hW) hcn)
    obtain ⟨ao, cpo, e1, _⟩ := G1.out.form
    subst e1
    unfold str at c1 c2
    have HBw := Lib.hid hbw
    have hX := Box.new wr (ar9 c.ow (.slice ao c.kids.length cpo)) 41
    have HB2 : Hid (Below wr.heap.size wr (wr.alloc (.cells (ar9 c.ow (.slice ao c.kids.length cpo)) 41))) := Lib.hid ((Below.refl _ wr).alloc (Nat.le_refl _) _)
    obtain ⟨W2, hW2⟩ : ∃ W2, wr.alloc (.cells (ar9 c.ow (.slice ao c.kids.length cpo)) 41) = W2 := ⟨_, rfl⟩
    rw [hW2] at hX HB2
    have x0 := hX.cell 0 rfl
    have x1 := hX.cell 1 rfl
    have x2 := hX.cell 2 rfl
    have x3 := hX.cell 3 rfl
    have x4 := hX.cell 4 rfl
    have x5 := hX.cell 5 rfl
    have x6 := hX.cell 6 rfl
    have x7 := hX.cell 7 rfl
    have x8 := hX.cell 8 rfl
    have HW2 := Lib.hid hW2
    have HOw : Hid (c.ow = c.ow) := Lib.hid rfl
    have hsW : W2.heap.size = wr.heap.size + 1 := by rw [← hW2, World.size_alloc]
    have HBx := Lib.hid hX
    have hvb := HO.out.row.lt
    have HVB := Lib.hid hvb
    have HC2 := Lib.hid (HC.out W2.drew HB2.out.drew)
    obtain ⟨o, ho⟩ : ∃ o, c.ow = o := ⟨_, rfl⟩
    obtain ⟨kl, hkl⟩ : ∃ n, c.kids.length = n := ⟨_, rfl⟩
    rw [ho] at c0 c1 c2 c3' c4 c5 c6 c7 x0 x1 x2 x3 x4 x5 x6 x7 HW2 HBx
    rw [hkl] at c8 x8 HW2 HBx HC2
    have HO2 := Lib.hid ho
    have HS : Hid (∀ W, Box W wr.heap.size (ar9 o (.slice ao kl cpo)) 41 → W.cell? ⟨wr.heap.size, 0, none⟩ = some (.int .i64 (o.k : Int)) ∧ W.cell? ⟨wr.heap.size, 1, none⟩ = some (.string ⟨o.s.toArray⟩) ∧ W.cell? ⟨wr.heap.size, 2, none⟩ = some (.string ⟨o.t.toArray⟩) ∧ W.cell? ⟨wr.heap.size, 3, none⟩ = some (.int .i64 (o.n : Int)) ∧ W.cell? ⟨wr.heap.size, 4, none⟩ = some (.int .i64 (o.m : Int)) ∧ W.cell? ⟨wr.heap.size, 5, none⟩ = some (.bool o.f) ∧ W.cell? ⟨wr.heap.size, 6, none⟩ = some (.int .i64 (o.a : Int)) ∧ W.cell? ⟨wr.heap.size, 7, none⟩ = some (.int .i64 (o.z : Int)) ∧ W.cell? ⟨wr.heap.size, 8, none⟩ = some (.slice ao kl cpo)) := Lib.hid (fun W hW =>
     ⟨hW.cell 0 rfl, hW.cell 1 rfl, hW.cell 2 rfl, hW.cell 3 rfl, hW.cell 4 rfl, hW.cell 5 rfl, hW.cell 6 rfl, hW.cell 7 rfl, hW.cell 8 rfl⟩)
    have HKp : Hid (∀ W, Below (wr.heap.size + 1) W2 W → Box W wr.heap.size (ar9 o (.slice ao kl cpo)) 41) := Lib.hid (fun W hW => HBx.out.keep (by rw [hsW]; exact hW))
    have HNr : Hid ((Value.slice a3 i c3).ownBlock ≠ some wr.heap.size) := Lib.hid (fun e => absurd (HVB.out _ e).2 (Nat.lt_irrefl _))
    have HB3 : Hid (Below (wr.heap.size + 1) W2 W2.drew) := Lib.hid (Below.refl _ _).drew
    have HX3 : Hid (∀ W, Below W2.heap.size W2.drew W → Below (wr.heap.size + 1) W2 W) := Lib.hid (fun W h => HB3.out.trans (by rw [← hsW]; exact h))
    have HRow := Lib.hid (fun W (hW : Below wr.heap.size wr W) => owns_block HO.out.row fun k hk => hW.block k (HVB.out k hk).2)
    have HLc : Hid (l.length ≤ 1000000000) := Lib.hid (by rw [HLi.out]; omega)
    clear hcell hc q g1 G1 hX hbw IH hW2 hvb HC HOw ho hkl
    unfold ar9 at HW2
    go_wp2_with fail
    rw [HW2.out]
    go_region_held3 (fun W => W.cell? ⟨wr.heap.size, 0, none⟩ = some (.int .i64 (o.k : Int)) ∧ W.cell? ⟨wr.heap.size, 1, none⟩ = some (.string ⟨o.s.toArray⟩) ∧ W.cell? ⟨wr.heap.size, 2, none⟩ = some (.string ⟨o.t.toArray⟩) ∧ W.cell? ⟨wr.heap.size, 3, none⟩ = some (.int .i64 (o.n : Int)) ∧ W.cell? ⟨wr.heap.size, 4, none⟩ = some (.int .i64 (o.m : Int)) ∧ W.cell? ⟨wr.heap.size, 5, none⟩ = some (.bool o.f) ∧ W.cell? ⟨wr.heap.size, 6, none⟩ = some (.int .i64 (o.a : Int)) ∧ W.cell? ⟨wr.heap.size, 7, none⟩ = some (.int .i64 (o.z : Int)) ∧ W.cell? ⟨wr.heap.size, 8, none⟩ = some (.slice ao kl cpo))
     (first | exact HS.out _ HBx.out | exact HS.out _ (HKp.out _ HB3.out) | exact HS.out _ (by assumption) | exact HS.out _ (HKp.out _ (by assumption)))
     (first
      | (go_at_call 19; refine HC2.out.mono ?_; rintro e w3 ⟨u, rfl, hin3, hb3⟩; obtain ⟨a2, cp2, rfl, _⟩ := hin3.form; have hx3 := HX3.out _ hb3; have HIN := Lib.hid hin3; have HX4 := Lib.hid hx3; have hxA := HX4.out.alloc (by have := hx3.size; omega) (.cells (ar9 o (.slice a2 c.kids.length cp2)) 73); unfold ar9 at hxA)
      | (refine step_append_lies _ rfl (.tmp 16) (.tmp 37) 35 rfl w.heap.size 73 iN (.agg (ar9 nilO (.slice none 0 0))) 9 104 Tryz.underlying35 hi hz0 hz1 hz2 rfl (by decide) (.slice a3 i c3) l.length (rowC l) (by simp [Act.eval, Act.put]) (HRow.out _ (HB2.out.trans (hxA.mono (Nat.le_succ _)))) ⟨w3.heap.size, 0, none⟩ 1 1 (cells9 o (.slice a2 c.kids.length cp2)) (by simp [Act.eval, Act.put]) rfl (World.news_of_block (heap_alloc_new w3 _)) (cells9_one _ _ _ _) (by decide) (by have := HLc.out; unfold maxLen; omega) (by have := HLc.out; omega) (Nat.le_trans HBw.out.size (HB2.out.trans (hxA.mono (Nat.le_succ _))).size) _ rfl ?_; intro g' cap' w4 hown4 hgrow4 hat4 hlt4; have hb4 := (HKp.out _ hxA).grown hgrow4 HNr.out))
    all_goals
     have hw3 : Below wr.heap.size wr w3 := HB2.out.trans (HX4.out.mono (Nat.le_succ _))
     have hM := OwnT.more (w := w) (w1 := w3) (w2 := w4) (x := (c, .slice a2 c.kids.length cp2)) (Nat.le_refl _) (HO.out.keep hw3)
      (HIN.out.carry (fun b off v (h : W2.heap.size ≤ b) _ => ⟨fun e => by have := (HVB.out b e).2; omega, by have := HBw.out.size; omega⟩) fun _ _ _ _ h => h)
      (below_later HBw.out hw3) (by rw [show ((c, (.slice a2 c.kids.length cp2)) : Blk × Value).1.ow = o from HO2.out]; exact hown4) hgrow4
      (fun k e => by injection e with e; subst e; exact hat4.imp id (fun e => by show w3.heap.size ≤ g'; rw [e, World.size_alloc]; exact Nat.le_succ _))
     have HM2 := Lib.hid hM.1
     have HB4 := Lib.hid hM.2
     have HLL : Hid ((l ++ [(c, Value.slice a2 c.kids.length cp2)]).length = i + 1) := Lib.hid (by simp [HLi.out])
     clear hM hw3 hgrow4 hown4 hat4 hlt4 hb4 hxA hx3 hb3 hin3
     go_wp2
     go_roundg G
     case rel => exact ⟨i + 1, l ++ [(c, .slice a2 c.kids.length cp2)], by omega, rfl, Lib.hid (by rw [List.map_append, HM.out, HTk.out]; rfl), HLL.out, HM2, HB4.out⟩
     case measure => omega
end Bk
end Go.Proofs.YtkiipaaaakhhfaaGreatDoor
end
section
namespace Go.Proofs.YtkiipaaaakhhfaaGreatDoor
open Go Go.RowKit
namespace Bk
set_option maxRecDepth 100000
set_option linter.unusedVariables false
set_option linter.unusedSimpArgs false
theorem theirs_any (C : Nat → Prop) (l : List Blk) (w : World) (v : Value) (hi : InS w C l v) (h : cntK l ≤ 1000000000) :
  Calls Tryz.prog 19 #[v] w fun e w' => ∃ u, e = .returned u ∧ InS w' (fun g => w.heap.size ≤ g) l u ∧ Below w.heap.size w w' :=
 theirs_blk C (.mk 0 [] [] 0 0 false 0 0 l) w v hi h
end Bk
end Go.Proofs.YtkiipaaaakhhfaaGreatDoor
end
section
namespace Go.Proofs.YtkiipaaaakhhfaaGreatDoor
open Go Go.RowKit
namespace Bk
set_option maxRecDepth 100000
set_option linter.unusedVariables false
set_option linter.unusedSimpArgs false
theorem strInfo : (Tryz.prog.info? 9).map (fun i => (i.zero, i.size, i.bytes)) = some (some (.string ByteArray.empty), 1, 16) := by kernel_rfl
theorem OwnS.more {w w1 w2 : World} {B : Nat} {L : List Str} {x : Str} {u v' : Value} {o : Obj} (hB : w.heap.size ≤ B) (hown : OwnS w1 B u L) (hbw : Below w.heap.size w w1)
  (hown' : w2.ownsRow B 9 1 v' (L.length + 1) (L.map str ++ [str x])) (hgrow : (w1.alloc o).grownBy w2 u.ownBlock) : OwnS w2 B v' (L ++ [x]) ∧ Below w.heap.size w w2 := by
 have hsz := hbw.size
 refine ⟨?_, (hbw.alloc (by omega) _).grown hgrow (by simp; omega) (fun k hk => Nat.le_trans hB (hown.lt k hk).1)⟩
 unfold OwnS
 rw [List.length_append, List.map_append]
 exact hown'
theorem OwnS.form {w : World} {B : Nat} {v : Value} {L : List Str} (h : OwnS w B v L) : ∃ a c, v = .slice a L.length c := by
 rcases h.2 with ⟨rfl, e⟩ | ⟨g, cap, cur, rfl, _⟩
 ·exact ⟨none, 0, by rw [e]⟩
 ·exact ⟨_, _, rfl⟩
theorem InS.one {w : World} {C : Nat → Prop} {b : Blk} {v : Value} (h : InS w C [b] v) : ∃ bb off cp L, v = .slice (some ⟨bb, off, none⟩) 1 cp ∧ Cells9 w bb off b.ow L ∧ InS w C b.kids L := by
 obtain ⟨a, cap, rfl, _, h | ⟨bb, off, rfl, _, hc⟩⟩ := h
 ·cases h
 ·obtain ⟨L, q, g⟩ := hc.get (i := 0) rfl
  rw [Nat.zero_mul, Nat.add_zero] at q
  exact ⟨bb, off, cap, L, rfl, q, g.kids⟩
theorem InS.any {w : World} {C : Nat → Prop} {l : List Blk} {v : Value} (h : InS w C l v) : InS w (fun _ => True) l v := h.carry (fun _ _ _ _ _ => trivial) fun _ _ _ _ h => h
theorem tabs_no {l : List Str} (h : tabsS l = false) : ∀ x ∈ l, NT x := by
 intro x hx c hc e
 subst e
 unfold tabsS at h
 rw [List.any_eq_false] at h
 exact h x hx (decide_eq_true hc)
set_option maxHeartbeats 8000000 in
theorem quotes_law {ρ : Type} {X : Scan ρ} (w : World) (P : Prog11 w X) (v : Value) (l : List Str) (m : Int) (hl : SSl w v l) :
  Calls Tryz.prog 5 #[v, .int .i64 m] w fun e w' => e = .returned (.bool true) ∧ Below w.heap.size w w' := by
 have HA := Lib.hid (P.awake)
 have HF := Lib.hid (fun W (hW : Below w.heap.size w W) => few_any l v W (hl.keep hW))
 have HT := Lib.hid (fun W (hW : Below w.heap.size w W) (hf : FewS l) => tabs_any l v W (hl.keep hW) hf)
 have HP := Lib.hid (fun W (hW : Below w.heap.size w W) (hf : FewS l) => P.parse W hW v l m (hl.keep hW) hf.fit)
 have HPq := Lib.hid (fun W u (hW : Below w.heap.size w W) (hu : SSl W u (l.map qt)) (hf : FewS l) => P.parse W hW u (l.map qt) m hu ⟨by rw [List.length_map]; exact Nat.le_trans hf.1 (by decide), fun s hs => by
  obtain ⟨x, hx, rfl⟩ := List.mem_map.1 hs
  have := hf.2 x hx
  unfold qt
  simp only [List.length_cons]
  omega⟩)
 obtain ⟨i0, hi, hz0, hz1, hz2⟩ := info_parts strInfo
 obtain ⟨ao, cap, e0, hlm, hk⟩ := hl
 subst e0
 obtain ⟨N, hN⟩ : ∃ N, l.length = N := ⟨_, rfl⟩
 rw [hN] at hlm HF HP HT ⊢
 have HN := Lib.hid hN
 have HK := Lib.hid hk
 clear hN hk
 unfold maxLen at hlm
 go_enter Tryz.func5, Tryz.ntmps5
 go_wp2_with fail
 refine HA.out.mono ?_
 rintro e w1 ⟨rfl, hb1⟩
 go_wp2_with fail
 refine (HF.out w1 hb1).mono ?_
 rintro e w2 ⟨he, rfl⟩
 rcases he with rfl | ⟨rfl, hf⟩
 ·go_wp2
  go_ret
  exact ⟨rfl, hb1⟩
 rcases Nat.eq_zero_or_pos N with rfl | hN0
 ·go_wp2
  go_ret
  exact ⟨rfl, hb1⟩
 have hNz : ¬ (N : Int) = 0 := by omega
 have hNb : ((N : Int) == 0) = false := beq_eq_false_iff_ne.2 hNz
 have hN40 : N ≤ 40 := by rw [← HN.out]; exact hf.1
 have HFw := Lib.hid hf
 have HT1 := Lib.hid (HT.out w1 hb1 hf)
 clear hf
 cases ht : tabsS l with
 | true =>
  rw [ht] at HT1
  go_wp2_with fail
  refine HT1.out.mono ?_
  rintro e w2 ⟨rfl, rfl⟩
  go_wp2
  go_ret
  exact ⟨rfl, hb1⟩
 | false =>
 rw [ht] at HT1
 have HNT := Lib.hid (tabs_no ht)
 have HB1 := Lib.hid hb1
 clear ht
 go_wp2_with fail
 refine HT1.out.mono ?_
 rintro e w2 ⟨rfl, rfl⟩
 go_wp2_with fail
 go_loopg [6, 7] N (fun G s6 s7 wr => ∃ (i : Nat), i + G = N ∧ s7 = .int .i64 (i : Int) ∧ Hid (OwnS wr w1.heap.size s6 ((l.take i).map qt)) ∧ Below w1.heap.size w1 wr)
 case atStart => exact ⟨0, by omega, rfl, Lib.hid (OwnS.nil _ _), Below.refl _ _⟩
 case round =>
  obtain ⟨i, hig, rfl, HO, hbw⟩ := hrel
  obtain ⟨a3, c3, e3⟩ := HO.out.form
  have hti : ((l.take i).map qt).length = i := by rw [List.length_map, List.length_take, HN.out]; omega
  rw [hti] at e3
  subst e3
  cases gk with
  | zero =>
   have hlt : ¬ (i : Int) < (N : Int) := by omega
   have hlN : l.take i = l := List.take_of_length_le (by rw [HN.out]; omega)
   have HS : Hid (SSl wr (.slice a3 i c3) (l.map qt)) := Lib.hid (by have := HO.out.ssl; rw [hlN] at this; exact this)
   obtain rfl : i = N := by omega
   have HBr := Lib.hid (HB1.out.trans (hbw.mono HB1.out.size))
   have HPl := Lib.hid (HP.out wr HBr.out HFw.out)
   have HQ := Lib.hid (Bk.quotes X (P.foot m) l (fun e => by rw [e] at HN; have := HN.out; simp at this; omega) HNT.out)
   clear hlN hti hbw
   go_wp2_with fail
   refine HPl.out.mono ?_
   rintro e w2 ⟨ua, ra, rfl, hin, hcn, hr, hb2, _⟩
   obtain ⟨aa, ca, rfl, _⟩ := hin.form
   obtain ⟨ar, cr, rfl⟩ := P.formR hr
   have HPQ := Lib.hid (HPq.out w2 _ (below_later HBr.out hb2) (HS.out.keep hb2) HFw.out)
   rw [HQ.out, HN.out] at HPQ
   have HIa := Lib.hid hin
   have HRa := Lib.hid hr
   have HCa := Lib.hid hcn
   have HX2 := Lib.hid (below_later HBr.out hb2)
   clear hin hr hcn
   go_wp2_with fail
   refine HPQ.out.mono ?_
   rintro e w3 ⟨ub, rb, rfl, hin, hcn, hr, hb3, _⟩
   obtain ⟨bb, off2, cb, L, rfl, hq, hik⟩ := hin.one
   obtain ⟨br, cbr, rfl⟩ := P.formR hr
   obtain ⟨aL, cL, e5, _⟩ := hik.form
   subst e5
   obtain ⟨d0, _, _, _, _, _, d6, d7, c8⟩ := hq
   have hz : ((i - 1 : Nat) : Int) = (i : Int) - 1 := by omega
   have c0 : w3.cell? ⟨bb, off2, none⟩ = some (.int .i64 2) := d0
   have c6 : w3.cell? ⟨bb, off2 + 6, none⟩ = some (.int .i64 0) := d6
   have c7 : w3.cell? ⟨bb, off2 + 7, none⟩ = some (.int .i64 ((i : Int) - 1)) := by rw [← hz]; exact d7
   have HT1' := Lib.hid (theirs_any _ _ w3 _ hik HCa.out)
   have HIa3 := Lib.hid (HIa.out.keep hb3)
   have HRa3 := Lib.hid (P.keepR HRa.out hb3)
   have HRb := Lib.hid hr
   have c8 : w3.cell? ⟨bb, off2 + 8, none⟩ = some (.slice aL (parse X (P.foot m) l).1.length cL) := c8
   have HT1' : Hid (Calls Tryz.prog 19 #[.slice aL (parse X (P.foot m) l).1.length cL] w3 fun e w' => ∃ u, e = .returned u ∧ InS w' (fun g => w3.heap.size ≤ g) (parse X (P.foot m) l).1 u ∧ Below w3.heap.size w3 w') := HT1'
   have HX3 := Lib.hid (below_later HX2.out hb3)
   clear hin hcn hr hik hb2 hb3 hz d0 d6 d7
   go_wp2_with fail
   refine HT1'.out.mono ?_
   rintro e w4 ⟨u4, rfl, hin4, hb4⟩
   obtain ⟨a4, cp4, rfl, _⟩ := hin4.form
   have HT2 := Lib.hid (theirs_any _ _ w4 _ (HIa3.out.keep hb4) HCa.out)
   have HI4 := Lib.hid hin4.any
   have HRa4 := Lib.hid (P.keepR HRa3.out hb4)
   have HRb4 := Lib.hid (P.keepR HRb.out hb4)
   have HX4 := Lib.hid (below_later HX3.out hb4)
   clear hin4 hb4
   go_wp2_with fail
   refine HT2.out.mono ?_
   rintro e w5 ⟨u5, rfl, hin5, hb5⟩
   obtain ⟨a5, cp5, rfl, _⟩ := hin5.form
   have HSm := Lib.hid (rsame_any _ _ w5 _ _ (HI4.out.keep hb5) hin5.any)
   have HRa5 := Lib.hid (P.keepR HRa4.out hb5)
   have HRb5 := Lib.hid (P.keepR HRb4.out hb5)
   have HX5 := Lib.hid (below_later HX4.out hb5)
   clear hin5 hb5
   go_wp2_with fail
   refine HSm.out.mono ?_
   rintro e w6 ⟨rfl, hb6⟩
   have HR6 := Lib.hid (P.sameR w6 _ _ _ (P.keepR HRa5.out hb6) (P.keepR HRb5.out hb6))
   have HX6 := Lib.hid (below_later HX5.out hb6)
   clear hb6
   go_wp2_with fail
   refine HR6.out.mono ?_
   rintro e w7 ⟨rfl, hb7⟩
   have HX7 := Lib.hid (below_later HX6.out hb7)
   clear hb7
   go_wp2
   go_ret
   exact ⟨rfl, HX7.out⟩
  | succ G =>
   have hlt : (i : Int) < (N : Int) := by omega
   have hil : i < l.length := by have := HN.out; omega
   obtain ⟨b, off, rfl, hcell⟩ := HK.out (fun e => by rw [e] at hil; exact absurd hil (Nat.not_lt_zero _))
   have q0 := keep_cell (HB1.out.trans (hbw.mono HB1.out.size)) (hcell i hil)
   obtain ⟨s, hs⟩ : ∃ s, l[i] = s := ⟨_, rfl⟩
   rw [hs] at q0
   unfold str at q0
   have HTk : Hid ((l.take (i + 1)).map qt = (l.take i).map qt ++ [qt s]) := Lib.hid (by rw [List.take_add_one, List.getElem?_eq_getElem hil, hs]; simp)
   have hsz : s.length ≤ 80 := by rw [← hs]; exact HFw.out.2 _ (List.getElem_mem hil)
   obtain ⟨S, hS⟩ : ∃ S : ByteArray, ⟨s.toArray⟩ = S := ⟨_, rfl⟩
   have hSz : S.size ≤ 80 := by rw [← hS]; exact hsz
   obtain ⟨Y, hY⟩ : ∃ Y : ByteArray, (⟨#[62, 32]⟩ : ByteArray) ++ S = Y := ⟨_, rfl⟩
   have hYz : Y.size ≤ 100 := by rw [← hY, ByteArray.size_append]; have : (⟨#[62, 32]⟩ : ByteArray).size = 2 := rfl; omega
   have HYs : Hid ((.string Y : Value) = str (qt s)) := Lib.hid (by
    unfold str
    congr 1
    apply bytes_ext
    rw [← hY, ← hS, ByteArray.data_append]
    simp [qt])
   rw [hS] at q0
   obtain ⟨A, hA⟩ : ∃ A, (l.take i).map qt = A := ⟨_, rfl⟩
   rw [hA] at HO hti HTk
   have HLt := Lib.hid hti
   have hw1 := hbw.size
   have HBw := Lib.hid hbw
   clear hcell hs hS hil hbw hti hsz hA
   go_wp2_with (at_builtin; refine wpList_append_own _ rfl _ _ 22 rfl w1.heap.size 9 i0 (.string ByteArray.empty) 1 16 Tryz.underlying22 hi hz0 hz1 hz2 rfl (by decide) _ _ _ rfl (HO.out.alloc _) ⟨wr.heap.size, 0, none⟩ 1 1 [.string Y] rfl rfl ?c1 ?c2 ?c3 ?c4 ?c5 ?_)
   case c1 => intro j u hu; rw [add_off, Nat.zero_add]; cases j with
    | zero => rw [cell_of_row _ _ 0 _ _ _ (heap_alloc_new wr _)]; exact hu
    | succ j => simp at hu
   case c2 => intro u hu; simp at hu; subst hu; rfl
   case c3 => have := HLt.out; unfold maxLen; omega
   case c4 => have := HLt.out; omega
   case c5 => simp; omega
   intro v' w3 hown' hgrow _
   have hM := OwnS.more (w := w1) (x := qt s) (Nat.le_refl _) HO.out HBw.out (by rw [← HYs.out]; first | exact hown' | (simpa [List.map_map] using hown')) hgrow
   rw [← HTk.out] at hM
   have HM := Lib.hid hM.1
   have HM2 := Lib.hid hM.2
   clear hM hown' hgrow q0
   go_wp2
   go_roundg G
   case rel => exact ⟨i + 1, by omega, by go_num, HM, HM2.out⟩
   case measure => omega
end Bk
end Go.Proofs.YtkiipaaaakhhfaaGreatDoor
end
section
namespace Go.Proofs.YtkiipaaaakhhfaaGreatDoor
open Go Go.RowKit
namespace Tx
set_option maxRecDepth 100000
set_option linter.unusedVariables false
set_option linter.unusedSimpArgs false
def OwnL (w : World) (B : Nat) (v : Value) (L : List (List UInt8)) : Prop := w.ownsRow B 9 1 v L.length (L.map str)
theorem OwnL.ssl {w : World} {B : Nat} {v : Value} {L : List (List UInt8)} (h : OwnL w B v L) (hl : L.length ≤ 9223372036854775807) : SSl w v L := by
 unfold OwnL at h
 have h0 := h
 rcases h.2 with ⟨rfl, h1⟩ | ⟨g, cap, cur, rfl, _, hg, hn, _, hs, hc⟩
 ·have : L = [] := List.length_eq_zero_iff.1 h1
  subst this
  exact ⟨none, 0, rfl, hl, fun h => absurd rfl h⟩
 ·refine ⟨some ⟨g, 0, none⟩, cap, rfl, hl, fun _ => ⟨g, 0, rfl, fun i hi => ?_⟩⟩
  have := h0.cellAt i (by omega)
  rw [Nat.zero_add, this]
  simp [List.getElem?_eq_getElem hi]
end Tx
end Go.Proofs.YtkiipaaaakhhfaaGreatDoor
end
section
namespace Go.Proofs.YtkiipaaaakhhfaaGreatDoor
open Go Go.ChangeShapes Go.WideShapes Go.ChangeAt Go.RowKit
namespace Bk
set_option maxRecDepth 100000
theorem open_texts {H : Type} {enc : TypeId × Value → H} {W : World} {v : Value} {d : DataW H} {ps : List MemPlace} {r : Reach} {b0 : Nat} (hval : Value.okWide Tryz.prog W r b0 22 v)
  (h : DataW.Trod enc Tryz.prog W 0 (fun _ => true) true 22 v d ps) : ∃ L : List Str, SSl W v L := by
 obtain ⟨a0, len, cap, rfl⟩ := okWide_slice Tryz.underlying22 hval
 obtain ⟨fuel, hf⟩ := h
 rcases open_strings Tryz.underlying22 Tryz.underlying9 (by kernel_rfl) hf with ⟨hcs, hx⟩ | ⟨a, len', cap', ss, hcs, _, hl, hm, hz, hx, hcell, hws⟩
 ·simp [Value.cells] at hcs
  obtain ⟨rfl, rfl, rfl⟩ := hcs
  exact ⟨[], none, 0, rfl, Nat.zero_le _, fun hne => absurd rfl hne⟩
 ·simp [Value.cells] at hcs
  obtain ⟨rfl, rfl, rfl⟩ := hcs
  simp only [if_true] at hz
  have hlen : ((ss.take len).map (fun s => s.data.toList)).length = len := by simp; omega
  refine ⟨(ss.take len).map (fun s => s.data.toList), some a, cap, by rw [hlen], by rw [hlen]; omega, fun hne => ?_⟩
  have hpos : 0 < len := by rw [← hlen]; exact List.length_pos_iff.2 hne
  obtain ⟨b, off, spot⟩ := a
  have hspot : spot = none := by simpa [Addr.add] using World.cell?_spot (hcell 0 (by omega))
  subst hspot
  refine ⟨b, off, rfl, fun i hi => ?_⟩
  have hi2 : i < len := by rw [hlen] at hi; exact hi
  have hc := hcell i (by omega)
  rw [add_off] at hc
  rw [hc, List.getD, List.getElem?_eq_getElem (by omega)]
  simp [str]
end Bk
end Go.Proofs.YtkiipaaaakhhfaaGreatDoor
end
