import Derived.Test.YtkiipaaaakhhfaaGreatDoorCBk3
import Derived.Test.YtkiipaaaakhhfaaGreatDoorCRf1
import Derived.RegionTactic
import Derived.Deep.QuietTactic
import Derived.Deep.Cut
import Derived.Deep.CutRange
import Derived.Deep.DeepCutAuto
import Derived.Deep.RegionHeld3
import Derived.Deep.RegionLaw
import Derived.Deep.DrawnRows
section
namespace Go.Proofs.YtkiipaaaakhhfaaGreatDoor
open Go Go.RowKit
namespace Bk
set_option maxRecDepth 100000
set_option linter.unusedVariables false
set_option linter.unusedSimpArgs false
def ptr (a : Nat) : Value := .pointer (some ⟨a, 0, none⟩)
structure PS where
 t : Str
 col : Nat
 sk : Nat
 mask : Int
 num : Nat
 sgn : Nat
 op : List Nat
 met : Nat
 H : Hp
 N : Nat
 ov : Value
def PS.r (S : PS) : Rest := RS S.t S.col S.sk
def parC (S : PS) (ov : Value) : Array Value := #[str S.t, .int .i64 (S.col : Nat), .int .i64 (Cl.indC S.t S.col : Nat), .int .i64 (Cl.indB S.t S.col : Nat), .int .i64 (S.sk : Nat), .int .i64 S.mask, .int .i64 (S.num : Nat), .int .i64 (S.sgn : Nat), ov, .int .i64 (S.met : Nat)]
def ptC (p : Pt) (pv lv : Value) : Array Value := #[.int .i64 (p.k : Nat), str p.s, str p.t, .int .i64 (p.n : Nat), .int .i64 (p.m : Nat), .bool false, .int .i64 (p.a : Nat), .int .i64 p.z, .slice none 0 0, pv, lv, .int .i64 (p.need : Nat), .int .u8 (p.c.toNat : Nat), .int .i64 (p.cnt : Nat), .int .i64 (p.ind : Nat)]
abbrev Tag := Nat → Nat × Nat
structure PtAt (w0 w : World) (tag : Tag) (a : Nat) (p : Pt) : Prop where
 own : tag a = (a, 0)
 low : w0.heap.size ≤ a
 mem : ∃ pv lv, Hb w a (ptC p pv lv) 53 ∧ RowW w 48 pv (p.kids.map ptr) ∧ RowW w 9 lv (p.ls.map str) ∧ (p.ls = [] → lv = .slice none 0 0) ∧
  (∀ g, pv.ownBlock = some g → tag g = (a, 1) ∧ w0.heap.size ≤ g) ∧ (∀ g, lv.ownBlock = some g → tag g = (a, 2) ∧ w0.heap.size ≤ g)
structure PtFew (N : Nat) (p : Pt) : Prop where
 kids : p.kids.length ≤ N
 ls : p.ls.length ≤ N
 a : p.a ≤ 1000
 z0 : -1 ≤ p.z
 z1 : p.z ≤ 1000
 k : p.k ≤ 30
 n : p.n ≤ 1000000000
 m : p.m ≤ 255
 need : p.need ≤ 100000
 cnt : p.cnt ≤ 100000
 ind : p.ind ≤ 100000
 len : ∀ s ∈ p.ls, s.length ≤ 4000
theorem PtFew.mono {N M : Nat} {p : Pt} (h : PtFew N p) (hm : N ≤ M) : PtFew M p := ⟨Nat.le_trans h.kids hm, Nat.le_trans h.ls hm, h.a, h.z0, h.z1, h.k, h.n, h.m, h.need, h.cnt, h.ind, h.len⟩
structure PM (w0 w : World) (P : Nat) (tag : Tag) (S : PS) : Prop where
 low : Below w0.heap.size w0 w
 base : w0.heap.size ≤ P
 own : tag P = (P, 3)
 sk : S.sk ≤ Cl.indC S.t S.col
 fit : S.col + 4 * S.t.length ≤ 4000
 num : S.num ≤ 1000
 sgn : S.sgn ≤ 4000
 mem : Hb w P (parC S S.ov) 58 ∧ RowW w 48 S.ov (S.op.map ptr) ∧ ∀ g, S.ov.ownBlock = some g → tag g = (P, 4) ∧ w0.heap.size ≤ g
 parts : ∀ a p, S.H a = some p → PtAt w0 w tag a p ∧ PtFew S.N p
 few : S.op.length ≤ S.N
 cap : S.N ≤ 1000000
 met : S.met ≤ S.op.length
 doc : ∀ a p, S.H a = some p → p.k = 1 → a = w0.heap.size
section
variable {w0 w w' : World} {P a : Nat} {tag tag' : Tag} {S : PS} {p : Pt}
theorem PtAt.keep (h : PtAt w0 w tag a p) (hb : ∀ g, g < w.heap.size → (tag g).1 = a → w'.heap[g]? = w.heap[g]?) : PtAt w0 w' tag a p := by
 obtain ⟨h1, h2, pv, lv, h3, h4, h5, h6, h7, h8⟩ := h
 exact ⟨h1, h2, pv, lv, h3.keep (hb a h3.lt (by rw [h1])), h4.keep fun g hg => hb g (h4.lt g hg) (by rw [(h7 g hg).1]), h5.keep fun g hg => hb g (h5.lt g hg) (by rw [(h8 g hg).1]), h6, h7, h8⟩
theorem PtAt.lt (h : PtAt w0 w tag a p) : a < w.heap.size := by
 obtain ⟨h1, h2, pv, lv, h3, _⟩ := h
 exact h3.lt
theorem PtAt.tags (h : PtAt w0 w tag a p) (ht : ∀ g, g < w.heap.size → tag' g = tag g) : PtAt w0 w tag' a p := by
 obtain ⟨h1, h2, pv, lv, h3, h4, h5, h6, h7, h8⟩ := h
 exact ⟨(ht a h3.lt).trans h1, h2, pv, lv, h3, h4, h5, h6, fun g hg => ⟨(ht g (h4.lt g hg)).trans (h7 g hg).1, (h7 g hg).2⟩, fun g hg => ⟨(ht g (h5.lt g hg)).trans (h8 g hg).1, (h8 g hg).2⟩⟩
theorem PM.below (h : PM w0 w P tag S) (hb : Below w.heap.size w w') : PM w0 w' P tag S := by
 obtain ⟨h1, h2, h3, h4, h5, h6, h7, ⟨m1, m2, m3⟩, h9, h10, h11, h12, h13⟩ := h
 exact ⟨below_later h1 hb, h2, h3, h4, h5, h6, h7, ⟨m1.below hb, m2.below hb, m3⟩, fun a p hp => ⟨(h9 a p hp).1.keep fun g hg _ => hb.block g hg, (h9 a p hp).2⟩, h10, h11, h12, h13⟩
theorem PM.tags (h : PM w0 w P tag S) (ht : ∀ g, g < w.heap.size → tag' g = tag g) : PM w0 w P tag' S := by
 obtain ⟨h1, h2, h3, h4, h5, h6, h7, ⟨m1, m2, m3⟩, h9, h10, h11, h12, h13⟩ := h
 exact ⟨h1, h2, (ht P m1.lt).trans h3, h4, h5, h6, h7, ⟨m1, m2, fun g hg => ⟨(ht g (m2.lt g hg)).trans (m3 g hg).1, (m3 g hg).2⟩⟩, fun a p hp => ⟨(h9 a p hp).1.tags ht, (h9 a p hp).2⟩, h10, h11, h12, h13⟩
theorem PM.par (h : PM w0 w P tag S) (S' : PS) (hw : Only (fun k => k = P) w w') (hm : ∀ ov, Hb w P (parC S ov) 58 → Hb w' P (parC S' ov) 58)
  (e1 : S'.op = S.op) (e2 : S'.H = S.H) (e3 : S'.N = S.N) (hsk : S'.sk ≤ Cl.indC S'.t S'.col) (hfit : S'.col + 4 * S'.t.length ≤ 4000) (hnum : S'.num ≤ 1000) (hsgn : S'.sgn ≤ 4000) (hmet : S'.met ≤ S.op.length) (e4 : S'.ov = S.ov := by rfl) : PM w0 w' P tag S' := by
 obtain ⟨h1, h2, h3, h4, h5, h6, h7, ⟨m1, m2, m3⟩, h9, h10, h11, h12, h13⟩ := h
 refine ⟨h1.trans (hw.below (fun k hk => by rw [hk]; exact h2) h1.size), h2, h3, hsk, hfit, hnum, hsgn, ⟨by rw [e4]; exact hm S.ov m1, ?_, by rw [e4]; exact m3⟩, fun a p hp => ?_, by rw [e1, e3]; exact h10, by rw [e3]; exact h11, by rw [e1]; exact hmet, by rw [e2]; exact h13⟩
 ·rw [e1, e4]
  exact m2.keep fun g hg => hw.block g (m2.lt g hg) (fun e => by have := (m3 g hg).1; rw [e, h3] at this; cases this)
 ·rw [e2] at hp
  rw [e3]
  refine ⟨(h9 a p hp).1.keep fun g hg ht => hw.block g hg (fun e => ?_), (h9 a p hp).2⟩
  rw [e, h3] at ht
  have := (h9 a p hp).1.own
  have ht : P = a := ht
  rw [← ht, h3] at this
  cases this
theorem Only.setP {a b : World} {Q : Nat} (h : Only (fun k => k = Q) a b) (j : Nat) (u : Value) : Only (fun k => k = Q) a (b.setCell ⟨Q, j, none⟩ u) := h.setCell rfl u
theorem PM.part (h : PM w0 w P tag S) {q : Pt} (hp : S.H a = some p) (hw : Only (fun k => (tag k).1 = a ∧ w0.heap.size ≤ k) w w') (htag : ∀ g, g < w.heap.size → tag' g = tag g) (hq : PtAt w0 w' tag' a q) {N : Nat} (hN : S.N ≤ N) (hN2 : N ≤ 1000000) (hfew : PtFew N q) (hkd : q.k = 1 → p.k = 1 := by first | exact fun h => h | exact fun h => absurd h (by decide)) :
  PM w0 w' P tag' { S with H := S.H.set a q, N := N } := by
 obtain ⟨h1, h2, h3, h4, h5, h6, h7, ⟨m1, m2, m3⟩, h9, h10, h11, h12, h13⟩ := h
 have hpa := (h9 a p hp).1
 have hPa : P ≠ a := fun e => by have := hpa.own; rw [← e, h3] at this; cases this
 refine ⟨h1.trans (hw.below (fun k hk => hk.2) h1.size), h2, (htag P m1.lt).trans h3, h4, h5, h6, h7, ⟨m1.keep (hw.block P m1.lt (by rw [h3]; exact fun e => hPa e.1)), ?_, fun g hg => ⟨(htag g (m2.lt g hg)).trans (m3 g hg).1, (m3 g hg).2⟩⟩, fun b r hr => ?_, Nat.le_trans h10 hN, hN2, h12, fun b r hr hk => ?_⟩
 ·exact m2.keep fun g hg => hw.block g (m2.lt g hg) (by rw [(m3 g hg).1]; exact fun e => hPa e.1)
 ·by_cases hb : b = a
  ·subst hb
   have hr : some q = some r := (Hp.set_eq S.H b q).symm.trans hr
   injection hr with hr
   subst hr
   exact ⟨hq, hfew⟩
  ·have hr : S.H b = some r := (Hp.set_ne S.H q hb).symm.trans hr
   exact ⟨((h9 b r hr).1.tags htag).keep fun g hg ht => hw.block g hg (fun e => hb (by rw [← ht, htag g hg]; exact e.1)), (h9 b r hr).2.mono hN⟩
 ·by_cases hb : b = a
  ·subst hb
   have hr : some q = some r := (Hp.set_eq S.H b q).symm.trans hr
   injection hr with hr
   subst hr
   exact h13 b p hp (hkd hk)
  ·exact h13 b r ((Hp.set_ne S.H q hb).symm.trans hr) hk
theorem PM.open (h : PM w0 w P tag S) (S' : PS) (hw : Only (fun k => (tag k).1 = P ∧ w0.heap.size ≤ k) w w') (htag : ∀ g, g < w.heap.size → tag' g = tag g) (hm : Hb w' P (parC S' S'.ov) 58) (hr : RowW w' 48 S'.ov (S'.op.map ptr)) (hg : ∀ g, S'.ov.ownBlock = some g → tag' g = (P, 4) ∧ w0.heap.size ≤ g)
  (e2 : S'.H = S.H) (e3 : S.N ≤ S'.N) (e4 : S'.N ≤ 1000000) (e5 : S'.op.length ≤ S'.N) (hsk : S'.sk ≤ Cl.indC S'.t S'.col) (hfit : S'.col + 4 * S'.t.length ≤ 4000) (hnum : S'.num ≤ 1000) (hsgn : S'.sgn ≤ 4000) (hmet : S'.met ≤ S'.op.length) : PM w0 w' P tag' S' := by
 obtain ⟨h1, h2, h3, h4, h5, h6, h7, ⟨m1, m2, m3⟩, h9, h10, h11, h12, h13⟩ := h
 refine ⟨h1.trans (hw.below (fun k hk => hk.2) h1.size), h2, (htag P m1.lt).trans h3, hsk, hfit, hnum, hsgn, ⟨hm, hr, hg⟩, fun b r hr => ?_, e5, e4, hmet, by rw [e2]; exact h13⟩
 rw [e2] at hr
 have hPb : P ≠ b := fun e => by have := (h9 b r hr).1.own; rw [← e, h3] at this; cases this
 exact ⟨((h9 b r hr).1.tags htag).keep fun g hg ht => hw.block g hg (fun e => hPb (by rw [← ht, htag g hg]; exact e.1.symm)), (h9 b r hr).2.mono e3⟩
theorem PM.new (h : PM w0 w P tag S) {q : Pt} (hk : q.kids = []) (hl : q.ls = []) (hq : PtFew S.N q) (ha : a = w.heap.size) (hkd : q.k ≠ 1) :
  PM w0 (w.alloc (.cells (ptC q (.slice none 0 0) (.slice none 0 0)) 53)) P (fun g => if g = a then (a, 0) else tag g) { S with H := S.H.set a q } := by
 subst ha
 have htag : ∀ g, g < w.heap.size → (if g = w.heap.size then (w.heap.size, 0) else tag g) = tag g := fun g hg => if_neg (by omega)
 have hb : Below w.heap.size w (w.alloc (.cells (ptC q (.slice none 0 0) (.slice none 0 0)) 53)) := (Below.refl _ w).alloc (Nat.le_refl _) _
 have h' := (h.tags htag).below hb
 obtain ⟨h1, h2, h3, h4, h5, h6, h7, m, h9, h10, h11, h12, h13⟩ := h'
 refine ⟨h1, h2, h3, h4, h5, h6, h7, m, fun b r hr => ?_, h10, h11, h12, fun b r hr hk => ?_⟩
 rotate_left
 ·by_cases hba : b = w.heap.size
  ·subst hba
   have hr : some q = some r := (Hp.set_eq S.H w.heap.size q).symm.trans hr
   injection hr with hr
   subst hr
   exact absurd hk hkd
  ·exact h13 b r ((Hp.set_ne S.H q hba).symm.trans hr) hk
 by_cases hba : b = w.heap.size
 ·subst hba
  have hr : some q = some r := (Hp.set_eq S.H w.heap.size q).symm.trans hr
  injection hr with hr
  subst hr
  refine ⟨⟨if_pos rfl, h.low.size, .slice none 0 0, .slice none 0 0, Hb.new _ _ _, ?_, ?_, fun _ => rfl, fun g hg => (by cases hg), fun g hg => (by cases hg)⟩, hq⟩
  ·rw [hk]; exact RowW.nil _ _
  ·rw [hl]; exact RowW.nil _ _
 ·exact h9 b r ((Hp.set_ne S.H q hba).symm.trans hr)
structure ParAt (w : World) (P : Nat) (S : PS) (ov : Value) : Prop where
 c0 : w.cell? ⟨P, 0, none⟩ = some (.string ⟨S.t.toArray⟩)
 c1 : w.cell? ⟨P, 1, none⟩ = some (.int .i64 (S.col : Nat))
 c2 : w.cell? ⟨P, 2, none⟩ = some (.int .i64 (Cl.indC S.t S.col : Nat))
 c3 : w.cell? ⟨P, 3, none⟩ = some (.int .i64 (Cl.indB S.t S.col : Nat))
 c4 : w.cell? ⟨P, 4, none⟩ = some (.int .i64 (S.sk : Nat))
 c5 : w.cell? ⟨P, 5, none⟩ = some (.int .i64 S.mask)
 c6 : w.cell? ⟨P, 6, none⟩ = some (.int .i64 (S.num : Nat))
 c7 : w.cell? ⟨P, 7, none⟩ = some (.int .i64 (S.sgn : Nat))
 c8 : w.cell? ⟨P, 8, none⟩ = some ov
 c9 : w.cell? ⟨P, 9, none⟩ = some (.int .i64 (S.met : Nat))
 fr : ∀ k, w.frozen? ⟨P, k, none⟩ = false
 blk : Hb w P (parC S ov) 58
 row : RowW w 48 ov (S.op.map ptr)
theorem PM.cells (h : PM w0 w P tag S) : ∃ ov, ParAt w P S ov ∧ ∀ g, ov.ownBlock = some g → tag g = (P, 4) ∧ w0.heap.size ≤ g := by
 obtain ⟨m, r, g⟩ := h.mem
 exact ⟨S.ov, ⟨m.cell 0 rfl, m.cell 1 rfl, m.cell 2 rfl, m.cell 3 rfl, m.cell 4 rfl, m.cell 5 rfl, m.cell 6 rfl, m.cell 7 rfl, m.cell 8 rfl, m.cell 9 rfl, fun k => m.fr k, m, r⟩, g⟩
theorem PM.cellsV (h : PM w0 w P tag S) : ParAt w P S S.ov := by
 obtain ⟨m, r, g⟩ := h.mem
 exact ⟨m.cell 0 rfl, m.cell 1 rfl, m.cell 2 rfl, m.cell 3 rfl, m.cell 4 rfl, m.cell 5 rfl, m.cell 6 rfl, m.cell 7 rfl, m.cell 8 rfl, m.cell 9 rfl, fun k => m.fr k, m, r⟩
structure PtC (w : World) (a : Nat) (p : Pt) (pv lv : Value) : Prop where
 c0 : w.cell? ⟨a, 0, none⟩ = some (.int .i64 (p.k : Nat))
 c1 : w.cell? ⟨a, 1, none⟩ = some (.string ⟨p.s.toArray⟩)
 c2 : w.cell? ⟨a, 2, none⟩ = some (.string ⟨p.t.toArray⟩)
 c3 : w.cell? ⟨a, 3, none⟩ = some (.int .i64 (p.n : Nat))
 c4 : w.cell? ⟨a, 4, none⟩ = some (.int .i64 (p.m : Nat))
 c5 : w.cell? ⟨a, 5, none⟩ = some (.bool false)
 c6 : w.cell? ⟨a, 6, none⟩ = some (.int .i64 (p.a : Nat))
 c7 : w.cell? ⟨a, 7, none⟩ = some (.int .i64 p.z)
 c8 : w.cell? ⟨a, 8, none⟩ = some (.slice none 0 0)
 c9 : w.cell? ⟨a, 9, none⟩ = some pv
 c10 : w.cell? ⟨a, 10, none⟩ = some lv
 c11 : w.cell? ⟨a, 11, none⟩ = some (.int .i64 (p.need : Nat))
 c12 : w.cell? ⟨a, 12, none⟩ = some (.int .u8 (p.c.toNat : Nat))
 c13 : w.cell? ⟨a, 13, none⟩ = some (.int .i64 (p.cnt : Nat))
 c14 : w.cell? ⟨a, 14, none⟩ = some (.int .i64 (p.ind : Nat))
 fr : ∀ k, w.frozen? ⟨a, k, none⟩ = false
 blk : Hb w a (ptC p pv lv) 53
 row : RowW w 48 pv (p.kids.map ptr)
 lines : RowW w 9 lv (p.ls.map str)
theorem PtAt.cells (h : PtAt w0 w tag a p) : ∃ pv lv, PtC w a p pv lv ∧ (p.ls = [] → lv = .slice none 0 0) ∧ (∀ g, pv.ownBlock = some g → tag g = (a, 1) ∧ w0.heap.size ≤ g) ∧ (∀ g, lv.ownBlock = some g → tag g = (a, 2) ∧ w0.heap.size ≤ g) := by
 obtain ⟨_, _, pv, lv, m, r1, r2, e, g1, g2⟩ := h
 exact ⟨pv, lv, ⟨m.cell 0 rfl, m.cell 1 rfl, m.cell 2 rfl, m.cell 3 rfl, m.cell 4 rfl, m.cell 5 rfl, m.cell 6 rfl, m.cell 7 rfl, m.cell 8 rfl, m.cell 9 rfl, m.cell 10 rfl, m.cell 11 rfl, m.cell 12 rfl, m.cell 13 rfl, m.cell 14 rfl, fun k => m.fr k, m, r1, r2⟩, e, g1, g2⟩
theorem Hp.set_set (H : Hp) (a : Nat) (p q : Pt) : (H.set a p).set a q = H.set a q := by
 funext x
 by_cases h : x = a
 ·rw [h, Hp.set_eq, Hp.set_eq]
 ·rw [Hp.set_ne _ _ h, Hp.set_ne _ _ h, Hp.set_ne _ _ h]
theorem PM.setPt (h : PM w0 w P tag S) {q : Pt} (hp : S.H a = some p) (j : Nat) (u : Value) (hj : ∀ pv lv, (ptC p pv lv).setIfInBounds j u = ptC q pv lv) (hk : q.kids = p.kids) (hl : q.ls = p.ls) (hfew : PtFew S.N q) (hkd : q.k = 1 → p.k = 1 := by first | exact fun h => h | exact fun h => absurd h (by decide)) : PM w0 (w.setCell ⟨a, j, none⟩ u) P tag { S with H := S.H.set a q } := by
 have hpa := (h.parts a p hp).1
 obtain ⟨o1, o2, pv, lv, o3, o4, o5, o6, o7, o8⟩ := hpa
 have hw : Only (fun k => (tag k).1 = a ∧ w0.heap.size ≤ k) w (w.setCell ⟨a, j, none⟩ u) := (Only.refl _ w).setCell (p := ⟨a, j, none⟩) ⟨(by show (tag a).1 = a; rw [o1]), o2⟩ u
 refine h.part hp hw (fun g _ => rfl) ⟨o1, o2, pv, lv, o3.set j u (hj pv lv), ?_, ?_, by rw [hl]; exact o6, o7, o8⟩ (Nat.le_refl _) h.cap hfew hkd
 ·rw [hk]
  exact o4.keep fun g hg => Below.heap_setCell _ _ _ _ (fun e => by have h5 := (o7 g hg).1; rw [e] at h5; rw [o1] at h5; cases h5)
 ·rw [hl]
  exact o5.keep fun g hg => Below.heap_setCell _ _ _ _ (fun e => by have h5 := (o8 g hg).1; rw [e] at h5; rw [o1] at h5; cases h5)
theorem PM.free (h : PM w0 w P tag S) (hw : Only (fun k => tag k = (k, 9) ∧ w0.heap.size ≤ k) w w') : PM w0 w' P tag S := by
 obtain ⟨h1, h2, h3, h4, h5, h6, h7, ⟨m1, m2, m3⟩, h9, h10, h11, h12, h13⟩ := h
 refine ⟨h1.trans (hw.below (fun k hk => hk.2) h1.size), h2, h3, h4, h5, h6, h7, ⟨m1.keep (hw.block P m1.lt (by rw [h3]; rintro ⟨e, _⟩; cases e)), m2.keep fun g hg => hw.block g (m2.lt g hg) (by rw [(m3 g hg).1]; rintro ⟨e, _⟩; cases e), m3⟩, fun b r hr => ?_, h10, h11, h12, h13⟩
 obtain ⟨o1, o2, pv, lv, o3, o4, o5, o6, o7, o8⟩ := (h9 b r hr).1
 refine ⟨⟨o1, o2, pv, lv, o3.keep (hw.block b o3.lt (by rw [o1]; rintro ⟨e, _⟩; cases e)), o4.keep fun g hg => hw.block g (o4.lt g hg) (by rw [(o7 g hg).1]; rintro ⟨e, _⟩; cases e), o5.keep fun g hg => hw.block g (o5.lt g hg) (by rw [(o8 g hg).1]; rintro ⟨e, _⟩; cases e), o6, o7, o8⟩, (h9 b r hr).2⟩
end
def Tells (w0 : World) (f : FuncId) (args : Array Value) (v : Value) : Prop := ∀ W, Below w0.heap.size w0 W → Calls Tryz.prog f args W fun e w' => e = .returned v ∧ Below W.heap.size W w'
theorem Tells.at {w0 w W : World} {f : FuncId} {args : Array Value} {v : Value} (h : Tells w0 f args v) (hl : Below w0.heap.size w0 w) (hW : Below w.heap.size w W) : Calls Tryz.prog f args W fun e w' => e = .returned v ∧ Below w.heap.size w w' :=
 (h W (below_later hl hW)).mono fun e w' ⟨h1, h2⟩ => ⟨h1, below_later hW h2⟩
def Reads (w : World) (f : FuncId) (args : Array Value) (v : Value) : Prop := Calls Tryz.prog f args w fun e w' => e = .returned v ∧ ∃ m, w' = w.drewN m
theorem Reads.below {w : World} {f : FuncId} {args : Array Value} {v : Value} (h : Reads w f args v) : Calls Tryz.prog f args w fun e w' => e = .returned v ∧ Below w.heap.size w w' :=
 h.mono fun e w' ⟨h1, m, h2⟩ => ⟨h1, by rw [h2]; exact below_drewN (Below.refl _ _) m⟩
theorem reads_same {w : World} {f : FuncId} {args : Array Value} {v : Value} (h : Calls Tryz.prog f args w fun e w' => e = .returned v ∧ w = w') : Reads w f args v := h.mono fun e w' ⟨h1, h2⟩ => ⟨h1, 0, by rw [← h2]; rfl⟩
theorem Reads.at {f : FuncId} {args : Array Value} {v : Value} {w W : World} (h : Reads W f args v) (hW : Below w.heap.size w W) : Calls Tryz.prog f args W fun e w' => e = .returned v ∧ Below w.heap.size w w' := h.below.mono fun e w' ⟨h1, h2⟩ => ⟨h1, below_later hW h2⟩
structure Low (w0 : World) (X : Scan Rf.Rb) : Prop where
 indent : ∀ (s : Str) (col : Nat), s.length ≤ 4000 → col ≤ 4000 → Tells w0 52 #[str s, .int .i64 (col : Nat)] (.tuple #[.int .i64 (Cl.indC s col : Nat), .int .i64 (Cl.indB s col : Nat)])
 skip : ∀ (s : Str) (col n : Nat), s.length ≤ 4000 → col ≤ 4000 → n ≤ 200000 → Tells w0 113 #[str s, .int .i64 (col : Nat), .int .i64 (n : Nat)] (.tuple #[str (Cl.skp s col n).1, .int .i64 ((Cl.skp s col n).2 : Nat)])
 trimL : ∀ s : Str, s.length ≤ 4000 → Tells w0 73 #[str s] (str (Cl.lft s))
 trimR : ∀ s : Str, s.length ≤ 1000000000 → Tells w0 100 #[str s] (str (Cl.rgt s))
 blank : ∀ s : Str, s.length ≤ 1000000000 → Tells w0 111 #[str s] (.bool (blank s))
 prefix1 : ∀ s : Str, s.length ≤ 4000 → Tells w0 30 #[str s, .string ⟨#[62]⟩] (.bool (s.head? == some 62))
 atx : ∀ s : Str, s.length ≤ 4000 → (X.atx s).1 ≤ 6 ∧ (X.atx s).2.length ≤ 4000 ∧ Tells w0 98 #[str s] (.tuple #[.int .i64 ((X.atx s).1 : Nat), str (X.atx s).2])
 fence : ∀ s : Str, s.length ≤ 4000 → (X.fence s).2.1 ≤ 4000 ∧ (X.fence s).2.2.length ≤ 4000 ∧ Tells w0 101 #[str s] (.tuple #[.int .u8 ((X.fence s).1.toNat : Nat), .int .i64 ((X.fence s).2.1 : Nat), str (X.fence s).2.2])
 html : ∀ s : Str, s.length ≤ 4000 → X.html s ≤ 7 ∧ Tells w0 103 #[str s] (.int .i64 (X.html s : Nat))
 ends : ∀ (s : Str) (n : Nat), s.length ≤ 4000 → 1 ≤ n → n ≤ 7 → Tells w0 96 #[str s, .int .i64 (n : Nat)] (.bool (X.ends s n))
 setx : ∀ s : Str, s.length ≤ 4000 → X.setx s ≤ 2 ∧ Tells w0 104 #[str s] (.int .i64 (X.setx s : Nat))
 rule : ∀ s : Str, s.length ≤ 4000 → Tells w0 106 #[str s] (.bool (X.rule s))
 bul : ∀ s : Str, s.length ≤ 4000 → X.bul s ≤ 1 ∧ X.bul s ≤ s.length ∧ (0 < X.bul s → ∃ c t, s = c :: t ∧ bl c = false ∧ c ≠ 46 ∧ c ≠ 41) ∧ Tells w0 138 #[str s] (.int .i64 (X.bul s : Nat))
 ord : ∀ s : Str, s.length ≤ 4000 → (X.ord s).1 ≤ 1000000000 ∧ (X.ord s).2.2 ≤ s.length ∧ Tells w0 139 #[str s] (.tuple #[.int .i64 ((X.ord s).1 : Nat), .int .u8 ((X.ord s).2.1.toNat : Nat), .int .i64 ((X.ord s).2.2 : Nat)])
 ordB : ∀ s : Str, ∀ c ∈ s.take (X.ord s).2.2, bl c = false
 closes : ∀ (s : Str) (c : UInt8) (n : Nat), s.length ≤ 4000 → n ≤ 100000 → Tells w0 94 #[str s, .int .u8 (c.toNat : Nat), .int .i64 (n : Nat)] (.bool (X.closes s c n))
 une : ∀ s : Str, s.length ≤ 4000 → Tells w0 102 #[str s] (str (X.une s))
 all : ∀ (s : Str) (W : World), s.length ≤ 100000 → Below w0.heap.size w0 W → Calls Tryz.prog 105 #[str s] W fun e w' => ∃ v, e = .returned (.tuple #[v, str (X.defs s).2]) ∧ Rf.Refs w' v (X.defs s).1 ∧ Below W.heap.size W w'
 none : X.defs [] = ([], [])
end Bk
end Go.Proofs.YtkiipaaaakhhfaaGreatDoor
end
section
set_option linter.unusedVariables false
set_option linter.unusedSimpArgs false
set_option maxRecDepth 100000
namespace Go.Proofs.YtkiipaaaakhhfaaGreatDoor
namespace Bk
structure Abs (S : PS) (L : Ln) (hi : Nat) : Prop where
 op : OpenAt S.H (L.ms ++ L.us) L.leaf S.op 0 hi
 ne : L.ms ≠ []
 met : S.met = L.ms.length
 r : L.r = S.r
variable {S : PS} {L : Ln} {hi a i : Nat}
theorem inl_two (h : InL i L) : lastK L.ms = 3 → 2 ≤ L.ms.length := by
 intro e
 cases hm : L.ms with
 | nil => exact absurd hm h.2
 | cons f fs =>
  rw [hm] at e
  have hf : f.k = 1 := by
   have := h.1
   rw [hm] at this
   have := this.1
   unfold okc at this
   omega
  cases fs with
  | nil => have e : f.k = 3 := e; omega
  | cons g gs => simp
theorem Abs.cap (h : Abs S L hi) {M : Nat} (hM : ∀ a p, S.H a = some p → a < M) : Abs S L (min hi M) := ⟨h.op.cap hM (Nat.zero_le _), h.ne, h.met, h.r⟩
theorem Abs.size {w0 w : World} {P : Nat} {tag : Tag} (h : Abs S L hi) (hp : PM w0 w P tag S) : Abs S L (min hi w.heap.size) := h.cap fun a p e => (hp.parts a p e).1.lt
def lastP (S : PS) : Nat := S.op.getLast?.getD 0
theorem Abs.leaf (h : Abs S L hi) {l : Lf} (hl : L.leaf = some l) : ∃ p, S.op.getLast? = some (lastP S) ∧ S.H (lastP S) = some p ∧ LfAt p l := by
 have h1 := h.op
 rw [hl] at h1
 obtain ⟨a, p, h2, h3, h4⟩ := leaf_get h1
 unfold lastP
 rw [h2]
 exact ⟨p, rfl, h3, h4⟩
theorem frame_last {H : Hp} {fs : List Fr} {av : List Nat} {lo hi : Nat} (h : OpenAt H fs none av lo hi) (hne : fs ≠ []) : ∃ a p f, av.getLast? = some a ∧ H a = some p ∧ FrAt p f ∧ f.k = lastK fs := by
 have e := List.dropLast_concat_getLast hne
 have h' := h
 rw [← e] at h'
 obtain ⟨a, p, h1, h2, h3, h4, h5, h6, h7⟩ := frame_at (xs := fs.dropLast) (f := fs.getLast hne) (ys := []) h'
 have hl := h.len
 refine ⟨a, p, fs.getLast hne, ?_, h4, h5, ?_⟩
 ·rw [List.getLast?_eq_getElem?, hl]
  rw [List.length_dropLast] at h1
  exact h1
 ·have := lastK_snoc (fs.getLast hne) fs.dropLast
  rw [e] at this
  exact this.symm
theorem Abs.bare (h : Abs S L hi) (hl : L.leaf = none) : ∃ p f, S.op.getLast? = some (lastP S) ∧ S.H (lastP S) = some p ∧ FrAt p f := by
 have h1 := h.op
 rw [hl] at h1
 obtain ⟨a, p, f, h2, h3, h4, _⟩ := frame_last h1 (by simp [h.ne])
 unfold lastP
 rw [h2]
 exact ⟨p, f, rfl, h3, h4⟩
theorem Abs.len (h : Abs S L hi) : S.op.length = L.ms.length + L.us.length + (if L.leaf.isSome = true then 1 else 0) := by
 have := h.op.len
 rw [List.length_append] at this
 exact this
theorem Abs.settle (h : Abs S L hi) : OpenAt S.H (onLast (grow (shut L.us L.leaf)) L.ms) none (S.op.take S.met) 0 hi := by
 rw [h.met]
 exact settle_at h.ne h.op
theorem lastK_settle (L : Ln) : lastK (onLast (grow (shut L.us L.leaf)) L.ms) = lastK L.ms := lastK_onLast (grow (shut L.us L.leaf)) (fun f => rfl) L.ms
theorem Abs.shut (h : Abs S L hi) : Abs { S with op := S.op.take S.met } L.shut hi := by
 refine ⟨?_, fun e => h.ne ((onLast_ne _ _).1 e), ?_, h.r⟩
 ·show OpenAt S.H (onLast (grow (Bk.shut L.us L.leaf)) L.ms ++ []) none (S.op.take S.met) 0 hi
  rw [List.append_nil]
  exact h.settle
 ·show S.met = (onLast _ L.ms).length
  rw [onLast_len]
  exact h.met
theorem place_len (h : Abs S L hi) (hI : InL i L) (item : Bool) : (L.place item).length = if lastK L.ms = 3 ∧ item = false then S.met - 1 else S.met := by
 unfold Ln.place
 cases item with
 | true => rw [if_pos rfl, onLast_len, if_neg (by simp), h.met]
 | false =>
  rw [if_neg Bool.false_ne_true, pop_len, lastK_settle, onLast_len, h.met]
  by_cases h3 : lastK L.ms = 3
  ·rw [if_pos ⟨inl_two hI h3, h3⟩, if_pos ⟨h3, rfl⟩]
  ·rw [if_neg (fun e => h3 e.2), if_neg (fun e => h3 e.1)]
theorem place_ne' (h : Abs S L hi) (item : Bool) : L.place item ≠ [] := by
 obtain ⟨p, ps, e⟩ := place_ne h.ne item
 rw [e]; simp
theorem Abs.place (h : Abs S L hi) (hI : InL i L) (item : Bool) : OpenAt S.H (L.place item) none (S.op.take (L.place item).length) 0 hi := by
 have h1 := h.settle
 have hl := place_len h hI item
 unfold Ln.place at hl ⊢
 cases item with
 | true =>
  rw [if_pos rfl] at hl ⊢
  rw [hl, if_neg (by simp)]
  exact h1
 | false =>
  rw [if_neg Bool.false_ne_true] at hl ⊢
  have h2 := pop_at h1
  rw [List.take_take] at h2
  have : (popList (onLast (grow (Bk.shut L.us L.leaf)) L.ms)).length ≤ S.met := by rw [hl]; split <;> omega
  rw [Nat.min_eq_left this] at h2
  exact h2
def Hp.begun (H : Hp) (b a : Nat) (p q : Pt) : Hp := (H.set a q).set b { p with kids := p.kids ++ [a] }
theorem begun_at {H : Hp} {ms ys : List Fr} {leaf : Option Lf} {av : List Nat} {hi a b : Nat} {p q : Pt} (hne : ms ≠ []) (h : OpenAt H ms none av 0 hi) (ha : hi ≤ a) (hb : av.getLast? = some b) (hp : H b = some p) (hy : ∀ H' : Hp, H' a = some q → OpenAt H' ys leaf [a] a (a + 1)) : OpenAt (H.begun b a p q) (ms ++ ys) leaf (av ++ [a]) 0 (a + 1) := by
 have hba : b < a := by have := h.mem b (List.mem_of_getLast? hb); omega
 refine more_at hne h ha (fun x hx hn => ?_) (fun x r hx hr => ?_) (hy _ ?_)
 ·have h1 : x ≠ b := fun e => hn (by rw [e]; exact hb)
  exact (Hp.set_ne _ _ h1).trans (Hp.set_ne _ _ (by omega))
 ·rw [hb] at hx
  injection hx with hx
  subst hx
  rw [hp] at hr
  injection hr with hr
  subst hr
  exact Hp.set_eq _ _ _
 ·exact (Hp.set_ne _ _ (by omega)).trans (Hp.set_eq _ _ _)
theorem one_frame {H : Hp} {f : Fr} {q : Pt} {a : Nat} (hq : FrAt q f) (hk : q.kids = []) (hf : f.kids = []) (h : H a = some q) : OpenAt H [f] none [a] a (a + 1) :=
 ⟨a, [], q, [], a + 1, rfl, Nat.le_refl _, h, hq, by rw [hk]; rfl, by rw [hf]; exact KidsAt_nil.2 ⟨rfl, Nat.le_refl _⟩, rfl, Nat.le_refl _⟩
theorem one_leaf {H : Hp} {l : Lf} {q : Pt} {a : Nat} (hq : LfAt q l) (h : H a = some q) : OpenAt H [] (some l) [a] a (a + 1) :=
 ⟨a, q, rfl, Nat.le_refl _, Nat.lt_succ_self _, h, hq⟩
theorem last_take {l : List Nat} {n : Nat} (h0 : 0 < n) (hn : n ≤ l.length) : (l.take n).getLast? = l[n - 1]? := by
 rw [List.getLast?_eq_getElem?, List.length_take, Nat.min_eq_left hn, List.getElem?_take_of_lt (by omega)]
theorem Abs.above (h : Abs S L hi) (hI : InL i L) (item : Bool) : ∃ b p, S.op[(L.place item).length - 1]? = some b ∧ S.H b = some p ∧ (L.place item).length ≤ S.op.length ∧ 0 < (L.place item).length := by
 have h1 := h.place hI item
 obtain ⟨b, p, f, h2, h3, _⟩ := frame_last h1 (place_ne' h item)
 have hp : 0 < (L.place item).length := List.length_pos_iff.2 (place_ne' h item)
 have hl := place_len h hI item
 have hlen := h.len
 have hm := h.met
 have hle : (L.place item).length ≤ S.op.length := by rw [hl]; split <;> omega
 rw [last_take hp hle] at h2
 exact ⟨b, p, h2, h3, hle, hp⟩
theorem Abs.contain (h : Abs S L hi) (hI : InL i L) (item : Bool) {f : Fr} {q p : Pt} {b : Nat} {S' : PS} (ha : hi ≤ a) (hb : S.op[(L.place item).length - 1]? = some b) (hp : S.H b = some p) (hq : FrAt q { f with a := i, z := i, kids := [] }) (hk : q.kids = [])
  (e1 : S'.op = S.op.take (L.place item).length ++ [a]) (e2 : S'.met = (L.place item).length + 1) (e3 : S'.H = S.H.begun b a p q) (e4 : S'.r = S.r) : Abs S' (L.contain i f item) (a + 1) := by
 obtain ⟨b', p', g1, g2, g3, g4⟩ := h.above hI item
 refine ⟨?_, by unfold Ln.contain; simp, ?_, by rw [e4]; exact h.r⟩
 ·show OpenAt S'.H ((L.place item ++ [{ f with a := i, z := i, kids := [] }]) ++ []) none S'.op 0 (a + 1)
  rw [List.append_nil, e1, e3]
  exact begun_at (place_ne' h item) (h.place hI item) ha (by rw [last_take g4 g3]; exact hb) hp fun H' hH => one_frame hq hk rfl hH
 ·rw [e2]; unfold Ln.contain; simp
theorem Abs.opened (h : Abs S L hi) (hI : InL i L) {l : Lf} {q p : Pt} {b : Nat} {S' : PS} (ha : hi ≤ a) (hb : S.op[(L.place false).length - 1]? = some b) (hp : S.H b = some p) (hq : LfAt q { l with a := i, z := i })
  (e1 : S'.op = S.op.take (L.place false).length ++ [a]) (e2 : S'.met = (L.place false).length) (e3 : S'.H = S.H.begun b a p q) (e4 : S'.r = S.r) : Abs S' (L.open i l) (a + 1) := by
 obtain ⟨b', p', g1, g2, g3, g4⟩ := h.above hI false
 refine ⟨?_, place_ne' h false, by rw [e2]; rfl, by rw [e4]; exact h.r⟩
 show OpenAt S'.H (L.place false ++ []) (some { l with a := i, z := i }) S'.op 0 (a + 1)
 rw [e1, e3]
 exact begun_at (place_ne' h false) (h.place hI false) ha (by rw [last_take g4 g3]; exact hb) hp fun H' hH => one_leaf hq hH
theorem Abs.laid (h : Abs S L hi) (hI : InL i L) {B0 : Nat → B} {q p : Pt} {b : Nat} {S' : PS} (ha : hi ≤ a) (hb : S.op[(L.place false).length - 1]? = some b) (hp : S.H b = some p) (hq : ∀ H' : Hp, H' a = some q → TreeAt H' (B0 i) a (a + 1))
  (e1 : S'.op = S.op.take (L.place false).length) (e2 : S'.met = (L.place false).length) (e3 : S'.H = S.H.begun b a p q) (e4 : S'.r = S.r) : Abs S' (L.lay i B0) (a + 1) := by
 obtain ⟨b', p', g1, g2, g3, g4⟩ := h.above hI false
 have h1 := h.place hI false
 refine ⟨?_, fun e => place_ne' h false ((onLast_ne _ _).1 e), ?_, by rw [e4]; exact h.r⟩
 ·show OpenAt S'.H (onLast (grow [B0 i]) (L.place false) ++ []) none S'.op 0 (a + 1)
  rw [List.append_nil, e1, e3]
  have hlast : (S.op.take (L.place false).length).getLast? = some b := by rw [last_take g4 g3]; exact hb
  have hba : b < a := by have := h1.mem b (List.mem_of_getLast? hlast); omega
  refine lay_at (place_ne' h false) h1 ha (fun x hx hn => ?_) (fun x r hx hr => ?_) (hq _ ?_)
  ·have h2 : x ≠ b := fun e => hn (by rw [e]; exact hlast)
   exact (Hp.set_ne _ _ h2).trans (Hp.set_ne _ _ (by omega))
  ·rw [hlast] at hx
   injection hx with hx
   subst hx
   rw [hp] at hr
   injection hr with hr
   subst hr
   exact Hp.set_eq _ _ _
  ·exact (Hp.set_ne _ _ (by omega)).trans (Hp.set_eq _ _ _)
 ·rw [e2]
  show _ = (onLast _ (L.place false)).length
  rw [onLast_len]
theorem Abs.turn (h : Abs S L hi) {l l' : Lf} {q : Pt} {S' : PS} (hl : L.leaf = some l) (hq : LfAt q l') (e1 : S'.op = S.op) (e2 : S'.met = S.met) (e3 : S'.H = S.H.set (lastP S) q) (e4 : S'.r = S.r) : Abs S' { L with leaf := some l' } hi := by
 refine ⟨?_, h.ne, e2.trans h.met, by rw [e4]; exact h.r⟩
 show OpenAt S'.H (L.ms ++ L.us) (some l') S'.op 0 hi
 have h1 := h.op
 rw [hl] at h1
 obtain ⟨p, h2, _⟩ := h.leaf hl
 rw [e1, e3]
 refine leaf_at hq h1 (fun x hx => Hp.set_ne _ _ (fun e => hx (by rw [e]; exact h2))) (fun x hx => ?_)
 rw [h2] at hx
 injection hx with hx
 rw [← hx]
 exact Hp.set_eq _ _ _
theorem Abs.rest (h : Abs S L hi) {S' : PS} {r : Rest} (e1 : S'.op = S.op) (e2 : S'.met = S.met) (e3 : S'.H = S.H) (e4 : S'.r = r) : Abs S' { L with r := r } hi :=
 ⟨by rw [e1, e3]; exact h.op, h.ne, e2.trans h.met, e4.symm⟩
end Bk
end Go.Proofs.YtkiipaaaakhhfaaGreatDoor
end
section
namespace Go.Proofs.YtkiipaaaakhhfaaGreatDoor
open Go Go.RowKit
namespace Bk
set_option maxRecDepth 100000
set_option linter.unusedVariables false
set_option linter.unusedSimpArgs false
theorem infoStr : (Tryz.prog.info? 9).map (fun i => (i.zero, i.size, i.bytes)) = some (some (.string ⟨#[]⟩), 1, 16) := by kernel_rfl
theorem infoPtr : (Tryz.prog.info? 48).map (fun i => (i.zero, i.size, i.bytes)) = some (some (.pointer none), 1, 8) := by kernel_rfl
theorem info_of {e : TypeId} {z : Value} {n b : Nat} (h : (Tryz.prog.info? e).map (fun i => (i.zero, i.size, i.bytes)) = some (some z, n, b)) : ∃ i, Tryz.prog.info? e = some i ∧ i.zero = some z ∧ i.size = n ∧ i.bytes = b := by
 cases hi : Tryz.prog.info? e with
 | none => rw [hi] at h; cases h
 | some i =>
  rw [hi] at h
  simp only [Option.map_some, Option.some.injEq, Prod.mk.injEq] at h
  exact ⟨i, rfl, h.1, h.2.1, h.2.2⟩
section
variable {w0 w w2 : World} {P a : Nat} {tag : Tag} {S : PS} {p : Pt} {T : TypeId} {v v' : Value}
theorem grown_tag {x : Value} {o : Nat × Nat} (hv : ∀ g, v.ownBlock = some g → tag g = o ∧ w0.heap.size ≤ g) (hvl : ∀ g, v.ownBlock = some g → g < w.heap.size) (hl : w0.heap.size ≤ w.heap.size) (hg : (w.alloc (.cells #[x] T)).grownBy w2 v.ownBlock) (hat : v'.ownBlock = v.ownBlock ∨ v'.ownBlock = some (w.heap.size + 1)) :
  Only (fun k => (tag k).1 = o.1 ∧ w0.heap.size ≤ k) w w2 ∧ (∀ g, g < w.heap.size → (if g = w.heap.size + 1 then o else tag g) = tag g) ∧ (∀ g, v'.ownBlock = some g → (if g = w.heap.size + 1 then o else tag g) = o ∧ w0.heap.size ≤ g) := by
 have hs : (w.alloc (.cells #[x] T)).heap.size = w.heap.size + 1 := by rw [World.size_alloc]
 refine ⟨⟨hg.os, hg.tape, hg.output, by have := hg.size; omega, fun k hk hx => ?_⟩, fun g hg' => if_neg (by omega), fun g hg' => ?_⟩
 ·rw [hg.block k (by omega) (fun e => hx ?_)]
  ·exact Below.heap_alloc w _ k hk
  ·have := hv k e.symm
   exact ⟨by rw [this.1], this.2⟩
 ·rcases hat with e | e
  ·rw [e] at hg'
   have h1 := hvl g hg'
   have h2 := hv g hg'
   rw [if_neg (by omega)]
   exact h2
  ·rw [e] at hg'
   injection hg' with hg'
   subst hg'
   exact ⟨if_pos rfl, by omega⟩
theorem Hb.grown {b : Nat} {cs : Array Value} {t : TypeId} {o : Obj} {row : Option Nat} (h : Hb w b cs t) (hg : (w.alloc o).grownBy w2 row) (hne : row ≠ some b) : Hb w2 b cs t :=
 h.keep (by rw [hg.block b (by rw [World.size_alloc]; have := h.lt; omega) (fun e => hne e.symm)]; exact Below.heap_alloc w _ b h.lt)
theorem PM.lines (h : PM w0 w P tag S) (hp : S.H a = some p) {s : Str} (hs : s.length ≤ 4000) (hN : S.N + 1 ≤ 1000000) {pv lv lv' : Value} (hc : PtC w a p pv lv) (hpg : ∀ g, pv.ownBlock = some g → tag g = (a, 1) ∧ w0.heap.size ≤ g) (hlg : ∀ g, lv.ownBlock = some g → tag g = (a, 2) ∧ w0.heap.size ≤ g)
  (hrow : RowW w2 9 lv' (p.ls.map str ++ [str s])) (hg : (w.alloc (.cells #[str s] T)).grownBy w2 lv.ownBlock) (hat : lv'.ownBlock = lv.ownBlock ∨ lv'.ownBlock = some (w.heap.size + 1)) :
  ∃ tag', PM w0 (w2.setCell ⟨a, 10, none⟩ lv') P tag' { S with H := S.H.set a { p with ls := p.ls ++ [s] }, N := S.N + 1 } := by
 have hpa := (h.parts a p hp).1
 have hfw := (h.parts a p hp).2
 obtain ⟨h1, h2, h3⟩ := grown_tag (o := (a, 2)) hlg hc.lines.lt h.low.size hg hat
 have hblk : Hb w2 a (ptC p pv lv) 53 := hc.blk.keep (by
  rw [hg.block a (by rw [World.size_alloc]; have := hc.blk.lt; omega) (fun e => by have := (hlg a e.symm).1; rw [hpa.own] at this; cases this)]
  exact Below.heap_alloc w _ a hc.blk.lt)
 have hrl : ∀ g, lv'.ownBlock = some g → g ≠ a := fun g hg' e => by
  have := (h3 g hg').1
  subst e
  rw [if_neg (by have := hc.blk.lt; omega), hpa.own] at this
  cases this
 refine ⟨_, h.part (q := { p with ls := p.ls ++ [s] }) hp (h1.setCell (p := ⟨a, 10, none⟩) ⟨(by have e := hpa.own; show (tag a).1 = a; rw [e]), hpa.low⟩ lv') h2 ⟨?_, hpa.low, pv, lv', ?_, ?_, ?_, ?_, ?_, h3⟩ (Nat.le_succ _) hN ⟨Nat.le_trans hfw.kids (Nat.le_succ _), ?_, hfw.a, hfw.z0, hfw.z1, hfw.k, hfw.n, hfw.m, hfw.need, hfw.cnt, hfw.ind, ?_⟩⟩
 ·rw [if_neg (by have := hc.blk.lt; omega)]; exact hpa.own
 ·exact hblk.set 10 _ rfl
 ·have r2 : RowW w2 48 pv (p.kids.map ptr) := hc.row.keep fun g hg' => by
   have hlt := hc.row.lt g hg'
   rw [hg.block g (by rw [World.size_alloc]; omega) (fun e => by have h5 := (hlg g e.symm).1; rw [(hpg g hg').1] at h5; cases h5)]
   exact Below.heap_alloc w _ g hlt
  exact r2.keep fun g hg' => Below.heap_setCell _ _ _ _ (fun e => by have h5 := (hpg g hg').1; rw [e] at h5; rw [hpa.own] at h5; cases h5)
 ·rw [List.map_append]
  exact hrow.keep fun g hg' => Below.heap_setCell _ _ _ _ (hrl g hg')
 ·intro e; simp at e
 ·intro g hg'
  have := hpg g hg'
  refine ⟨?_, this.2⟩
  rw [if_neg (by have := hc.row.lt g hg'; omega)]
  exact this.1
 ·show (p.ls ++ [s]).length ≤ S.N + 1
  rw [List.length_append]
  have := hfw.ls
  simp only [List.length_singleton]
  omega
 ·intro x hx
  rcases List.mem_append.1 hx with hx | hx
  ·exact hfw.len x hx
  ·rw [List.mem_singleton.1 hx]; exact hs
theorem PM.kids (h : PM w0 w P tag S) (hp : S.H a = some p) {c : Nat} (hN : S.N + 1 ≤ 1000000) {pv lv pv' : Value} (hc : PtC w a p pv lv) (hnil : p.ls = [] → lv = .slice none 0 0) (hpg : ∀ g, pv.ownBlock = some g → tag g = (a, 1) ∧ w0.heap.size ≤ g) (hlg : ∀ g, lv.ownBlock = some g → tag g = (a, 2) ∧ w0.heap.size ≤ g)
  (hrow : RowW w2 48 pv' (p.kids.map ptr ++ [ptr c])) (hg : (w.alloc (.cells #[ptr c] T)).grownBy w2 pv.ownBlock) (hat : pv'.ownBlock = pv.ownBlock ∨ pv'.ownBlock = some (w.heap.size + 1)) :
  ∃ tag', PM w0 (w2.setCell ⟨a, 9, none⟩ pv') P tag' { S with H := S.H.set a { p with kids := p.kids ++ [c] }, N := S.N + 1 } := by
 have hpa := (h.parts a p hp).1
 have hfw := (h.parts a p hp).2
 obtain ⟨h1, h2, h3⟩ := grown_tag (o := (a, 1)) hpg hc.row.lt h.low.size hg hat
 have hblk : Hb w2 a (ptC p pv lv) 53 := hc.blk.keep (by
  rw [hg.block a (by rw [World.size_alloc]; have := hc.blk.lt; omega) (fun e => by have := (hpg a e.symm).1; rw [hpa.own] at this; cases this)]
  exact Below.heap_alloc w _ a hc.blk.lt)
 have hrl : ∀ g, pv'.ownBlock = some g → g ≠ a := fun g hg' e => by
  have := (h3 g hg').1
  subst e
  rw [if_neg (by have := hc.blk.lt; omega), hpa.own] at this
  cases this
 refine ⟨_, h.part (q := { p with kids := p.kids ++ [c] }) hp (h1.setCell (p := ⟨a, 9, none⟩) ⟨(by have e := hpa.own; show (tag a).1 = a; rw [e]), hpa.low⟩ pv') h2 ⟨?_, hpa.low, pv', lv, ?_, ?_, ?_, hnil, h3, ?_⟩ (Nat.le_succ _) hN ⟨?_, Nat.le_trans hfw.ls (Nat.le_succ _), hfw.a, hfw.z0, hfw.z1, hfw.k, hfw.n, hfw.m, hfw.need, hfw.cnt, hfw.ind, hfw.len⟩⟩
 ·rw [if_neg (by have := hc.blk.lt; omega)]; exact hpa.own
 ·exact hblk.set 9 _ rfl
 ·rw [List.map_append]
  exact hrow.keep fun g hg' => Below.heap_setCell _ _ _ _ (hrl g hg')
 ·have r2 : RowW w2 9 lv (p.ls.map str) := hc.lines.keep fun g hg' => by
   have hlt := hc.lines.lt g hg'
   rw [hg.block g (by rw [World.size_alloc]; omega) (fun e => by have h5 := (hpg g e.symm).1; rw [(hlg g hg').1] at h5; cases h5)]
   exact Below.heap_alloc w _ g hlt
  exact r2.keep fun g hg' => Below.heap_setCell _ _ _ _ (fun e => by have h5 := (hlg g hg').1; rw [e] at h5; rw [hpa.own] at h5; cases h5)
 ·intro g hg'
  have := hlg g hg'
  refine ⟨?_, this.2⟩
  rw [if_neg (by have := hc.lines.lt g hg'; omega)]
  exact this.1
 ·show (p.kids ++ [c]).length ≤ S.N + 1
  rw [List.length_append]
  have := hfw.kids
  simp only [List.length_singleton]
  omega
theorem PM.opens (h : PM w0 w P tag S) {c : Nat} (hN : S.N + 1 ≤ 1000000) {ov ov' : Value} (hc : ParAt w P S ov) (hog : ∀ g, ov.ownBlock = some g → tag g = (P, 4) ∧ w0.heap.size ≤ g)
  (hrow : RowW w2 48 ov' (S.op.map ptr ++ [ptr c])) (hg : (w.alloc (.cells #[ptr c] T)).grownBy w2 ov.ownBlock) (hat : ov'.ownBlock = ov.ownBlock ∨ ov'.ownBlock = some (w.heap.size + 1)) :
  ∃ tag', PM w0 (w2.setCell ⟨P, 8, none⟩ ov') P tag' { S with op := S.op ++ [c], N := S.N + 1, ov := ov' } := by
 obtain ⟨h1, h2, h3⟩ := grown_tag (o := (P, 4)) hog hc.row.lt h.low.size hg hat
 have hblk : Hb w2 P (parC S ov) 58 := hc.blk.keep (by
  rw [hg.block P (by rw [World.size_alloc]; have := hc.blk.lt; omega) (fun e => by have := (hog P e.symm).1; rw [h.own] at this; cases this)]
  exact Below.heap_alloc w _ P hc.blk.lt)
 have hrl : ∀ g, ov'.ownBlock = some g → g ≠ P := fun g hg' e => by
  have := (h3 g hg').1
  subst e
  rw [if_neg (by have := hc.blk.lt; omega), h.own] at this
  cases this
 have hl : (S.op ++ [c]).length = S.op.length + 1 := by simp
 have hf := h.few
 refine ⟨_, h.open { S with op := S.op ++ [c], N := S.N + 1, ov := ov' } (h1.setCell (p := ⟨P, 8, none⟩) ⟨(by have e := h.own; show (tag P).1 = P; rw [e]), h.base⟩ ov') h2 (hblk.set 8 _ rfl) ?_ h3 rfl (Nat.le_succ _) hN (by show (S.op ++ [c]).length ≤ S.N + 1; omega) h.sk h.fit h.num h.sgn (by show S.met ≤ (S.op ++ [c]).length; have := h.met; omega)⟩
 show RowW _ _ ov' ((S.op ++ [c]).map ptr)
 rw [List.map_append]
 exact hrow.keep fun g hg' => Below.heap_setCell _ _ _ _ (hrl g hg')
end
end Bk
end Go.Proofs.YtkiipaaaakhhfaaGreatDoor
end
section
namespace Go.Proofs.YtkiipaaaakhhfaaGreatDoor
open Go Go.RowKit
namespace Bk
set_option maxRecDepth 100000
set_option linter.unusedVariables false
set_option linter.unusedSimpArgs false
section
variable {w0 w w' : World} {P a : Nat} {tag tag' : Tag} {S : PS} {p : Pt} {X : Scan Rf.Rb}
set_option maxHeartbeats 4000000 in
theorem lay_anyO (HL : Low w0 X) (h : PM w0 w P tag S) (s : Str) (col : Nat) (hs : col + 4 * s.length ≤ 4000) :
  Calls Tryz.prog 34 #[ptr P, str s, .int .i64 (col : Nat)] w fun e w' => e = .returned (.tuple #[]) ∧ PM w0 w' P tag { S with t := s, col := col, sk := 0 } ∧ Only (fun k => k = P) w w' := by
 have HI := Lib.hid (HL.indent s col (by omega) (by omega))
 have HP := Lib.hid h
 clear h HL
 unfold ptr str at *
 go_enter Tryz.func34, Tryz.ntmps34
 go_wp2_with fail
 refine (HI.out _ HP.out.low).mono ?_
 rintro e w1 ⟨rfl, hb1⟩
 have HP1 := Lib.hid (HP.out.below hb1)
 obtain ⟨ov, hm, hg⟩ := HP1.out.cells
 have c0 := hm.c0
 have c1 := hm.c1
 have c2 := hm.c2
 have c3 := hm.c3
 have c4 := hm.c4
 have f := hm.fr
 have M1 := Lib.hid hm.blk
 have HB1 := Lib.hid hb1
 clear hm hg hb1
 go_wp2
 go_end0
 refine ⟨rfl, HP1.out.par _ (((((Only.refl _ _).setP _ _).setP _ _).setP _ _).setP _ _ |>.setP _ _) (fun ov h => ((((h.set 0 _ rfl).set 1 _ rfl).set 2 _ rfl).set 3 _ rfl).set 4 _ rfl) rfl rfl rfl (Nat.zero_le _) hs HP.out.num HP.out.sgn HP.out.met, ((((((Only.of_below HB1.out).setP _ _).setP _ _).setP _ _).setP _ _).setP _ _)⟩
theorem lay_any (HL : Low w0 X) (h : PM w0 w P tag S) (s : Str) (col : Nat) (hs : col + 4 * s.length ≤ 4000) :
  Calls Tryz.prog 34 #[ptr P, str s, .int .i64 (col : Nat)] w fun e w' => e = .returned (.tuple #[]) ∧ PM w0 w' P tag { S with t := s, col := col, sk := 0 } :=
 (lay_anyO HL h s col hs).mono fun e w' ⟨h1, h2, _⟩ => ⟨h1, h2⟩
theorem sxt_list (l : Str) (a : Nat) : (⟨l.toArray⟩ : ByteArray).extract a l.length = ⟨(l.drop a).toArray⟩ := by
 apply bytes_ext
 rw [ByteArray.data_extract]
 simp
 rw [List.take_of_length_le (by simp)]
set_option maxHeartbeats 4000000 in
theorem blank_any (h : PM w0 w P tag S) : Reads w 38 #[ptr P] (.bool (blank S.r.s)) := by
 obtain ⟨ov, hm, hg⟩ := h.cells
 have hb := RS.blankB S.t S.col S.sk
 have c0 := hm.c0
 have c3 := hm.c3
 have hz : (⟨S.t.toArray⟩ : ByteArray).size = S.t.length := rfl
 rw [show blank S.r.s = _ from hb]
 clear hm hg hb h
 unfold ptr Reads
 generalize (⟨S.t.toArray⟩ : ByteArray) = T at *
 generalize Cl.indB S.t S.col = b at *
 generalize S.t.length = n at *
 have e : ((b : Int) == (n : Int)) = decide (b = n) := by rw [Bool.eq_iff_iff, beq_iff_eq, decide_eq_true_iff]; omega
 go_enter Tryz.func38, Tryz.ntmps38
 go_wp2
 go_quiet (fail)
 go_wp2
 go_ret
 exact ⟨by first | exact retB e | rfl, _, rfl⟩
set_option maxHeartbeats 4000000 in
theorem indent_any (h : PM w0 w P tag S) : Reads w 60 #[ptr P] (.int .i64 (S.r.ind : Nat)) := by
 obtain ⟨ov, hm, hg⟩ := h.cells
 have hb := RS.ind S.t S.col S.sk
 have hsk := h.sk
 have hfit := h.fit
 have hle := Cl.indC_le S.t S.col
 have c2 := hm.c2
 have c4 := hm.c4
 rw [show S.r.ind = _ from hb]
 clear hm hg hb h
 unfold ptr Reads
 generalize Cl.indC S.t S.col = b at *
 generalize S.sk = n at *
 have e0 : ((b - n : Nat) : Int) = (b : Int) - (n : Int) := by omega
 have e1 : (0 : Int) ≤ (b : Int) - (n : Int) := by omega
 have e2 : (b : Int) - (n : Int) ≤ 4000 := by omega
 rw [e0]
 go_enter Tryz.func60, Tryz.ntmps60
 go_wp2
 go_quiet (fail)
 go_wp2
 go_ret
 exact ⟨rfl, _, rfl⟩
theorem retS {a b : ByteArray} (h : a = b) : Ending.returned (.string a) = .returned (.string b) := by rw [h]
set_option maxHeartbeats 4000000 in
theorem behind_any (h : PM w0 w P tag S) : Reads w 74 #[ptr P] (str S.r.aft) := by
 obtain ⟨ov, hm, hg⟩ := h.cells
 have hb := RS.aft S.t S.col S.sk
 have hle := Cl.indB_le S.t S.col
 have hfit := h.fit
 have c0 := hm.c0
 have c3 := hm.c3
 have hz : (⟨S.t.toArray⟩ : ByteArray).size = S.t.length := rfl
 have hx := Lib.hid (sxt_list S.t (Cl.indB S.t S.col))
 rw [show S.r.aft = _ from hb]
 clear hm hg hb h
 unfold ptr str Reads at *
 generalize (⟨S.t.toArray⟩ : ByteArray) = T at *
 generalize (⟨(S.t.drop (Cl.indB S.t S.col)).toArray⟩ : ByteArray) = R at *
 generalize Cl.indB S.t S.col = b at *
 generalize S.t.length = n at *
 have e0 : (0 : Int) ≤ (b : Int) := by omega
 have e1 : (b : Int) ≤ (n : Int) := by omega
 go_enter Tryz.func74, Tryz.ntmps74
 go_wp2
 go_quiet (fail)
 go_wp2
 go_ret
 exact ⟨retS hx.out, _, rfl⟩
set_option maxHeartbeats 4000000 in
theorem skip_anyO (h : PM w0 w P tag S) (n : Nat) (hn : n ≤ 100000) :
  Calls Tryz.prog 108 #[ptr P, .int .i64 (n : Nat)] w fun e w' => e = .returned (.tuple #[]) ∧ PM w0 w' P tag { S with sk := S.sk + min n (Cl.indC S.t S.col - S.sk) } ∧ Only (fun k => k = P) w w' := by
 obtain ⟨ov, hm, hg⟩ := h.cells
 have hb := RS.ind S.t S.col S.sk
 have hsk := h.sk
 have hfit := h.fit
 have hle := Cl.indC_le S.t S.col
 have HI := Lib.hid (fun W (hW : Below w.heap.size w W) => ((indent_any (h.below hW)).below).mono fun e w' he => (⟨he.1, below_later hW he.2⟩ : e = .returned _ ∧ Below w.heap.size w w'))
 rw [show S.r.ind = _ from hb] at HI
 have HP := Lib.hid h
 have HS := Lib.hid (fun W (hW : Below w.heap.size w W) => (⟨keep_cell hW hm.c4, ((hm.blk.below hW).fr 4)⟩ : W.cell? ⟨P, 4, none⟩ = some (.int .i64 (S.sk : Nat)) ∧ W.frozen? ⟨P, 4, none⟩ = false))
 clear hm hg hb h
 unfold ptr at *
 obtain ⟨b, hbb⟩ : ∃ b, Cl.indC S.t S.col = b := ⟨_, rfl⟩
 obtain ⟨k, hk⟩ : ∃ k, S.sk = k := ⟨_, rfl⟩
 rw [hbb, hk] at HI ⊢
 rw [hk] at HS
 rw [hbb, hk] at hsk
 rw [hbb] at hle
 have e0 : (min (n : Int) ((b - k : Nat) : Int)) = ((min n (b - k) : Nat) : Int) := by omega
 have e4 : (if b - k < n then ((b - k : Nat) : Int) else (n : Int)) = ((min n (b - k) : Nat) : Int) := by split <;> omega
 have e1 : (0 : Int) ≤ (k : Int) + ((min n (b - k) : Nat) : Int) := by omega
 have e2 : (k : Int) + ((min n (b - k) : Nat) : Int) ≤ 10000 := by omega
 have e3 : k + min n (b - k) ≤ b := by omega
 have HBB := Lib.hid hbb
 have HK := Lib.hid hk
 have HE := Lib.hid e3
 have HW := Lib.hid (Below.refl w.heap.size w)
 clear hbb hk e3
 generalize (min n (b - k)) = d at *
 generalize (b - k) = q at *
 go_enter Tryz.func108, Tryz.ntmps108
 have c4' := (HS.out _ HW.out).1
 have f' := (HS.out _ HW.out).2
 go_region_law (go_simp; go_at_call 60; refine (HI.out _ (by first | exact HW.out.drew | exact HW.out)).mono ?_; rintro e w2 ⟨rfl, hb2⟩; have c4 := (HS.out _ hb2).1; have f4 := (HS.out _ hb2).2)
 all_goals
  go_end0
  refine ⟨rfl, (HP.out.below hb2).par _ ((Only.refl _ _).setP _ _) (fun ov h => ?_) rfl rfl rfl (by rw [HBB.out]; exact HE.out) HP.out.fit HP.out.num HP.out.sgn HP.out.met, (Only.of_below hb2).setP _ _⟩
  refine h.set 4 _ ?_
  rw [IntWalk.i64_in _ (by omega)]
  rfl
theorem skip_any (h : PM w0 w P tag S) (n : Nat) (hn : n ≤ 100000) :
  Calls Tryz.prog 108 #[ptr P, .int .i64 (n : Nat)] w fun e w' => e = .returned (.tuple #[]) ∧ PM w0 w' P tag { S with sk := S.sk + min n (Cl.indC S.t S.col - S.sk) } :=
 (skip_anyO h n hn).mono fun e w' ⟨h1, h2, _⟩ => ⟨h1, h2⟩
theorem drop_list (l : Str) (n : Nat) : (⟨l.toArray⟩ : ByteArray).extract n l.length = ⟨(l.drop n).toArray⟩ := sxt_list l n
set_option maxHeartbeats 4000000 in
theorem pass_anyO (HL : Low w0 X) (h : PM w0 w P tag S) (n : Nat) (hn : n ≤ S.r.aft.length) :
  Calls Tryz.prog 107 #[ptr P, .int .i64 (n : Nat)] w fun e w' => e = .returned (.tuple #[]) ∧ PM w0 w' P tag { S with t := S.r.aft.drop n, col := S.col + Cl.indC S.t S.col + n, sk := 0 } ∧ Only (fun k => k = P) w w' := by
 have hb : S.r.aft = _ := RS.aft S.t S.col S.sk
 have hsk := h.sk
 have hfit := h.fit
 have hle := Cl.indC_le S.t S.col
 have hleB := Cl.indB_le S.t S.col
 have hCB : Cl.indC S.t S.col ≤ 4 * Cl.indB S.t S.col := indCB S.t S.col
 have hlen : S.r.aft.length = S.t.length - Cl.indB S.t S.col := by rw [hb, List.length_drop]
 have hfit2 : S.col + Cl.indC S.t S.col + n + 4 * (S.r.aft.drop n).length ≤ 4000 := by rw [List.length_drop, hlen]; omega
 obtain ⟨ov, hm, hg⟩ := h.cells
 have HR := Lib.hid (fun W (hW : Below w.heap.size w W) => (behind_any (h.below hW)).at hW)
 have HLy := Lib.hid (fun W (hW : Below w.heap.size w W) => (lay_anyO HL (h.below hW) (S.r.aft.drop n) (S.col + Cl.indC S.t S.col + n) hfit2).mono fun e w' hh => (⟨hh.1, hh.2.1, (Only.of_below hW).trans hh.2.2⟩ : e = .returned (.tuple #[]) ∧ PM w0 w' P tag { S with t := S.r.aft.drop n, col := S.col + Cl.indC S.t S.col + n, sk := 0 } ∧ Only (fun k => k = P) w w'))
 have HW := Lib.hid (Below.refl w.heap.size w)
 have hz : (⟨S.r.aft.toArray⟩ : ByteArray).size = S.r.aft.length := rfl
 have hX := drop_list S.r.aft n
 have c1 := hm.c1
 have c2 := hm.c2
 clear hm hg h hb HL
 unfold ptr str at *
 obtain ⟨b, hbb⟩ : ∃ b, Cl.indC S.t S.col = b := ⟨_, rfl⟩
 obtain ⟨k, hk⟩ : ∃ k, S.col = k := ⟨_, rfl⟩
 obtain ⟨q, hq⟩ : ∃ q, k + b + n = q := ⟨_, rfl⟩
 rw [hbb, hk, hq] at HLy ⊢
 rw [hk] at c1
 rw [hbb] at c2
 rw [hbb] at hle
 rw [hk] at hfit
 have e1 : (n : Int) ≤ (S.r.aft.length : Int) := by omega
 obtain ⟨r, hr⟩ : ∃ r, k + b = r := ⟨_, rfl⟩
 have e2 : IntKind.i64.wrap ((k : Int) + (b : Int)) = (r : Int) := by rw [IntWalk.i64_in _ (by omega)]; omega
 have e3 : IntKind.i64.wrap ((r : Int) + (n : Int)) = (q : Int) := by rw [IntWalk.i64_in _ (by omega)]; omega
 have e5 : (0 : Int) ≤ (n : Int) := by omega
 clear hr
 clear hbb hk hq hfit2 hlen hle hCB hleB hsk
 generalize S.r.aft.length = z at *
 generalize (⟨S.r.aft.toArray⟩ : ByteArray) = A at *
 generalize (⟨(S.r.aft.drop n).toArray⟩ : ByteArray) = D at *
 go_enter Tryz.func107, Tryz.ntmps107
 go_region_law (first
  | (go_simp; go_at_call 74; with_reducible refine (HR.out _ (by first | exact HW.out.drew | exact HW.out | assumption)).mono ?_; rintro e w2 ⟨rfl, hb2⟩; have c1' := keep_cell hb2 c1; have c2' := keep_cell hb2 c2)
  | (go_simp; go_at_call 34; with_reducible refine (HLy.out _ (by assumption)).mono ?_; rintro e w3 ⟨rfl, hp3⟩))
 all_goals
  go_end0
  exact ⟨rfl, hp3⟩
theorem pass_any (HL : Low w0 X) (h : PM w0 w P tag S) (n : Nat) (hn : n ≤ S.r.aft.length) :
  Calls Tryz.prog 107 #[ptr P, .int .i64 (n : Nat)] w fun e w' => e = .returned (.tuple #[]) ∧ PM w0 w' P tag { S with t := S.r.aft.drop n, col := S.col + Cl.indC S.t S.col + n, sk := 0 } :=
 (pass_anyO HL h n hn).mono fun e w' ⟨h1, h2, _⟩ => ⟨h1, h2⟩
theorem ret2 {a b : Value} (h : a = b) : Ending.returned a = .returned b := by rw [h]
set_option maxHeartbeats 4000000 in
theorem without_any (HL : Low w0 X) (h : PM w0 w P tag S) (n : Nat) (hn : n ≤ 100000) :
  Calls Tryz.prog 76 #[ptr P, .int .i64 (n : Nat)] w fun e w' => e = .returned (str (S.r.skip n).s) ∧ Below w.heap.size w w' := by
 have hb : (S.r.skip n).s = _ := RS.without S.t S.col S.sk n
 have hsk := h.sk
 have hfit := h.fit
 have hle := Cl.indC_le S.t S.col
 obtain ⟨ov, hm, hg⟩ := h.cells
 have HK := Lib.hid (fun W (hW : Below w.heap.size w W) => (HL.skip S.t S.col (S.sk + n) (by omega) (by omega) (by omega)).at h.low hW)
 have HW := Lib.hid (Below.refl w.heap.size w)
 have HS := Lib.hid (fun W (hW : Below w.heap.size w W) => (⟨keep_cell hW hm.c0, keep_cell hW hm.c1, keep_cell hW hm.c4⟩ : W.cell? ⟨P, 0, none⟩ = some (.string ⟨S.t.toArray⟩) ∧ W.cell? ⟨P, 1, none⟩ = some (.int .i64 (S.col : Nat)) ∧ W.cell? ⟨P, 4, none⟩ = some (.int .i64 (S.sk : Nat))))
 rw [hb]
 clear hm hg h hb HL
 unfold ptr str at *
 obtain ⟨k, hk⟩ : ∃ k, S.sk = k := ⟨_, rfl⟩
 obtain ⟨q, hq⟩ : ∃ q, k + n = q := ⟨_, rfl⟩
 rw [hk, hq] at HK ⊢
 rw [hk] at HS
 have e2 : IntKind.i64.wrap ((k : Int) + (n : Int)) = (q : Int) := by rw [IntWalk.i64_in _ (by omega)]; omega
 clear hk hq hle hsk
 generalize (⟨S.t.toArray⟩ : ByteArray) = T at *
 generalize (⟨(Cl.skp S.t S.col q).1.toArray⟩ : ByteArray) = D at *
 generalize (Cl.skp S.t S.col q).2 = c' at *
 generalize S.col = co at *
 go_enter Tryz.func76, Tryz.ntmps76
 go_wp2
 go_region_held3 (fun W => W.cell? ⟨P, 0, none⟩ = some (.string T) ∧ W.cell? ⟨P, 1, none⟩ = some (.int .i64 (co : Nat)) ∧ W.cell? ⟨P, 4, none⟩ = some (.int .i64 (k : Nat))) (first | exact HS.out _ HW.out.drew | exact HS.out _ (by assumption)) ((go_at_call 113; with_reducible refine (HK.out _ HW.out.drew).mono ?_; rintro e w2 ⟨rfl, hb2⟩))
 all_goals
  go_wp2
  go_ret
  exact ⟨rfl, hb2⟩
set_option maxHeartbeats 4000000 in
theorem left_any (HL : Low w0 X) (h : PM w0 w P tag S) :
  Calls Tryz.prog 95 #[ptr P] w fun e w' => e = .returned (str S.r.s) ∧ Below w.heap.size w w' := by
 have e : (S.r.skip 0).s = S.r.s := by
  show (Cl.skp S.r.s S.r.col 0).1 = _
  rw [skp_zero]
 have H := Lib.hid (without_any HL h 0 (by omega))
 rw [e] at H
 unfold ptr str at *
 generalize (⟨S.r.s.toArray⟩ : ByteArray) = T at *
 clear h HL e
 go_enter Tryz.func95, Tryz.ntmps95
 go_wp2_with fail
 refine H.out.mono ?_
 rintro e w2 ⟨rfl, hb2⟩
 go_wp2
 go_ret
 exact ⟨rfl, hb2⟩
end
end Bk
end Go.Proofs.YtkiipaaaakhhfaaGreatDoor
end
