import Derived.Test.YtkiipaaaakhhfaaGreatDoorCLk1
import Derived.Test.YtkiipaaaakhhfaaGreatDoorCClass1
import Derived.Test.YtkiipaaaakhhfaaGreatDoorProg
import Derived.WalkKit
import Derived.BigCall
import Derived.BigQuiet
import Derived.Below
import Derived.WideShapes
import Derived.Deep.LoopGhost
import Derived.OwnWalk
import Derived.Lib.Hide
import Derived.RegionTactic
import Derived.Laws.ResultCell
import Derived.Laws.Rows
import Derived.Lib.Bytealg
import Derived.Lib.SlTrimSet
import Derived.Test.YtkiipaaaakhhfaaGreatDoorCLk2
section
set_option linter.unusedVariables false
set_option linter.unusedSimpArgs false
set_option maxRecDepth 100000
namespace Go.Proofs.YtkiipaaaakhhfaaGreatDoor
namespace Rf
open Lk
def lfN (l : List UInt8) : Nat := l.count 10
def gapP (l : List UInt8) : Option Nat := if 1 < lfN (l.take (whN l)) then none else some (whN l)
def endP : List UInt8 → Option Nat
 | [] => some 0
 | c :: t => if bl c = true then (endP t).map (· + 1) else if c = 10 then some 1 else none
def titledP (l : List UInt8) : Option (List UInt8 × Nat) := match gapP l with
 | none => none
 | some g => if g = 0 then none else
  if (titP (l.drop g)).2 = 0 then none else
  (endP (l.drop (g + (titP (l.drop g)).2))).map fun e => ((titP (l.drop g)).1, g + (titP (l.drop g)).2 + e)
structure R where
 lab : List UInt8
 dst : List UInt8
 tit : List UInt8
def nilR : R := ⟨[], [], []⟩
def backP (u : List UInt8) : Option (List UInt8 × Nat) := match titledP u with
 | some q => some q
 | none => (endP u).map fun e => ([], e)
def takeP (l : List UInt8) : R × Nat :=
 if (labP l).2 = 0 then (nilR, 0) else match l.drop (labP l).2 with
 | [] => (nilR, 0)
 | c :: t => if c ≠ 58 then (nilR, 0) else match gapP t with
  | none => (nilR, 0)
  | some g => if (destP (t.drop g)).2.2 = false then (nilR, 0) else
   match backP (t.drop (g + (destP (t.drop g)).2.1)) with
   | none => (nilR, 0)
   | some q => (⟨Ks.lab (labP l).1, (destP (t.drop g)).1, q.1⟩, (labP l).2 + 1 + g + (destP (t.drop g)).2.1 + q.2)
def allF : Nat → List UInt8 → List R × List UInt8
 | 0, l => ([], l)
 | f + 1, l => if (takeP l).2 = 0 then ([], l) else ((takeP l).1 :: (allF f (l.drop (takeP l).2)).1, (allF f (l.drop (takeP l).2)).2)
def allP (l : List UInt8) : List R × List UInt8 := allF l.length l
def findP (l : List R) (x : List UInt8) : Option R := if x = [] then none else l.find? fun r => r.lab == x
theorem take_parts {l : List UInt8} {r : R} {n : Nat} (h : takeP l = (r, n)) (h0 : 0 < n) : ∃ x a t g d k q e, labP l = (x, a) ∧ 0 < a ∧ l.drop a = 58 :: t ∧ gapP t = some g ∧ destP (t.drop g) = (d, k, true) ∧ backP (t.drop (g + k)) = some (q, e) ∧ r = ⟨Ks.lab x, d, q⟩ ∧ n = a + 1 + g + k + e := by
 obtain ⟨x, a, hl⟩ : ∃ x a, labP l = (x, a) := ⟨_, _, rfl⟩
 unfold takeP at h
 rw [hl] at h
 simp only at h
 split at h
 ·cases h; omega
 ·rename_i ha
  split at h
  ·cases h; omega
  ·rename_i c t hd
   split at h
   ·cases h; omega
   ·rename_i hc
    have hc : c = 58 := by simpa using hc
    subst hc
    split at h
    ·cases h; omega
    ·rename_i g hg
     obtain ⟨d, k, b, hD⟩ : ∃ d k b, destP (t.drop g) = (d, k, b) := ⟨_, _, _, rfl⟩
     rw [hD] at h
     simp only at h
     split at h
     ·cases h; omega
     ·rename_i hb
      have hb : b = true := by simpa using hb
      subst hb
      split at h
      ·cases h; omega
      ·rename_i q hq
       obtain ⟨q, e⟩ := q
       cases h
       exact ⟨x, a, t, g, d, k, q, e, hl, by omega, hd, hg, hD, hq, rfl, rfl⟩
theorem take_make {l x t d q : List UInt8} {a g k e : Nat} (h1 : labP l = (x, a)) (h2 : 0 < a) (h3 : l.drop a = 58 :: t) (h4 : gapP t = some g) (h5 : destP (t.drop g) = (d, k, true)) (h6 : backP (t.drop (g + k)) = some (q, e)) : takeP l = (⟨Ks.lab x, d, q⟩, a + 1 + g + k + e) := by
 unfold takeP
 rw [h1]
 simp only
 rw [if_neg (by omega), h3]
 simp only
 rw [if_neg (by decide), h4]
 simp only
 rw [h5]
 simp only
 rw [if_neg (by decide), h6]
section
variable {l x t d : List UInt8} {a g k : Nat}
theorem take_no1 (h1 : labP l = (x, 0)) : takeP l = (nilR, 0) := by unfold takeP; rw [h1]; rfl
theorem take_no2 (h1 : labP l = (x, a)) (h2 : 0 < a) (h3 : l.drop a = []) : takeP l = (nilR, 0) := by
 unfold takeP; rw [h1]; simp only; rw [if_neg (by omega), h3]
theorem take_no3 {c : UInt8} (h1 : labP l = (x, a)) (h2 : 0 < a) (h3 : l.drop a = c :: t) (h4 : c ≠ 58) : takeP l = (nilR, 0) := by
 unfold takeP; rw [h1]; simp only; rw [if_neg (by omega), h3]; simp only; rw [if_pos h4]
theorem take_no4 (h1 : labP l = (x, a)) (h2 : 0 < a) (h3 : l.drop a = 58 :: t) (h4 : gapP t = none) : takeP l = (nilR, 0) := by
 unfold takeP; rw [h1]; simp only; rw [if_neg (by omega), h3]; simp only; rw [if_neg (by decide), h4]
theorem take_no5 (h1 : labP l = (x, a)) (h2 : 0 < a) (h3 : l.drop a = 58 :: t) (h4 : gapP t = some g) (h5 : destP (t.drop g) = (d, k, false)) : takeP l = (nilR, 0) := by
 unfold takeP; rw [h1]; simp only; rw [if_neg (by omega), h3]; simp only; rw [if_neg (by decide), h4]; simp only; rw [h5]; rfl
theorem take_no6 (h1 : labP l = (x, a)) (h2 : 0 < a) (h3 : l.drop a = 58 :: t) (h4 : gapP t = some g) (h5 : destP (t.drop g) = (d, k, true)) (h6 : backP (t.drop (g + k)) = none) : takeP l = (nilR, 0) := by
 unfold takeP; rw [h1]; simp only; rw [if_neg (by omega), h3]; simp only; rw [if_neg (by decide), h4]; simp only; rw [h5]; simp only; rw [if_neg (by decide), h6]
end
theorem back_some {u : List UInt8} {q : List UInt8 × Nat} (h : titledP u = some q) : backP u = some q := by unfold backP; rw [h]
theorem back_end {u : List UInt8} {e : Nat} (h : titledP u = none) (he : endP u = some e) : backP u = some ([], e) := by unfold backP; rw [h, he]; rfl
theorem back_none {u : List UInt8} (h : titledP u = none) (he : endP u = none) : backP u = none := by unfold backP; rw [h, he]; rfl
theorem titled_no1 {u : List UInt8} (h : gapP u = none) : titledP u = none := by unfold titledP; rw [h]
theorem titled_no2 {u : List UInt8} (h : gapP u = some 0) : titledP u = none := by unfold titledP; rw [h]; rfl
theorem titled_no3 {u : List UInt8} {g : Nat} (h : gapP u = some g) (h2 : (titP (u.drop g)).2 = 0) : titledP u = none := by
 unfold titledP; rw [h]; simp only
 split
 ·rfl
 ·first | rfl | rw [if_pos h2]
theorem titled_no4 {u : List UInt8} {g : Nat} (h : gapP u = some g) (h2 : endP (u.drop (g + (titP (u.drop g)).2)) = none) : titledP u = none := by
 unfold titledP; rw [h]; simp only
 split
 ·rfl
 ·split
  ·rfl
  ·rw [h2]; rfl
theorem gap_some {l : List UInt8} {g : Nat} (h : gapP l = some g) : g = whN l ∧ lfN (l.take g) ≤ 1 := by
 unfold gapP at h
 split at h
 ·cases h
 ·cases h; exact ⟨rfl, by omega⟩
theorem gap_le {l : List UInt8} {g : Nat} (h : gapP l = some g) : g ≤ l.length := by rw [(gap_some h).1]; exact whN_le l
theorem end_le : ∀ (l : List UInt8) (e : Nat), endP l = some e → e ≤ l.length
 | [], e, h => by cases h; exact Nat.le_refl _
 | c :: t, e, h => by
  rw [endP] at h
  split at h
  ·obtain ⟨j, hj, rfl⟩ := Option.map_eq_some_iff.1 h
   have := end_le t j hj
   simp only [List.length_cons]; omega
  ·split at h
   ·cases h; simp
   ·cases h
theorem titled_some {l x : List UInt8} {n : Nat} (h : titledP l = some (x, n)) : ∃ g p e, gapP l = some g ∧ 0 < g ∧ titP (l.drop g) = (x, p) ∧ 0 < p ∧ endP (l.drop (g + p)) = some e ∧ n = g + p + e := by
 unfold titledP at h
 split at h
 ·cases h
 ·rename_i g hg
  split at h
  ·cases h
  ·rename_i h1
   split at h
   ·cases h
   ·rename_i h2
    obtain ⟨e, he, heq⟩ := Option.map_eq_some_iff.1 h
    cases heq
    exact ⟨g, (titP (l.drop g)).2, e, hg, Nat.pos_of_ne_zero h1, rfl, Nat.pos_of_ne_zero h2, he, rfl⟩
theorem titled_make {l x : List UInt8} {g p e : Nat} (h1 : gapP l = some g) (h2 : 0 < g) (h3 : titP (l.drop g) = (x, p)) (h4 : 0 < p) (h5 : endP (l.drop (g + p)) = some e) : titledP l = some (x, g + p + e) := by
 unfold titledP
 rw [h1]
 simp only
 rw [h3]
 simp only
 rw [if_neg (by omega), if_neg (by omega), h5]
 rfl
theorem tit_le {l x : List UInt8} {p : Nat} (h : titP l = (x, p)) : p ≤ l.length := by
 rcases Nat.eq_zero_or_pos p with h0 | h0
 ·omega
 ·exact (tit_take [] h h0).2.2.2
theorem back_le {u q : List UInt8} {e : Nat} (h : backP u = some (q, e)) : e ≤ u.length := by
 unfold backP at h
 split at h
 ·rename_i y hy
  cases h
  obtain ⟨g, p, e', h1, h2, h3, h4, h5, rfl⟩ := titled_some hy
  have := gap_le h1
  have := tit_le h3
  have := end_le _ _ h5
  simp only [List.length_drop] at *
  omega
 ·obtain ⟨e', he, heq⟩ := Option.map_eq_some_iff.1 h
  cases heq
  exact end_le _ _ he
theorem dest_le {l x : List UInt8} {n : Nat} (h : destP l = (x, n, true)) : 1 ≤ n ∧ n ≤ l.length := ⟨(dest_true h).1, (dest_true h).2.1⟩
theorem take_le {l : List UInt8} {r : R} {n : Nat} (h : takeP l = (r, n)) : n ≤ l.length := by
 rcases Nat.eq_zero_or_pos n with h0 | h0
 ·omega
 obtain ⟨x, a, t, g, d, k, q, e, h1, h2, h3, h4, h5, h6, rfl, rfl⟩ := take_parts h h0
 have e1 := congrArg List.length h3
 have e2 := gap_le h4
 have e3 := (dest_le h5).2
 have e4 := back_le h6
 simp only [List.length_drop, List.length_cons] at *
 omega
theorem take_zero {l : List UInt8} (h : (takeP l).2 = 0) : takeP l = (nilR, 0) := by
 unfold takeP at h ⊢
 split
 ·rfl
 ·rename_i h0
  rw [if_neg h0] at h
  split
  ·rfl
  ·rename_i c t hd
   rw [hd] at h
   simp only at h
   split
   ·rfl
   ·rename_i hc
    rw [if_neg hc] at h
    split
    ·rfl
    ·rename_i g hg
     rw [hg] at h
     simp only at h
     split
     ·rfl
     ·rename_i hb
      rw [if_neg hb] at h
      split
      ·rfl
      ·rename_i q hq
       rw [hq] at h
       simp only at h
       omega
theorem lab_head {l x : List UInt8} {a : Nat} (h : labP l = (x, a)) (h0 : 0 < a) : l.head? = some 91 := by
 cases l with
 | nil => cases h; omega
 | cons c t =>
  rcases Classical.em (c = 91) with rfl | hc
  ·rfl
  ·rw [lab_none t hc] at h; cases h; omega
theorem take_head {l : List UInt8} (h : 0 < (takeP l).2) : l.head? = some 91 := by
 obtain ⟨x, a, t, g, d, k, q, e, h1, h2, _⟩ := take_parts (r := (takeP l).1) (n := (takeP l).2) rfl h
 exact lab_head h1 h2
theorem take_nil : takeP [] = (nilR, 0) := rfl
theorem find_here {H B S : UInt8 → Bool} {l : List UInt8} {f : Bool} {i j : Nat} (h : find H B S f l = some i) (hj : i < j) : find H B S f (l.take j) = some i := by
 have := find_take ((l.drop (i + 1)).take (j - (i + 1))) l f i h
 rw [← List.take_add, show i + 1 + (j - (i + 1)) = j by omega] at this
 exact this
theorem dst_zero {o : Nat} {f : Bool} {l : List UInt8} (h : dst o f l = some 0) : o = 0 := by
 cases l with
 | nil =>
  rw [dst_nil] at h
  split at h
  ·assumption
  ·cases h
 | cons c t =>
  rw [dst_cons] at h
  have no : ∀ o', (dst o' (nf f c t) t).map (· + 1) = some 0 → False := fun o' hm => by
   obtain ⟨j, _, hj⟩ := Option.map_eq_some_iff.1 hm
   omega
  split at h
  ·split at h
   ·assumption
   ·cases h
  ·split at h
   ·split at h
    ·cases h
    ·exact (no _ h).elim
   ·split at h
    ·split at h
     ·assumption
     ·exact (no _ h).elim
    ·exact (no _ h).elim
theorem dst_cut : ∀ (l : List UInt8) (o : Nat) (f : Bool) (n j : Nat), dst o f l = some n → n ≤ j → dst o f (l.take j) = some n
 | [], o, f, n, j, h, hj => by rw [List.take_nil]; exact h
 | c :: t, o, f, n, 0, h, hj => by
  have hn : n = 0 := by omega
  subst hn
  have := dst_zero h
  subst this
  rw [List.take_zero, dst_nil, if_pos rfl]
 | c :: t, o, f, n, j + 1, h, hj => by
  have step : ∀ o', (dst o' (nf f c t) t).map (· + 1) = some n → (dst o' (nf f c (t.take j)) (t.take j)).map (· + 1) = some n := by
   intro o' hm
   obtain ⟨k, hk, rfl⟩ := Option.map_eq_some_iff.1 hm
   cases j with
   | zero =>
    have hk0 : k = 0 := by omega
    subst hk0
    have := dst_zero hk
    subst this
    rw [List.take_zero, dst_nil, if_pos rfl]
    rfl
   | succ i =>
    have e : nf f c (t.take (i + 1)) = nf f c t := by unfold nf; rw [hs_take]
    rw [e, dst_cut t o' _ k (i + 1) hk (by omega)]
    rfl
  rw [List.take_succ_cons]
  rw [dst_cons] at h ⊢
  split at h
  ·rename_i h0
   rw [if_pos h0]; exact h
  ·rename_i h0
   rw [if_neg h0]
   split at h
   ·rename_i h1
    rw [if_pos h1]
    split at h
    ·cases h
    ·rename_i h2
     rw [if_neg h2]; exact step _ h
   ·rename_i h1
    rw [if_neg h1]
    split at h
    ·rename_i h2
     rw [if_pos h2]
     split at h
     ·rename_i h3
      rw [if_pos h3]; exact h
     ·rename_i h3
      rw [if_neg h3]; exact step _ h
    ·rename_i h2
     rw [if_neg h2]; exact step _ h
theorem dest_cut {l x : List UInt8} {k j : Nat} (h : destP l = (x, k, true)) (hj : k ≤ j) : destP (l.take j) = (x, k, true) := by
 cases l with
 | nil => cases h
 | cons c t =>
  obtain ⟨h1, _⟩ := dest_le h
  obtain ⟨i, rfl⟩ : ∃ i, j = i + 1 := ⟨j - 1, by omega⟩
  rw [List.take_succ_cons]
  unfold destP at h ⊢
  simp only at h ⊢
  split at h
  ·rename_i hc
   rw [if_pos hc]
   split at h
   ·cases h
   ·rename_i p hp
    cases h
    have e1 : angF false (t.take i) = some p := find_here hp (by omega)
    rw [e1]
    simp only [List.take_take, show min p i = p by omega]
  ·rename_i hc
   rw [if_neg hc]
   split at h
   ·cases h
   ·rename_i p hp
    split at h
    ·cases h
    ·rename_i h0
     cases h
     have e1 := dst_cut (c :: t) 0 false k (i + 1) hp hj
     rw [List.take_succ_cons] at e1
     rw [e1]
     simp only [if_neg h0]
     rw [← List.take_succ_cons, List.take_take, show min k (i + 1) = k by omega]
theorem tit_cut {l x : List UInt8} {p j : Nat} (h : titP l = (x, p)) (h0 : 0 < p) (hj : p ≤ j) : titP (l.take j) = (x, p) := by
 have := tit_more [] h h0 hj
 rwa [List.append_nil] at this
theorem lab_cut {l x : List UInt8} {n j : Nat} (h : labP l = (x, n)) (h0 : 0 < n) (hj : n ≤ j) : labP (l.take j) = (x, n) := by
 have := (lab_take ((l.drop n).take (j - n)) h h0).1
 rw [← List.take_add, show n + (j - n) = j by omega] at this
 exact this
theorem wh_cut : ∀ (l : List UInt8) (j : Nat), whN l ≤ j → whN (l.take j) = whN l
 | [], j, h => by rw [List.take_nil]
 | c :: t, 0, h => by rw [List.take_zero, whN_nil]; omega
 | c :: t, j + 1, h => by
  rw [List.take_succ_cons]
  cases hc : whB c with
  | true =>
   rw [whN_hit _ hc] at h
   rw [whN_hit _ hc, whN_hit _ hc, wh_cut t j (by omega)]
  | false => rw [whN_miss _ hc, whN_miss _ hc]
theorem gap_cut {l : List UInt8} {g j : Nat} (h : gapP l = some g) (hj : g ≤ j) : gapP (l.take j) = some g := by
 obtain ⟨h1, h2⟩ := gap_some h
 unfold gapP
 rw [wh_cut l j (by omega), ← h1, List.take_take, show min g j = g by omega, if_neg (by omega)]
theorem end_cut : ∀ (l : List UInt8) (e j : Nat), endP l = some e → e ≤ j → endP (l.take j) = some e
 | [], e, j, h, hj => by rw [List.take_nil]; exact h
 | c :: t, e, 0, h, hj => by
  rw [endP] at h
  split at h
  ·obtain ⟨i, _, rfl⟩ := Option.map_eq_some_iff.1 h; omega
  ·split at h
   ·cases h; omega
   ·cases h
 | c :: t, e, j + 1, h, hj => by
  rw [List.take_succ_cons]
  rw [endP] at h ⊢
  split at h
  ·rename_i h1
   obtain ⟨i, hi, rfl⟩ := Option.map_eq_some_iff.1 h
   rw [if_pos h1, end_cut t i j hi (by omega)]
   rfl
  ·rename_i h1
   rw [if_neg h1]
   exact h
theorem bl_wh {c : UInt8} (h : bl c = true) : whB c = true := by
 unfold bl at h
 unfold whB
 rw [h]; rfl
theorem end_white : ∀ (l : List UInt8) (e : Nat), endP l = some e → whN l = e + whN (l.drop e)
 | [], e, h => by cases h; rfl
 | c :: t, e, h => by
  rw [endP] at h
  split at h
  ·rename_i h1
   obtain ⟨i, hi, rfl⟩ := Option.map_eq_some_iff.1 h
   rw [whN_hit _ (bl_wh h1), List.drop_succ_cons, end_white t i hi]; omega
  ·split at h
   ·rename_i h2
    cases h
    subst h2
    rw [whN_hit _ (by decide), List.drop_succ_cons, List.drop_zero]; omega
   ·cases h
theorem titled_none {u : List UInt8} {e : Nat} (h : endP u = some e) (hh : ∀ c ∈ (u.drop e).head?, c = 91) : titledP u = none := by
 have hw := end_white u e h
 have h2 : whN (u.drop e) = 0 ∧ (titP (u.drop e)).2 = 0 := by
  cases hx : u.drop e with
  | nil => exact ⟨rfl, rfl⟩
  | cons c t =>
   rw [hx] at hh
   have : c = 91 := hh c rfl
   subst this
   exact ⟨whN_miss _ (by decide), by rw [tit_none t (by decide) (by decide) (by decide)]⟩
 obtain ⟨h2, h3⟩ := h2
 unfold titledP
 split
 ·rfl
 ·rename_i g hg
  have := (gap_some hg).1
  have hge : g = e := by omega
  subst hge
  split
  ·rfl
  ·first | rfl | rw [if_pos h3]
theorem titled_cut {l x : List UInt8} {n j : Nat} (h : titledP l = some (x, n)) (hj : n ≤ j) : titledP (l.take j) = some (x, n) := by
 obtain ⟨g, p, e, h1, h2, h3, h4, h5, rfl⟩ := titled_some h
 refine titled_make (gap_cut h1 (by omega)) h2 ?_ h4 ?_
 ·rw [List.drop_take]; exact tit_cut h3 h4 (by omega)
 ·rw [List.drop_take]; exact end_cut _ _ _ h5 (by omega)
theorem back_cut {u q : List UInt8} {e j : Nat} (h : backP u = some (q, e)) (hj : e ≤ j) (hh : ∀ c ∈ ((u.take j).drop e).head?, c = 91) : backP (u.take j) = some (q, e) := by
 unfold backP at h ⊢
 split at h
 ·rename_i y hy
  cases h
  rw [titled_cut hy hj]
 ·obtain ⟨e', he, heq⟩ := Option.map_eq_some_iff.1 h
  cases heq
  have hc := end_cut _ _ _ he hj
  rw [titled_none hc hh]
  simp only
  rw [hc]; rfl
theorem take_cut {l : List UInt8} {r : R} {n j : Nat} (h : takeP l = (r, n)) (h0 : 0 < n) (hj : n ≤ j) (hh : ∀ c ∈ ((l.take j).drop n).head?, c = 91) : takeP (l.take j) = (r, n) := by
 obtain ⟨x, a, t, g, d, k, q, e, h1, h2, h3, h4, h5, h6, rfl, rfl⟩ := take_parts h h0
 have ht : (l.take j).drop a = 58 :: t.take (j - a - 1) := by
  rw [List.drop_take, h3, show j - a = (j - a - 1) + 1 by omega, List.take_succ_cons]
  congr 1
 have hd : l.drop (a + 1) = t := by
  have : (l.drop a).drop 1 = t := by rw [h3]; rfl
  rw [List.drop_drop] at this
  exact this
 refine take_make (lab_cut h1 h2 (by omega)) h2 ht (gap_cut h4 (by omega)) ?_ ?_
 ·rw [List.drop_take]; exact dest_cut h5 (by omega)
 ·rw [List.drop_take]
  refine back_cut h6 (by omega) ?_
  intro c hc
  refine hh c ?_
  rw [List.drop_take] at hc ⊢
  rw [← hd, List.drop_drop, List.drop_drop] at hc
  rw [show a + 1 + (g + k + e) = a + 1 + g + k + e by omega, show j - a - 1 - (g + k) - e = j - (a + 1 + g + k + e) by omega] at hc
  exact hc
theorem allF_fuel : ∀ (f g : Nat) (l : List UInt8), l.length ≤ f → l.length ≤ g → allF f l = allF g l
 | 0, 0, l, _, _ => rfl
 | 0, g + 1, l, hf, _ => by
  have : l = [] := List.length_eq_zero_iff.1 (by omega)
  subst this; rfl
 | f + 1, 0, l, _, hg => by
  have : l = [] := List.length_eq_zero_iff.1 (by omega)
  subst this; rfl
 | f + 1, g + 1, l, hf, hg => by
  unfold allF
  split
  ·rfl
  ·rename_i h
   have e : (l.drop (takeP l).2).length ≤ l.length - 1 := by rw [List.length_drop]; omega
   rw [allF_fuel f g _ (by omega) (by omega)]
theorem all_eq (l : List UInt8) : allP l = if (takeP l).2 = 0 then ([], l) else ((takeP l).1 :: (allP (l.drop (takeP l).2)).1, (allP (l.drop (takeP l).2)).2) := by
 unfold allP
 cases h : l.length with
 | zero =>
  have : l = [] := List.length_eq_zero_iff.1 h
  subst this; rfl
 | succ k =>
  rw [allF]
  split
  ·rfl
  ·rename_i h0
   rw [allF_fuel k (l.drop (takeP l).2).length _ (by rw [List.length_drop]; omega) (Nat.le_refl _)]
theorem all_end {l : List UInt8} (h : (takeP l).2 = 0) : allP l = ([], l) := by rw [all_eq, if_pos h]
theorem all_more {l : List UInt8} {r : R} {n : Nat} (h : takeP l = (r, n)) (h0 : 0 < n) : allP l = (r :: (allP (l.drop n)).1, (allP (l.drop n)).2) := by
 rw [all_eq, h]
 simp only
 rw [if_neg (by omega)]
theorem all_rest : ∀ (f : Nat) (l : List UInt8), l.length ≤ f → ∃ k, k ≤ l.length ∧ (allP l).2 = l.drop k ∧ (takeP (allP l).2).2 = 0 ∧ ((allP l).1 = [] ↔ k = 0) ∧ allP (l.take k) = ((allP l).1, []) ∧ (allP l).1.length ≤ k
 | 0, l, hf => by
  have : l = [] := List.length_eq_zero_iff.1 (by omega)
  subst this
  exact ⟨0, by simp, rfl, rfl, ⟨fun _ => rfl, fun _ => rfl⟩, rfl, Nat.le_refl _⟩
 | f + 1, l, hf => by
  obtain ⟨r, n, h⟩ : ∃ r n, takeP l = (r, n) := ⟨_, _, rfl⟩
  rcases Nat.eq_zero_or_pos n with h0 | h0
  ·subst h0
   have h2 : (takeP l).2 = 0 := by rw [h]
   refine ⟨0, by omega, ?_, ?_, ?_, ?_, ?_⟩
   ·rw [all_end h2]; rfl
   ·rw [all_end h2]; exact h2
   ·rw [all_end h2]; exact ⟨fun _ => rfl, fun _ => rfl⟩
   ·rw [all_end h2]; rfl
   ·rw [all_end h2]; exact Nat.le_refl _
  ·have hn := take_le h
   obtain ⟨k, k1, k2, k3, k4, k5, k6⟩ := all_rest f (l.drop n) (by rw [List.length_drop]; omega)
   rw [List.length_drop] at k1
   rw [all_more h h0]
   have hc : takeP (l.take (n + k)) = (r, n) := by
    refine take_cut h h0 (by omega) ?_
    intro c hc
    rw [List.drop_take, show n + k - n = k by omega] at hc
    rcases Nat.eq_zero_or_pos k with hk | hk
    ·subst hk; simp at hc
    ·have hp : 0 < (takeP (l.drop n)).2 := by
      rcases Nat.eq_zero_or_pos (takeP (l.drop n)).2 with h3 | h3
      ·have := k4.1 (by rw [all_end h3])
       omega
      ·exact h3
     have hd := take_head hp
     rw [List.head?_take, if_neg (by omega), hd] at hc
     exact (Option.some.inj hc).symm
   refine ⟨n + k, by omega, ?_, k3, ?_, ?_, ?_⟩
   ·simp only; rw [k2, List.drop_drop]
   ·simp only
    exact ⟨fun e => (by cases e), fun e => (by omega)⟩
   ·rw [all_more hc h0, List.drop_take, show n + k - n = k by omega, k5]
   ·simp only [List.length_cons]; omega
theorem find_cons (r : R) (m : List R) (x : List UInt8) : findP (r :: m) x = (findP [r] x).or (findP m x) := by
 unfold findP
 split
 ·rfl
 ·rw [show r :: m = [r] ++ m from rfl, List.find?_append]
theorem find_any {o : List R} {r : R} {x : List UInt8} (h : o.any (fun q => q.lab == r.lab) = true) : (findP o x).or (findP [r] x) = findP o x := by
 unfold findP
 split
 ·rfl
 ·rcases Classical.em (r.lab = x) with rfl | hx
  ·obtain ⟨q, hq, he⟩ := List.any_eq_true.1 h
   have : (o.find? fun s => s.lab == r.lab).isSome := List.find?_isSome.2 ⟨q, hq, he⟩
   obtain ⟨s, hs⟩ := Option.isSome_iff_exists.1 this
   rw [hs]; rfl
  ·have : [r].find? (fun s => s.lab == x) = none := by simp [hx]
   rw [this, Option.or_none]
theorem find_nil (x : List UInt8) : findP [] x = none := by unfold findP; split <;> rfl
end Rf
end Go.Proofs.YtkiipaaaakhhfaaGreatDoor
end
section
namespace Go.Proofs.YtkiipaaaakhhfaaGreatDoor
open Go Go.RowKit
namespace Rf
set_option maxRecDepth 100000
set_option linter.unusedVariables false
set_option linter.unusedSimpArgs false
structure Rb where
 lab : ByteArray
 dst : ByteArray
 tit : ByteArray
def Rb.r (b : Rb) : R := ⟨b.lab.data.toList, b.dst.data.toList, b.tit.data.toList⟩
def nilB : Rb := ⟨⟨#[]⟩, ⟨#[]⟩, ⟨#[]⟩⟩
def refC (h : Rb) : Array Value := #[.string h.lab, .string h.dst, .string h.tit]
def refV (h : Rb) : Value := .agg (refC h)
theorem bytes_ext {a b : ByteArray} (h : a.data.toList = b.data.toList) : a = b := Go.WideShapes.bytes_inj h
theorem Rb.inj {a b : Rb} (h : a.r = b.r) : a = b := by
 obtain ⟨a1, a2, a3⟩ := a
 obtain ⟨b1, b2, b3⟩ := b
 unfold Rb.r at h
 injection h with h1 h2 h3
 have e1 : a1 = b1 := bytes_ext h1
 have e2 : a2 = b2 := bytes_ext h2
 have e3 : a3 = b3 := bytes_ext h3
 rw [e1, e2, e3]
theorem Rb.of (r : R) : ∃ b : Rb, b.r = r := ⟨⟨⟨r.lab.toArray⟩, ⟨r.dst.toArray⟩, ⟨r.tit.toArray⟩⟩, rfl⟩
theorem Rb.list : ∀ l : List R, ∃ m : List Rb, m.map Rb.r = l
 | [] => ⟨[], rfl⟩
 | r :: l => by
  obtain ⟨b, hb⟩ := Rb.of r
  obtain ⟨m, hm⟩ := Rb.list l
  exact ⟨b :: m, by rw [List.map_cons, hb, hm]⟩
theorem map_inj {a b : List Rb} (h : a.map Rb.r = b.map Rb.r) : a = b := by
 induction a generalizing b with
 | nil => cases b with
  | nil => rfl
  | cons _ _ => simp at h
 | cons x t ih =>
  cases b with
  | nil => simp at h
  | cons y u =>
   rw [List.map_cons, List.map_cons] at h
   injection h with h1 h2
   rw [Rb.inj h1, ih h2]
def rowC (l : List Rb) : List Value := l.flatMap fun h => (refC h).toList
theorem rowC_len : ∀ l : List Rb, (rowC l).length = l.length * 3
 | [] => rfl
 | h :: r => by
  have := rowC_len r
  simp only [rowC, List.flatMap_cons, List.length_append, List.length_cons] at *
  rw [this]; simp [refC]; omega
theorem rowC_snoc (l : List Rb) (h : Rb) : rowC (l ++ [h]) = rowC l ++ (refC h).toList := by simp [rowC]
theorem rowC_append (l m : List Rb) : rowC (l ++ m) = rowC l ++ rowC m := by simp [rowC]
theorem rowC_get : ∀ {l : List Rb} {i : Nat} {h : Rb}, l[i]? = some h → ∀ j v, (refC h)[j]? = some v → (rowC l)[i * 3 + j]? = some v
 | [], i, h, e, _, _, _ => by simp at e
 | x :: r, 0, h, e, j, v, hj => by
  simp at e; subst e
  rw [Nat.zero_mul, Nat.zero_add]
  show ((refC x).toList ++ rowC r)[j]? = _
  have hl : j < (refC x).size := (Array.getElem?_eq_some_iff.1 hj).1
  rw [List.getElem?_append_left (by simpa using hl)]
  simpa using hj
 | x :: r, i + 1, h, e, j, v, hj => by
  show ((refC x).toList ++ rowC r)[(i + 1) * 3 + j]? = _
  rw [List.getElem?_append_right (by simp [refC]; omega)]
  rw [show (i + 1) * 3 + j - (refC x).toList.length = i * 3 + j by simp [refC]; omega]
  exact rowC_get (by simpa using e) j v hj
theorem refC_one (h : Rb) : ∀ u ∈ (refC h).toList, u.oneCell' = true := by
 intro u hu
 simp [refC] at hu
 rcases hu with rfl | rfl | rfl <;> rfl
theorem rowC_one (l : List Rb) : ∀ u ∈ rowC l, u.oneCell' = true := by
 intro u hu
 obtain ⟨h, _, hu⟩ := List.mem_flatMap.1 hu
 exact refC_one h u hu
structure CellsAt (w : World) (b off : Nat) (h : Rb) : Prop where
 c0 : w.cell? ⟨b, off, none⟩ = some (.string h.lab)
 c1 : w.cell? ⟨b, off + 1, none⟩ = some (.string h.dst)
 c2 : w.cell? ⟨b, off + 2, none⟩ = some (.string h.tit)
theorem keep_cell {w W : World} {a : Addr} {v : Value} (hb : Below w.heap.size w W) (h : w.cell? a = some v) : W.cell? a = some v := by
 rw [hb.cell (World.block_lt_of_cell? w a h)]; exact h
theorem CellsAt.keep {w w' : World} {b off : Nat} {o : Rb} (h : CellsAt w b off o) (hb : Below w.heap.size w w') : CellsAt w' b off o :=
 ⟨keep_cell hb h.c0, keep_cell hb h.c1, keep_cell hb h.c2⟩
theorem below_later {w W W' : World} (h : Below w.heap.size w W) (h' : Below W.heap.size W W') : Below w.heap.size w W' := h.trans (h'.mono h.size)
theorem add_off (b k n : Nat) : (⟨b, k, none⟩ : Addr).add n = ⟨b, k + n, none⟩ := by unfold Addr.add; split <;> simp_all
theorem owns_form {w : World} {base n : Nat} {e : TypeId} {size : Nat} {v : Value} {xs : List Value} (h : w.ownsRow base e size v n xs) : ∃ a cap, v = .slice a n cap := by
 rcases h.2 with ⟨rfl, rfl⟩ | ⟨g, cap, cur, rfl, _⟩
 ·exact ⟨none, 0, rfl⟩
 ·exact ⟨_, _, rfl⟩
theorem owns_block {w w' : World} {base : Nat} {e : TypeId} {size n : Nat} {v : Value} {xs : List Value} (h : w.ownsRow base e size v n xs) (hb : ∀ k, v.ownBlock = some k → w'.heap[k]? = w.heap[k]?) : w'.ownsRow base e size v n xs := by
 refine ⟨h.1, h.2.imp id ?_⟩
 rintro ⟨g, cap, cur, rfl, h1, h2, h3⟩
 exact ⟨g, cap, cur, rfl, h1, (hb g rfl).trans h2, h3⟩
theorem owns_keep {w w' : World} {base : Nat} {e : TypeId} {size n : Nat} {v : Value} {xs : List Value} (h : w.ownsRow base e size v n xs) (hb : Below w.heap.size w w') : w'.ownsRow base e size v n xs :=
 owns_block h fun k hk => hb.block k (h.lt k hk).2
def Refs (w : World) (v : Value) (l : List Rb) : Prop :=
 ∃ a cap, v = .slice a l.length cap ∧ l.length ≤ maxLen ∧ (l = [] ∨ ∃ b off, a = some ⟨b, off, none⟩ ∧ ∀ (i : Nat) (h : Rb), l[i]? = some h → CellsAt w b (off + i * 3) h)
theorem Refs.keep {w w' : World} {v : Value} {l : List Rb} (h : Refs w v l) (hb : Below w.heap.size w w') : Refs w' v l := by
 obtain ⟨a, cap, h1, h2, h3⟩ := h
 exact ⟨a, cap, h1, h2, h3.imp id fun ⟨b, off, e, h⟩ => ⟨b, off, e, fun i c hc => (h i c hc).keep hb⟩⟩
def Own (w : World) (base : Nat) (v : Value) (l : List Rb) : Prop := w.ownsRow base 75 3 v l.length (rowC l)
theorem Refs.of_owns {w : World} {base : Nat} {v : Value} {l : List Rb} (h : Own w base v l) : Refs w v l := by
 unfold Own at h
 have hc := fun g => h.cells (g := g)
 rcases h.2 with ⟨rfl, h0⟩ | ⟨g, cap, cur, rfl, _, _, hle, hm, _⟩
 ·have : l = [] := List.length_eq_zero_iff.1 h0
  subst this
  exact ⟨none, 0, rfl, by decide, .inl rfl⟩
 ·refine ⟨some ⟨g, 0, none⟩, cap, rfl, Nat.le_trans hle hm, .inr ⟨g, 0, rfl, fun i c hi => ?_⟩⟩
  have := fun j v hj => hc g rfl _ _ (rowC_get hi j v hj)
  rw [Nat.zero_add]
  refine ⟨?_, ?_, ?_⟩
  ·have := this 0 _ rfl; rwa [add_off, Nat.zero_add, Nat.add_zero] at this
  ·have := this 1 _ rfl; rwa [add_off, Nat.zero_add] at this
  ·have := this 2 _ rfl; rwa [add_off, Nat.zero_add] at this
theorem Refs.nil (w : World) : Refs w (.slice none 0 0) [] := ⟨none, 0, rfl, by decide, .inl rfl⟩
theorem Refs.one (w : World) (h : Rb) : Refs (w.alloc (.cells (refC h) 75)) (.slice (some ⟨w.heap.size, 0, none⟩) 1 1) [h] := by
 refine ⟨_, 1, rfl, (by show 1 ≤ maxLen; decide), .inr ⟨w.heap.size, 0, rfl, fun i c hi => ?_⟩⟩
 cases i with
 | zero =>
  simp at hi; subst hi
  exact ⟨by rw [World.cell?_alloc_new]; rfl, by rw [World.cell?_alloc_new]; rfl, by rw [World.cell?_alloc_new]; rfl⟩
 | succ i => simp at hi
theorem refInfo : (Tryz.prog.info? 75).map (fun i => (i.zero, i.size, i.bytes)) = some (some (.agg (refC nilB)), 3, 48) := by kernel_rfl
def Blk (w : World) (B : Nat) (cs : Array Value) (t : TypeId) : Prop := w.heap[B]? = some (.cells cs t (0, 0))
theorem Blk.lt {w : World} {B : Nat} {cs : Array Value} {t : TypeId} (h : Blk w B cs t) : B < w.heap.size := (Array.getElem?_eq_some_iff.1 h).1
theorem Blk.below {w w' : World} {B : Nat} {cs : Array Value} {t : TypeId} (h : Blk w B cs t) (hb : Below w.heap.size w w') : Blk w' B cs t := (hb.block B h.lt).trans h
theorem Blk.cell {w : World} {B : Nat} {cs : Array Value} {t : TypeId} (h : Blk w B cs t) (k : Nat) {v : Value} (hk : cs[k]? = some v) : w.cell? ⟨B, k, none⟩ = some v := by rw [cell_of_row w B k _ _ _ h]; exact hk
theorem Blk.fr {w : World} {B : Nat} {cs : Array Value} {t : TypeId} (h : Blk w B cs t) (k : Nat) : w.frozen? ⟨B, k, none⟩ = false := frozen_of_row w B k _ _ h
theorem Blk.set {w : World} {B : Nat} {cs cs' : Array Value} {t : TypeId} (h : Blk w B cs t) (k : Nat) (v : Value) (e : cs.setIfInBounds k v = cs') : Blk (w.setCell ⟨B, k, none⟩ v) B cs' t := by
 subst e; exact heap_setCell_same w B k cs t v h
theorem Blk.other {w : World} {B : Nat} {cs : Array Value} {t : TypeId} (h : Blk w B cs t) {p : Addr} (v : Value) (e : B ≠ p.block) : Blk (w.setCell p v) B cs t := (heap_setCell_other w p B v e).trans h
theorem Blk.new (w : World) (cs : Array Value) (t : TypeId) : Blk (w.alloc (.cells cs t)) w.heap.size cs t := heap_alloc_new w _
theorem Blk.alloc {w : World} {B : Nat} {cs : Array Value} {t : TypeId} (h : Blk w B cs t) (o : Obj) : Blk (w.alloc o) B cs t := (Below.heap_alloc w o B h.lt).trans h
theorem Blk.drew {w : World} {B : Nat} {cs : Array Value} {t : TypeId} (h : Blk w B cs t) : Blk w.drew B cs t := h
theorem Blk.ref {w : World} {B : Nat} {o : Rb} {t : TypeId} (h : Blk w B (refC o) t) : CellsAt w B 0 o := ⟨h.cell 0 rfl, h.cell 1 rfl, h.cell 2 rfl⟩
theorem Blk.reref {W : World} {B : Nat} {o0 : Rb} {t : TypeId} (h : Blk W B (refC o0) t) (o : Rb) :
  Blk (((W.setCell ⟨B, 0, none⟩ (.string o.lab)).setCell ⟨B, 1, none⟩ (.string o.dst)).setCell ⟨B, 2, none⟩ (.string o.tit)) B (refC o) t := by
 have R0 := Blk.set (cs' := refC ⟨o.lab, o0.dst, o0.tit⟩) h 0 (.string o.lab) rfl
 have R1 := Blk.set (cs' := refC ⟨o.lab, o.dst, o0.tit⟩) R0 1 (.string o.dst) rfl
 exact Blk.set (cs' := refC o) R1 2 (.string o.tit) rfl
theorem infoRef : (Tryz.prog.info? 75).map (·.size) = some 3 := by kernel_rfl
theorem results_ref {fn : Func} {p u : Tmp} (h : fn.results = #[.cell p 75, .tmp u]) (tmps : Array Value) (w : World) (g : Nat) (b : Rb) (v : Value) (hp : tmps.getD p undef = .pointer (some ⟨g, 0, none⟩)) (hv : tmps.getD u undef = v)
  (hg : Blk w g (refC b) 75) : (results fn tmps).run Tryz.prog w = .ok (.tuple #[refV b, v]) w := by
 rw [results_cell_tmp h, hp, hv]
 simp only [asAddr, Sem.run_pure, Result.andThen_ok]
 rw [run_loadVar_row w g _ _ _ _ _ hg Tryz.underlying75 rfl infoRef]
 rfl
theorem Own.keep {w w' : World} {base : Nat} {v : Value} {l : List Rb} (h : Own w base v l) (hb : Below w.heap.size w w') : Own w' base v l := owns_keep h hb
theorem Own.nil (w : World) : Own w w.heap.size (.slice none 0 0) [] := World.ownsRow_nil _ _ _ _
end Rf
end Go.Proofs.YtkiipaaaakhhfaaGreatDoor
end
section
namespace Go.Proofs.YtkiipaaaakhhfaaGreatDoor
open Go Go.RowKit
namespace Rf
set_option maxRecDepth 100000
set_option linter.unusedVariables false
set_option linter.unusedSimpArgs false
def empB : ByteArray := ⟨#[]⟩
theorem szR (s : ByteArray) : s.data.toList.length = s.size := by rw [Array.length_toList]; rfl
theorem restR (s : ByteArray) (a : Nat) : (s.extract a s.size).data.toList = s.data.toList.drop a := by
 rw [Lib.extract_data, List.take_of_length_le]
 rw [List.length_drop, szR]
 omega
def addB (o : List Rb) : List Rb → List Rb
 | [] => o
 | r :: m => addB (if o.any (fun q => decide (q.lab = r.lab)) then o else o ++ [r]) m
theorem emp_iff (y : ByteArray) : y.data.toList = [] ↔ y = empB := ⟨fun h => bytes_ext h, fun h => by rw [h]; rfl⟩
theorem addB_cons (o : List Rb) (r : Rb) (m : List Rb) : addB o (r :: m) = addB (if o.any (fun q => decide (q.lab = r.lab)) then o else o ++ [r]) m := rfl
theorem emp_list {y : ByteArray} : y.toList.isEmpty = decide (y = empB) := by
 rw [Bool.eq_iff_iff, decide_eq_true_iff, ← emp_iff, Go.ByteArray.toList_eq]
 cases y.data.toList <;> simp
theorem Own.more {w w1 w2 : World} {B : Nat} {l : List Rb} {c : Rb} {u v' : Value} {o : Obj} (hB : w.heap.size ≤ B) (hown : Own w1 B u l) (hbw : Below w.heap.size w w1)
  (hown' : w2.ownsRow B 75 3 v' (l.length + 1) (rowC l ++ (refC c).toList)) (hgrow : (w1.alloc o).grownBy w2 u.ownBlock) : Own w2 B v' (l ++ [c]) ∧ Below w.heap.size w w2 := by
 have hsz := hbw.size
 unfold Own at hown ⊢
 refine ⟨by rw [rowC_snoc]; simpa using hown', (hbw.alloc (by omega) _).grown hgrow (by simp; omega) (fun k hk => Nat.le_trans hB (hown.lt k hk).1)⟩
theorem Own.form {w : World} {B : Nat} {v : Value} {l : List Rb} (h : Own w B v l) : ∃ a cap, v = .slice a l.length cap := owns_form h
def RefZ (r : Rb) : Prop := r.lab.size ≤ 140737488355328 ∧ r.dst.size ≤ 140737488355328 ∧ r.tit.size ≤ 140737488355328
theorem below_drewN {B : Nat} {a w : World} (h : Below B a w) (n : Nat) : Below B a (w.drewN n) := h.trans ⟨rfl, rfl, rfl, Nat.le_refl _, fun _ _ => rfl⟩
end Rf
end Go.Proofs.YtkiipaaaakhhfaaGreatDoor
end
section
namespace Go.Proofs.YtkiipaaaakhhfaaGreatDoor
open Go Go.RowKit
namespace Rf
open Lk
set_option maxRecDepth 100000
set_option linter.unusedVariables false
set_option linter.unusedSimpArgs false
def gapZ (l : List UInt8) : Nat := (gapP l).getD 0
theorem gapZ_none {l : List UInt8} (h : gapP l = none) : gapZ l = 0 := by unfold gapZ; rw [h]; rfl
theorem gapZ_some {l : List UInt8} {g : Nat} (h : gapP l = some g) : gapZ l = g := by unfold gapZ; rw [h]; rfl
theorem gapZ_le (l : List UInt8) : gapZ l ≤ l.length := by
 cases h : gapP l with
 | none => rw [gapZ_none h]; exact Nat.zero_le _
 | some g => rw [gapZ_some h]; exact gap_le h
theorem gapZ_two {l : List UInt8} (h : 1 < lfN (l.take (whN l))) : gapZ l = 0 := gapZ_none (by unfold gapP; rw [if_pos h])
theorem gapZ_one {l : List UInt8} (h : ¬ 1 < lfN (l.take (whN l))) : gapZ l = whN l := gapZ_some (by unfold gapP; rw [if_neg h])
theorem gapZ_pos {l : List UInt8} {g : Nat} (h : gapZ l = g) (h0 : 0 < g) : gapP l = some g := by
 cases hg : gapP l with
 | none => rw [gapZ_none hg] at h; omega
 | some k => rw [gapZ_some hg] at h; rw [h]
theorem gapZ_head {l : List UInt8} (h : gapP l = none) : ∃ c t, l = c :: t ∧ whB c = true := by
 cases l with
 | nil => cases h
 | cons c t =>
  cases hc : whB c with
  | true => exact ⟨c, t, rfl, hc⟩
  | false =>
   unfold gapP at h
   rw [whN_miss t hc, List.take_zero] at h
   cases h
theorem wh_small {c : UInt8} (h : whB c = true) : c.toNat ≤ 32 ∧ c ≠ 60 := by
 unfold whB at h
 simp only [Bool.or_eq_true, beq_iff_eq] at h
 rcases h with (rfl | rfl) | rfl <;> decide
theorem dest_white {c : UInt8} {t : List UInt8} (h : whB c = true) : (destP (c :: t)).2.2 = false := by
 cases hb : (destP (c :: t)).2.2 with
 | false => rfl
 | true =>
  obtain ⟨x, n, hd⟩ : ∃ x n, destP (c :: t) = (x, n, true) := ⟨(destP (c :: t)).1, (destP (c :: t)).2.1, by rw [← hb]⟩
  obtain ⟨h1, _, h2⟩ := dest_true hd
  have hs := wh_small h
  rcases h2 with ⟨h3, _⟩ | ⟨_, h3, _⟩
  ·simp at h3; exact absurd h3 hs.2
  ·have := (h3 c (by obtain ⟨k, rfl⟩ : ∃ k, n = k + 1 := ⟨n - 1, by omega⟩; simp)).1
   omega
theorem dest_gap {t d : List UInt8} {k : Nat} (h : destP (t.drop (gapZ t)) = (d, k, true)) : gapP t = some (gapZ t) := by
 cases hg : gapP t with
 | some g => rw [gapZ_some hg]
 | none =>
  rw [gapZ_none hg, List.drop_zero] at h
  obtain ⟨c, u, rfl, hc⟩ := gapZ_head hg
  have := dest_white (t := u) hc
  rw [h] at this; cases this
theorem take_noD {l x t d : List UInt8} {a k : Nat} (h1 : labP l = (x, a)) (h2 : 0 < a) (h3 : l.drop a = 58 :: t) (h : destP (t.drop (gapZ t)) = (d, k, false)) : takeP l = (nilR, 0) := by
 cases hg : gapP t with
 | none => exact take_no4 h1 h2 h3 hg
 | some g => rw [gapZ_some hg] at h; exact take_no5 h1 h2 h3 hg h
theorem titledZ {u : List UInt8} (h : gapZ u = 0) : titledP u = none := by
 cases hg : gapP u with
 | none => exact titled_no1 hg
 | some g =>
  rw [gapZ_some hg] at h
  subst h
  exact titled_no2 hg
theorem ok_of {l : List UInt8} {b : Rb} {n : Nat} {r : R} {m : Nat} (h : takeP l = (b.r, n)) (h2 : takeP l = (r, m)) : b.r = r ∧ n = m := by
 rw [h] at h2; injection h2 with h3 h4; exact ⟨h3, h4⟩
theorem nil_of {l : List UInt8} {b : Rb} {n : Nat} (h : takeP l = (b.r, n)) (h2 : takeP l = (nilR, 0)) : b = nilB ∧ n = 0 := by
 obtain ⟨h3, h4⟩ := ok_of h h2
 exact ⟨Rb.inj h3, h4⟩
theorem lab_le {l x : List UInt8} {a : Nat} (h : labP l = (x, a)) : a ≤ l.length ∧ x.length ≤ a := by
 rcases Nat.eq_zero_or_pos a with h0 | h0
 ·subst h0
  refine ⟨Nat.zero_le _, ?_⟩
  cases l with
  | nil => cases h; exact Nat.le_refl _
  | cons c t =>
   unfold labP at h
   simp only at h
   split at h
   ·split at h
    ·cases h; exact Nat.le_refl _
    ·split at h
     ·cases h; exact Nat.le_refl _
     ·cases h
   ·cases h; exact Nat.le_refl _
 ·obtain ⟨_, _, h1, h2, h3⟩ := lab_take [] h h0
  exact ⟨h3, by omega⟩
theorem trim_bl2 (l : List UInt8) : Lib.trimLeftS l [32, 9] = l.dropWhile bl := by
 unfold Lib.trimLeftS
 rw [show (fun x => ([32, 9] : List UInt8).contains x) = bl from funext fun c => by rw [List.contains_cons, List.contains_cons, List.contains_nil, Bool.or_false]; rfl]
theorem trimB_cons (c : UInt8) (t : List UInt8) : (c :: t).dropWhile bl = if bl c = true then t.dropWhile bl else c :: t := by
 rw [List.dropWhile_cons]
theorem end_trim : ∀ (l : List UInt8), (l.dropWhile bl = [] ∧ endP l = some l.length) ∨ (∃ t, l.dropWhile bl = 10 :: t ∧ endP l = some (l.length - t.length) ∧ t.length < l.length) ∨ (∃ c t, l.dropWhile bl = c :: t ∧ c ≠ 10 ∧ endP l = none)
 | [] => .inl ⟨rfl, rfl⟩
 | c :: t => by
  rw [trimB_cons, endP]
  by_cases hb : bl c = true
  ·rw [if_pos hb, if_pos hb]
   rcases end_trim t with ⟨h1, h2⟩ | ⟨u, h1, h2, h3⟩ | ⟨d, u, h1, h2, h3⟩
   ·exact .inl ⟨h1, by rw [h2]; rfl⟩
   ·exact .inr (.inl ⟨u, h1, by rw [h2, Option.map_some, List.length_cons]; congr 1; omega, by rw [List.length_cons]; omega⟩)
   ·exact .inr (.inr ⟨d, u, h1, h2, by rw [h3]; rfl⟩)
  ·rw [if_neg hb, if_neg hb]
   by_cases hc : c = 10
   ·subst hc
    exact .inr (.inl ⟨t, rfl, by rw [if_pos rfl, List.length_cons]; congr 1; omega, by rw [List.length_cons]; omega⟩)
   ·exact .inr (.inr ⟨c, t, rfl, hc, by rw [if_neg hc]⟩)
theorem count_lf (l : List UInt8) : Lib.countByte l 10 = lfN l := rfl
theorem drop_len (l : List UInt8) : (l.dropWhile bl).length ≤ l.length := by
 have := congrArg List.length (List.takeWhile_append_dropWhile (p := bl) (l := l))
 rw [List.length_append] at this
 omega
end Rf
end Go.Proofs.YtkiipaaaakhhfaaGreatDoor
end
section
namespace Go.Proofs.YtkiipaaaakhhfaaGreatDoor
open Go Go.RowKit
namespace Rf
open Lk Es
set_option maxRecDepth 100000
set_option linter.unusedVariables false
set_option linter.unusedSimpArgs false
set_option maxHeartbeats 2000000 in
theorem zgap_any (s : ByteArray) (w : World) (hz : s.size ≤ 1000000) :
  Calls Tryz.prog 176 #[.string s] w fun e w' => e = .returned (.int .i64 (gapZ s.data.toList : Nat)) ∧ Below w.heap.size w w' := by
 have hw := whN_le s.data.toList
 rw [szL] at hw
 have HW := Lib.hid (white_any s w hz)
 obtain ⟨T, hT⟩ : ∃ T, T = s.extract 0 (whN s.data.toList) := ⟨_, rfl⟩
 have hTl : T.data.toList = s.data.toList.take (whN s.data.toList) := by rw [hT, ext_toL]
 have HC := Lib.hid (fun W => Tryz.strings_Count_one T 10 W)
 rw [hTl, count_lf] at HC
 have HP : Hid (gapZ s.data.toList = if 1 < lfN (s.data.toList.take (whN s.data.toList)) then 0 else whN s.data.toList) := Lib.hid (by
  split
  ·rename_i h; exact gapZ_two h
  ·rename_i h; exact gapZ_one h)
 have HT := Lib.hid hT
 clear hTl hT
 generalize lfN (s.data.toList.take (whN s.data.toList)) = m at *
 generalize whN s.data.toList = k at *
 generalize gapZ s.data.toList = z at *
 have b1 : (k : Int) ≤ (s.size : Int) := by omega
 by_cases hm : 1 < m
 ·rw [if_pos hm] at HP
  have hm2 : (1 : Int) < (m : Int) := by omega
  clear hm
  go_enter Tryz.func176, Tryz.ntmps176
  go_wp2_with fail
  refine HW.out.mono ?_
  rintro e w1 ⟨rfl, hb⟩
  go_wp2_with fail
  rw [← HT.out]
  refine (HC.out _).mono ?_
  rintro e w2 ⟨rfl, rfl⟩
  go_wp2
  go_ret
  exact ⟨retI (by rw [HP.out]; rfl), hb⟩
 ·rw [if_neg hm] at HP
  have hm2 : ¬ (1 : Int) < (m : Int) := by omega
  clear hm
  go_enter Tryz.func176, Tryz.ntmps176
  go_wp2_with fail
  refine HW.out.mono ?_
  rintro e w1 ⟨rfl, hb⟩
  go_wp2_with fail
  rw [← HT.out]
  refine (HC.out _).mono ?_
  rintro e w2 ⟨rfl, rfl⟩
  go_wp2
  go_ret
  exact ⟨retI (by rw [HP.out]), hb⟩
def EndIs (l : List UInt8) (n : Nat) (ok : Bool) : Prop := (endP l = none ∧ n = 0 ∧ ok = false) ∨ (endP l = some n ∧ ok = true)
theorem end_is (l : List UInt8) : ∃ n ok, EndIs l n ok := by
 cases h : endP l with
 | none => exact ⟨0, false, .inl ⟨h, rfl, rfl⟩⟩
 | some n => exact ⟨n, true, .inr ⟨h, rfl⟩⟩
theorem EndIs.no {l : List UInt8} {n : Nat} {ok : Bool} (h : EndIs l n ok) (h2 : endP l = none) : n = 0 ∧ ok = false := by
 rcases h with ⟨_, h⟩ | ⟨h, _⟩
 ·exact h
 ·rw [h2] at h; cases h
theorem EndIs.yes {l : List UInt8} {n k : Nat} {ok : Bool} (h : EndIs l n ok) (h2 : endP l = some k) : n = k ∧ ok = true := by
 rcases h with ⟨h, _⟩ | ⟨h, h3⟩
 ·rw [h2] at h; cases h
 ·rw [h2] at h; injection h with h; exact ⟨h.symm, h3⟩
theorem EndIs.le {l : List UInt8} {n : Nat} {ok : Bool} (h : EndIs l n ok) : n ≤ l.length := by
 rcases h with ⟨_, rfl, _⟩ | ⟨h, _⟩
 ·exact Nat.zero_le _
 ·exact end_le _ _ h
theorem retIB {m n : Int} {x y : Bool} (h2 : m = n) (h3 : x = y) : Ending.returned (.tuple #[.int .i64 m, .bool x]) = .returned (.tuple #[.int .i64 n, .bool y]) := by rw [h2, h3]
set_option maxHeartbeats 2000000 in
theorem zend_any (s : ByteArray) (w : World) (hz : s.size ≤ 1000000) (n : Nat) (ok : Bool) (h : EndIs s.data.toList n ok) :
  Calls Tryz.prog 204 #[.string s] w fun e w' => e = .returned (.tuple #[.int .i64 (n : Int), .bool ok]) ∧ Below w.heap.size w w' := by
 obtain ⟨B, hB⟩ := ba_mkL (s.data.toList.dropWhile bl)
 have HT : Hid (Calls Tryz.prog 112 #[.string s, .string ⟨#[32, 9]⟩] w fun e w' => e = .returned (.string B) ∧ Below w.heap.size w w') := Lib.hid (by
  have := Tryz.strings_TrimLeft_ascii s ⟨#[32, 9]⟩ w (by decide) (ascii_of (by decide))
  rw [show (⟨#[32, 9]⟩ : ByteArray).data.toList = [32, 9] from rfl, trim_bl2, ← hB, ba_selfL] at this
  exact this)
 have hl := drop_len s.data.toList
 rw [← hB, szL, szL] at hl
 obtain ⟨j, hj⟩ : ∃ j : Nat, j + B.size = s.size := ⟨s.size - B.size, by omega⟩
 have hd : (s.size : Int) - (B.size : Int) = (j : Int) := by omega
 have hB1 : (B.size : Int) ≤ 1000000 := by omega
 have hs1 : (s.size : Int) ≤ 1000000 := by omega
 have hj1 : (j : Int) ≤ 1000000 := by omega
 rcases end_trim s.data.toList with ⟨h1, h2⟩ | ⟨t, h1, h2, h3⟩ | ⟨c, t, h1, h2, h3⟩
 ·have hB0 : B = empB := bytes_ext (by rw [hB, h1]; rfl)
  have hem : B.toList.isEmpty = true := by rw [emp_list, decide_eq_true hB0]
  have hz0 : B.size = 0 := by rw [hB0]; rfl
  rw [szL] at h2
  obtain ⟨rfl, rfl⟩ := h.yes h2
  have HV : Hid ((j : Int) = (s.size : Int)) := Lib.hid (by omega)
  clear h h1 h2 hB hB0 hl hj hz0
  go_enter Tryz.func204, Tryz.ntmps204
  go_wp2_with fail
  refine HT.out.mono ?_
  rintro e w1 ⟨rfl, hb⟩
  go_wp2
  go_ret2
  exact ⟨retIB HV.out rfl, hb⟩
 ·rw [h1] at hB
  have hBz : B.size = t.length + 1 := by rw [← szL, hB]; rfl
  have hB0 : B ≠ empB := fun e => by rw [e] at hBz; cases hBz
  have hem : B.toList.isEmpty = false := by rw [emp_list, decide_eq_false hB0]
  have hpos : 0 < B.size := by omega
  obtain ⟨c, u, hdr, hck, _⟩ := consAt hpos
  have hc : c = 10 := by rw [List.drop_zero, hB] at hdr; injection hdr with h _; exact h.symm
  have e1 : ((c.toNat : Int) == 10) = true := by rw [hc]; rfl
  rw [szL] at h2
  obtain ⟨hn, rfl⟩ := h.yes h2
  have hpi : (0 : Int) < (B.size : Int) := by omega
  have HV : Hid ((j : Int) + 1 = (n : Int)) := Lib.hid (by omega)
  clear h h1 h2 hB hB0 hl hj hdr hc hn hBz h3
  go_enter Tryz.func204, Tryz.ntmps204
  go_wp2_with fail
  refine HT.out.mono ?_
  rintro e w1 ⟨rfl, hb⟩
  go_wp2
  go_ret2
  exact ⟨retIB HV.out rfl, hb⟩
 ·rw [h1] at hB
  have hBz : B.size = t.length + 1 := by rw [← szL, hB]; rfl
  have hB0 : B ≠ empB := fun e => by rw [e] at hBz; cases hBz
  have hem : B.toList.isEmpty = false := by rw [emp_list, decide_eq_false hB0]
  have hpos : 0 < B.size := by omega
  obtain ⟨c', u, hdr, hck, _⟩ := consAt hpos
  have hc : c' = c := by rw [List.drop_zero, hB] at hdr; injection hdr with h _; exact h.symm
  have e1 : ((c'.toNat : Int) == 10) = false := by
   have := eqU c' 10 (by decide)
   rw [show ((10 : Nat) : Int) = 10 from rfl] at this
   rw [this, hc]
   exact beq_eq_false_iff_ne.2 h2
  obtain ⟨rfl, rfl⟩ := h.no h3
  have hpi : (0 : Int) < (B.size : Int) := by omega
  clear h h1 h2 hB hB0 hl hj hdr hc hBz h3
  go_enter Tryz.func204, Tryz.ntmps204
  go_wp2_with fail
  refine HT.out.mono ?_
  rintro e w1 ⟨rfl, hb⟩
  go_wp2
  go_ret2
  exact ⟨rfl, hb⟩
def TitIs (l : List UInt8) (x : ByteArray) (n : Nat) : Prop := (titledP l = none ∧ x = empB ∧ n = 0) ∨ (titledP l = some (x.data.toList, n) ∧ 0 < n)
theorem tit_is (l : List UInt8) : ∃ x n, TitIs l x n := by
 cases h : titledP l with
 | none => exact ⟨empB, 0, .inl ⟨h, rfl, rfl⟩⟩
 | some q =>
  obtain ⟨t, m⟩ := q
  obtain ⟨x, hx⟩ := ba_mkL t
  obtain ⟨g, p, e, _, h1, _, h2, _, rfl⟩ := titled_some h
  exact ⟨x, g + p + e, .inr ⟨by rw [h, hx], by omega⟩⟩
theorem TitIs.no {l : List UInt8} {x : ByteArray} {n : Nat} (h : TitIs l x n) (h2 : titledP l = none) : x = empB ∧ n = 0 := by
 rcases h with ⟨_, h⟩ | ⟨h, _⟩
 ·exact h
 ·rw [h2] at h; cases h
theorem TitIs.yes {l : List UInt8} {x y : ByteArray} {n k : Nat} (h : TitIs l x n) (h2 : titledP l = some (y.data.toList, k)) : x = y ∧ n = k := by
 rcases h with ⟨h, _⟩ | ⟨h, _⟩
 ·rw [h2] at h; cases h
 ·rw [h2] at h
  injection h with h
  injection h with h1 h3
  exact ⟨bytes_ext h1.symm, h3.symm⟩
theorem ret2' {a b : ByteArray} {m n : Int} (h1 : a = b) (h2 : m = n) : Ending.returned (.tuple #[.string a, .int .i64 m]) = .returned (.tuple #[.string b, .int .i64 n]) := by rw [h1, h2]
set_option maxHeartbeats 4000000 in
theorem ztitle_any (s : ByteArray) (w : World) (hz : s.size ≤ 100000) (hL : LaidL w) (x : ByteArray) (n : Nat) (h : TitIs s.data.toList x n) :
  Calls Tryz.prog 203 #[.string s] w fun e w' => e = .returned (.tuple #[.string x, .int .i64 (n : Int)]) ∧ Below w.heap.size w w' := by
 have HG := Lib.hid (zgap_any s w (by omega))
 have hgl := gapZ_le s.data.toList
 rw [szL] at hgl
 obtain ⟨g, hg⟩ : ∃ g, gapZ s.data.toList = g := ⟨_, rfl⟩
 rw [hg] at HG hgl
 rcases Nat.eq_zero_or_pos g with rfl | hg0
 ·obtain ⟨rfl, rfl⟩ := h.no (titledZ hg)
  clear h hg
  go_enter Tryz.func203, Tryz.ntmps203
  go_wp2_with fail
  refine HG.out.mono ?_
  rintro e w1 ⟨rfl, hb⟩
  go_wp2
  go_ret2
  exact ⟨rfl, hb⟩
 have hG := gapZ_pos hg hg0
 have hg1 : ((g : Int) == 0) = false := by simp; omega
 have hgb : (g : Int) ≤ (s.size : Int) := by omega
 have hg0' : (0 : Int) ≤ (g : Int) := by omega
 obtain ⟨S1, hS1⟩ : ∃ S1, S1 = s.extract g s.size := ⟨_, rfl⟩
 have hS1l : S1.data.toList = s.data.toList.drop g := by rw [hS1, ext_restL]
 have hS1z : S1.size + g = s.size := by rw [← szL, hS1l, List.length_drop, szL]; omega
 obtain ⟨y, p, hT⟩ : ∃ (y : ByteArray) (p : Nat), titP (s.data.toList.drop g) = (y.data.toList, p) := by
  obtain ⟨y, hy⟩ := ba_mkL (titP (s.data.toList.drop g)).1
  exact ⟨y, (titP (s.data.toList.drop g)).2, by rw [hy]⟩
 have HT : Hid (∀ W, Below w.heap.size w W → Calls Tryz.prog 223 #[.string S1] W fun e w' => e = .returned (.tuple #[.string y, .int .i64 (p : Int)]) ∧ Below W.heap.size W w') := Lib.hid (fun W hW => by
  have := title_any S1 W (by omega) (hL.below hW)
  rw [hS1l] at this
  unfold titV at this
  rw [hT] at this
  simp only at this
  unfold str at this
  rw [ba_selfL] at this
  exact this)
 have hpl := tit_le hT
 rw [List.length_drop, szL] at hpl
 have HS1 := Lib.hid hS1
 rcases Nat.eq_zero_or_pos p with rfl | hp0
 ·obtain ⟨rfl, rfl⟩ := h.no (titled_no3 hG (by rw [hT]))
  clear h hg hG hS1 hS1l hS1z hT hpl hg0
  go_enter Tryz.func203, Tryz.ntmps203
  go_wp2_with fail
  refine HG.out.mono ?_
  rintro e w1 ⟨rfl, hb⟩
  go_wp2_with fail
  rw [← HS1.out]
  refine (HT.out _ hb).mono ?_
  rintro e w2 ⟨rfl, hb2⟩
  go_wp2
  go_ret2
  exact ⟨rfl, below_later hb hb2⟩
 have hp1 : ((p : Int) == 0) = false := by simp; omega
 obtain ⟨S2, hS2⟩ : ∃ S2, S2 = s.extract (g + p) s.size := ⟨_, rfl⟩
 have hS2l : S2.data.toList = s.data.toList.drop (g + p) := by rw [hS2, ext_restL]
 have hS2z : S2.size ≤ 100000 := by rw [← szL, hS2l, List.length_drop, szL]; omega
 obtain ⟨k, ok, hE⟩ := end_is (s.data.toList.drop (g + p))
 have HE := Lib.hid (fun W => zend_any S2 W (by omega) k ok (by rw [hS2l]; exact hE))
 have hkl := hE.le
 rw [List.length_drop, szL] at hkl
 have hgpb : (g : Int) + (p : Int) ≤ (s.size : Int) := by omega
 have hgp0 : (0 : Int) ≤ (g : Int) + (p : Int) := by omega
 have hs1 : (s.size : Int) ≤ 100000 := by omega
 have HS2 := Lib.hid hS2
 rcases hE with ⟨he, rfl, rfl⟩ | ⟨he, rfl⟩
 ·obtain ⟨rfl, rfl⟩ := h.no (titled_no4 hG (by rw [hT]; exact he))
  clear h hg hG hS1 hS1l hS1z hT hpl hS2 hS2l hS2z he hg0 hp0 hkl
  go_enter Tryz.func203, Tryz.ntmps203
  go_wp2_with fail
  refine HG.out.mono ?_
  rintro e w1 ⟨rfl, hb⟩
  go_wp2_with fail
  rw [← HS1.out]
  refine (HT.out _ hb).mono ?_
  rintro e w2 ⟨rfl, hb2⟩
  go_wp2_with fail
  rw [← HS2.out]
  refine (HE.out _).mono ?_
  rintro e w3 ⟨rfl, hb3⟩
  go_wp2
  go_ret2
  exact ⟨rfl, below_later (below_later hb hb2) hb3⟩
 ·obtain ⟨rfl, rfl⟩ := h.yes (titled_make hG hg0 hT hp0 he)
  have hsb : (g : Int) + (p : Int) + (k : Int) ≤ 100000 := by omega
  clear h hg hG hS1 hS1l hS1z hT hpl hS2 hS2l hS2z he hg0 hp0 hkl
  go_enter Tryz.func203, Tryz.ntmps203
  go_wp2_with fail
  refine HG.out.mono ?_
  rintro e w1 ⟨rfl, hb⟩
  go_wp2_with fail
  rw [← HS1.out]
  refine (HT.out _ hb).mono ?_
  rintro e w2 ⟨rfl, hb2⟩
  go_wp2_with fail
  rw [← HS2.out]
  refine (HE.out _).mono ?_
  rintro e w3 ⟨rfl, hb3⟩
  go_wp2
  go_ret2
  exact ⟨ret2' rfl (by omega), below_later (below_later hb hb2) hb3⟩
def BackIs (l : List UInt8) (x : ByteArray) (n : Nat) (ok : Bool) : Prop := (backP l = none ∧ x = empB ∧ n = 0 ∧ ok = false) ∨ (backP l = some (x.data.toList, n) ∧ ok = true)
theorem back_is (l : List UInt8) : ∃ x n ok, BackIs l x n ok := by
 cases h : backP l with
 | none => exact ⟨empB, 0, false, .inl ⟨h, rfl, rfl, rfl⟩⟩
 | some q =>
  obtain ⟨t, m⟩ := q
  obtain ⟨x, hx⟩ := ba_mkL t
  exact ⟨x, m, true, .inr ⟨by rw [h, hx], rfl⟩⟩
theorem BackIs.no {l : List UInt8} {x : ByteArray} {n : Nat} {ok : Bool} (h : BackIs l x n ok) (h2 : backP l = none) : x = empB ∧ n = 0 ∧ ok = false := by
 rcases h with ⟨_, h⟩ | ⟨h, _⟩
 ·exact h
 ·rw [h2] at h; cases h
theorem BackIs.yes {l : List UInt8} {x y : ByteArray} {n k : Nat} {ok : Bool} (h : BackIs l x n ok) (h2 : backP l = some (y.data.toList, k)) : x = y ∧ n = k ∧ ok = true := by
 rcases h with ⟨h, _⟩ | ⟨h, h4⟩
 ·rw [h2] at h; cases h
 ·rw [h2] at h
  injection h with h
  injection h with h1 h3
  exact ⟨bytes_ext h1.symm, h3.symm, h4⟩
set_option maxHeartbeats 4000000 in
theorem zback_any (s : ByteArray) (w : World) (hz : s.size ≤ 100000) (hL : LaidL w) (x : ByteArray) (n : Nat) (ok : Bool) (h : BackIs s.data.toList x n ok) :
  Calls Tryz.prog 178 #[.string s] w fun e w' => e = .returned (.tuple #[.string x, .int .i64 (n : Int), .bool ok]) ∧ Below w.heap.size w w' := by
 obtain ⟨y, m, hT⟩ := tit_is s.data.toList
 have HT := Lib.hid (ztitle_any s w hz hL y m hT)
 obtain ⟨k, ok', hE⟩ := end_is s.data.toList
 have HE := Lib.hid (fun W => zend_any s W (by omega) k ok' hE)
 rcases hT with ⟨ht, rfl, rfl⟩ | ⟨ht, hm0⟩
 ·have HV : Hid (x = empB ∧ n = k ∧ ok = ok') := Lib.hid (by
   rcases hE with ⟨he, rfl, rfl⟩ | ⟨he, rfl⟩
   ·exact h.no (back_none ht he)
   ·exact h.yes (y := empB) (back_end ht he))
  clear h hE ht
  go_enter Tryz.func178, Tryz.ntmps178
  go_wp2_with fail
  refine HT.out.mono ?_
  rintro e w1 ⟨rfl, hb⟩
  go_wp2_with fail
  refine (HE.out _).mono ?_
  rintro e w2 ⟨rfl, hb2⟩
  go_wp2
  go_ret3
  obtain ⟨rfl, rfl, rfl⟩ := HV.out
  exact ⟨rfl, below_later hb hb2⟩
 ·obtain ⟨rfl, rfl, rfl⟩ := h.yes (back_some ht)
  have hm1 : (0 : Int) < (n : Int) := by omega
  clear h hE ht hm0
  go_enter Tryz.func178, Tryz.ntmps178
  go_wp2_with fail
  refine HT.out.mono ?_
  rintro e w1 ⟨rfl, hb⟩
  go_wp2
  go_ret3
  exact ⟨rfl, hb⟩
end Rf
end Go.Proofs.YtkiipaaaakhhfaaGreatDoor
end
