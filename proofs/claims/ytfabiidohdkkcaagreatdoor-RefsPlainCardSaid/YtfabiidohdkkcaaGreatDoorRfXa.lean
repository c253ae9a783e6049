/- Texts of one part, one behind the other (RfPure, RfMem, RfRows, RfPlain, RfEx, RfZPure, RfJoin, RfK, RfK2). -/
import Derived.Test.YtfabiidohdkkcaaGreatDoorLkMore
import Derived.Test.YtfabiidohdkkcaaGreatDoorClassPure
import Derived.Test.YtfabiidohdkkcaaGreatDoorProg
import Derived.WalkKit
import Derived.BigCall
import Derived.BigQuiet
import Derived.Below
import Derived.WideShapes
import Derived.Deep.LoopGhost
import Derived.OwnWalk
import Derived.Lib.Hide
import Derived.RegionTactic
import Derived.Laws.ResultCell
import Derived.Laws.Rows
import Derived.Lib.Bytealg
import Derived.Lib.SlTrimSet
import Derived.Laws.BitsAllLaws
import Derived.Laws.BitsLemmas
import Derived.Laws.IdiomStrings
/- Plain mathematics of layer 10 (definitions): no program in it. -/
set_option linter.unusedVariables false
set_option linter.unusedSimpArgs false
set_option maxRecDepth 100000
namespace Go.Proofs.YtfabiidohdkkcaaGreatDoor
namespace Rf
open Lk

/-! ### the document's answers -/
def lfN (l : List UInt8) : Nat := l.count 10
def gapP (l : List UInt8) : Option Nat := if 1 < lfN (l.take (whN l)) then none else some (whN l)
def endP : List UInt8 → Option Nat
  | [] => some 0
  | c :: t => if bl c = true then (endP t).map (· + 1) else if c = 10 then some 1 else none
def titledP (l : List UInt8) : Option (List UInt8 × Nat) := match gapP l with
  | none => none
  | some g => if g = 0 then none else
    if (titP (l.drop g)).2 = 0 then none else
    (endP (l.drop (g + (titP (l.drop g)).2))).map fun e => ((titP (l.drop g)).1, g + (titP (l.drop g)).2 + e)
structure R where
  lab : List UInt8
  dst : List UInt8
  tit : List UInt8
def nilR : R := ⟨[], [], []⟩
/-- Behind the address: the title, and how many bytes. -/
def backP (u : List UInt8) : Option (List UInt8 × Nat) := match titledP u with
  | some q => some q
  | none => (endP u).map fun e => ([], e)
def takeP (l : List UInt8) : R × Nat :=
  if (labP l).2 = 0 then (nilR, 0) else match l.drop (labP l).2 with
  | [] => (nilR, 0)
  | c :: t => if c ≠ 58 then (nilR, 0) else match gapP t with
    | none => (nilR, 0)
    | some g => if (destP (t.drop g)).2.2 = false then (nilR, 0) else
      match backP (t.drop (g + (destP (t.drop g)).2.1)) with
      | none => (nilR, 0)
      | some q => (⟨Ks.lab (labP l).1, (destP (t.drop g)).1, q.1⟩, (labP l).2 + 1 + g + (destP (t.drop g)).2.1 + q.2)
def allF : Nat → List UInt8 → List R × List UInt8
  | 0, l => ([], l)
  | f + 1, l => if (takeP l).2 = 0 then ([], l) else ((takeP l).1 :: (allF f (l.drop (takeP l).2)).1, (allF f (l.drop (takeP l).2)).2)
def allP (l : List UInt8) : List R × List UInt8 := allF l.length l
def findP (l : List R) (x : List UInt8) : Option R := if x = [] then none else l.find? fun r => r.lab == x
def addP (o : List R) : List R → List R
  | [] => o
  | r :: m => addP (if o.any (fun q => q.lab == r.lab) then o else o ++ [r]) m

/-! ### what a definition is made of -/
theorem take_parts {l : List UInt8} {r : R} {n : Nat} (h : takeP l = (r, n)) (h0 : 0 < n) : ∃ x a t g d k q e, labP l = (x, a) ∧ 0 < a ∧ l.drop a = 58 :: t ∧ gapP t = some g ∧ destP (t.drop g) = (d, k, true) ∧ backP (t.drop (g + k)) = some (q, e) ∧ r = ⟨Ks.lab x, d, q⟩ ∧ n = a + 1 + g + k + e := by
  obtain ⟨x, a, hl⟩ : ∃ x a, labP l = (x, a) := ⟨_, _, rfl⟩
  unfold takeP at h
  rw [hl] at h
  simp only at h
  split at h
  · cases h; omega
  · rename_i ha
    split at h
    · cases h; omega
    · rename_i c t hd
      split at h
      · cases h; omega
      · rename_i hc
        have hc : c = 58 := by simpa using hc
        subst hc
        split at h
        · cases h; omega
        · rename_i g hg
          obtain ⟨d, k, b, hD⟩ : ∃ d k b, destP (t.drop g) = (d, k, b) := ⟨_, _, _, rfl⟩
          rw [hD] at h
          simp only at h
          split at h
          · cases h; omega
          · rename_i hb
            have hb : b = true := by simpa using hb
            subst hb
            split at h
            · cases h; omega
            · rename_i q hq
              obtain ⟨q, e⟩ := q
              cases h
              exact ⟨x, a, t, g, d, k, q, e, hl, by omega, hd, hg, hD, hq, rfl, rfl⟩
theorem take_make {l x t d q : List UInt8} {a g k e : Nat} (h1 : labP l = (x, a)) (h2 : 0 < a) (h3 : l.drop a = 58 :: t) (h4 : gapP t = some g) (h5 : destP (t.drop g) = (d, k, true)) (h6 : backP (t.drop (g + k)) = some (q, e)) : takeP l = (⟨Ks.lab x, d, q⟩, a + 1 + g + k + e) := by
  unfold takeP
  rw [h1]
  simp only
  rw [if_neg (by omega), h3]
  simp only
  rw [if_neg (by decide), h4]
  simp only
  rw [h5]
  simp only
  rw [if_neg (by decide), h6]

/-! ### where there is none -/
section
variable {l x t d : List UInt8} {a g k : Nat}
theorem take_no1 (h1 : labP l = (x, 0)) : takeP l = (nilR, 0) := by unfold takeP; rw [h1]; rfl
theorem take_no2 (h1 : labP l = (x, a)) (h2 : 0 < a) (h3 : l.drop a = []) : takeP l = (nilR, 0) := by
  unfold takeP; rw [h1]; simp only; rw [if_neg (by omega), h3]
theorem take_no3 {c : UInt8} (h1 : labP l = (x, a)) (h2 : 0 < a) (h3 : l.drop a = c :: t) (h4 : c ≠ 58) : takeP l = (nilR, 0) := by
  unfold takeP; rw [h1]; simp only; rw [if_neg (by omega), h3]; simp only; rw [if_pos h4]
theorem take_no4 (h1 : labP l = (x, a)) (h2 : 0 < a) (h3 : l.drop a = 58 :: t) (h4 : gapP t = none) : takeP l = (nilR, 0) := by
  unfold takeP; rw [h1]; simp only; rw [if_neg (by omega), h3]; simp only; rw [if_neg (by decide), h4]
theorem take_no5 (h1 : labP l = (x, a)) (h2 : 0 < a) (h3 : l.drop a = 58 :: t) (h4 : gapP t = some g) (h5 : destP (t.drop g) = (d, k, false)) : takeP l = (nilR, 0) := by
  unfold takeP; rw [h1]; simp only; rw [if_neg (by omega), h3]; simp only; rw [if_neg (by decide), h4]; simp only; rw [h5]; rfl
theorem take_no6 (h1 : labP l = (x, a)) (h2 : 0 < a) (h3 : l.drop a = 58 :: t) (h4 : gapP t = some g) (h5 : destP (t.drop g) = (d, k, true)) (h6 : backP (t.drop (g + k)) = none) : takeP l = (nilR, 0) := by
  unfold takeP; rw [h1]; simp only; rw [if_neg (by omega), h3]; simp only; rw [if_neg (by decide), h4]; simp only; rw [h5]; simp only; rw [if_neg (by decide), h6]
end
theorem back_some {u : List UInt8} {q : List UInt8 × Nat} (h : titledP u = some q) : backP u = some q := by unfold backP; rw [h]
theorem back_end {u : List UInt8} {e : Nat} (h : titledP u = none) (he : endP u = some e) : backP u = some ([], e) := by unfold backP; rw [h, he]; rfl
theorem back_none {u : List UInt8} (h : titledP u = none) (he : endP u = none) : backP u = none := by unfold backP; rw [h, he]; rfl
theorem titled_no1 {u : List UInt8} (h : gapP u = none) : titledP u = none := by unfold titledP; rw [h]
theorem titled_no2 {u : List UInt8} (h : gapP u = some 0) : titledP u = none := by unfold titledP; rw [h]; rfl
theorem titled_no3 {u : List UInt8} {g : Nat} (h : gapP u = some g) (h2 : (titP (u.drop g)).2 = 0) : titledP u = none := by
  unfold titledP; rw [h]; simp only
  split
  · rfl
  · first | rfl | rw [if_pos h2]
theorem titled_no4 {u : List UInt8} {g : Nat} (h : gapP u = some g) (h2 : endP (u.drop (g + (titP (u.drop g)).2)) = none) : titledP u = none := by
  unfold titledP; rw [h]; simp only
  split
  · rfl
  · split
    · rfl
    · rw [h2]; rfl

/-! ### bounds -/
theorem gap_some {l : List UInt8} {g : Nat} (h : gapP l = some g) : g = whN l ∧ lfN (l.take g) ≤ 1 := by
  unfold gapP at h
  split at h
  · cases h
  · cases h; exact ⟨rfl, by omega⟩
theorem gap_le {l : List UInt8} {g : Nat} (h : gapP l = some g) : g ≤ l.length := by rw [(gap_some h).1]; exact whN_le l
theorem end_le : ∀ (l : List UInt8) (e : Nat), endP l = some e → e ≤ l.length
  | [], e, h => by cases h; exact Nat.le_refl _
  | c :: t, e, h => by
    rw [endP] at h
    split at h
    · obtain ⟨j, hj, rfl⟩ := Option.map_eq_some_iff.1 h
      have := end_le t j hj
      simp only [List.length_cons]; omega
    · split at h
      · cases h; simp
      · cases h
theorem titled_some {l x : List UInt8} {n : Nat} (h : titledP l = some (x, n)) : ∃ g p e, gapP l = some g ∧ 0 < g ∧ titP (l.drop g) = (x, p) ∧ 0 < p ∧ endP (l.drop (g + p)) = some e ∧ n = g + p + e := by
  unfold titledP at h
  split at h
  · cases h
  · rename_i g hg
    split at h
    · cases h
    · rename_i h1
      split at h
      · cases h
      · rename_i h2
        obtain ⟨e, he, heq⟩ := Option.map_eq_some_iff.1 h
        cases heq
        exact ⟨g, (titP (l.drop g)).2, e, hg, Nat.pos_of_ne_zero h1, rfl, Nat.pos_of_ne_zero h2, he, rfl⟩
theorem titled_make {l x : List UInt8} {g p e : Nat} (h1 : gapP l = some g) (h2 : 0 < g) (h3 : titP (l.drop g) = (x, p)) (h4 : 0 < p) (h5 : endP (l.drop (g + p)) = some e) : titledP l = some (x, g + p + e) := by
  unfold titledP
  rw [h1]
  simp only
  rw [h3]
  simp only
  rw [if_neg (by omega), if_neg (by omega), h5]
  rfl
theorem tit_le {l x : List UInt8} {p : Nat} (h : titP l = (x, p)) : p ≤ l.length := by
  rcases Nat.eq_zero_or_pos p with h0 | h0
  · omega
  · exact (tit_take [] h h0).2.2.2
theorem back_le {u q : List UInt8} {e : Nat} (h : backP u = some (q, e)) : e ≤ u.length := by
  unfold backP at h
  split at h
  · rename_i y hy
    cases h
    obtain ⟨g, p, e', h1, h2, h3, h4, h5, rfl⟩ := titled_some hy
    have := gap_le h1
    have := tit_le h3
    have := end_le _ _ h5
    simp only [List.length_drop] at *
    omega
  · obtain ⟨e', he, heq⟩ := Option.map_eq_some_iff.1 h
    cases heq
    exact end_le _ _ he
theorem dest_le {l x : List UInt8} {n : Nat} (h : destP l = (x, n, true)) : 1 ≤ n ∧ n ≤ l.length := ⟨(dest_true h).1, (dest_true h).2.1⟩
theorem take_le {l : List UInt8} {r : R} {n : Nat} (h : takeP l = (r, n)) : n ≤ l.length := by
  rcases Nat.eq_zero_or_pos n with h0 | h0
  · omega
  obtain ⟨x, a, t, g, d, k, q, e, h1, h2, h3, h4, h5, h6, rfl, rfl⟩ := take_parts h h0
  have e1 := congrArg List.length h3
  have e2 := gap_le h4
  have e3 := (dest_le h5).2
  have e4 := back_le h6
  simp only [List.length_drop, List.length_cons] at *
  omega
theorem take_zero {l : List UInt8} (h : (takeP l).2 = 0) : takeP l = (nilR, 0) := by
  unfold takeP at h ⊢
  split
  · rfl
  · rename_i h0
    rw [if_neg h0] at h
    split
    · rfl
    · rename_i c t hd
      rw [hd] at h
      simp only at h
      split
      · rfl
      · rename_i hc
        rw [if_neg hc] at h
        split
        · rfl
        · rename_i g hg
          rw [hg] at h
          simp only at h
          split
          · rfl
          · rename_i hb
            rw [if_neg hb] at h
            split
            · rfl
            · rename_i q hq
              rw [hq] at h
              simp only at h
              omega
theorem lab_head {l x : List UInt8} {a : Nat} (h : labP l = (x, a)) (h0 : 0 < a) : l.head? = some 91 := by
  cases l with
  | nil => cases h; omega
  | cons c t =>
    rcases Classical.em (c = 91) with rfl | hc
    · rfl
    · rw [lab_none t hc] at h; cases h; omega
theorem take_head {l : List UInt8} (h : 0 < (takeP l).2) : l.head? = some 91 := by
  obtain ⟨x, a, t, g, d, k, q, e, h1, h2, _⟩ := take_parts (r := (takeP l).1) (n := (takeP l).2) rfl h
  exact lab_head h1 h2
theorem take_nil : takeP [] = (nilR, 0) := rfl

/-! ### cut behind it -/
theorem find_here {H B S : UInt8 → Bool} {l : List UInt8} {f : Bool} {i j : Nat} (h : find H B S f l = some i) (hj : i < j) : find H B S f (l.take j) = some i := by
  have := find_take ((l.drop (i + 1)).take (j - (i + 1))) l f i h
  rw [← List.take_add, show i + 1 + (j - (i + 1)) = j by omega] at this
  exact this
theorem dst_zero {o : Nat} {f : Bool} {l : List UInt8} (h : dst o f l = some 0) : o = 0 := by
  cases l with
  | nil =>
    rw [dst_nil] at h
    split at h
    · assumption
    · cases h
  | cons c t =>
    rw [dst_cons] at h
    have no : ∀ o', (dst o' (nf f c t) t).map (· + 1) = some 0 → False := fun o' hm => by
      obtain ⟨j, _, hj⟩ := Option.map_eq_some_iff.1 hm
      omega
    split at h
    · split at h
      · assumption
      · cases h
    · split at h
      · split at h
        · cases h
        · exact (no _ h).elim
      · split at h
        · split at h
          · assumption
          · exact (no _ h).elim
        · exact (no _ h).elim
theorem dst_cut : ∀ (l : List UInt8) (o : Nat) (f : Bool) (n j : Nat), dst o f l = some n → n ≤ j → dst o f (l.take j) = some n
  | [], o, f, n, j, h, hj => by rw [List.take_nil]; exact h
  | c :: t, o, f, n, 0, h, hj => by
    have hn : n = 0 := by omega
    subst hn
    have := dst_zero h
    subst this
    rw [List.take_zero, dst_nil, if_pos rfl]
  | c :: t, o, f, n, j + 1, h, hj => by
    have step : ∀ o', (dst o' (nf f c t) t).map (· + 1) = some n → (dst o' (nf f c (t.take j)) (t.take j)).map (· + 1) = some n := by
      intro o' hm
      obtain ⟨k, hk, rfl⟩ := Option.map_eq_some_iff.1 hm
      cases j with
      | zero =>
        have hk0 : k = 0 := by omega
        subst hk0
        have := dst_zero hk
        subst this
        rw [List.take_zero, dst_nil, if_pos rfl]
        rfl
      | succ i =>
        have e : nf f c (t.take (i + 1)) = nf f c t := by unfold nf; rw [hs_take]
        rw [e, dst_cut t o' _ k (i + 1) hk (by omega)]
        rfl
    rw [List.take_succ_cons]
    rw [dst_cons] at h ⊢
    split at h
    · rename_i h0
      rw [if_pos h0]; exact h
    · rename_i h0
      rw [if_neg h0]
      split at h
      · rename_i h1
        rw [if_pos h1]
        split at h
        · cases h
        · rename_i h2
          rw [if_neg h2]; exact step _ h
      · rename_i h1
        rw [if_neg h1]
        split at h
        · rename_i h2
          rw [if_pos h2]
          split at h
          · rename_i h3
            rw [if_pos h3]; exact h
          · rename_i h3
            rw [if_neg h3]; exact step _ h
        · rename_i h2
          rw [if_neg h2]; exact step _ h
theorem dest_cut {l x : List UInt8} {k j : Nat} (h : destP l = (x, k, true)) (hj : k ≤ j) : destP (l.take j) = (x, k, true) := by
  cases l with
  | nil => cases h
  | cons c t =>
    obtain ⟨h1, _⟩ := dest_le h
    obtain ⟨i, rfl⟩ : ∃ i, j = i + 1 := ⟨j - 1, by omega⟩
    rw [List.take_succ_cons]
    unfold destP at h ⊢
    simp only at h ⊢
    split at h
    · rename_i hc
      rw [if_pos hc]
      split at h
      · cases h
      · rename_i p hp
        cases h
        have e1 : angF false (t.take i) = some p := find_here hp (by omega)
        rw [e1]
        simp only [List.take_take, show min p i = p by omega]
    · rename_i hc
      rw [if_neg hc]
      split at h
      · cases h
      · rename_i p hp
        split at h
        · cases h
        · rename_i h0
          cases h
          have e1 := dst_cut (c :: t) 0 false k (i + 1) hp hj
          rw [List.take_succ_cons] at e1
          rw [e1]
          simp only [if_neg h0]
          rw [← List.take_succ_cons, List.take_take, show min k (i + 1) = k by omega]
theorem tit_cut {l x : List UInt8} {p j : Nat} (h : titP l = (x, p)) (h0 : 0 < p) (hj : p ≤ j) : titP (l.take j) = (x, p) := by
  have := tit_more [] h h0 hj
  rwa [List.append_nil] at this
theorem lab_cut {l x : List UInt8} {n j : Nat} (h : labP l = (x, n)) (h0 : 0 < n) (hj : n ≤ j) : labP (l.take j) = (x, n) := by
  have := (lab_take ((l.drop n).take (j - n)) h h0).1
  rw [← List.take_add, show n + (j - n) = j by omega] at this
  exact this
theorem wh_cut : ∀ (l : List UInt8) (j : Nat), whN l ≤ j → whN (l.take j) = whN l
  | [], j, h => by rw [List.take_nil]
  | c :: t, 0, h => by rw [List.take_zero, whN_nil]; omega
  | c :: t, j + 1, h => by
    rw [List.take_succ_cons]
    cases hc : whB c with
    | true =>
      rw [whN_hit _ hc] at h
      rw [whN_hit _ hc, whN_hit _ hc, wh_cut t j (by omega)]
    | false => rw [whN_miss _ hc, whN_miss _ hc]
theorem gap_cut {l : List UInt8} {g j : Nat} (h : gapP l = some g) (hj : g ≤ j) : gapP (l.take j) = some g := by
  obtain ⟨h1, h2⟩ := gap_some h
  unfold gapP
  rw [wh_cut l j (by omega), ← h1, List.take_take, show min g j = g by omega, if_neg (by omega)]
theorem end_cut : ∀ (l : List UInt8) (e j : Nat), endP l = some e → e ≤ j → endP (l.take j) = some e
  | [], e, j, h, hj => by rw [List.take_nil]; exact h
  | c :: t, e, 0, h, hj => by
    rw [endP] at h
    split at h
    · obtain ⟨i, _, rfl⟩ := Option.map_eq_some_iff.1 h; omega
    · split at h
      · cases h; omega
      · cases h
  | c :: t, e, j + 1, h, hj => by
    rw [List.take_succ_cons]
    rw [endP] at h ⊢
    split at h
    · rename_i h1
      obtain ⟨i, hi, rfl⟩ := Option.map_eq_some_iff.1 h
      rw [if_pos h1, end_cut t i j hi (by omega)]
      rfl
    · rename_i h1
      rw [if_neg h1]
      exact h
theorem bl_wh {c : UInt8} (h : bl c = true) : whB c = true := by
  unfold bl at h
  unfold whB
  rw [h]; rfl
theorem end_white : ∀ (l : List UInt8) (e : Nat), endP l = some e → whN l = e + whN (l.drop e)
  | [], e, h => by cases h; rfl
  | c :: t, e, h => by
    rw [endP] at h
    split at h
    · rename_i h1
      obtain ⟨i, hi, rfl⟩ := Option.map_eq_some_iff.1 h
      rw [whN_hit _ (bl_wh h1), List.drop_succ_cons, end_white t i hi]; omega
    · split at h
      · rename_i h2
        cases h
        subst h2
        rw [whN_hit _ (by decide), List.drop_succ_cons, List.drop_zero]; omega
      · cases h
/-- No title stands where the next definition begins. -/
theorem titled_none {u : List UInt8} {e : Nat} (h : endP u = some e) (hh : ∀ c ∈ (u.drop e).head?, c = 91) : titledP u = none := by
  have hw := end_white u e h
  have h2 : whN (u.drop e) = 0 ∧ (titP (u.drop e)).2 = 0 := by
    cases hx : u.drop e with
    | nil => exact ⟨rfl, rfl⟩
    | cons c t =>
      rw [hx] at hh
      have : c = 91 := hh c rfl
      subst this
      exact ⟨whN_miss _ (by decide), by rw [tit_none t (by decide) (by decide) (by decide)]⟩
  obtain ⟨h2, h3⟩ := h2
  unfold titledP
  split
  · rfl
  · rename_i g hg
    have := (gap_some hg).1
    have hge : g = e := by omega
    subst hge
    split
    · rfl
    · first | rfl | rw [if_pos h3]
theorem titled_cut {l x : List UInt8} {n j : Nat} (h : titledP l = some (x, n)) (hj : n ≤ j) : titledP (l.take j) = some (x, n) := by
  obtain ⟨g, p, e, h1, h2, h3, h4, h5, rfl⟩ := titled_some h
  refine titled_make (gap_cut h1 (by omega)) h2 ?_ h4 ?_
  · rw [List.drop_take]; exact tit_cut h3 h4 (by omega)
  · rw [List.drop_take]; exact end_cut _ _ _ h5 (by omega)
theorem back_cut {u q : List UInt8} {e j : Nat} (h : backP u = some (q, e)) (hj : e ≤ j) (hh : ∀ c ∈ ((u.take j).drop e).head?, c = 91) : backP (u.take j) = some (q, e) := by
  unfold backP at h ⊢
  split at h
  · rename_i y hy
    cases h
    rw [titled_cut hy hj]
  · obtain ⟨e', he, heq⟩ := Option.map_eq_some_iff.1 h
    cases heq
    have hc := end_cut _ _ _ he hj
    rw [titled_none hc hh]
    simp only
    rw [hc]; rfl
/-- A definition, cut at its end, or where the next one begins. -/
theorem take_cut {l : List UInt8} {r : R} {n j : Nat} (h : takeP l = (r, n)) (h0 : 0 < n) (hj : n ≤ j) (hh : ∀ c ∈ ((l.take j).drop n).head?, c = 91) : takeP (l.take j) = (r, n) := by
  obtain ⟨x, a, t, g, d, k, q, e, h1, h2, h3, h4, h5, h6, rfl, rfl⟩ := take_parts h h0
  have ht : (l.take j).drop a = 58 :: t.take (j - a - 1) := by
    rw [List.drop_take, h3, show j - a = (j - a - 1) + 1 by omega, List.take_succ_cons]
    congr 1
  have hd : l.drop (a + 1) = t := by
    have : (l.drop a).drop 1 = t := by rw [h3]; rfl
    rw [List.drop_drop] at this
    exact this
  refine take_make (lab_cut h1 h2 (by omega)) h2 ht (gap_cut h4 (by omega)) ?_ ?_
  · rw [List.drop_take]; exact dest_cut h5 (by omega)
  · rw [List.drop_take]
    refine back_cut h6 (by omega) ?_
    intro c hc
    refine hh c ?_
    rw [List.drop_take] at hc ⊢
    rw [← hd, List.drop_drop, List.drop_drop] at hc
    rw [show a + 1 + (g + k + e) = a + 1 + g + k + e by omega, show j - a - 1 - (g + k) - e = j - (a + 1 + g + k + e) by omega] at hc
    exact hc

/-! ### all definitions -/
theorem allF_fuel : ∀ (f g : Nat) (l : List UInt8), l.length ≤ f → l.length ≤ g → allF f l = allF g l
  | 0, 0, l, _, _ => rfl
  | 0, g + 1, l, hf, _ => by
    have : l = [] := List.length_eq_zero_iff.1 (by omega)
    subst this; rfl
  | f + 1, 0, l, _, hg => by
    have : l = [] := List.length_eq_zero_iff.1 (by omega)
    subst this; rfl
  | f + 1, g + 1, l, hf, hg => by
    unfold allF
    split
    · rfl
    · rename_i h
      have e : (l.drop (takeP l).2).length ≤ l.length - 1 := by rw [List.length_drop]; omega
      rw [allF_fuel f g _ (by omega) (by omega)]
theorem all_eq (l : List UInt8) : allP l = if (takeP l).2 = 0 then ([], l) else ((takeP l).1 :: (allP (l.drop (takeP l).2)).1, (allP (l.drop (takeP l).2)).2) := by
  unfold allP
  cases h : l.length with
  | zero =>
    have : l = [] := List.length_eq_zero_iff.1 h
    subst this; rfl
  | succ k =>
    rw [allF]
    split
    · rfl
    · rename_i h0
      rw [allF_fuel k (l.drop (takeP l).2).length _ (by rw [List.length_drop]; omega) (Nat.le_refl _)]
theorem all_end {l : List UInt8} (h : (takeP l).2 = 0) : allP l = ([], l) := by rw [all_eq, if_pos h]
theorem all_more {l : List UInt8} {r : R} {n : Nat} (h : takeP l = (r, n)) (h0 : 0 < n) : allP l = (r :: (allP (l.drop n)).1, (allP (l.drop n)).2) := by
  rw [all_eq, h]
  simp only
  rw [if_neg (by omega)]
/-- What is left: an end of the text; it begins with none; what stands ahead of it is all of them. -/
theorem all_rest : ∀ (f : Nat) (l : List UInt8), l.length ≤ f → ∃ k, k ≤ l.length ∧ (allP l).2 = l.drop k ∧ (takeP (allP l).2).2 = 0 ∧ ((allP l).1 = [] ↔ k = 0) ∧ allP (l.take k) = ((allP l).1, []) ∧ (allP l).1.length ≤ k
  | 0, l, hf => by
    have : l = [] := List.length_eq_zero_iff.1 (by omega)
    subst this
    exact ⟨0, by simp, rfl, rfl, ⟨fun _ => rfl, fun _ => rfl⟩, rfl, Nat.le_refl _⟩
  | f + 1, l, hf => by
    obtain ⟨r, n, h⟩ : ∃ r n, takeP l = (r, n) := ⟨_, _, rfl⟩
    rcases Nat.eq_zero_or_pos n with h0 | h0
    · subst h0
      have h2 : (takeP l).2 = 0 := by rw [h]
      refine ⟨0, by omega, ?_, ?_, ?_, ?_, ?_⟩
      · rw [all_end h2]; rfl
      · rw [all_end h2]; exact h2
      · rw [all_end h2]; exact ⟨fun _ => rfl, fun _ => rfl⟩
      · rw [all_end h2]; rfl
      · rw [all_end h2]; exact Nat.le_refl _
    · have hn := take_le h
      obtain ⟨k, k1, k2, k3, k4, k5, k6⟩ := all_rest f (l.drop n) (by rw [List.length_drop]; omega)
      rw [List.length_drop] at k1
      rw [all_more h h0]
      have hc : takeP (l.take (n + k)) = (r, n) := by
        refine take_cut h h0 (by omega) ?_
        intro c hc
        rw [List.drop_take, show n + k - n = k by omega] at hc
        rcases Nat.eq_zero_or_pos k with hk | hk
        · subst hk; simp at hc
        · have hp : 0 < (takeP (l.drop n)).2 := by
            rcases Nat.eq_zero_or_pos (takeP (l.drop n)).2 with h3 | h3
            · have := k4.1 (by rw [all_end h3])
              omega
            · exact h3
          have hd := take_head hp
          rw [List.head?_take, if_neg (by omega), hd] at hc
          exact (Option.some.inj hc).symm
      refine ⟨n + k, by omega, ?_, k3, ?_, ?_, ?_⟩
      · simp only; rw [k2, List.drop_drop]
      · simp only
        exact ⟨fun e => (by cases e), fun e => (by omega)⟩
      · rw [all_more hc h0, List.drop_take, show n + k - n = k by omega, k5]
      · simp only [List.length_cons]; omega

/-! ### the first one counts -/
theorem find_app (o : List R) (r : R) (x : List UInt8) : findP (o ++ [r]) x = (findP o x).or (findP [r] x) := by
  unfold findP
  split
  · rfl
  · rw [List.find?_append]
theorem find_cons (r : R) (m : List R) (x : List UInt8) : findP (r :: m) x = (findP [r] x).or (findP m x) := by
  unfold findP
  split
  · rfl
  · rw [show r :: m = [r] ++ m from rfl, List.find?_append]
theorem find_any {o : List R} {r : R} {x : List UInt8} (h : o.any (fun q => q.lab == r.lab) = true) : (findP o x).or (findP [r] x) = findP o x := by
  unfold findP
  split
  · rfl
  · rcases Classical.em (r.lab = x) with rfl | hx
    · obtain ⟨q, hq, he⟩ := List.any_eq_true.1 h
      have : (o.find? fun s => s.lab == r.lab).isSome := List.find?_isSome.2 ⟨q, hq, he⟩
      obtain ⟨s, hs⟩ := Option.isSome_iff_exists.1 this
      rw [hs]; rfl
    · have : [r].find? (fun s => s.lab == x) = none := by simp [hx]
      rw [this, Option.or_none]
theorem find_add (x : List UInt8) : ∀ (m o : List R), findP (addP o m) x = (findP o x).or (findP m x)
  | [], o => by
    rw [addP]
    have : findP [] x = none := by unfold findP; split <;> rfl
    rw [this, Option.or_none]
  | r :: m, o => by
    rw [addP, find_add x m, find_cons r m x, ← Option.or_assoc]
    congr 1
    split
    · rename_i h
      exact (find_any h).symm
    · exact find_app o r x
theorem find_nil (x : List UInt8) : findP [] x = none := by unfold findP; split <;> rfl
theorem add_len : ∀ (m o : List R), (addP o m).length ≤ o.length + m.length
  | [], o => by rw [addP]; exact Nat.le_refl _
  | r :: m, o => by
    rw [addP]
    have := add_len m (if o.any (fun q => q.lab == r.lab) then o else o ++ [r])
    split at this
    · rename_i h
      rw [if_pos h]; simp only [List.length_cons]; omega
    · rename_i h
      rw [if_neg h]
      simp only [List.length_append, List.length_cons, List.length_nil] at this ⊢
      omega
theorem find_all (l m : List R) (x : List UInt8) : findP (addP (addP [] l) m) x = (findP l x).or (findP m x) := by
  rw [find_add, find_add, find_nil, Option.none_or]
end Rf
end Go.Proofs.YtfabiidohdkkcaaGreatDoor

/- Layer 10: definitions in memory. -/
namespace Go.Proofs.YtfabiidohdkkcaaGreatDoor
open Go Go.RowKit
namespace Rf
set_option maxRecDepth 100000
set_option linter.unusedVariables false
set_option linter.unusedSimpArgs false

/-- A definition as it lies: three strings. -/
structure Rb where
  lab : ByteArray
  dst : ByteArray
  tit : ByteArray
def Rb.r (b : Rb) : R := ⟨b.lab.data.toList, b.dst.data.toList, b.tit.data.toList⟩
def nilB : Rb := ⟨⟨#[]⟩, ⟨#[]⟩, ⟨#[]⟩⟩
def refC (h : Rb) : Array Value := #[.string h.lab, .string h.dst, .string h.tit]
def refV (h : Rb) : Value := .agg (refC h)
theorem bytes_ext {a b : ByteArray} (h : a.data.toList = b.data.toList) : a = b := Go.WideShapes.bytes_inj h
theorem Rb.inj {a b : Rb} (h : a.r = b.r) : a = b := by
  obtain ⟨a1, a2, a3⟩ := a
  obtain ⟨b1, b2, b3⟩ := b
  unfold Rb.r at h
  injection h with h1 h2 h3
  have e1 : a1 = b1 := bytes_ext h1
  have e2 : a2 = b2 := bytes_ext h2
  have e3 : a3 = b3 := bytes_ext h3
  rw [e1, e2, e3]
theorem Rb.of (r : R) : ∃ b : Rb, b.r = r := ⟨⟨⟨r.lab.toArray⟩, ⟨r.dst.toArray⟩, ⟨r.tit.toArray⟩⟩, rfl⟩
theorem Rb.list : ∀ l : List R, ∃ m : List Rb, m.map Rb.r = l
  | [] => ⟨[], rfl⟩
  | r :: l => by
    obtain ⟨b, hb⟩ := Rb.of r
    obtain ⟨m, hm⟩ := Rb.list l
    exact ⟨b :: m, by rw [List.map_cons, hb, hm]⟩
theorem map_inj {a b : List Rb} (h : a.map Rb.r = b.map Rb.r) : a = b := by
  induction a generalizing b with
  | nil => cases b with
    | nil => rfl
    | cons _ _ => simp at h
  | cons x t ih =>
    cases b with
    | nil => simp at h
    | cons y u =>
      rw [List.map_cons, List.map_cons] at h
      injection h with h1 h2
      rw [Rb.inj h1, ih h2]

/-- Cells of definitions one behind the other. -/
def rowC (l : List Rb) : List Value := l.flatMap fun h => (refC h).toList
theorem rowC_len : ∀ l : List Rb, (rowC l).length = l.length * 3
  | [] => rfl
  | h :: r => by
    have := rowC_len r
    simp only [rowC, List.flatMap_cons, List.length_append, List.length_cons] at *
    rw [this]; simp [refC]; omega
theorem rowC_snoc (l : List Rb) (h : Rb) : rowC (l ++ [h]) = rowC l ++ (refC h).toList := by simp [rowC]
theorem rowC_append (l m : List Rb) : rowC (l ++ m) = rowC l ++ rowC m := by simp [rowC]
theorem rowC_get : ∀ {l : List Rb} {i : Nat} {h : Rb}, l[i]? = some h → ∀ j v, (refC h)[j]? = some v → (rowC l)[i * 3 + j]? = some v
  | [], i, h, e, _, _, _ => by simp at e
  | x :: r, 0, h, e, j, v, hj => by
    simp at e; subst e
    rw [Nat.zero_mul, Nat.zero_add]
    show ((refC x).toList ++ rowC r)[j]? = _
    have hl : j < (refC x).size := (Array.getElem?_eq_some_iff.1 hj).1
    rw [List.getElem?_append_left (by simpa using hl)]
    simpa using hj
  | x :: r, i + 1, h, e, j, v, hj => by
    show ((refC x).toList ++ rowC r)[(i + 1) * 3 + j]? = _
    rw [List.getElem?_append_right (by simp [refC]; omega)]
    rw [show (i + 1) * 3 + j - (refC x).toList.length = i * 3 + j by simp [refC]; omega]
    exact rowC_get (by simpa using e) j v hj
theorem refC_one (h : Rb) : ∀ u ∈ (refC h).toList, u.oneCell' = true := by
  intro u hu
  simp [refC] at hu
  rcases hu with rfl | rfl | rfl <;> rfl
theorem rowC_one (l : List Rb) : ∀ u ∈ rowC l, u.oneCell' = true := by
  intro u hu
  obtain ⟨h, _, hu⟩ := List.mem_flatMap.1 hu
  exact refC_one h u hu

/-- How the cells of a definition lie. -/
structure CellsAt (w : World) (b off : Nat) (h : Rb) : Prop where
  c0 : w.cell? ⟨b, off, none⟩ = some (.string h.lab)
  c1 : w.cell? ⟨b, off + 1, none⟩ = some (.string h.dst)
  c2 : w.cell? ⟨b, off + 2, none⟩ = some (.string h.tit)
theorem keep_cell {w W : World} {a : Addr} {v : Value} (hb : Below w.heap.size w W) (h : w.cell? a = some v) : W.cell? a = some v := by
  rw [hb.cell (World.block_lt_of_cell? w a h)]; exact h
theorem CellsAt.keep {w w' : World} {b off : Nat} {o : Rb} (h : CellsAt w b off o) (hb : Below w.heap.size w w') : CellsAt w' b off o :=
  ⟨keep_cell hb h.c0, keep_cell hb h.c1, keep_cell hb h.c2⟩
theorem below_later {w W W' : World} (h : Below w.heap.size w W) (h' : Below W.heap.size W W') : Below w.heap.size w W' := h.trans (h'.mono h.size)
theorem add_off (b k n : Nat) : (⟨b, k, none⟩ : Addr).add n = ⟨b, k + n, none⟩ := by unfold Addr.add; split <;> simp_all
theorem owns_form {w : World} {base n : Nat} {e : TypeId} {size : Nat} {v : Value} {xs : List Value} (h : w.ownsRow base e size v n xs) : ∃ a cap, v = .slice a n cap := by
  rcases h.2 with ⟨rfl, rfl⟩ | ⟨g, cap, cur, rfl, _⟩
  · exact ⟨none, 0, rfl⟩
  · exact ⟨_, _, rfl⟩
theorem owns_block {w w' : World} {base : Nat} {e : TypeId} {size n : Nat} {v : Value} {xs : List Value} (h : w.ownsRow base e size v n xs) (hb : ∀ k, v.ownBlock = some k → w'.heap[k]? = w.heap[k]?) : w'.ownsRow base e size v n xs := by
  refine ⟨h.1, h.2.imp id ?_⟩
  rintro ⟨g, cap, cur, rfl, h1, h2, h3⟩
  exact ⟨g, cap, cur, rfl, h1, (hb g rfl).trans h2, h3⟩
theorem owns_keep {w w' : World} {base : Nat} {e : TypeId} {size n : Nat} {v : Value} {xs : List Value} (h : w.ownsRow base e size v n xs) (hb : Below w.heap.size w w') : w'.ownsRow base e size v n xs :=
  owns_block h fun k hk => hb.block k (h.lt k hk).2

/-- A slice of definitions that lies anywhere (what came in, or what a call told). -/
def Refs (w : World) (v : Value) (l : List Rb) : Prop :=
  ∃ a cap, v = .slice a l.length cap ∧ l.length ≤ maxLen ∧ (l = [] ∨ ∃ b off, a = some ⟨b, off, none⟩ ∧ ∀ (i : Nat) (h : Rb), l[i]? = some h → CellsAt w b (off + i * 3) h)
theorem Refs.keep {w w' : World} {v : Value} {l : List Rb} (h : Refs w v l) (hb : Below w.heap.size w w') : Refs w' v l := by
  obtain ⟨a, cap, h1, h2, h3⟩ := h
  exact ⟨a, cap, h1, h2, h3.imp id fun ⟨b, off, e, h⟩ => ⟨b, off, e, fun i c hc => (h i c hc).keep hb⟩⟩
def Own (w : World) (base : Nat) (v : Value) (l : List Rb) : Prop := w.ownsRow base 24 3 v l.length (rowC l)
theorem Refs.of_owns {w : World} {base : Nat} {v : Value} {l : List Rb} (h : Own w base v l) : Refs w v l := by
  unfold Own at h
  have hc := fun g => h.cells (g := g)
  rcases h.2 with ⟨rfl, h0⟩ | ⟨g, cap, cur, rfl, _, _, hle, hm, _⟩
  · have : l = [] := List.length_eq_zero_iff.1 h0
    subst this
    exact ⟨none, 0, rfl, by decide, .inl rfl⟩
  · refine ⟨some ⟨g, 0, none⟩, cap, rfl, Nat.le_trans hle hm, .inr ⟨g, 0, rfl, fun i c hi => ?_⟩⟩
    have := fun j v hj => hc g rfl _ _ (rowC_get hi j v hj)
    rw [Nat.zero_add]
    refine ⟨?_, ?_, ?_⟩
    · have := this 0 _ rfl; rwa [add_off, Nat.zero_add, Nat.add_zero] at this
    · have := this 1 _ rfl; rwa [add_off, Nat.zero_add] at this
    · have := this 2 _ rfl; rwa [add_off, Nat.zero_add] at this
theorem Refs.nil (w : World) : Refs w (.slice none 0 0) [] := ⟨none, 0, rfl, by decide, .inl rfl⟩
/-- The one definition of a literal. -/
theorem Refs.one (w : World) (h : Rb) : Refs (w.alloc (.cells (refC h) 24)) (.slice (some ⟨w.heap.size, 0, none⟩) 1 1) [h] := by
  refine ⟨_, 1, rfl, (by show 1 ≤ maxLen; decide), .inr ⟨w.heap.size, 0, rfl, fun i c hi => ?_⟩⟩
  cases i with
  | zero =>
    simp at hi; subst hi
    exact ⟨by rw [World.cell?_alloc_new]; rfl, by rw [World.cell?_alloc_new]; rfl, by rw [World.cell?_alloc_new]; rfl⟩
  | succ i => simp at hi
theorem refInfo : (Tryz.prog.info? 24).map (fun i => (i.zero, i.size, i.bytes)) = some (some (.agg (refC nilB)), 3, 48) := by kernel_rfl
/-- A whole block. -/
def Blk (w : World) (B : Nat) (cs : Array Value) (t : TypeId) : Prop := w.heap[B]? = some (.cells cs t (0, 0))
theorem Blk.lt {w : World} {B : Nat} {cs : Array Value} {t : TypeId} (h : Blk w B cs t) : B < w.heap.size := (Array.getElem?_eq_some_iff.1 h).1
theorem Blk.below {w w' : World} {B : Nat} {cs : Array Value} {t : TypeId} (h : Blk w B cs t) (hb : Below w.heap.size w w') : Blk w' B cs t := (hb.block B h.lt).trans h
theorem Blk.cell {w : World} {B : Nat} {cs : Array Value} {t : TypeId} (h : Blk w B cs t) (k : Nat) {v : Value} (hk : cs[k]? = some v) : w.cell? ⟨B, k, none⟩ = some v := by rw [cell_of_row w B k _ _ _ h]; exact hk
theorem Blk.fr {w : World} {B : Nat} {cs : Array Value} {t : TypeId} (h : Blk w B cs t) (k : Nat) : w.frozen? ⟨B, k, none⟩ = false := frozen_of_row w B k _ _ h
theorem Blk.set {w : World} {B : Nat} {cs cs' : Array Value} {t : TypeId} (h : Blk w B cs t) (k : Nat) (v : Value) (e : cs.setIfInBounds k v = cs') : Blk (w.setCell ⟨B, k, none⟩ v) B cs' t := by
  subst e; exact heap_setCell_same w B k cs t v h
theorem Blk.other {w : World} {B : Nat} {cs : Array Value} {t : TypeId} (h : Blk w B cs t) {p : Addr} (v : Value) (e : B ≠ p.block) : Blk (w.setCell p v) B cs t := (heap_setCell_other w p B v e).trans h
theorem Blk.new (w : World) (cs : Array Value) (t : TypeId) : Blk (w.alloc (.cells cs t)) w.heap.size cs t := heap_alloc_new w _
theorem Blk.alloc {w : World} {B : Nat} {cs : Array Value} {t : TypeId} (h : Blk w B cs t) (o : Obj) : Blk (w.alloc o) B cs t := (Below.heap_alloc w o B h.lt).trans h
theorem Blk.drew {w : World} {B : Nat} {cs : Array Value} {t : TypeId} (h : Blk w B cs t) : Blk w.drew B cs t := h
theorem Blk.ref {w : World} {B : Nat} {o : Rb} {t : TypeId} (h : Blk w B (refC o) t) : CellsAt w B 0 o := ⟨h.cell 0 rfl, h.cell 1 rfl, h.cell 2 rfl⟩
/-- A definition by value is laid over a definition's cells. -/
theorem Blk.reref {W : World} {B : Nat} {o0 : Rb} {t : TypeId} (h : Blk W B (refC o0) t) (o : Rb) :
    Blk (((W.setCell ⟨B, 0, none⟩ (.string o.lab)).setCell ⟨B, 1, none⟩ (.string o.dst)).setCell ⟨B, 2, none⟩ (.string o.tit)) B (refC o) t := by
  have R0 := Blk.set (cs' := refC ⟨o.lab, o0.dst, o0.tit⟩) h 0 (.string o.lab) rfl
  have R1 := Blk.set (cs' := refC ⟨o.lab, o.dst, o0.tit⟩) R0 1 (.string o.dst) rfl
  exact Blk.set (cs' := refC o) R1 2 (.string o.tit) rfl
theorem infoRef : (Tryz.prog.info? 24).map (·.size) = some 3 := by kernel_rfl
/-- The results of a call that tells a definition and something beside it. -/
theorem results_ref {fn : Func} {p u : Tmp} (h : fn.results = #[.cell p 24, .tmp u]) (tmps : Array Value) (w : World) (g : Nat) (b : Rb) (v : Value) (hp : tmps.getD p undef = .pointer (some ⟨g, 0, none⟩)) (hv : tmps.getD u undef = v)
    (hg : Blk w g (refC b) 24) : (results fn tmps).run Tryz.prog w = .ok (.tuple #[refV b, v]) w := by
  rw [results_cell_tmp h, hp, hv]
  simp only [asAddr, Sem.run_pure, Result.andThen_ok]
  rw [run_loadVar_row w g _ _ _ _ _ hg Tryz.underlying24 rfl infoRef]
  rfl
theorem Own.keep {w w' : World} {base : Nat} {v : Value} {l : List Rb} (h : Own w base v l) (hb : Below w.heap.size w w') : Own w' base v l := owns_keep h hb
theorem Own.nil (w : World) : Own w w.heap.size (.slice none 0 0) [] := World.ownsRow_nil _ _ _ _
end Rf
end Go.Proofs.YtfabiidohdkkcaaGreatDoor

/- Layer 10: rows of definitions, as they lie: what is found, what is added; no function is named. -/
namespace Go.Proofs.YtfabiidohdkkcaaGreatDoor
open Go Go.RowKit
namespace Rf
set_option maxRecDepth 100000
set_option linter.unusedVariables false
set_option linter.unusedSimpArgs false

def empB : ByteArray := ⟨#[]⟩
theorem szR (s : ByteArray) : s.data.toList.length = s.size := by rw [Array.length_toList]; rfl
theorem restR (s : ByteArray) (a : Nat) : (s.extract a s.size).data.toList = s.data.toList.drop a := by
  rw [Lib.extract_data, List.take_of_length_le]
  rw [List.length_drop, szR]
  omega
theorem toR (s : ByteArray) (a : Nat) : (s.extract 0 a).data.toList = s.data.toList.take a := by
  rw [Lib.extract_data, List.drop_zero]; rfl
/-! ### what is found, what is added, on definitions as they lie -/
def findB (l : List Rb) (y : ByteArray) : Option Rb := if y = empB then none else l.find? fun r => decide (r.lab = y)
def addB (o : List Rb) : List Rb → List Rb
  | [] => o
  | r :: m => addB (if o.any (fun q => decide (q.lab = r.lab)) then o else o ++ [r]) m
theorem lab_iff (q : Rb) (y : ByteArray) : (q.r.lab == y.data.toList) = decide (q.lab = y) := by
  rw [Bool.eq_iff_iff, beq_iff_eq, decide_eq_true_iff]
  exact ⟨bytes_ext, fun h => by rw [← h]; rfl⟩
theorem emp_iff (y : ByteArray) : y.data.toList = [] ↔ y = empB := ⟨fun h => bytes_ext h, fun h => by rw [h]; rfl⟩
theorem find_map (l : List Rb) (y : ByteArray) : findP (l.map Rb.r) y.data.toList = (findB l y).map Rb.r := by
  unfold findP findB
  by_cases h : y = empB
  · rw [if_pos h, if_pos ((emp_iff y).2 h)]; rfl
  · rw [if_neg h, if_neg (fun e => h ((emp_iff y).1 e)), List.find?_map]
    congr 2
    funext q
    exact lab_iff q y
theorem add_map : ∀ (m o : List Rb), addP (o.map Rb.r) (m.map Rb.r) = (addB o m).map Rb.r
  | [], o => rfl
  | r :: m, o => by
    have e : (o.map Rb.r).any (fun q => q.lab == r.r.lab) = o.any (fun q => decide (q.lab = r.lab)) := by
      rw [List.any_map]
      congr 1
      funext q
      exact lab_iff q r.lab
    rw [List.map_cons, addP, addB, e]
    split
    · exact add_map m o
    · rw [← add_map m (o ++ [r]), List.map_append, List.map_cons, List.map_nil]
theorem or_map (a b : Option Rb) : (a.or b).map Rb.r = (a.map Rb.r).or (b.map Rb.r) := by cases a <;> rfl
theorem opt_inj {a b : Option Rb} (h : a.map Rb.r = b.map Rb.r) : a = b := by
  cases a with
  | none => cases b with
    | none => rfl
    | some _ => cases h
  | some x => cases b with
    | none => cases h
    | some y =>
      rw [Option.map_some, Option.map_some] at h
      injection h with h
      rw [Rb.inj h]
theorem findB_all (l m : List Rb) (y : ByteArray) : findB (addB (addB [] l) m) y = (findB l y).or (findB m y) := by
  apply opt_inj
  rw [or_map, ← find_map, ← find_map, ← find_map, ← add_map, ← add_map, List.map_nil, find_all]
theorem addB_len (m o : List Rb) : (addB o m).length ≤ o.length + m.length := by
  have := add_len (m.map Rb.r) (o.map Rb.r)
  rw [add_map, List.length_map, List.length_map, List.length_map] at this
  exact this
theorem addB_cons (o : List Rb) (r : Rb) (m : List Rb) : addB o (r :: m) = addB (if o.any (fun q => decide (q.lab = r.lab)) then o else o ++ [r]) m := rfl

/-- What Find tells. -/
def FindIs (l : List Rb) (y : ByteArray) (b : Rb) (ok : Bool) : Prop := (findB l y = none ∧ b = nilB ∧ ok = false) ∨ (findB l y = some b ∧ ok = true)
theorem find_is (l : List Rb) (y : ByteArray) : ∃ b ok, FindIs l y b ok := by
  cases h : findB l y with
  | none => exact ⟨nilB, false, .inl ⟨h, rfl, rfl⟩⟩
  | some b => exact ⟨b, true, .inr ⟨h, rfl⟩⟩
theorem ne_list {a b : ByteArray} (h : a ≠ b) : (a.toList == b.toList) = false := by
  rw [beq_eq_false_iff_ne, Go.ByteArray.toList_eq, Go.ByteArray.toList_eq]
  exact fun e => h (bytes_ext e)
theorem eq_list {a b : ByteArray} (h : a = b) : (a.toList == b.toList) = true := by rw [h]; exact beq_self_eq_true _
theorem emp_list {y : ByteArray} : y.toList.isEmpty = decide (y = empB) := by
  rw [Bool.eq_iff_iff, decide_eq_true_iff, ← emp_iff, Go.ByteArray.toList_eq]
  cases y.data.toList <;> simp
/-! ### a row of the call's own grows -/
theorem Own.more {w w1 w2 : World} {B : Nat} {l : List Rb} {c : Rb} {u v' : Value} {o : Obj} (hB : w.heap.size ≤ B) (hown : Own w1 B u l) (hbw : Below w.heap.size w w1)
    (hown' : w2.ownsRow B 24 3 v' (l.length + 1) (rowC l ++ (refC c).toList)) (hgrow : (w1.alloc o).grownBy w2 u.ownBlock) : Own w2 B v' (l ++ [c]) ∧ Below w.heap.size w w2 := by
  have hsz := hbw.size
  unfold Own at hown ⊢
  refine ⟨by rw [rowC_snoc]; simpa using hown', (hbw.alloc (by omega) _).grown hgrow (by simp; omega) (fun k hk => Nat.le_trans hB (hown.lt k hk).1)⟩
theorem Own.form {w : World} {B : Nat} {v : Value} {l : List Rb} (h : Own w B v l) : ∃ a cap, v = .slice a l.length cap := owns_form h

/-- What is known of a definition that comes in. -/
def RefZ (r : Rb) : Prop := r.lab.size ≤ 140737488355328 ∧ r.dst.size ≤ 140737488355328 ∧ r.tit.size ≤ 140737488355328
def FewR (l : List Rb) : Prop := l.length ≤ 40 ∧ ∀ r ∈ l, r.lab.size + r.dst.size + r.tit.size ≤ 1000
theorem below_drewN {B : Nat} {a w : World} (h : Below B a w) (n : Nat) : Below B a (w.drewN n) := h.trans ⟨rfl, rfl, rfl, Nat.le_refl _, fun _ _ => rfl⟩
end Rf
end Go.Proofs.YtfabiidohdkkcaaGreatDoor

/- Plain mathematics of layer 10: definitions of letters. -/
set_option linter.unusedVariables false
set_option linter.unusedSimpArgs false
set_option linter.unusedSectionVars false
set_option maxRecDepth 100000
namespace Go.Proofs.YtfabiidohdkkcaaGreatDoor
namespace Rf
open Lk

/-- A small letter. -/
def low (c : UInt8) : Prop := 97 ≤ c.toNat ∧ c.toNat ≤ 122
theorem low_ad {c : UInt8} (h : low c) : ad c := .inl h
theorem enc_low : ∀ (a : List UInt8), (∀ c ∈ a, low c) → Ks.enc (a.map UInt8.toNat) = a
  | [], _ => rfl
  | c :: t, h => by
    have hc := h c List.mem_cons_self
    unfold low at hc
    rw [List.map_cons, Ks.enc_cons, enc_low t (fun d hd => h d (List.mem_cons_of_mem _ hd))]
    have : Tx.encN c.toNat = [c] := by
      unfold Tx.encN
      rw [if_pos (by omega)]
      simp
    rw [this]; rfl
theorem lab_low {a : List UInt8} (h : ∀ c ∈ a, low c) (hne : a ≠ []) : Ks.lab a = a := by
  have hv : Ks.AllV (a.map UInt8.toNat) := by
    intro n hn
    obtain ⟨c, hc, rfl⟩ := List.mem_map.1 hn
    have := h c hc
    unfold low at this
    unfold Ks.Valid
    omega
  have hf : Ks.foldRs (a.map UInt8.toNat) = a.map UInt8.toNat := by
    have : ∀ ns : List Nat, (∀ n ∈ ns, 97 ≤ n ∧ n ≤ 122) → Ks.foldRs ns = ns := by
      intro ns
      induction ns with
      | nil => intro _; rfl
      | cons n t ih =>
        intro hn
        have h1 := hn n List.mem_cons_self
        rw [Ks.foldRs_cons, ih (fun m hm => hn m (List.mem_cons_of_mem _ hm))]
        have : Ks.foldN n = [n] := by
          unfold Ks.foldN
          rw [if_neg (by omega), Ks.small_sm (by unfold Ks.Small; omega)]
        rw [this]; rfl
    exact this _ fun n hn => by
      obtain ⟨c, hc, rfl⟩ := List.mem_map.1 hn
      exact h c hc
  have hr : Tx.runes a = a.map UInt8.toNat := by
    have := Ks.runes_enc _ hv
    rw [enc_low a h] at this
    exact this
  unfold Ks.lab
  rw [hr]
  unfold Ks.labN
  rw [hf, Ks.fl_none]
  · have : (a.map UInt8.toNat).isEmpty = false := by
      cases a with
      | nil => exact absurd rfl hne
      | cons c t => rfl
    rw [this]
    show Ks.enc (a.map UInt8.toNat) = a
    exact enc_low a h
  · intro n hn
    obtain ⟨c, hc, rfl⟩ := List.mem_map.1 hn
    have := h c hc
    unfold low at this
    rw [Ks.gapN_not]; omega

/-! ### gaps -/
def gapOf (k : Nat) : List UInt8 := match k with
  | 0 => [32]
  | 1 => [10]
  | 2 => [32, 10, 9]
  | _ => [9]
theorem wh_low (x : List UInt8) (h : ∀ c ∈ x.head?, whB c = false) : whN x = 0 := by
  cases x with
  | nil => rfl
  | cons c t => exact whN_miss t (h c rfl)
theorem gap_of (k : Nat) (x : List UInt8) (h : whN x = 0) : gapP (gapOf k ++ x) = some (gapOf k).length := by
  have e : ∀ (G : List UInt8), (∀ c ∈ G, whB c = true) → whN (G ++ x) = G.length := by
    intro G
    induction G with
    | nil => intro _; exact h
    | cons c t ih =>
      intro hG
      rw [List.cons_append, whN_hit _ (hG c List.mem_cons_self), ih (fun d hd => hG d (List.mem_cons_of_mem _ hd))]; rfl
  have e2 := e (gapOf k) (by unfold gapOf; split <;> decide)
  unfold gapP
  rw [e2, List.take_left' rfl, if_neg]
  unfold gapOf; split <;> decide
theorem gap_pos (k : Nat) : 0 < (gapOf k).length := by unfold gapOf; split <;> decide
theorem gap_head (k : Nat) : ∃ c t, gapOf k = c :: t ∧ c.toNat ≤ 32 := by
  unfold gapOf
  split
  · exact ⟨32, [], rfl, by decide⟩
  · exact ⟨10, [], rfl, by decide⟩
  · exact ⟨32, [10, 9], rfl, by decide⟩
  · exact ⟨9, [], rfl, by decide⟩

/-! ### addresses, titles -/
theorem ad_dst2 {d : UInt8} (hd : d.toNat ≤ 32) (m : List UInt8) : ∀ (a : List UInt8), (∀ c ∈ a, ad c) → dst 0 false (a ++ d :: m) = some a.length
  | [], _ => by
    rw [List.nil_append, dst_cons, if_pos (.inl hd), if_pos rfl]; rfl
  | c :: t, h => by
    have hc := h c List.mem_cons_self
    have h1 : ¬ (c.toNat ≤ 32 ∨ c = 127) := fun e => e.elim (fun e => by unfold ad at hc; omega) (fun e => ad_ne hc (by decide) e)
    have h2 : ¬ (false = false ∧ c = 40) := fun e => ad_ne hc (by decide) e.2
    have h3 : ¬ (false = false ∧ c = 41) := fun e => ad_ne hc (by decide) e.2
    rw [List.cons_append, dst_cons, if_neg h1, if_neg h2, if_neg h3, nf_other _ _ (ad_ne hc (by decide)), ad_dst2 hd m t (fun d hd => h d (List.mem_cons_of_mem _ hd))]
    rfl
theorem ad_dest2 {a : List UInt8} {d : UInt8} (hd : d.toNat ≤ 32) (m : List UInt8) (h : ∀ c ∈ a, ad c) (hne : a ≠ []) : destP (a ++ d :: m) = (a, a.length, true) := by
  cases a with
  | nil => exact absurd rfl hne
  | cons c t =>
    have e := ad_dst2 hd m (c :: t) h
    have hz : ¬ (c :: t).length = 0 := by simp
    unfold destP
    rw [List.cons_append] at e ⊢
    simp only
    rw [if_neg (ad_ne (h c List.mem_cons_self) (by decide)), e]
    simp only [if_neg hz]
    rw [show c :: (t ++ d :: m) = (c :: t) ++ d :: m from rfl, take_app, ad_une h]
theorem titled_of (k : Nat) {T : List UInt8} (m : List UInt8) (h : ∀ c ∈ T, low c) : titledP (gapOf k ++ 39 :: (T ++ 39 :: m)) = (endP m).map fun e => (T, (gapOf k).length + (T.length + 2) + e) := by
  have h1 := gap_of k (39 :: (T ++ 39 :: m)) (whN_miss _ (by decide))
  have h2 : titP (39 :: (T ++ 39 :: m)) = (T, T.length + 2) := ad_tit (c := 39) m (fun c hc => low_ad (h c hc)) (.inr (.inl rfl))
  have h3 : (gapOf k ++ 39 :: (T ++ 39 :: m)).drop (gapOf k).length = 39 :: (T ++ 39 :: m) := List.drop_left' rfl
  have h4 : (gapOf k ++ 39 :: (T ++ 39 :: m)).drop ((gapOf k).length + (T.length + 2)) = m := by
    rw [← List.drop_drop, h3, show 39 :: (T ++ 39 :: m) = (39 :: (T ++ [39])) ++ m by simp]
    exact List.drop_left' (by simp)
  unfold titledP
  rw [h1]
  simp only
  rw [h3, h2]
  simp only
  rw [h4, if_neg (by have := gap_pos k; omega), if_neg (by omega)]
/-- The end of a line behind a gap and ahead of a title. -/
theorem end_gap (k : Nat) (x : List UInt8) : endP (gapOf k ++ 39 :: x) = if k = 1 then some 1 else if k = 2 then some 2 else none := by
  have e39 : endP (39 :: x) = none := rfl
  unfold gapOf
  split
  · show (endP (39 :: x)).map (· + 1) = _
    rw [e39]; rfl
  · rfl
  · rfl
  · rename_i h0 h1 h2
    show (endP (39 :: x)).map (· + 1) = _
    rw [e39, if_neg h1, if_neg h2]; rfl

/-! ### all of it -/
def txt (L D T : List UInt8) (i j : Nat) : List UInt8 := 91 :: (L ++ 93 :: 58 :: (gapOf i ++ (D ++ (gapOf j ++ 39 :: (T ++ [39])))))
theorem txt_app (L D T m : List UInt8) (i j : Nat) : txt L D T i j ++ m = 91 :: (L ++ 93 :: 58 :: (gapOf i ++ (D ++ (gapOf j ++ 39 :: (T ++ 39 :: m))))) := by
  simp [txt]
theorem txt_len (L D T : List UInt8) (i j : Nat) : (txt L D T i j).length = L.length + 2 + 1 + (gapOf i).length + D.length + ((gapOf j).length + (T.length + 2)) := by
  simp [txt]; omega
section
variable {L D T : List UInt8} (hL : ∀ c ∈ L, low c) (hD : ∀ c ∈ D, low c) (hT : ∀ c ∈ T, low c) (hL0 : L ≠ []) (hD0 : D ≠ []) (hl : L.length ≤ 999) (i j : Nat) (m : List UInt8)
include hL hD hT hL0 hD0 hl
theorem plain_take : takeP (txt L D T i j ++ m) = match backP (gapOf j ++ 39 :: (T ++ 39 :: m)) with
    | none => (nilR, 0)
    | some q => (⟨L, D, q.1⟩, L.length + 2 + 1 + (gapOf i).length + D.length + q.2) := by
  rw [txt_app]
  have h1 : labP (91 :: (L ++ 93 :: 58 :: (gapOf i ++ (D ++ (gapOf j ++ 39 :: (T ++ 39 :: m)))))) = (L, L.length + 2) := by
    rw [lab_plain _ (fun c hc => ⟨ad_ne (low_ad (hL c hc)) (by decide), ad_ne (low_ad (hL c hc)) (by decide), ad_ne (low_ad (hL c hc)) (by decide)⟩), if_neg]
    rintro (h | h)
    · omega
    · cases L with
      | nil => exact hL0 rfl
      | cons c t => rw [whN_miss t (ad_wh (low_ad (hL c List.mem_cons_self)))] at h; simp at h
  have h3 : (91 :: (L ++ 93 :: 58 :: (gapOf i ++ (D ++ (gapOf j ++ 39 :: (T ++ 39 :: m)))))).drop (L.length + 2) = 58 :: (gapOf i ++ (D ++ (gapOf j ++ 39 :: (T ++ 39 :: m)))) := by
    rw [show 91 :: (L ++ 93 :: 58 :: (gapOf i ++ (D ++ (gapOf j ++ 39 :: (T ++ 39 :: m))))) = (91 :: (L ++ [93])) ++ 58 :: (gapOf i ++ (D ++ (gapOf j ++ 39 :: (T ++ 39 :: m)))) by simp]
    exact List.drop_left' (by simp)
  have hw : whN (D ++ (gapOf j ++ 39 :: (T ++ 39 :: m))) = 0 := by
    cases D with
    | nil => exact absurd rfl hD0
    | cons c t => exact whN_miss _ (ad_wh (low_ad (hD c List.mem_cons_self)))
  have h4 := gap_of i _ hw
  have h5 : destP (D ++ (gapOf j ++ 39 :: (T ++ 39 :: m))) = (D, D.length, true) := by
    obtain ⟨c, t, e, hc⟩ := gap_head j
    rw [e, List.cons_append]
    exact ad_dest2 hc _ (fun c hc => low_ad (hD c hc)) hD0
  unfold takeP
  rw [h1]
  simp only
  rw [if_neg (by omega), h3]
  simp only
  rw [if_neg (by decide), h4]
  simp only
  rw [List.drop_left' rfl, h5]
  simp only
  rw [if_neg (by decide), ← List.drop_drop, List.drop_left' rfl, List.drop_left' rfl, lab_low hL hL0]
  all_goals (cases backP (gapOf j ++ 39 :: (T ++ 39 :: m)) <;> rfl)
theorem plain_end (e : Nat) (he : endP m = some e) : takeP (txt L D T i j ++ m) = (⟨L, D, T⟩, (txt L D T i j).length + e) := by
  have hb : backP (gapOf j ++ 39 :: (T ++ 39 :: m)) = some (T, (gapOf j).length + (T.length + 2) + e) := by
    unfold backP
    rw [titled_of j m hT, he]
    rfl
  rw [plain_take hL hD hT hL0 hD0 hl i j m, hb, txt_len]
  simp only
  congr 1; omega
theorem plain_none (he : endP m = none) : ((takeP (txt L D T i j ++ m)).2 = 0) ↔ ¬ (j = 1 ∨ j = 2) := by
  have ht : titledP (gapOf j ++ 39 :: (T ++ 39 :: m)) = none := by rw [titled_of j m hT, he]; rfl
  have hb : backP (gapOf j ++ 39 :: (T ++ 39 :: m)) = (if j = 1 then some 1 else if j = 2 then some 2 else none).map fun e => ([], e) := by
    unfold backP
    rw [ht]
    simp only
    rw [end_gap]
  rw [plain_take hL hD hT hL0 hD0 hl i j m, hb]
  rcases Classical.em (j = 1) with h1 | h1
  · subst h1; simp
  · rcases Classical.em (j = 2) with h2 | h2
    · subst h2; simp
    · rw [if_neg h1, if_neg h2]
      simp [h1, h2]
end
end Rf
end Go.Proofs.YtfabiidohdkkcaaGreatDoor

/- Plain mathematics of layer 10: the law's examples. -/
set_option linter.unusedVariables false
set_option linter.unusedSimpArgs false
set_option maxRecDepth 100000
namespace Go.Proofs.YtfabiidohdkkcaaGreatDoor
namespace Rf
open Lk

theorem lab_of {l : List UInt8} (ns : List Nat) (h : Ks.enc ns = l) (hv : Ks.AllV ns) : Ks.lab l = Ks.enc (Ks.jn 32 (Ks.fl Ks.gapN (Ks.foldRs ns))) := by
  unfold Ks.lab
  rw [← h, Ks.runes_enc ns hv]
  rfl
theorem allV_small {ns : List Nat} (h : ∀ n ∈ ns, 0 < n ∧ n < 128) : Ks.AllV ns := fun n hn => by
  have := h n hn
  unfold Ks.Valid
  omega
theorem lab_a : Ks.lab [97] = [97] := (lab_of [97] rfl (allV_small (by decide))).trans (by decide +kernel)
theorem lab_A : Ks.lab [65] = [97] := (lab_of [65] rfl (allV_small (by decide))).trans (by decide +kernel)
theorem lab_c : Ks.lab [99] = [99] := (lab_of [99] rfl (allV_small (by decide))).trans (by decide +kernel)
theorem lab_sp : Ks.lab [32, 97, 32] = [97] := (lab_of [32, 97, 32] rfl (allV_small (by decide))).trans (by decide +kernel)
/-- "[a]: /u", LF, "x". -/
theorem ex_take1 : takeP [91, 97, 93, 58, 32, 47, 117, 10, 120] = (⟨[97], [47, 117], []⟩, 8) := by
  have := take_make (l := [91, 97, 93, 58, 32, 47, 117, 10, 120]) (x := [97]) (a := 3) (t := [32, 47, 117, 10, 120]) (g := 1) (d := [47, 117]) (k := 2) (q := []) (e := 1) (by decide +kernel) (by decide) rfl (by decide +kernel) (by decide +kernel) (by decide +kernel)
  rw [lab_a] at this
  exact this
/-- "[a]: /u 't'", LF, "x". -/
theorem ex_take2 : takeP [91, 97, 93, 58, 32, 47, 117, 32, 39, 116, 39, 10, 120] = (⟨[97], [47, 117], [116]⟩, 12) := by
  have := take_make (l := [91, 97, 93, 58, 32, 47, 117, 32, 39, 116, 39, 10, 120]) (x := [97]) (a := 3) (t := [32, 47, 117, 32, 39, 116, 39, 10, 120]) (g := 1) (d := [47, 117]) (k := 2) (q := [116]) (e := 5) (by decide +kernel) (by decide) rfl (by decide +kernel) (by decide +kernel) (by decide +kernel)
  rw [lab_a] at this
  exact this
theorem ex_take3 : takeP [91, 65, 93, 58, 32, 98, 10, 91, 99, 93, 58, 32, 100, 10, 101] = (⟨[97], [98], []⟩, 7) := by
  have := take_make (l := [91, 65, 93, 58, 32, 98, 10, 91, 99, 93, 58, 32, 100, 10, 101]) (x := [65]) (a := 3) (t := [32, 98, 10, 91, 99, 93, 58, 32, 100, 10, 101]) (g := 1) (d := [98]) (k := 1) (q := []) (e := 1) (by decide +kernel) (by decide) rfl (by decide +kernel) (by decide +kernel) (by decide +kernel)
  rw [lab_A] at this
  exact this
theorem ex_take4 : takeP [91, 99, 93, 58, 32, 100, 10, 101] = (⟨[99], [100], []⟩, 7) := by
  have := take_make (l := [91, 99, 93, 58, 32, 100, 10, 101]) (x := [99]) (a := 3) (t := [32, 100, 10, 101]) (g := 1) (d := [100]) (k := 1) (q := []) (e := 1) (by decide +kernel) (by decide) rfl (by decide +kernel) (by decide +kernel) (by decide +kernel)
  rw [lab_c] at this
  exact this
theorem ex_take5 : (takeP [101]).2 = 0 := by rw [take_no1 (x := []) (by decide +kernel)]
theorem ex_all : allP [91, 65, 93, 58, 32, 98, 10, 91, 99, 93, 58, 32, 100, 10, 101] = ([⟨[97], [98], []⟩, ⟨[99], [100], []⟩], [101]) := by
  rw [all_more ex_take3 (by decide), show ([91, 65, 93, 58, 32, 98, 10, 91, 99, 93, 58, 32, 100, 10, 101] : List UInt8).drop 7 = [91, 99, 93, 58, 32, 100, 10, 101] from rfl, all_more ex_take4 (by decide),
    show ([91, 99, 93, 58, 32, 100, 10, 101] : List UInt8).drop 7 = [101] from rfl, all_end ex_take5]
end Rf
end Go.Proofs.YtfabiidohdkkcaaGreatDoor

/- Layer 10: the document's answer as the program cuts it: a gap that is 0 where there is none, a line's end by what trimming leaves. No function is named. -/
namespace Go.Proofs.YtfabiidohdkkcaaGreatDoor
open Go Go.RowKit
namespace Rf
open Lk
set_option maxRecDepth 100000
set_option linter.unusedVariables false
set_option linter.unusedSimpArgs false

def gapZ (l : List UInt8) : Nat := (gapP l).getD 0
theorem gapZ_none {l : List UInt8} (h : gapP l = none) : gapZ l = 0 := by unfold gapZ; rw [h]; rfl
theorem gapZ_some {l : List UInt8} {g : Nat} (h : gapP l = some g) : gapZ l = g := by unfold gapZ; rw [h]; rfl
theorem gapZ_le (l : List UInt8) : gapZ l ≤ l.length := by
  cases h : gapP l with
  | none => rw [gapZ_none h]; exact Nat.zero_le _
  | some g => rw [gapZ_some h]; exact gap_le h
theorem gapZ_two {l : List UInt8} (h : 1 < lfN (l.take (whN l))) : gapZ l = 0 := gapZ_none (by unfold gapP; rw [if_pos h])
theorem gapZ_one {l : List UInt8} (h : ¬ 1 < lfN (l.take (whN l))) : gapZ l = whN l := gapZ_some (by unfold gapP; rw [if_neg h])
theorem gapZ_pos {l : List UInt8} {g : Nat} (h : gapZ l = g) (h0 : 0 < g) : gapP l = some g := by
  cases hg : gapP l with
  | none => rw [gapZ_none hg] at h; omega
  | some k => rw [gapZ_some hg] at h; rw [h]
theorem gapZ_head {l : List UInt8} (h : gapP l = none) : ∃ c t, l = c :: t ∧ whB c = true := by
  cases l with
  | nil => cases h
  | cons c t =>
    cases hc : whB c with
    | true => exact ⟨c, t, rfl, hc⟩
    | false =>
      unfold gapP at h
      rw [whN_miss t hc, List.take_zero] at h
      cases h
theorem wh_small {c : UInt8} (h : whB c = true) : c.toNat ≤ 32 ∧ c ≠ 60 := by
  unfold whB at h
  simp only [Bool.or_eq_true, beq_iff_eq] at h
  rcases h with (rfl | rfl) | rfl <;> decide
theorem dest_white {c : UInt8} {t : List UInt8} (h : whB c = true) : (destP (c :: t)).2.2 = false := by
  cases hb : (destP (c :: t)).2.2 with
  | false => rfl
  | true =>
    obtain ⟨x, n, hd⟩ : ∃ x n, destP (c :: t) = (x, n, true) := ⟨(destP (c :: t)).1, (destP (c :: t)).2.1, by rw [← hb]⟩
    obtain ⟨h1, _, h2⟩ := dest_true hd
    have hs := wh_small h
    rcases h2 with ⟨h3, _⟩ | ⟨_, h3, _⟩
    · simp at h3; exact absurd h3 hs.2
    · have := (h3 c (by obtain ⟨k, rfl⟩ : ∃ k, n = k + 1 := ⟨n - 1, by omega⟩; simp)).1
      omega
theorem dest_gap {t d : List UInt8} {k : Nat} (h : destP (t.drop (gapZ t)) = (d, k, true)) : gapP t = some (gapZ t) := by
  cases hg : gapP t with
  | some g => rw [gapZ_some hg]
  | none =>
    rw [gapZ_none hg, List.drop_zero] at h
    obtain ⟨c, u, rfl, hc⟩ := gapZ_head hg
    have := dest_white (t := u) hc
    rw [h] at this; cases this
theorem take_noD {l x t d : List UInt8} {a k : Nat} (h1 : labP l = (x, a)) (h2 : 0 < a) (h3 : l.drop a = 58 :: t) (h : destP (t.drop (gapZ t)) = (d, k, false)) : takeP l = (nilR, 0) := by
  cases hg : gapP t with
  | none => exact take_no4 h1 h2 h3 hg
  | some g => rw [gapZ_some hg] at h; exact take_no5 h1 h2 h3 hg h
theorem titledZ {u : List UInt8} (h : gapZ u = 0) : titledP u = none := by
  cases hg : gapP u with
  | none => exact titled_no1 hg
  | some g =>
    rw [gapZ_some hg] at h
    subst h
    exact titled_no2 hg

theorem ok_of {l : List UInt8} {b : Rb} {n : Nat} {r : R} {m : Nat} (h : takeP l = (b.r, n)) (h2 : takeP l = (r, m)) : b.r = r ∧ n = m := by
  rw [h] at h2; injection h2 with h3 h4; exact ⟨h3, h4⟩
theorem nil_of {l : List UInt8} {b : Rb} {n : Nat} (h : takeP l = (b.r, n)) (h2 : takeP l = (nilR, 0)) : b = nilB ∧ n = 0 := by
  obtain ⟨h3, h4⟩ := ok_of h h2
  exact ⟨Rb.inj h3, h4⟩
theorem lab_le {l x : List UInt8} {a : Nat} (h : labP l = (x, a)) : a ≤ l.length ∧ x.length ≤ a := by
  rcases Nat.eq_zero_or_pos a with h0 | h0
  · subst h0
    refine ⟨Nat.zero_le _, ?_⟩
    cases l with
    | nil => cases h; exact Nat.le_refl _
    | cons c t =>
      unfold labP at h
      simp only at h
      split at h
      · split at h
        · cases h; exact Nat.le_refl _
        · split at h
          · cases h; exact Nat.le_refl _
          · cases h
      · cases h; exact Nat.le_refl _
  · obtain ⟨_, _, h1, h2, h3⟩ := lab_take [] h h0
    exact ⟨h3, by omega⟩

/-! ### the line's end -/
theorem trim_bl2 (l : List UInt8) : Lib.trimLeftS l [32, 9] = l.dropWhile bl := by
  unfold Lib.trimLeftS
  rw [show (fun x => ([32, 9] : List UInt8).contains x) = bl from funext fun c => by rw [List.contains_cons, List.contains_cons, List.contains_nil, Bool.or_false]; rfl]
theorem trimB_cons (c : UInt8) (t : List UInt8) : (c :: t).dropWhile bl = if bl c = true then t.dropWhile bl else c :: t := by
  rw [List.dropWhile_cons]
theorem end_trim : ∀ (l : List UInt8), (l.dropWhile bl = [] ∧ endP l = some l.length) ∨ (∃ t, l.dropWhile bl = 10 :: t ∧ endP l = some (l.length - t.length) ∧ t.length < l.length) ∨ (∃ c t, l.dropWhile bl = c :: t ∧ c ≠ 10 ∧ endP l = none)
  | [] => .inl ⟨rfl, rfl⟩
  | c :: t => by
    rw [trimB_cons, endP]
    by_cases hb : bl c = true
    · rw [if_pos hb, if_pos hb]
      rcases end_trim t with ⟨h1, h2⟩ | ⟨u, h1, h2, h3⟩ | ⟨d, u, h1, h2, h3⟩
      · exact .inl ⟨h1, by rw [h2]; rfl⟩
      · exact .inr (.inl ⟨u, h1, by rw [h2, Option.map_some, List.length_cons]; congr 1; omega, by rw [List.length_cons]; omega⟩)
      · exact .inr (.inr ⟨d, u, h1, h2, by rw [h3]; rfl⟩)
    · rw [if_neg hb, if_neg hb]
      by_cases hc : c = 10
      · subst hc
        exact .inr (.inl ⟨t, rfl, by rw [if_pos rfl, List.length_cons]; congr 1; omega, by rw [List.length_cons]; omega⟩)
      · exact .inr (.inr ⟨c, t, rfl, hc, by rw [if_neg hc]⟩)
theorem count_lf (l : List UInt8) : Lib.countByte l 10 = lfN l := rfl
theorem drop_len (l : List UInt8) : (l.dropWhile bl).length ≤ l.length := by
  have := congrArg List.length (List.takeWhile_append_dropWhile (p := bl) (l := l))
  rw [List.length_append] at this
  omega
end Rf
end Go.Proofs.YtfabiidohdkkcaaGreatDoor

/- Layer 10: joins of texts, n & m; no function is named. -/
namespace Go.Proofs.YtfabiidohdkkcaaGreatDoor
open Go Go.RowKit
namespace Rf
set_option maxRecDepth 100000
set_option linter.unusedVariables false
set_option linter.unusedSimpArgs false

theorem appR (a b : ByteArray) : (a ++ b).data.toList = a.data.toList ++ b.data.toList := by
  rw [ByteArray.data_append, Array.toList_append]
theorem appZ (a b : ByteArray) : (a ++ b).size = a.size + b.size := by rw [← szR, appR, List.length_append, szR, szR]
/-- A join, by name: its bytes and its size. -/
theorem joinR (a b : ByteArray) : ∃ X : ByteArray, a ++ b = X ∧ X.data.toList = a.data.toList ++ b.data.toList ∧ X.size = a.size + b.size := ⟨_, rfl, appR a b, appZ a b⟩
theorem ofInt_i64R (a : Nat) (ha : a < 9223372036854775808) : (BitVec.ofInt 64 (a : Int)).toNat = a := by
  rw [BitVec.ofInt_natCast, BitVec.toNat_ofNat]; exact Nat.mod_eq_of_lt (by omega)
/-- n & m, for a small m. -/
def mskR (n : Int) (m : Nat) : Nat := ((BitVec.ofInt 64 n) &&& (BitVec.ofInt 64 (m : Int))).toNat
theorem mskR_le (n : Int) (m : Nat) (hm : m < 9223372036854775808) : mskR n m ≤ m := by
  unfold mskR
  rw [BitVec.toNat_and, ofInt_i64R m hm]; exact Nat.and_le_right
theorem bits_andR (n : Int) (m : Nat) (hm : m < 9223372036854775808) : bits .and .i64 n (m : Int) = (mskR n m : Nat) := by
  have h := mskR_le n m hm
  show IntKind.i64.wrap (((BitVec.ofInt 64 n) &&& (BitVec.ofInt 64 (m : Int))).toNat : Int) = _
  rw [IntKind.wrap_i64]
  unfold mskR at *
  omega
/-- The gaps, as they lie. -/
def gapB (k : Nat) : ByteArray := ⟨(gapOf k).toArray⟩
theorem gapB_list (k : Nat) : (gapB k).data.toList = gapOf k := rfl
theorem gapB_size (k : Nat) : (gapB k).size ≤ 3 := by
  rw [← szR, gapB_list]
  unfold gapOf
  split <;> decide
/-- A definition of letters, joined piece by piece; with what stands behind it. -/
theorem plain_joined (lab dst tit : ByteArray) (i j : Nat) (h1 : lab.size ≤ 300) (h2 : dst.size ≤ 300) (h3 : tit.size ≤ 300) :
    ∃ A1 A2 A3 A4 A5 A6 A7 S S2 S3 : ByteArray, (⟨#[91]⟩ : ByteArray) ++ lab = A1 ∧ A1 ++ (⟨#[93, 58]⟩ : ByteArray) = A2 ∧ A2 ++ gapB i = A3 ∧ A3 ++ dst = A4 ∧ A4 ++ gapB j = A5 ∧ A5 ++ (⟨#[39]⟩ : ByteArray) = A6 ∧ A6 ++ tit = A7 ∧ A7 ++ (⟨#[39]⟩ : ByteArray) = S ∧
      S ++ (⟨#[10, 114, 101, 115, 116]⟩ : ByteArray) = S2 ∧ S ++ (⟨#[32, 114, 101, 115, 116, 10, 39, 120, 39]⟩ : ByteArray) = S3 ∧
      A1.size ≤ 2000 ∧ A2.size ≤ 2000 ∧ A3.size ≤ 2000 ∧ A4.size ≤ 2000 ∧ A5.size ≤ 2000 ∧ A6.size ≤ 2000 ∧ A7.size ≤ 2000 ∧ S.size ≤ 2000 ∧ S2.size ≤ 3000 ∧ S3.size ≤ 3000 ∧
      ((∀ x ∈ lab.data.toList, low x) → (∀ x ∈ dst.data.toList, low x) → (∀ x ∈ tit.data.toList, low x) → lab.data.toList ≠ [] → dst.data.toList ≠ [] →
        takeP S.data.toList = (Rb.r ⟨lab, dst, tit⟩, S.size) ∧ takeP S2.data.toList = (Rb.r ⟨lab, dst, tit⟩, S.size + 1) ∧ ((takeP S3.data.toList).2 = 0 ↔ ¬ (j = 1 ∨ j = 2))) := by
  obtain ⟨A1, a1, d1, s1⟩ := joinR ⟨#[91]⟩ lab
  obtain ⟨A2, a2, d2, s2⟩ := joinR A1 ⟨#[93, 58]⟩
  obtain ⟨A3, a3, d3, s3⟩ := joinR A2 (gapB i)
  obtain ⟨A4, a4, d4, s4⟩ := joinR A3 dst
  obtain ⟨A5, a5, d5, s5⟩ := joinR A4 (gapB j)
  obtain ⟨A6, a6, d6, s6⟩ := joinR A5 ⟨#[39]⟩
  obtain ⟨A7, a7, d7, s7⟩ := joinR A6 tit
  obtain ⟨S, a8, d8, s8⟩ := joinR A7 ⟨#[39]⟩
  obtain ⟨S2, a9, d9, s9⟩ := joinR S ⟨#[10, 114, 101, 115, 116]⟩
  obtain ⟨S3, a10, d10, s10⟩ := joinR S ⟨#[32, 114, 101, 115, 116, 10, 39, 120, 39]⟩
  have t1 : A1.size = 1 + lab.size := s1
  have t2 : A2.size = A1.size + 2 := s2
  have t6 : A6.size = A5.size + 1 := s6
  have t8 : S.size = A7.size + 1 := s8
  have t9 : S2.size = S.size + 5 := s9
  have t10 : S3.size = S.size + 9 := s10
  have g1 := gapB_size i
  have g2 := gapB_size j
  refine ⟨A1, A2, A3, A4, A5, A6, A7, S, S2, S3, a1, a2, a3, a4, a5, a6, a7, a8, a9, a10, by omega, by omega, by omega, by omega, by omega, by omega, by omega, by omega, by omega, by omega, fun hl hd ht hl0 hd0 => ?_⟩
  have e : S.data.toList = txt lab.data.toList dst.data.toList tit.data.toList i j := by
    rw [d8, d7, d6, d5, d4, d3, d2, d1]
    simp [txt, gapB_list]
  have hz : lab.data.toList.length ≤ 999 := by rw [szR]; omega
  have hSl : (txt lab.data.toList dst.data.toList tit.data.toList i j).length = S.size := by rw [← e, szR]
  refine ⟨?_, ?_, ?_⟩
  · have := plain_end hl hd ht hl0 hd0 hz i j [] 0 rfl
    rw [List.append_nil, ← e, szR] at this
    exact this
  · have := plain_end hl hd ht hl0 hd0 hz i j [10, 114, 101, 115, 116] 1 rfl
    rw [hSl, ← e] at this
    rw [d9]
    exact this
  · have := plain_none hl hd ht hl0 hd0 hz i j [32, 114, 101, 115, 116, 10, 39, 120, 39] rfl
    rw [← e] at this
    rw [d10]
    exact this
end Rf
end Go.Proofs.YtfabiidohdkkcaaGreatDoor

/- Layer 10: what the program's calls tell, in the laws' form; awake. -/
namespace Go.Proofs.YtfabiidohdkkcaaGreatDoor
open Go Go.RowKit
namespace Rf
set_option maxRecDepth 100000
set_option linter.unusedVariables false
set_option linter.unusedSimpArgs false

/-- The program's Take, All and Find, wherever nothing that is old has turned. -/
structure Prog10 (w : World) : Prop where
  take : ∀ W, Below w.heap.size w W → ∀ (s : ByteArray) (b : Rb) (n : Nat), s.size ≤ 100000 → takeP s.data.toList = (b.r, n) →
    Calls Tryz.prog 9 #[.string s] W fun e w' => e = .returned (.tuple #[refV b, .int .i64 (n : Int)]) ∧ Below W.heap.size W w'
  all : ∀ W, Below w.heap.size w W → ∀ (s : ByteArray) (L : List Rb) (S' : ByteArray), s.size ≤ 100000 → allP s.data.toList = (L.map Rb.r, S'.data.toList) →
    Calls Tryz.prog 11 #[.string s] W fun e w' => ∃ v, e = .returned (.tuple #[v, .string S']) ∧ Refs w' v L ∧ Below W.heap.size W w'
  find : ∀ W, Below w.heap.size w W → ∀ (l : List Rb) (v : Value) (x y : ByteArray) (b : Rb) (ok : Bool), x.size ≤ 1000000 → y.data.toList = Ks.lab x.data.toList → l.length ≤ 1000000 → (∀ r ∈ l, RefZ r) → Refs W v l → FindIs l y b ok →
    Calls Tryz.prog 15 #[v, .string x] W fun e w' => e = .returned (.tuple #[refV b, .bool ok]) ∧ Below W.heap.size W w'
theorem Prog10.below {w w' : World} (h : Prog10 w) (hb : Below w.heap.size w w') : Prog10 w' :=
  ⟨fun W hW => h.take W (below_later hb hW), fun W hW => h.all W (below_later hb hW), fun W hW => h.find W (below_later hb hW)⟩

def rbA1 : Rb := ⟨⟨#[97]⟩, ⟨#[47, 117]⟩, ⟨#[]⟩⟩
def rbA2 : Rb := ⟨⟨#[97]⟩, ⟨#[47, 117]⟩, ⟨#[116]⟩⟩
def rbB1 : Rb := ⟨⟨#[97]⟩, ⟨#[98]⟩, ⟨#[]⟩⟩
def rbB2 : Rb := ⟨⟨#[99]⟩, ⟨#[100]⟩, ⟨#[]⟩⟩
theorem find_ex : FindIs [rbB1, rbB2] ⟨#[97]⟩ rbB1 true := .inr ⟨by
  unfold findB
  rw [if_neg (fun h => by have := congrArg (fun b : ByteArray => b.data.toList) h; simp [empB] at this), List.find?_cons_of_pos (by simp [rbB1])], rfl⟩
theorem z_ex : ∀ r ∈ [rbB1, rbB2], RefZ r := by
  intro r hr
  simp only [List.mem_cons, List.not_mem_nil, or_false] at hr
  rcases hr with rfl | rfl <;> exact ⟨by decide, by decide, by decide⟩
set_option maxHeartbeats 4000000 in
theorem awake_any (w : World) (hP : Prog10 w) :
    Calls Tryz.prog 8 #[] w fun e w' => e = .returned (.bool true) ∧ Below w.heap.size w w' := by
  have H1 := Lib.hid (hP.take w (Below.refl _ _) ⟨#[91, 97, 93, 58, 32, 47, 117, 10, 120]⟩ rbA1 8 (by decide) ex_take1)
  have H2 := Lib.hid (fun W hW => hP.take W hW ⟨#[91, 97, 93, 58, 32, 47, 117, 32, 39, 116, 39, 10, 120]⟩ rbA2 12 (by decide) ex_take2)
  have H3 := Lib.hid (fun W hW => hP.all W hW ⟨#[91, 65, 93, 58, 32, 98, 10, 91, 99, 93, 58, 32, 100, 10, 101]⟩ [rbB1, rbB2] ⟨#[101]⟩ (by decide) ex_all)
  have H4 := Lib.hid (fun W hW v (h : Refs W v [rbB1, rbB2]) => hP.find W hW [rbB1, rbB2] v ⟨#[32, 97, 32]⟩ ⟨#[97]⟩ rbB1 true (by decide) lab_sp.symm (by decide) z_ex h find_ex)
  unfold refV refC rbA1 at H1
  unfold refV refC rbA2 at H2
  unfold refV refC at H4
  rw [show rbB1.lab = ⟨#[97]⟩ from rfl, show rbB1.dst = ⟨#[98]⟩ from rfl, show rbB1.tit = ⟨#[]⟩ from rfl] at H4
  clear hP
  go_enter Tryz.func8, Tryz.ntmps8
  go_wp2_with fail
  refine H1.out.mono ?_
  rintro e w1 ⟨rfl, hb1⟩
  have K1 : Hid (Blk (w1.alloc (.cells #[.string ⟨#[97]⟩, .string ⟨#[47, 117]⟩, .string ⟨#[]⟩] 24)) w1.heap.size #[.string ⟨#[97]⟩, .string ⟨#[47, 117]⟩, .string ⟨#[]⟩] 24) := Lib.hid (Blk.new _ _ _)
  have W1 : Hid (Below w.heap.size w (w1.alloc (.cells #[.string ⟨#[97]⟩, .string ⟨#[47, 117]⟩, .string ⟨#[]⟩] 24))) := Lib.hid (hb1.alloc hb1.size _)
  clear hb1 H1
  go_wp2_with fail
  refine (H2.out _ W1.out).mono ?_
  rintro e w2 ⟨rfl, hb2⟩
  have K2 : Hid (Blk (w2.alloc (.cells #[.string ⟨#[97]⟩, .string ⟨#[47, 117]⟩, .string ⟨#[116]⟩] 24)) w2.heap.size #[.string ⟨#[97]⟩, .string ⟨#[47, 117]⟩, .string ⟨#[116]⟩] 24) := Lib.hid (Blk.new _ _ _)
  have K1' := Lib.hid ((K1.out.below hb2).alloc (.cells #[.string ⟨#[97]⟩, .string ⟨#[47, 117]⟩, .string ⟨#[116]⟩] 24))
  have W2 : Hid (Below w.heap.size w (w2.alloc (.cells #[.string ⟨#[97]⟩, .string ⟨#[47, 117]⟩, .string ⟨#[116]⟩] 24))) := Lib.hid (by
    have := below_later W1.out hb2
    exact this.alloc this.size _)
  clear hb2 H2 K1 W1
  go_wp2_with fail
  refine (H3.out _ W2.out).mono ?_
  rintro e w3 ⟨v3, rfl, hr3, hb3⟩
  have K1 := Lib.hid (K1'.out.below hb3)
  have K3 := Lib.hid (K2.out.below hb3)
  have W3 := Lib.hid (below_later W2.out hb3)
  have R3 := Lib.hid hr3
  obtain ⟨a3, c3, rfl, _, _⟩ := hr3
  clear hb3 H3 K1' K2 W2
  go_wp2_with fail
  refine (H4.out _ W3.out _ R3.out).mono ?_
  rintro e w4 ⟨rfl, hb4⟩
  have K4 : Hid (Blk (w4.alloc (.cells #[.string ⟨#[97]⟩, .string ⟨#[98]⟩, .string ⟨#[]⟩] 24)) w4.heap.size #[.string ⟨#[97]⟩, .string ⟨#[98]⟩, .string ⟨#[]⟩] 24) := Lib.hid (Blk.new _ _ _)
  have K5 := Lib.hid ((K1.out.below hb4).alloc (.cells #[.string ⟨#[97]⟩, .string ⟨#[98]⟩, .string ⟨#[]⟩] 24))
  have K6 := Lib.hid ((K3.out.below hb4).alloc (.cells #[.string ⟨#[97]⟩, .string ⟨#[98]⟩, .string ⟨#[]⟩] 24))
  have W4 : Hid (Below w.heap.size w (w4.alloc (.cells #[.string ⟨#[97]⟩, .string ⟨#[98]⟩, .string ⟨#[]⟩] 24))) := Lib.hid (by
    have := below_later W3.out hb4
    exact this.alloc this.size _)
  have c0 := K5.out.cell 0 rfl
  have c1 := K5.out.cell 1 rfl
  have d2 := K6.out.cell 2 rfl
  have f1 := K4.out.cell 1 rfl
  clear hb4 H4 K1 K3 W3 R3 K4 K5 K6
  go_wp2
  go_ret
  exact ⟨rfl, W4.out⟩
end Rf
end Go.Proofs.YtfabiidohdkkcaaGreatDoor

/- Layer 10: the program's Add, in the laws' form; two rows of one. -/
namespace Go.Proofs.YtfabiidohdkkcaaGreatDoor
open Go Go.RowKit
namespace Rf
set_option maxRecDepth 100000
set_option linter.unusedVariables false
set_option linter.unusedSimpArgs false

/-- The program's Add, wherever nothing that is old has turned. -/
def AddOk (w : World) : Prop := ∀ W, Below w.heap.size w W → ∀ (l m : List Rb) (v v' : Value), Refs W v l → Refs W v' m → l.length ≤ 1000 → m.length ≤ 1000 → (∀ r ∈ l, RefZ r) → (∀ r ∈ m, RefZ r) →
    Calls Tryz.prog 17 #[v, v'] W fun e w' => ∃ u, e = .returned u ∧ Refs w' u (addB l m) ∧ Below W.heap.size W w'
theorem addB_mem : ∀ (m o : List Rb) (r : Rb), r ∈ addB o m → r ∈ o ∨ r ∈ m
  | [], o, r, h => .inl h
  | x :: m, o, r, h => by
    rw [addB_cons] at h
    rcases addB_mem m _ r h with h | h
    · split at h
      · exact .inl h
      · rcases List.mem_append.1 h with h | h
        · exact .inl h
        · exact .inr (by rw [List.mem_singleton.1 h]; exact List.mem_cons_self)
    · exact .inr (List.mem_cons_of_mem _ h)
theorem addB_z {o m : List Rb} (h : ∀ r ∈ o, RefZ r) (h' : ∀ r ∈ m, RefZ r) : ∀ r ∈ addB o m, RefZ r := fun r hr => (addB_mem m o r hr).elim (h r) (h' r)
theorem two_rows (w : World) (b : Rb) : Refs ((w.alloc (.cells (refC b) 24)).alloc (.cells (refC b) 24)) (.slice (some ⟨w.heap.size, 0, none⟩) 1 1) [b] ∧ Refs ((w.alloc (.cells (refC b) 24)).alloc (.cells (refC b) 24)) (.slice (some ⟨w.heap.size + 1, 0, none⟩) 1 1) [b] := by
  refine ⟨(Refs.one w b).keep ((Below.refl _ _).alloc (Nat.le_refl _) _), ?_⟩
  have := Refs.one (w.alloc (.cells (refC b) 24)) b
  rwa [World.size_alloc] at this
end Rf
end Go.Proofs.YtfabiidohdkkcaaGreatDoor
