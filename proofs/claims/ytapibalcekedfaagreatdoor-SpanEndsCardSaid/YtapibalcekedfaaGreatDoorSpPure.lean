/- Plain mathematics of layer 12 (what stands within a line for itself): no program in it. -/
import Derived.Test.YtapibalcekedfaaGreatDoorScPurB
import Derived.Lib.Strings
import Derived.Lib.Index
set_option linter.unusedVariables false
set_option linter.unusedSimpArgs false
set_option maxRecDepth 100000
namespace Go.Proofs.YtapibalcekedfaaGreatDoor
namespace Sp
open Sc

/-! ### runs -/
def runP : List UInt8 → Nat
  | [] => 0
  | c :: t => Sc.runN c (c :: t)
theorem runP_cons (c : UInt8) (t : List UInt8) : runP (c :: t) = Sc.runN c t + 1 := Sc.runN_hit c t
theorem runP_le (l : List UInt8) : runP l ≤ l.length := by
  cases l with
  | nil => exact Nat.le_refl _
  | cons c t => exact runN_le c (c :: t)
theorem runP_pos {l : List UInt8} (h : l ≠ []) : 1 ≤ runP l := by
  cases l with
  | nil => exact absurd rfl h
  | cons c t => rw [runP_cons]; omega
/-- A run of c stands at the beginning, and no c behind it. -/
theorem runN_split (c : UInt8) (l : List UInt8) : l = List.replicate (Sc.runN c l) c ++ l.drop (Sc.runN c l) ∧ (l.drop (Sc.runN c l)).head? ≠ some c := by
  induction l with
  | nil => simp [Sc.runN]
  | cons x t ih =>
    by_cases h : x = c
    · subst h
      rw [Sc.runN_hit, List.replicate_succ, List.drop_succ_cons]
      exact ⟨by rw [List.cons_append, ← ih.1], ih.2⟩
    · rw [runN_miss t h]
      exact ⟨by simp, by simpa using h⟩
theorem runN_rep (c : UInt8) (n : Nat) (r : List UInt8) (h : r.head? ≠ some c) : Sc.runN c (List.replicate n c ++ r) = n := by
  induction n with
  | zero =>
    cases r with
    | nil => rfl
    | cons x t => rw [List.replicate_zero, List.nil_append, runN_miss]; simpa using h
  | succ n ih => rw [List.replicate_succ, List.cons_append, Sc.runN_hit, ih]

/-! ### codes -/
/-- How many bytes stand ahead of the first run of just n ticks; so many bytes at the beginning are passed over. -/
def seek (n : Nat) : Nat → List UInt8 → Option Nat
  | _, [] => none
  | k + 1, _ :: t => (seek n k t).map (· + 1)
  | 0, c :: t => if c = 96 then (if Sc.runN 96 (c :: t) = n then some 0 else (seek n (Sc.runN 96 (c :: t) - 1) t).map (· + 1)) else (seek n 0 t).map (· + 1)
theorem seek_nil (n k : Nat) : seek n k [] = none := by cases k <;> rfl
theorem map_add (o : Option Nat) (a b : Nat) : (o.map (· + a)).map (· + b) = o.map (· + (a + b)) := by
  cases o with
  | none => rfl
  | some x => simp; omega
theorem map_zero (o : Option Nat) : o.map (· + 0) = o := by cases o <;> rfl
theorem seek_skip (n : Nat) : ∀ (k : Nat) (l : List UInt8), seek n k l = (seek n 0 (l.drop k)).map (· + k)
  | 0, l => by rw [List.drop_zero, map_zero]
  | k + 1, [] => by rw [seek_nil, List.drop_nil, seek_nil]; rfl
  | k + 1, c :: t => by
    show (seek n k t).map (· + 1) = _
    rw [seek_skip n k t, map_add, List.drop_succ_cons]
theorem seek_miss {n : Nat} {c : UInt8} (t : List UInt8) (h : c ≠ 96) : seek n 0 (c :: t) = (seek n 0 t).map (· + 1) := by
  show (if c = 96 then _ else _) = _
  rw [if_neg h]
theorem seek_hit {n : Nat} (t : List UInt8) (h : Sc.runN 96 (96 :: t) = n) : seek n 0 (96 :: t) = some 0 := by
  show (if (96 : UInt8) = 96 then (if Sc.runN 96 (96 :: t) = n then some 0 else _) else _) = _
  rw [if_pos rfl, if_pos h]
theorem seek_run {n : Nat} (t : List UInt8) (h : Sc.runN 96 (96 :: t) ≠ n) : seek n 0 (96 :: t) = (seek n 0 ((96 :: t).drop (Sc.runN 96 (96 :: t)))).map (· + Sc.runN 96 (96 :: t)) := by
  show (if (96 : UInt8) = 96 then (if Sc.runN 96 (96 :: t) = n then some 0 else (seek n (Sc.runN 96 (96 :: t) - 1) t).map (· + 1)) else _) = _
  rw [if_pos rfl, if_neg h, Sc.runN_hit, Nat.add_sub_cancel, seek_skip, map_add, List.drop_succ_cons]
theorem seek_free {n : Nat} : ∀ (a l : List UInt8), (∀ c ∈ a, c ≠ 96) → seek n 0 (a ++ l) = (seek n 0 l).map (· + a.length)
  | [], l, _ => by rw [List.nil_append, List.length_nil, map_zero]
  | c :: a, l, h => by
    rw [List.cons_append, seek_miss _ (h c (List.mem_cons_self ..)), seek_free a l (fun d hd => h d (List.mem_cons_of_mem _ hd)), map_add, List.length_cons]
theorem seek_no {n : Nat} {l : List UInt8} (h : ∀ c ∈ l, c ≠ 96) : seek n 0 l = none := by
  have := seek_free (n := n) l [] h
  rw [List.append_nil, seek_nil] at this
  exact this

theorem rep96_head (n : Nat) (r : List UInt8) : List.replicate (n + 1) (96 : UInt8) ++ r = 96 :: (List.replicate n 96 ++ r) := by rw [List.replicate_succ, List.cons_append]
theorem seek_ticks {n : Nat} (r : List UInt8) (h : r.head? ≠ some 96) : seek (n + 1) 0 (List.replicate (n + 1) 96 ++ r) = some 0 := by
  have e := runN_rep 96 (n + 1) r h
  rw [rep96_head] at e ⊢
  exact seek_hit _ e
theorem seek_more {n m : Nat} (r : List UInt8) (h : r.head? ≠ some 96) (hn : m + 1 ≠ n) : seek n 0 (List.replicate (m + 1) 96 ++ r) = (seek n 0 r).map (· + (m + 1)) := by
  have e := runN_rep 96 (m + 1) r h
  have e2 : (List.replicate (m + 1) (96 : UInt8) ++ r).drop (m + 1) = r := List.drop_left' (List.length_replicate ..)
  rw [rep96_head] at e e2 ⊢
  rw [seek_run _ (by rw [e]; exact hn), e, e2]

theorem seek_is {n : Nat} (hn : 0 < n) : ∀ (m : Nat) (l : List UInt8) (k : Nat), l.length ≤ m → seek n 0 l = some k → Sc.runN 96 (l.drop k) = n ∧ k + n ≤ l.length ∧ (∀ j, k = j + 1 → ∃ c, l[j]? = some c ∧ c ≠ 96)
  | 0, l, k, hm, h => by
    have hl : l = [] := List.length_eq_zero_iff.1 (by omega)
    subst hl
    rw [seek_nil] at h; cases h
  | m + 1, [], k, hm, h => by rw [seek_nil] at h; cases h
  | m + 1, c :: t, k, hm, h => by
    rw [List.length_cons] at hm
    by_cases hc : c = 96
    · subst hc
      by_cases hr : Sc.runN 96 (96 :: t) = n
      · rw [seek_hit t hr] at h
        obtain rfl := Option.some.inj h
        have := runN_le 96 (96 :: t)
        exact ⟨hr, by omega, fun j hj => by omega⟩
      · rw [seek_run t hr] at h
        obtain ⟨k2, h2, h3⟩ := Option.map_eq_some_iff.1 h
        have hpos : 1 ≤ Sc.runN 96 (96 :: t) := by rw [Sc.runN_hit]; omega
        have hle := runN_le 96 (96 :: t)
        have hsp := (runN_split 96 (96 :: t)).2
        generalize Sc.runN 96 (96 :: t) = r at *
        have hdl : ((96 :: t).drop r).length ≤ m := by rw [List.length_drop, List.length_cons]; omega
        obtain ⟨g1, g2, g3⟩ := seek_is hn m _ k2 hdl h2
        rw [List.drop_drop] at g1
        rw [List.length_drop] at g2
        subst h3
        refine ⟨by rw [Nat.add_comm]; exact g1, by omega, fun j hj => ?_⟩
        have hk2 : k2 ≠ 0 := by
          rintro rfl
          rw [Nat.add_zero] at g1
          cases hd : (96 :: t).drop r with
          | nil => rw [hd, runN_nil] at g1; omega
          | cons x y =>
            rw [hd] at hsp g1
            rw [runN_miss y (by simpa using hsp)] at g1
            omega
        obtain ⟨c, h5, h6⟩ := g3 (k2 - 1) (by omega)
        rw [List.getElem?_drop] at h5
        exact ⟨c, by rw [← h5]; congr 1; omega, h6⟩
    · rw [seek_miss t hc] at h
      obtain ⟨k2, h2, h3⟩ := Option.map_eq_some_iff.1 h
      obtain ⟨g1, g2, g3⟩ := seek_is hn m t k2 (by omega) h2
      subst h3
      refine ⟨by rw [List.drop_succ_cons]; exact g1, by rw [List.length_cons]; omega, fun j hj => ?_⟩
      cases j with
      | zero => exact ⟨c, rfl, hc⟩
      | succ j =>
        obtain ⟨d, h5, h6⟩ := g3 j (by omega)
        exact ⟨d, by rw [List.getElem?_cons_succ]; exact h5, h6⟩

def bl10 (c : UInt8) : UInt8 := if c = 10 then 32 else c
def other (b : List UInt8) : Bool := b.any (fun c => c != 32)
/-- A code's text, of what stands between its ends. -/
def content (m : List UInt8) : List UInt8 :=
  if (m.map bl10).head? = some 32 ∧ (m.map bl10).getLast? = some 32 ∧ other (m.map bl10) = true then ((m.map bl10).drop 1).dropLast else m.map bl10
theorem content_len (m : List UInt8) : (content m).length ≤ m.length ∧ m.length ≤ (content m).length + 2 := by
  unfold content
  split
  · rw [List.length_dropLast, List.length_drop, List.length_map]; omega
  · rw [List.length_map]; omega

def codeP (l : List UInt8) : Option (List UInt8 × Nat) :=
  if l.head? = some 96 then (seek (runP l) 0 (l.drop (runP l))).map fun k => (content ((l.drop (runP l)).take k), runP l + k + runP l) else none
theorem codeP_no {l : List UInt8} (h : l.head? ≠ some 96) : codeP l = none := by unfold codeP; rw [if_neg h]

/-! ### addresses -/
def inA (c : UInt8) : Bool := decide (32 < c.toNat) && c != 127 && c != 60 && c != 62
def signA : List UInt8 := [43, 46, 45]
def signN : List UInt8 := [46, 33, 35, 36, 37, 38, 39, 42, 43, 47, 61, 63, 94, 95, 96, 123, 124, 125, 126, 45]
def signD : List UInt8 := [45]
def made (g : List UInt8) (c : UInt8) : Bool := letU c || digU c || g.contains c
def cnt (p : UInt8 → Bool) (l : List UInt8) : Nat := (l.takeWhile p).length
theorem cnt_le (p : UInt8 → Bool) (l : List UInt8) : cnt p l ≤ l.length := by
  unfold cnt
  have := congrArg List.length (List.takeWhile_append_dropWhile (p := p) (l := l))
  rw [List.length_append] at this; omega
theorem cnt_nil (p : UInt8 → Bool) : cnt p [] = 0 := rfl
theorem cnt_hit {p : UInt8 → Bool} {c : UInt8} (t : List UInt8) (h : p c = true) : cnt p (c :: t) = cnt p t + 1 := by unfold cnt; rw [List.takeWhile_cons_of_pos h]; rfl
theorem cnt_miss {p : UInt8 → Bool} {c : UInt8} (t : List UInt8) (h : p c = false) : cnt p (c :: t) = 0 := by unfold cnt; rw [List.takeWhile_cons_of_neg (by rw [h]; simp)]; rfl
theorem cnt_all (p : UInt8 → Bool) (l : List UInt8) : decide (cnt p l = l.length) = l.all p := by
  induction l with
  | nil => rfl
  | cons c t ih =>
    cases h : p c with
    | true => rw [cnt_hit t h, List.length_cons, List.all_cons, h, Bool.true_and, ← ih]; simp
    | false => rw [cnt_miss t h, List.all_cons, h]; simp
theorem cnt_take (p : UInt8 → Bool) (l : List UInt8) : l.takeWhile p = l.take (cnt p l) := by
  have h := List.takeWhile_append_dropWhile (p := p) (l := l)
  have h2 : (l.takeWhile p ++ l.dropWhile p).take (cnt p l) = l.takeWhile p := List.take_left' rfl
  rw [h] at h2
  exact h2.symm
theorem cnt_app {p : UInt8 → Bool} {a : List UInt8} (ha : a.all p = true) {c : UInt8} (r : List UInt8) (hc : p c = false) : cnt p (a ++ c :: r) = a.length ∧ (a ++ c :: r).takeWhile p = a := by
  have : (a ++ c :: r).takeWhile p = a := by
    induction a with
    | nil => rw [List.nil_append, List.takeWhile_cons_of_neg (by rw [hc]; simp)]
    | cons x t ih =>
      rw [List.all_cons, Bool.and_eq_true] at ha
      rw [List.cons_append, List.takeWhile_cons_of_pos ha.1, ih ha.2]
  exact ⟨by unfold cnt; rw [this], this⟩
theorem cnt_full {p : UInt8 → Bool} {a : List UInt8} (ha : a.all p = true) : cnt p a = a.length := by
  have := cnt_all p a
  rw [ha] at this
  exact of_decide_eq_true this

/-- A scheme, and a colon. -/
def schP (x : List UInt8) : Bool := decide (2 ≤ cnt (made signA) x) && decide (cnt (made signA) x ≤ 32) && (match x with
  | c :: _ => letU c
  | [] => false) && decide ((x.drop (cnt (made signA) x)).head? = some 58)
def partP (x : List UInt8) : Bool := !x.isEmpty && decide (x.length ≤ 63) && x.all (made signD) && decide (x.head? ≠ some 45) && decide (x.getLast? ≠ some 45)
/-- A host, of whose first part so much has been read. -/
def hostP : List UInt8 → List UInt8 → Bool
  | cur, [] => partP cur
  | cur, c :: t => if c = 46 then partP cur && hostP [] t else hostP (cur ++ [c]) t
def at64 (c : UInt8) : Bool := c != 64
/-- A name that has been read so far, and what is left of a mailbox. -/
def mailQ : List UInt8 → List UInt8 → Bool
  | cur, [] => false
  | cur, c :: t => if c = 64 then !cur.isEmpty && cur.all (made signN) && hostP [] t else mailQ (cur ++ [c]) t
def mailP (x : List UInt8) : Bool := mailQ [] x
def autoP (l : List UInt8) : Option (Bool × List UInt8) :=
  match l with
  | [] => none
  | c :: r => if c = 60 then (if (r.drop (cnt inA r)).head? = some 62 then (if schP (r.take (cnt inA r)) = true then some (false, r.take (cnt inA r)) else if mailP (r.take (cnt inA r)) = true then some (true, r.take (cnt inA r)) else none) else none) else none
theorem autoP_cons (r : List UInt8) : autoP (60 :: r) = if (r.drop (cnt inA r)).head? = some 62 then (if schP (r.take (cnt inA r)) = true then some (false, r.take (cnt inA r)) else if mailP (r.take (cnt inA r)) = true then some (true, r.take (cnt inA r)) else none) else none := by
  unfold autoP
  exact if_pos rfl
theorem autoP_no {l : List UInt8} (h : l.head? ≠ some 60) : autoP l = none := by
  cases l with
  | nil => rfl
  | cons c r =>
    unfold autoP
    exact if_neg (by simpa using h)
theorem drop_head {p : UInt8 → Bool} {r : List UInt8} {c : UInt8} (h : (r.drop (cnt p r)).head? = some c) : ∃ t, r = r.take (cnt p r) ++ c :: t := by
  cases hd : r.drop (cnt p r) with
  | nil => rw [hd] at h; cases h
  | cons d t =>
    rw [hd] at h
    obtain rfl := Option.some.inj h
    exact ⟨t, by rw [← hd, List.take_append_drop]⟩
theorem take_all (p : UInt8 → Bool) (r : List UInt8) : (r.take (cnt p r)).all p = true := by
  rw [← cnt_take, List.all_eq_true]
  exact takeWhile_all p r
theorem cnt_drop_miss (p : UInt8 → Bool) (r : List UInt8) (c : UInt8) (h : (r.drop (cnt p r)).head? = some c) : p c = false := by
  induction r with
  | nil => cases h
  | cons x t ih =>
    cases hx : p x with
    | true => rw [cnt_hit t hx, List.drop_succ_cons] at h; exact ih h
    | false =>
      rw [cnt_miss t hx, List.drop_zero] at h
      obtain rfl := Option.some.inj h
      exact hx
theorem inA62 : inA 62 = false := by decide
/-- P12.4 for addresses. -/
theorem auto_law {l : List UInt8} {m : Bool} {x : List UInt8} (h : autoP l = some (m, x)) : (∃ t, l = 60 :: x ++ 62 :: t) ∧ (∀ t, autoP (60 :: x ++ 62 :: t) = some (m, x)) ∧ autoP (60 :: x) = none := by
  cases l with
  | nil => cases h
  | cons c r =>
    by_cases hc : c = 60
    · subst hc
      rw [autoP_cons] at h
      by_cases h1 : (r.drop (cnt inA r)).head? = some 62
      · rw [if_pos h1] at h
        obtain ⟨t, ht⟩ := drop_head h1
        have hall := take_all inA r
        obtain ⟨y, hy⟩ : ∃ y, r.take (cnt inA r) = y := ⟨_, rfl⟩
        rw [hy] at h hall ht
        have hx : x = y := by
          split at h
          · exact (Prod.mk.inj (Option.some.inj h)).2.symm
          · split at h
            · exact (Prod.mk.inj (Option.some.inj h)).2.symm
            · cases h
        subst hx
        refine ⟨⟨t, by rw [ht]; rfl⟩, fun t2 => ?_, ?_⟩
        · obtain ⟨e1, e2⟩ := cnt_app hall t2 inA62
          rw [List.cons_append, autoP_cons, e1, List.drop_left' rfl, List.take_left' rfl, if_pos (by rfl)]
          exact h
        · rw [autoP_cons, cnt_full hall, List.drop_length]
          rw [if_neg (by simp)]
      · rw [if_neg h1] at h; cases h
    · rw [autoP_no (by simpa using hc)] at h; cases h

/-! ### HTML -/
def isLet : Option UInt8 → Bool
  | some c => letU c
  | none => false
def idx (e : List UInt8) : List UInt8 → Option Nat
  | [] => if e = [] then some 0 else none
  | c :: t => if e.isPrefixOf (c :: t) = true then some 0 else (idx e t).map (· + 1)
def upToP (l : List UInt8) (n : Nat) (e : List UInt8) : Nat := match idx e (l.drop n) with
  | some k => n + k + e.length
  | none => 0
def pC : List UInt8 := [60, 33, 91, 67, 68, 65, 84, 65, 91]
def rawP (l : List UInt8) : Nat :=
  if 0 < tagN l then tagN l
  else if Lib.hasPrefix l [60, 33, 45, 45, 62] = true then 5
  else if Lib.hasPrefix l [60, 33, 45, 45, 45, 62] = true then 6
  else if Lib.hasPrefix l [60, 33, 45, 45] = true then upToP l 4 [45, 45, 62]
  else if Lib.hasPrefix l [60, 63] = true then upToP l 2 [63, 62]
  else if Lib.hasPrefix l [60, 33] = true ∧ isLet l[2]? = true then upToP l 2 [62]
  else if Lib.hasPrefix l pC = true then upToP l 9 [93, 93, 62]
  else 0
theorem idx_index (e : List UInt8) (l : List UInt8) : Lib.index l e = match idx e l with
    | some k => (k : Int)
    | none => -1 := by
  induction l with
  | nil =>
    cases e with
    | nil => rfl
    | cons _ _ => rfl
  | cons c t ih =>
    show (if e.isPrefixOf (c :: t) then (0 : Int) else if Lib.index t e == -1 then -1 else Lib.index t e + 1) = _
    unfold idx
    by_cases h : e.isPrefixOf (c :: t) = true
    · rw [if_pos h, if_pos h]; rfl
    · rw [if_neg h, if_neg h, ih]
      cases idx e t with
      | none => rfl
      | some k =>
        simp only [Option.map_some]
        have : ((k : Int) == -1) = false := by simp
        rw [this]; simp
theorem idx_le {e : List UInt8} : ∀ {l : List UInt8} {k : Nat}, idx e l = some k → k + e.length ≤ l.length
  | [], k, h => by
    unfold idx at h
    split at h
    · subst_vars; cases h; simp
    · cases h
  | c :: t, k, h => by
    unfold idx at h
    split at h
    · rename_i hp
      cases h
      have := (List.isPrefixOf_iff_prefix.1 hp).length_le
      omega
    · obtain ⟨k2, h2, h3⟩ := Option.map_eq_some_iff.1 h
      have := idx_le h2
      rw [List.length_cons]; omega
theorem idx_short {e l : List UInt8} (h : l.length < e.length) : idx e l = none := by
  cases hk : idx e l with
  | none => rfl
  | some k => have := idx_le hk; omega
theorem pre_app {e a : List UInt8} (b : List UInt8) (h : e.length ≤ a.length) : e.isPrefixOf (a ++ b) = e.isPrefixOf a := by
  rw [Bool.eq_iff_iff, List.isPrefixOf_iff_prefix, List.isPrefixOf_iff_prefix]
  constructor
  · intro hp
    exact List.prefix_of_prefix_length_le hp (List.prefix_append ..) h
  · rintro ⟨t, ht⟩
    exact ⟨t ++ b, by rw [← List.append_assoc, ht]⟩
theorem pre_take {e l : List UInt8} {k : Nat} (h : e.length ≤ k) : e.isPrefixOf (l.take k) = e.isPrefixOf l := by
  by_cases hk : k ≤ l.length
  · have := pre_app (e := e) (a := l.take k) (l.drop k) (by rw [List.length_take]; omega)
    rw [List.take_append_drop] at this
    exact this.symm
  · rw [List.take_of_length_le (by omega)]
theorem idx_law {e : List UInt8} (he : e ≠ []) : ∀ {l : List UInt8} {k : Nat}, idx e l = some k → (∀ m, idx e (l.take (k + e.length) ++ m) = some k) ∧ idx e (l.take (k + e.length - 1)) = none ∧ l[k + e.length - 1]? = e.getLast?
  | [], k, h => by
    unfold idx at h
    rw [if_neg he] at h
    cases h
  | c :: t, k, h => by
    have hel : 0 < e.length := List.length_pos_iff.2 he
    unfold idx at h
    split at h
    · rename_i hp
      cases h
      have hpl := (List.isPrefixOf_iff_prefix.1 hp).length_le
      rw [Nat.zero_add]
      obtain ⟨u, hu⟩ := List.isPrefixOf_iff_prefix.1 hp
      have htk : (c :: t).take e.length = e := by rw [← hu]; exact List.take_left' rfl
      refine ⟨fun m => ?_, idx_short (by rw [List.length_take]; omega), ?_⟩
      · rw [htk]
        cases e with
        | nil => exact absurd rfl he
        | cons x y =>
          rw [List.cons_append]
          unfold idx
          rw [if_pos (by rw [List.isPrefixOf_iff_prefix]; exact ⟨m, by simp⟩)]
      · rw [← hu, List.getElem?_append_left (by omega), List.getLast?_eq_getElem?]
    · rename_i hp
      obtain ⟨k2, h2, h3⟩ := Option.map_eq_some_iff.1 h
      obtain ⟨g1, g2, g3⟩ := idx_law he h2
      have hle := idx_le h2
      subst h3
      have e1 : (c :: t).take (k2 + 1 + e.length) = c :: t.take (k2 + e.length) := by
        rw [show k2 + 1 + e.length = (k2 + e.length) + 1 by omega, List.take_succ_cons]
      have e2 : (c :: t).take (k2 + 1 + e.length - 1) = c :: t.take (k2 + e.length - 1) := by
        rw [show k2 + 1 + e.length - 1 = (k2 + e.length - 1) + 1 by omega, List.take_succ_cons]
      refine ⟨fun m => ?_, ?_, ?_⟩
      · rw [e1, List.cons_append]
        unfold idx
        rw [← List.cons_append, pre_app m (by rw [List.length_cons, List.length_take]; omega), ← e1, pre_take (by omega), if_neg hp, g1]
        rfl
      · rw [e2]
        unfold idx
        rw [← e2, pre_take (by omega), if_neg hp, g2]
        rfl
      · rw [show k2 + 1 + e.length - 1 = (k2 + e.length - 1) + 1 by omega, List.getElem?_cons_succ]
        exact g3
end Sp
end Go.Proofs.YtapibalcekedfaaGreatDoor
