import GoSem.Core.Utf8
import Derived.Lib.Bytealg
import Derived.Lib.SlTrimSet
import Derived.Test.YtkiipaaaakhhfaaGreatDoorProg
import Derived.WalkKit
import Derived.BigCall
import Derived.BigQuiet
import Derived.Deep.QuietTactic
import Derived.Lib.Hide
import Derived.Deep.DeepCutAuto
import Derived.OneCell
import Derived.RegionTactic
import Derived.Below
import Derived.Laws.AppendOwn
section
set_option linter.unusedVariables false
set_option linter.unusedSimpArgs false
set_option maxRecDepth 100000
namespace Go.Proofs.YtkiipaaaakhhfaaGreatDoor
namespace Sc
theorem all_u8 {p : UInt8 → Bool} (h : (List.range 256).all (fun n => p (UInt8.ofNat n)) = true) (c : UInt8) : p c = true := by
 have := List.all_eq_true.1 h c.toNat (List.mem_range.2 c.toNat_lt)
 rwa [UInt8.ofNat_toNat] at this
def lett (b : Int) : Bool := (decide (97 ≤ b) && decide (b ≤ 122)) || (decide (65 ≤ b) && decide (b ≤ 90))
def digi (b : Int) : Bool := decide (48 ≤ b) && decide (b ≤ 57)
def letU (c : UInt8) : Bool := lett (c.toNat : Int)
def digU (c : UInt8) : Bool := digi (c.toNat : Int)
def blk (c : UInt8) : Bool := c == 32 || c == 9
def wht (c : UInt8) : Bool := c == 32 || c == 9 || c == 10
def inN (c : UInt8) : Bool := letU c || digU c || c == 45
def keyB (c : UInt8) : Bool := letU c || c == 95 || c == 58
def keyG (c : UInt8) : Bool := keyB c || digU c || c == 46 || c == 45
def bareB (c : UInt8) : Bool := !wht c && !([34, 39, 61, 60, 62, 96] : List UInt8).contains c
def atE : List UInt8 → Bool
 | [] => true
 | c :: _ => blk c
theorem dropWhile_len (p : UInt8 → Bool) (l : List UInt8) : (l.dropWhile p).length ≤ l.length := by
 induction l with
 | nil => simp
 | cons c t ih =>
  simp only [List.dropWhile]
  cases p c with
  | true => simp; omega
  | false => simp
theorem dropWhile_suf (p : UInt8 → Bool) (l : List UInt8) : ∃ u, l = u ++ l.dropWhile p := ⟨l.takeWhile p, (List.takeWhile_append_dropWhile).symm⟩
theorem dropWhile_head (p : UInt8 → Bool) (l : List UInt8) (c : UInt8) (t : List UInt8) (h : l.dropWhile p = c :: t) : p c = false := by
 induction l with
 | nil => simp at h
 | cons x s ih =>
  simp only [List.dropWhile] at h
  cases hx : p x with
  | true => rw [hx] at h; exact ih h
  | false => rw [hx] at h; simp only [List.cons.injEq] at h; rw [← h.1]; exact hx
theorem first_at (x : UInt8) : ∀ (t : List UInt8), x ∈ t → ∃ u s, t.dropWhile (fun y => y != x) = x :: s ∧ t = u ++ x :: s ∧ x ∉ u
 | [], h => by cases h
 | c :: t, h => by
  by_cases hc : c = x
  ·subst hc
   exact ⟨[], t, by simp [List.dropWhile], rfl, by simp⟩
  ·obtain ⟨u, s, h1, h2, h3⟩ := first_at x t (by rcases List.mem_cons.1 h with e | e; exact absurd e.symm hc; exact e)
   have hn : (c != x) = true := by simpa using hc
   refine ⟨c :: u, s, by simp only [List.dropWhile, hn]; exact h1, by rw [List.cons_append, ← h2], ?_⟩
   intro hm
   rcases List.mem_cons.1 hm with e | e
   ·exact hc e.symm
   ·exact h3 e
def word (b g : UInt8 → Bool) : List UInt8 → Option (List UInt8)
 | c :: t => if b c then some (t.dropWhile g) else none
 | [] => none
def sgn (x : UInt8) : List UInt8 → Option (List UInt8)
 | c :: t => if c = x then some t else none
 | [] => none
def quo (x : UInt8) : List UInt8 → Option (List UInt8)
 | c :: t => if c = x then (if x ∈ t then some ((t.dropWhile (fun y => y != x)).drop 1) else none) else none
 | [] => none
def gap (l : List UInt8) : List UInt8 := l.dropWhile wht
def white : List UInt8 → Option (List UInt8) := word wht wht
def name : List UInt8 → Option (List UInt8) := word letU inN
def key : List UInt8 → Option (List UInt8) := word keyB keyG
def bare : List UInt8 → Option (List UInt8) := word bareB bareB
def value (l : List UInt8) : Option (List UInt8) := match bare l with
 | some r => some r
 | none => match quo 39 l with
  | some r => some r
  | none => quo 34 l
def worth (l : List UInt8) : Option (List UInt8) := (sgn 61 (gap l)).bind fun t => value (gap t)
def attr (l : List UInt8) : Option (List UInt8) := (white l).bind fun t => (key t).bind fun u => some ((worth u).getD u)
def attrs : Nat → List UInt8 → List UInt8
 | 0, l => l
 | n + 1, l => match attr l with
  | some r => attrs n r
  | none => l
def slashOr (l : List UInt8) : List UInt8 := (sgn 47 l).getD l
def tailP (l : List UInt8) : Option (List UInt8) := sgn 62 (slashOr (gap l))
def openP (l : List UInt8) : Option (List UInt8) := (sgn 60 l).bind fun a => (name a).bind fun b => tailP (attrs b.length b)
def closeP (l : List UInt8) : Option (List UInt8) := (sgn 60 l).bind fun a => (sgn 47 a).bind fun b => (name b).bind fun c => sgn 62 (gap c)
def tagO (l : List UInt8) : Option (List UInt8) := match openP l with
 | some r => some r
 | none => closeP l
def tagN (l : List UInt8) : Nat := match tagO l with
 | some r => l.length - r.length
 | none => 0
theorem word_len {b g : UInt8 → Bool} {l r : List UInt8} (h : word b g l = some r) : r.length < l.length := by
 cases l with
 | nil => cases h
 | cons c t =>
  simp only [word] at h
  split at h
  ·cases h
   have := dropWhile_len g t
   simp; omega
  ·cases h
theorem word_suf {b g : UInt8 → Bool} {l r : List UInt8} (h : word b g l = some r) : ∃ u, l = u ++ r := by
 cases l with
 | nil => cases h
 | cons c t =>
  simp only [word] at h
  split at h
  ·cases h
   obtain ⟨u, hu⟩ := dropWhile_suf g t
   exact ⟨c :: u, by rw [List.cons_append, ← hu]⟩
  ·cases h
theorem sgn_some {x : UInt8} {l r : List UInt8} (h : sgn x l = some r) : l = x :: r := by
 cases l with
 | nil => cases h
 | cons c t =>
  simp only [sgn] at h
  split at h
  ·cases h; subst_vars; rfl
  ·cases h
theorem sgn_self (x : UInt8) (r : List UInt8) : sgn x (x :: r) = some r := by simp [sgn]
theorem sgn_no {x c : UInt8} (t : List UInt8) (h : c ≠ x) : sgn x (c :: t) = none := by simp [sgn, h]
theorem quo_suf {x : UInt8} {l r : List UInt8} (h : quo x l = some r) : ∃ u, l = u ++ r ∧ 2 ≤ u.length := by
 cases l with
 | nil => cases h
 | cons c t =>
  simp only [quo] at h
  split at h
  ·split at h
   ·cases h
    rename_i hc hx
    obtain ⟨u, s, h1, h2, _⟩ := first_at x t hx
    rw [h1]
    exact ⟨c :: (u ++ [x]), by rw [h2]; simp, by simp⟩
   ·cases h
  ·cases h
theorem value_suf {l r : List UInt8} (h : value l = some r) : ∃ u, l = u ++ r ∧ 1 ≤ u.length := by
 unfold value at h
 split at h
 ·rename_i r' hb
  cases h
  obtain ⟨u, hu⟩ := word_suf hb
  have := word_len hb
  refine ⟨u, hu, ?_⟩
  rw [hu] at this; simp at this; cases u with
  | nil => simp at this
  | cons _ _ => simp
 ·split at h
  ·rename_i r' hb
   cases h
   obtain ⟨u, hu, h2⟩ := quo_suf hb
   exact ⟨u, hu, by omega⟩
  ·obtain ⟨u, hu, h2⟩ := quo_suf h
   exact ⟨u, hu, by omega⟩
def body : Nat → List UInt8 → Option (List UInt8)
 | 0, _ => none
 | n + 1, l => match gap l with
  | [] => none
  | c :: t =>
   if c = 62 then some t
   else if c = 47 then sgn 62 t
   else if keyB c = true ∧ (c :: t).length < l.length then
    (match gap (t.dropWhile keyG) with
    | 61 :: w => (value (gap w)).bind (body n)
    | _ => body n (t.dropWhile keyG))
   else none
def bodyF (l : List UInt8) : Option (List UInt8) := body (l.length + 1) l
def tagD (l : List UInt8) : Option (List UInt8) := match sgn 60 l with
 | none => none
 | some t => match sgn 47 t with
  | some u => (name u).bind fun v => sgn 62 (gap v)
  | none => (name t).bind bodyF
theorem gap_len (l : List UInt8) : (gap l).length ≤ l.length := dropWhile_len _ _
theorem value_len {l r : List UInt8} (h : value l = some r) : r.length < l.length := by
 obtain ⟨u, rfl, h2⟩ := value_suf h
 simp; omega
theorem body_fuel : ∀ (n m : Nat) (l : List UInt8), l.length < n → l.length < m → body n l = body m l := by
 intro n
 induction n with
 | zero => intro m l h; omega
 | succ n ih =>
  intro m l h1 h2
  cases m with
  | zero => omega
  | succ m =>
   simp only [body]
   cases hg : gap l with
   | nil => rfl
   | cons c t =>
    simp only
    have hgl := gap_len l
    rw [hg] at hgl
    simp only [List.length_cons] at hgl
    have hd := dropWhile_len keyG t
    split
    ·rfl
    ·split
     ·rfl
     ·split
      ·split
       ·rename_i w hw
        have hw2 := gap_len (t.dropWhile keyG)
        rw [hw] at hw2
        simp only [List.length_cons] at hw2
        cases hv : value (gap w) with
        | none => rfl
        | some r =>
         have := value_len hv
         have := gap_len w
         exact ih m r (by omega) (by omega)
       ·exact ih m _ (by omega) (by omega)
      ·rfl
theorem n62 : inN 62 = false := by decide
def refA (l : List UInt8) : Option (Option (List UInt8)) := match (white l).bind key with
 | none => none
 | some u => match sgn 61 (gap u) with
  | none => some (some u)
  | some w => some (value (gap w))
theorem gap_of_nw {c : UInt8} (t : List UInt8) (h : wht c = false) : gap (c :: t) = c :: t := by simp [gap, List.dropWhile, h]
theorem gap_of_w {c : UInt8} (t : List UInt8) (h : wht c = true) : gap (c :: t) = gap t := by simp [gap, List.dropWhile, h]
theorem white_gap {l r : List UInt8} (h : white l = some r) : r = gap l ∧ r.length < l.length := by
 refine ⟨?_, word_len h⟩
 cases l with
 | nil => cases h
 | cons c t =>
  simp only [white, word] at h
  split at h
  ·rename_i hc
   cases h
   rw [gap_of_w t hc]
   rfl
  ·cases h
theorem white_none {l : List UInt8} (h : white l = none) : gap l = l := by
 cases l with
 | nil => rfl
 | cons c t =>
  simp only [white, word] at h
  split at h
  ·cases h
  ·rename_i hc
   exact gap_of_nw t (by simpa using hc)
theorem key_some {l u : List UInt8} (h : key l = some u) : ∃ c t, l = c :: t ∧ keyB c = true ∧ u = t.dropWhile keyG := by
 cases l with
 | nil => cases h
 | cons c t =>
  simp only [key, word] at h
  split at h
  ·rename_i hc
   cases h
   exact ⟨c, t, rfl, hc, rfl⟩
  ·cases h
theorem kB62 : keyB 62 = false := by decide
theorem kB47 : keyB 47 = false := by decide
theorem kB61 : keyB 61 = false := by decide
theorem refA_none {l : List UInt8} (h : refA l = none) : bodyF l = tailP l := by
 have hk : (white l).bind key = none := by
  unfold refA at h
  split at h
  ·assumption
  ·split at h <;> cases h
 unfold bodyF tailP slashOr
 simp only [body]
 cases hg : gap l with
 | nil => rfl
 | cons c t =>
  simp only
  by_cases h1 : c = 62
  ·subst h1; simp [sgn]
  ·rw [if_neg h1]
   by_cases h2 : c = 47
   ·subst h2; simp [sgn]
   ·rw [if_neg h2, sgn_no t h2, Option.getD_none, sgn_no t h1, if_neg]
    rintro ⟨hc, hl⟩
    cases hw : white l with
    | none =>
     have := white_none hw
     rw [hg] at this
     rw [← this] at hl
     exact absurd hl (Nat.lt_irrefl _)
    | some r =>
     obtain ⟨rfl, _⟩ := white_gap hw
     rw [hw, hg] at hk
     simp [key, word, hc] at hk
theorem body_fuelF {n : Nat} {l : List UInt8} (h : l.length < n) : body n l = bodyF l := body_fuel _ _ _ h (Nat.lt_succ_self _)
theorem refA_some {l : List UInt8} {o : Option (List UInt8)} (h : refA l = some o) : bodyF l = o.bind bodyF ∧ ∀ r, o = some r → r.length < l.length := by
 cases hw : white l with
 | none => unfold refA at h; rw [hw] at h; cases h
 | some r0 =>
  obtain ⟨rfl, hl0⟩ := white_gap hw
  cases hk : key (gap l) with
  | none => unfold refA at h; rw [hw, Option.bind_some, hk] at h; cases h
  | some u =>
   obtain ⟨c, t, hg, hc, rfl⟩ := key_some hk
   have hdl := dropWhile_len keyG t
   have hcl : (c :: t).length < l.length := by rw [← hg]; exact hl0
   have hcl' : t.length + 1 < l.length := hcl
   have n62 : c ≠ 62 := by rintro rfl; rw [kB62] at hc; cases hc
   have n47 : c ≠ 47 := by rintro rfl; rw [kB47] at hc; cases hc
   unfold refA at h
   rw [hw, Option.bind_some, hk] at h
   simp only at h
   have hB : bodyF l = (match gap (t.dropWhile keyG) with
    | 61 :: w => (value (gap w)).bind (body l.length)
    | _ => body l.length (t.dropWhile keyG)) := by
    unfold bodyF
    simp only [body, hg]
    rw [if_neg n62, if_neg n47, if_pos ⟨hc, hcl⟩]
   rw [hB]
   cases hg2 : gap (t.dropWhile keyG) with
   | nil =>
    rw [hg2] at h
    simp only [sgn] at h
    cases h
    simp only
    refine ⟨body_fuelF (by omega), ?_⟩
    intro r hr; cases hr; omega
   | cons d w =>
    rw [hg2] at h
    have hgl := gap_len (t.dropWhile keyG)
    rw [hg2] at hgl
    simp only [List.length_cons] at hgl
    by_cases hd : d = 61
    ·subst hd
     rw [sgn_self] at h
     simp only [Option.some.injEq] at h
     subst h
     simp only
     have hwl := gap_len w
     refine ⟨?_, ?_⟩
     ·cases hv : value (gap w) with
      | none => rfl
      | some z =>
       have := value_len hv
       exact body_fuelF (by omega)
     ·intro r hr
      have := value_len hr
      omega
    ·rw [sgn_no w hd] at h
     simp only [Option.some.injEq] at h
     subst h
     have hb : ∀ (X : List UInt8 → Option (List UInt8)) (Y : Option (List UInt8)), (match d :: w with | 61 :: w => X w | _ => Y) = Y := fun X Y => by
      split
      ·rename_i e; simp only [List.cons.injEq] at e; exact absurd e.1 hd
      ·rfl
     rw [hb]
     refine ⟨body_fuelF (by omega), ?_⟩
     intro r hr; cases hr; omega
theorem attr_of (l : List UInt8) : attr l = ((white l).bind key).map fun u => (worth u).getD u := by
 unfold attr
 cases white l with
 | none => rfl
 | some t =>
  simp only [Option.bind_some]
  cases key t <;> rfl
theorem attr_cases (l : List UInt8) : (attr l = none ∧ refA l = none) ∨ (∃ r, attr l = some r ∧ refA l = some (some r)) ∨
  (∃ r, attr l = some r ∧ refA l = some none ∧ r.length < l.length ∧ ∃ w, gap r = 61 :: w) := by
 rw [attr_of]
 unfold refA
 cases hk : (white l).bind key with
 | none => exact Or.inl ⟨rfl, rfl⟩
 | some u =>
  simp only [Option.map_some]
  cases hs : sgn 61 (gap u) with
  | none =>
   refine Or.inr (Or.inl ⟨u, ?_, rfl⟩)
   unfold worth
   rw [hs]; rfl
  | some w =>
   cases hv : value (gap w) with
   | some z =>
    refine Or.inr (Or.inl ⟨z, ?_, ?_⟩)
    ·unfold worth
     rw [hs, Option.bind_some, hv]; rfl
    ·simp only [hv]
   | none =>
    refine Or.inr (Or.inr ⟨u, ?_, ?_, ?_, w, sgn_some hs⟩)
    ·unfold worth
     rw [hs, Option.bind_some, hv]; rfl
    ·simp only [hv]
    ·cases hw : white l with
     | none => rw [hw] at hk; cases hk
     | some t =>
      rw [hw, Option.bind_some] at hk
      have h1 := word_len (b := wht) (g := wht) hw
      have h2 := word_len (b := keyB) (g := keyG) hk
      omega
theorem attrs_eq {n : Nat} {l : List UInt8} (h : attr l = none) : attrs n l = l := by
 cases n with
 | zero => rfl
 | succ n => simp only [attrs, h]
theorem tail_attrs : ∀ (n : Nat) (l : List UInt8), l.length ≤ n → tailP (attrs n l) = bodyF l
 | 0, l, h => by
  have : l = [] := List.length_eq_zero_iff.1 (by omega)
  subst this; rfl
 | n + 1, l, h => by
  rcases attr_cases l with ⟨h1, h2⟩ | ⟨r, h1, h2⟩ | ⟨r, h1, h2, hl, w, hw⟩
  ·rw [attrs_eq h1]
   exact (refA_none h2).symm
  ·obtain ⟨e, hl⟩ := refA_some h2
   have := hl r rfl
   simp only [attrs, h1]
   rw [tail_attrs n r (by omega), e]; rfl
  ·obtain ⟨e, _⟩ := refA_some h2
   rw [e]
   simp only [attrs, h1]
   have ha : attr r = none := by
    rw [attr_of]
    cases hwr : white r with
    | none => rfl
    | some t =>
     obtain ⟨rfl, _⟩ := white_gap hwr
     rw [hw, Option.bind_some]
     simp [key, word, kB61]
   rw [attrs_eq ha]
   unfold tailP slashOr
   rw [hw, sgn_no w (by decide), Option.getD_none, sgn_no w (by decide)]
   rfl
theorem name_not {c : UInt8} (t : List UInt8) (h : letU c = false) : name (c :: t) = none := by simp [name, word, h]
theorem openP_eq (t : List UInt8) : openP (60 :: t) = (name t).bind bodyF := by
 unfold openP
 rw [sgn_self, Option.bind_some]
 cases name t with
 | none => rfl
 | some b => exact tail_attrs b.length b (Nat.le_refl _)
theorem tagO_eq (l : List UInt8) : tagO l = tagD l := by
 unfold tagO tagD
 cases hs : sgn 60 l with
 | none =>
  unfold openP closeP
  rw [hs]; rfl
 | some t =>
  have := sgn_some hs
  subst this
  rw [openP_eq]
  unfold closeP
  rw [sgn_self, Option.bind_some]
  cases h4 : sgn 47 t with
  | none =>
   simp only [h4]
   cases (name t).bind bodyF <;> rfl
  | some u =>
   have := sgn_some h4
   subst this
   rw [name_not u (by decide)]
   rfl
theorem tagN_of {l r : List UInt8} (h : tagD l = some r) : tagN l = l.length - r.length := by
 unfold tagN
 rw [tagO_eq, h]
theorem tagN_none {l : List UInt8} (h : tagD l = none) : tagN l = 0 := by
 unfold tagN
 rw [tagO_eq, h]
theorem tagN_le (l : List UInt8) : tagN l ≤ l.length := by
 cases h : tagD l with
 | none => rw [tagN_none h]; omega
 | some r => rw [tagN_of h]; omega
end Sc
end Go.Proofs.YtkiipaaaakhhfaaGreatDoor
end
section
set_option linter.unusedVariables false
set_option linter.unusedSimpArgs false
set_option maxRecDepth 100000
namespace Go.Proofs.YtkiipaaaakhhfaaGreatDoor
namespace Sc
def trimL (l : List UInt8) : List UInt8 := l.dropWhile blk
def trimR (l : List UInt8) : List UInt8 := (l.reverse.dropWhile blk).reverse
def trimB (l : List UInt8) : List UInt8 := trimL (trimR l)
theorem cut_blk : (fun c : UInt8 => ([32, 9] : List UInt8).contains c) = blk := by
 funext c
 simp [blk, List.contains, List.elem]
 cases (c == 32) <;> cases (c == 9) <;> rfl
theorem lib_trimB (l : List UInt8) : Lib.trimS l [32, 9] = trimB l := by
 unfold Lib.trimS Lib.trimLeftS Lib.trimRightS trimB trimL trimR
 rw [cut_blk]
theorem lib_trimR (l : List UInt8) : Lib.trimRightS l [32, 9] = trimR l := by
 unfold Lib.trimRightS trimR
 rw [cut_blk]
theorem dropWhile_app (p : UInt8 → Bool) (a b : List UInt8) : (a ++ b).dropWhile p = if a.dropWhile p = [] then b.dropWhile p else a.dropWhile p ++ b := by
 induction a with
 | nil => simp
 | cons c t ih =>
  rw [List.cons_append]
  by_cases h : p c = true
  ·rw [List.dropWhile_cons_of_pos h, List.dropWhile_cons_of_pos h]; exact ih
  ·rw [List.dropWhile_cons_of_neg h, List.dropWhile_cons_of_neg h, if_neg (by simp)]; rfl
theorem takeWhile_all (p : UInt8 → Bool) (l : List UInt8) : ∀ b ∈ l.takeWhile p, p b = true := by
 induction l with
 | nil => intro b hb; cases hb
 | cons c t ih =>
  intro b hb
  by_cases h : p c = true
  ·rw [List.takeWhile_cons_of_pos h] at hb
   rcases List.mem_cons.1 hb with e | e
   ·rw [e]; exact h
   ·exact ih b e
  ·rw [List.takeWhile_cons_of_neg h] at hb; cases hb
theorem trimR_cons (c : UInt8) (t : List UInt8) : trimR (c :: t) = if trimR t = [] ∧ blk c = true then [] else c :: trimR t := by
 unfold trimR
 rw [List.reverse_cons, dropWhile_app]
 by_cases h : t.reverse.dropWhile blk = []
 ·rw [if_pos h, h]
  simp only [List.dropWhile, List.reverse_nil]
  cases hb : blk c with
  | true => simp
  | false => simp
 ·rw [if_neg h]
  have : ¬ (t.reverse.dropWhile blk).reverse = [] := by simpa using h
  rw [if_neg (fun e => this e.1)]
  simp
theorem trim_comm (l : List UInt8) : trimR (trimL l) = trimB l := by
 unfold trimB
 induction l with
 | nil => rfl
 | cons c t ih =>
  rw [trimR_cons]
  cases hb : blk c with
  | true =>
   have e1 : trimL (c :: t) = trimL t := by simp [trimL, List.dropWhile, hb]
   rw [e1, ih]
   by_cases h : trimR t = []
   ·rw [if_pos ⟨h, rfl⟩, h]
   ·rw [if_neg (fun e => h e.1)]
    simp [trimL, List.dropWhile, hb]
  | false =>
   have e1 : ∀ x, trimL (c :: x) = c :: x := fun x => by simp [trimL, List.dropWhile, hb]
   rw [if_neg (by simp), e1, e1, trimR_cons, hb, if_neg (by simp)]
theorem trimL_nil_iff (l : List UInt8) : trimL l = [] ↔ l.all blk = true := by
 unfold trimL
 induction l with
 | nil => simp
 | cons c t ih =>
  simp only [List.dropWhile, List.all_cons]
  cases blk c with
  | true => simpa using ih
  | false => simp
theorem trimR_nil_iff (l : List UInt8) : trimR l = [] ↔ l.all blk = true := by
 induction l with
 | nil => simp [trimR]
 | cons c t ih =>
  rw [trimR_cons]
  simp only [List.all_cons, Bool.and_eq_true]
  rw [← ih]
  constructor
  ·intro h
   split at h
   ·rename_i h2; exact ⟨h2.2, h2.1⟩
   ·cases h
  ·rintro ⟨h1, h2⟩
   rw [if_pos ⟨h2, h1⟩]
theorem trimB_nil_iff (l : List UInt8) : trimB l = [] ↔ l.all blk = true := by
 rw [← trim_comm, trimR_nil_iff, ← trimR_nil_iff, trim_comm]
 unfold trimB
 rw [trimL_nil_iff]
 constructor
 ·intro h
  rw [← trimL_nil_iff] at h
  have h2 := trim_comm l
  unfold trimB at h2
  rw [h] at h2
  rw [← trimR_nil_iff]
  cases l with
  | nil => rfl
  | cons c t =>
   rw [trimR_nil_iff] at h2 ⊢
   simp only [List.all_cons]
   unfold trimL at h2
   simp only [List.dropWhile] at h2
   cases hb : blk c with
   | true =>
    rw [hb] at h2
    simp only at h2
    rw [Bool.true_and]
    have : (t.dropWhile blk).all blk = true := h2
    cases hd : t.dropWhile blk with
    | nil =>
     have := (trimL_nil_iff t).1 hd
     exact this
    | cons x y =>
     rw [hd] at this
     have hx := dropWhile_head blk t x y hd
     simp [hx] at this
   | false => rw [hb] at h2; simp [hb] at h2
 ·intro h
  rw [(trimR_nil_iff l).2 h]
  rfl
theorem trim_empty (l : List UInt8) : (trimB l).isEmpty = l.all blk := by
 rw [Bool.eq_iff_iff, List.isEmpty_iff, trimB_nil_iff]
theorem trimL_len (l : List UInt8) : (trimL l).length ≤ l.length := dropWhile_len _ _
theorem trimR_len (l : List UInt8) : (trimR l).length ≤ l.length := by
 unfold trimR
 rw [List.length_reverse]
 have := dropWhile_len blk l.reverse
 rwa [List.length_reverse] at this
theorem trimB_len (l : List UInt8) : (trimB l).length ≤ l.length := Nat.le_trans (trimL_len _) (trimR_len _)
def runN (c : UInt8) (l : List UInt8) : Nat := (l.takeWhile (· == c)).length
theorem runN_nil (c : UInt8) : runN c [] = 0 := rfl
theorem runN_hit (c : UInt8) (t : List UInt8) : runN c (c :: t) = runN c t + 1 := by simp [runN, List.takeWhile]
theorem runN_miss {c x : UInt8} (t : List UInt8) (h : x ≠ c) : runN c (x :: t) = 0 := by
 have : (x == c) = false := by simpa using h
 simp [runN, List.takeWhile, this]
theorem runN_le (c : UInt8) (l : List UInt8) : runN c l ≤ l.length := by
 induction l with
 | nil => simp [runN]
 | cons x t ih =>
  by_cases h : x = c
  ·subst h; rw [runN_hit]; simp; omega
  ·rw [runN_miss t h]; omega
def ruleP (l : List UInt8) : Bool := match l with
 | [] => false
 | c :: t => ([42, 45, 95] : List UInt8).contains c && (c :: t).all (fun x => x == c || blk x) && decide (3 ≤ (c :: t).count c)
def closesP (l : List UInt8) (c : UInt8) (n : Int) : Bool := decide (max n 1 ≤ (runN c l : Int)) && (l.drop (runN c l)).all blk
def setP (l : List UInt8) : Nat := if closesP l 61 1 = true then 1 else if closesP l 45 1 = true then 2 else 0
def ahead (t : List UInt8) : List UInt8 := (t.reverse.dropWhile (· == 35)).reverse
def woP (t : List UInt8) : List UInt8 := match (ahead t).getLast? with
 | none => []
 | some c => if blk c = true then trimR (ahead t) else t
def atxP (l : List UInt8) : Nat × List UInt8 := if 1 ≤ runN 35 l ∧ runN 35 l ≤ 6 ∧ atE (l.drop (runN 35 l)) = true then (runN 35 l, woP (trimB (l.drop (runN 35 l)))) else (0, [])
def fenceP (l : List UInt8) : UInt8 × Nat × List UInt8 := match l with
 | [] => (0, 0, [])
 | c :: t => if (c = 96 ∨ c = 126) ∧ 3 ≤ runN c (c :: t) ∧ ¬ (c = 96 ∧ 96 ∈ (c :: t).drop (runN c (c :: t))) then (c, runN c (c :: t), trimB ((c :: t).drop (runN c (c :: t)))) else (0, 0, [])
def bulP (l : List UInt8) : Nat := match l with
 | [] => 0
 | c :: t => if ([45, 43, 42] : List UInt8).contains c = true ∧ atE t = true then 1 else 0
def valN (l : List UInt8) : Nat := l.foldl (fun v c => v * 10 + (c.toNat - 48)) 0
def digN (l : List UInt8) : Nat := (l.takeWhile digU).length
def ordP (l : List UInt8) : Nat × UInt8 × Nat := match l.drop (digN l) with
 | [] => (0, 0, 0)
 | x :: t => if 1 ≤ digN l ∧ digN l ≤ 9 ∧ (x = 46 ∨ x = 41) ∧ atE t = true then (valN (l.take (digN l)), x, digN l + 1) else (0, 0, 0)
theorem ahead_cut (t : List UInt8) : ∃ k, ahead t ++ List.replicate k 35 = t := by
 refine ⟨(t.reverse.takeWhile (· == 35)).length, ?_⟩
 have h := List.takeWhile_append_dropWhile (p := fun x : UInt8 => x == 35) (l := t.reverse)
 have h2 : t.reverse.takeWhile (· == 35) = List.replicate (t.reverse.takeWhile (· == 35)).length 35 := by
  rw [List.eq_replicate_iff]
  refine ⟨rfl, fun b hb => ?_⟩
  have := takeWhile_all _ _ b hb
  simpa using this
 have h3 := congrArg List.reverse h
 rw [List.reverse_append, List.reverse_reverse] at h3
 unfold ahead
 conv => rhs; rw [← h3]
 congr 1
 conv => rhs; rw [h2]
 rw [List.reverse_replicate]
end Sc
end Go.Proofs.YtkiipaaaakhhfaaGreatDoor
end
section
namespace Go.Proofs.YtkiipaaaakhhfaaGreatDoor
open Go Go.RowKit
namespace Sc
set_option maxRecDepth 100000
set_option linter.unusedVariables false
set_option linter.unusedSimpArgs false
theorem ret_bool' {a b : Bool} (h : a = b) : Ending.returned (.bool a) = .returned (.bool b) := by rw [h]
theorem ret_int' {k : IntKind} {a b : Int} (h : a = b) : Ending.returned (.int k a) = .returned (.int k b) := by rw [h]
theorem sz (s : ByteArray) : s.data.toList.length = s.size := by rw [Array.length_toList]; rfl
theorem cons_at {s : ByteArray} {k : Nat} (h : k < s.size) : ∃ c t, s.data.toList.drop k = c :: t ∧ s[k] = c ∧ s.data.toList.drop (k + 1) = t := by
 cases hd : s.data.toList.drop k with
 | nil => have := congrArg List.length hd; rw [List.length_drop, sz] at this; simp at this; omega
 | cons x t =>
  refine ⟨x, t, rfl, ?_, ?_⟩
  ·have := congrArg (fun l => l[0]?) hd
   simp at this
   rw [Array.getElem?_eq_getElem (show k < s.data.size from h)] at this
   exact Option.some.inj this
  ·rw [← List.drop_drop, hd]; rfl
theorem drop_all {s : ByteArray} {k : Nat} (h : s.size ≤ k) : s.data.toList.drop k = [] := List.drop_eq_nil_of_le (by rw [sz]; exact h)
theorem u8_ne {c : UInt8} {n : Nat} (hn : n < 256) (h : c ≠ UInt8.ofNat n) : ((c.toNat : Int) == (n : Int)) = false := by
 rw [beq_eq_false_iff_ne]
 intro e
 apply h
 have e2 : c.toNat = n := Int.ofNat.inj e
 rw [← e2, UInt8.ofNat_toNat]
abbrev Gr (B : Nat) (w w' : World) : Prop := w.grownBy w' (some B)
theorem Gr.refl (B : Nat) (w : World) : Gr B w w := ⟨rfl, rfl, rfl, Nat.le_refl _, fun _ _ _ => rfl⟩
theorem Gr.trans {B : Nat} {a b c : World} (h : Gr B a b) (k : Gr B b c) : Gr B a c :=
 ⟨k.os.trans h.os, k.tape.trans h.tape, k.output.trans h.output, Nat.le_trans h.size k.size, fun i hi hn => (k.block i (Nat.lt_of_lt_of_le hi h.size) hn).trans (h.block i hi hn)⟩
theorem Gr.alloc {B : Nat} {a w : World} (h : Gr B a w) (o : Obj) : Gr B a (w.alloc o) := Gr.trans h (World.grownBy_alloc w o (some B))
theorem Gr.set {B o : Nat} {a w : World} (h : Gr B a w) (u : Value) : Gr B a (w.setCell ⟨B, o, none⟩ u) :=
 Gr.trans h ⟨rfl, rfl, rfl, by simp [World.setCell], fun k hk hn => Below.heap_setCell _ _ _ _ (fun e => hn (by rw [e]))⟩
theorem Gr.drew {B : Nat} {a w : World} (h : Gr B a w) : Gr B a w.drew := ⟨h.os, h.tape, h.output, h.size, h.block⟩
theorem Gr.drewN {B : Nat} {a w : World} (h : Gr B a w) (n : Nat) : Gr B a (w.drewN n) := ⟨h.os, h.tape, h.output, h.size, h.block⟩
theorem Gr.below {B : Nat} {w w' : World} (h : Gr B w w') {B0 : Nat} (h0 : B0 ≤ B) (h1 : B0 ≤ w.heap.size) : Below B0 w w' :=
 ⟨h.os, h.tape, h.output, h.size, fun k hk => h.block k (by omega) (fun e => by have := Option.some.inj e; omega)⟩
def RK (w : World) (B : Nat) (s : ByteArray) (k : Nat) : Prop := w.heap[B]? = some (.cells #[.string s, .int .i64 (k : Int)] 159 (0, 0))
def RD (w : World) (B : Nat) (s : ByteArray) (l : List UInt8) : Prop := ∃ k, k ≤ s.size ∧ l = s.data.toList.drop k ∧ RK w B s k
theorem RK.c0 {w : World} {B k : Nat} {s : ByteArray} (h : RK w B s k) : w.cell? ⟨B, 0, none⟩ = some (.string s) := by unfold RK at h; simp [World.cell?, h]
theorem RK.c1 {w : World} {B k : Nat} {s : ByteArray} (h : RK w B s k) : w.cell? ⟨B, 1, none⟩ = some (.int .i64 (k : Int)) := by unfold RK at h; simp [World.cell?, h]
theorem RK.fr {w : World} {B k : Nat} {s : ByteArray} (h : RK w B s k) (o : Nat) : w.frozen? ⟨B, o, none⟩ = false := by unfold RK at h; simp [World.frozen?, h]
theorem RK.lt {w : World} {B k : Nat} {s : ByteArray} (h : RK w B s k) : B < w.heap.size := lt_of_block h
theorem RK.set {w : World} {B k : Nat} {s : ByteArray} (h : RK w B s k) (m : Nat) : RK (w.setCell ⟨B, 1, none⟩ (.int .i64 (m : Int))) B s m := by
 unfold RK at h ⊢
 simp only [World.setCell, Array.getElem?_modify, if_pos, h, Option.map_some]
 rfl
theorem RK.alloc {w : World} {B k : Nat} {s : ByteArray} (h : RK w B s k) (o : Obj) : RK (w.alloc o) B s k := (Below.heap_alloc w o B h.lt).trans h
theorem RK.drewN {w : World} {B k : Nat} {s : ByteArray} (h : RK w B s k) (n : Nat) : RK (w.drewN n) B s k := h
theorem RK.drew {w : World} {B k : Nat} {s : ByteArray} (h : RK w B s k) : RK w.drew B s k := h
def Ent (f : FuncId) : Prop := ∀ (args : Array Value) (W : World), (callFunc f args).run Tryz.prog W = .ok (.enter f args) W
def Does (f : FuncId) (p : List UInt8 → Option (List UInt8)) : Prop := Ent f ∧ ∀ (W : World) (B : Nat) (s : ByteArray) (l : List UInt8), s.size ≤ 1000000 → RD W B s l →
 Calls Tryz.prog f #[.pointer (some ⟨B, 0, none⟩)] W fun e W' => e = .returned (.bool (p l).isSome) ∧ RD W' B s ((p l).getD l) ∧ Gr B W W'
def DoesB (f : FuncId) (b : UInt8 → Bool) : Prop := Ent f ∧ ∀ (c : UInt8) (W : World), Calls Tryz.prog f #[.int .u8 (c.toNat : Int)] W fun e W' => e = .returned (.bool (b c)) ∧ W = W'
set_option maxHeartbeats 1000000 in
theorem sign_any (x : UInt8) (W : World) (B : Nat) (s : ByteArray) (l : List UInt8) (hs : s.size ≤ 1000000) (h : RD W B s l) :
  Calls Tryz.prog 213 #[.pointer (some ⟨B, 0, none⟩), .int .u8 (x.toNat : Int)] W fun e W' => e = .returned (.bool (sgn x l).isSome) ∧ RD W' B s ((sgn x l).getD l) ∧ Gr B W W' := by
 obtain ⟨k, hk, rfl, hr⟩ := h
 have c0 := hr.c0
 have c1 := hr.c1
 have f1 := hr.fr 1
 have HR := Lib.hid hr
 have hs2 : (s.size : Int) ≤ 1000000 := by omega
 clear hr
 by_cases hlt : k < s.size
 ·obtain ⟨c, t, hd, hck, ht⟩ := cons_at hlt
  have hlt' : (k : Int) < (s.size : Int) := by omega
  have hne : ((k : Int) == (s.size : Int)) = false := by simp; omega
  by_cases hc : c = x
  ·have hcx : ((c.toNat : Int) != (x.toNat : Int)) = false := by rw [hc]; simp
   have HV : Hid (sgn x (s.data.toList.drop k) = some (s.data.toList.drop (k + 1))) := Lib.hid (by rw [hd, ht, hc]; exact sgn_self x t)
   clear hd ht hc
   go_enter Tryz.func213, Tryz.ntmps213
   go_wp2_with fail
   go_big_quiet (fail)
   go_wp2
   go_ret
   rw [HV.out]
   exact ⟨rfl, ⟨k + 1, by omega, rfl, (HR.out.drewN nq).set (k + 1)⟩, ((Gr.refl B W).drewN nq).set _⟩
  ·have hcx : ((c.toNat : Int) != (x.toNat : Int)) = true := by
    simp only [bne_iff_ne, ne_eq]
    intro e
    exact hc (UInt8.toNat_inj.1 (Int.ofNat.inj e))
   have HV : Hid (sgn x (s.data.toList.drop k) = none) := Lib.hid (by rw [hd]; exact sgn_no t hc)
   clear hd ht hc
   go_enter Tryz.func213, Tryz.ntmps213
   go_wp2_with fail
   go_big_quiet (fail)
   go_wp2
   go_ret
   rw [HV.out]
   exact ⟨rfl, ⟨k, by omega, rfl, HR.out.drewN nq⟩, (Gr.refl B W).drewN nq⟩
 ·have he : ((k : Int) == (s.size : Int)) = true := by simp; omega
  have HV : Hid (sgn x (s.data.toList.drop k) = none) := Lib.hid (by rw [drop_all (by omega)]; rfl)
  go_enter Tryz.func213, Tryz.ntmps213
  go_wp2_with fail
  go_big_quiet (fail)
  go_wp2
  go_ret
  rw [HV.out]
  exact ⟨rfl, ⟨k, by omega, rfl, HR.out.drewN nq⟩, (Gr.refl B W).drewN nq⟩
end Sc
end Go.Proofs.YtkiipaaaakhhfaaGreatDoor
end
section
namespace Go.Proofs.YtkiipaaaakhhfaaGreatDoor
open Go Go.RowKit
namespace Sc
set_option maxRecDepth 100000
set_option linter.unusedVariables false
set_option linter.unusedSimpArgs false
theorem letter_any (b : Int) (w : World) :
  Calls Tryz.prog 133 #[.int .u8 b] w fun e w' => e = .returned (.bool (lett b)) ∧ w = w' := by
 go_enter Tryz.func133, Tryz.ntmps133
 go_wp2
 all_goals (go_ret; refine ⟨ret_bool' ?_, rfl⟩; unfold lett; simp [*] <;> omega)
theorem digit_any (b : Int) (w : World) :
  Calls Tryz.prog 160 #[.int .u8 b] w fun e w' => e = .returned (.bool (digi b)) ∧ w = w' := by
 go_enter Tryz.func160, Tryz.ntmps160
 go_wp2
 all_goals (go_ret; refine ⟨ret_bool' ?_, rfl⟩; unfold digi; simp [*] <;> omega)
theorem does_letter : DoesB 133 letU := ⟨fun _ _ => by kernel_rfl, fun c W => letter_any _ W⟩
theorem does_digit : DoesB 160 digU := ⟨fun _ _ => by kernel_rfl, fun c W => digit_any _ W⟩
theorem eq_u8 (c : UInt8) (n : Nat) (hn : n < 256) : ((c.toNat : Int) == (n : Int)) = (c == UInt8.ofNat n) := by
 rw [Bool.eq_iff_iff, beq_iff_eq, beq_iff_eq]
 constructor
 ·intro e
  have e2 : c.toNat = n := Int.ofNat.inj e
  rw [← e2, UInt8.ofNat_toNat]
 ·intro e
  rw [e]; simp only [UInt8.toNat_ofNat']; omega
theorem does_blank : DoesB 137 blk := by
 refine ⟨fun _ _ => by kernel_rfl, ?_⟩
 intro c w
 have h1 : ((c.toNat : Int) == 32) = (c == 32) := eq_u8 c 32 (by decide)
 have h2 : ((c.toNat : Int) == 9) = (c == 9) := eq_u8 c 9 (by decide)
 have HV : Hid (blk c = (c == 32 || c == 9)) := Lib.hid rfl
 generalize (c == 32) = x at *
 generalize (c == 9) = y at *
 cases x <;> cases y <;>
 ·go_enter Tryz.func137, Tryz.ntmps137
  go_wp2
  go_ret
  exact ⟨ret_bool' HV.out.symm, rfl⟩
theorem does_white : DoesB 230 wht := by
 refine ⟨fun _ _ => by kernel_rfl, ?_⟩
 intro c w
 have h1 := Lib.hid (does_blank.2 c w)
 have h2 : ((c.toNat : Int) == 10) = (c == 10) := eq_u8 c 10 (by decide)
 have HV : Hid (wht c = (blk c || c == 10)) := Lib.hid rfl
 generalize blk c = x at *
 generalize (c == 10) = y at *
 cases x <;> cases y <;>
 ·go_enter Tryz.func230, Tryz.ntmps230
  go_wp2_with (first | (go_at_call 137; refine h1.out.mono ?_; rintro e w' ⟨rfl, rfl⟩))
  go_ret
  exact ⟨ret_bool' HV.out.symm, rfl⟩
theorem does_inName : DoesB 181 inN := by
 refine ⟨fun _ _ => by kernel_rfl, ?_⟩
 intro c w
 have h1 := Lib.hid (does_letter.2 c w)
 have h2 := Lib.hid (does_digit.2 c w)
 have h3 : ((c.toNat : Int) == 45) = (c == 45) := eq_u8 c 45 (by decide)
 have HV : Hid (inN c = (letU c || digU c || c == 45)) := Lib.hid rfl
 generalize letU c = x at *
 generalize digU c = y at *
 generalize (c == 45) = z at *
 cases x <;> cases y <;> cases z <;>
 ·go_enter Tryz.func181, Tryz.ntmps181
  go_wp2_with (first | (go_at_call 133; refine h1.out.mono ?_; rintro e w' ⟨rfl, rfl⟩) | (go_at_call 160; refine h2.out.mono ?_; rintro e w' ⟨rfl, rfl⟩))
  go_ret
  exact ⟨ret_bool' HV.out.symm, rfl⟩
theorem does_beginsKey : DoesB 234 keyB := by
 refine ⟨fun _ _ => by kernel_rfl, ?_⟩
 intro c w
 have h1 := Lib.hid (does_letter.2 c w)
 have h2 : ((c.toNat : Int) == 95) = (c == 95) := eq_u8 c 95 (by decide)
 have h3 : ((c.toNat : Int) == 58) = (c == 58) := eq_u8 c 58 (by decide)
 have HV : Hid (keyB c = (letU c || c == 95 || c == 58)) := Lib.hid rfl
 generalize letU c = x at *
 generalize (c == 95) = y at *
 generalize (c == 58) = z at *
 cases x <;> cases y <;> cases z <;>
 ·go_enter Tryz.func234, Tryz.ntmps234
  go_wp2_with (first | (go_at_call 133; refine h1.out.mono ?_; rintro e w' ⟨rfl, rfl⟩))
  go_ret
  exact ⟨ret_bool' HV.out.symm, rfl⟩
theorem does_inKey : DoesB 235 keyG := by
 refine ⟨fun _ _ => by kernel_rfl, ?_⟩
 intro c w
 have h1 := Lib.hid (does_beginsKey.2 c w)
 have h2 := Lib.hid (does_digit.2 c w)
 have h3 : ((c.toNat : Int) == 46) = (c == 46) := eq_u8 c 46 (by decide)
 have h4 : ((c.toNat : Int) == 45) = (c == 45) := eq_u8 c 45 (by decide)
 have HV : Hid (keyG c = (keyB c || digU c || c == 46 || c == 45)) := Lib.hid rfl
 generalize keyB c = x at *
 generalize digU c = y at *
 generalize (c == 46) = z at *
 generalize (c == 45) = u at *
 cases x <;> cases y <;> cases z <;> cases u <;>
 ·go_enter Tryz.func235, Tryz.ntmps235
  go_wp2_with (first | (go_at_call 234; refine h1.out.mono ?_; rintro e w' ⟨rfl, rfl⟩) | (go_at_call 160; refine h2.out.mono ?_; rintro e w' ⟨rfl, rfl⟩))
  go_ret
  exact ⟨ret_bool' HV.out.symm, rfl⟩
theorem same_of {P : Program} {f : FuncId} {args : Array Value} {W : World} {v : Value} (h : Calls P f args W fun e W' => e = .returned v ∧ W = W') : Calls P f args W fun e W' => e = .returned v ∧ W' = W :=
 h.mono fun _ _ ⟨a, b⟩ => ⟨a, b.symm⟩
set_option maxHeartbeats 4000000 in
theorem word_any {fb fg : FuncId} {b g : UInt8 → Bool} (Hb : DoesB fb b) (Hg : DoesB fg g) (W : World) (B : Nat) (s : ByteArray) (l : List UInt8) (hs : s.size ≤ 1000000) (h : RD W B s l) :
  Calls Tryz.prog 180 #[.pointer (some ⟨B, 0, none⟩), .func (.func fb) #[] #[], .func (.func fg) #[] #[]] W fun e W' => e = .returned (.bool (word b g l).isSome) ∧ RD W' B s ((word b g l).getD l) ∧ Gr B W W' := by
 obtain ⟨k, hk, rfl, hr⟩ := h
 have c0 := hr.c0
 have c1 := hr.c1
 have f1 := hr.fr 1
 have HR := Lib.hid hr
 have hs2 : (s.size : Int) ≤ 1000000 := by omega
 have eb := Hb.1
 have eg := Hg.1
 unfold Ent at eb eg
 have HB := Lib.hid Hb.2
 have HG := Lib.hid Hg.2
 clear hr Hb Hg
 by_cases hlt : k < s.size
 ·obtain ⟨c, t, hd, hck, ht⟩ := cons_at hlt
  have hlt' : (k : Int) < (s.size : Int) := by omega
  have hne : ((k : Int) == (s.size : Int)) = false := by simp; omega
  have hb1 := Lib.hid (fun W => HB.out c W)
  cases hbc : b c with
  | false =>
   have HV : Hid (word b g (s.data.toList.drop k) = none) := Lib.hid (by rw [hd]; simp [word, hbc])
   rw [hbc] at hb1
   clear hd ht hbc
   go_enter Tryz.func180, Tryz.ntmps180
   go_wp2_with fail
   go_big_quiet (exact Calls.quiet_of_same (same_of (hb1.out _)))
   go_wp2
   go_ret
   rw [HV.out]
   exact ⟨rfl, ⟨k, by omega, rfl, HR.out.drewN nq⟩, (Gr.refl B W).drewN nq⟩
  | true =>
   have HV : Hid (word b g (s.data.toList.drop k) = some ((s.data.toList.drop (k + 1)).dropWhile g)) := Lib.hid (by rw [hd, ht]; simp [word, hbc])
   rw [hbc] at hb1
   clear hd ht hbc
   go_enter Tryz.func180, Tryz.ntmps180
   go_wp2_with fail
   go_big_quiet (exact Calls.quiet_of_same (same_of (hb1.out _)))
   have HR1 := Lib.hid ((HR.out.drewN nq).set (k + 1))
   have HG1 := Lib.hid (((Gr.refl B W).drewN nq).set (B := B) (o := 1) (.int .i64 ((k + 1 : Nat) : Int)))
   clear hb1 HB HR
   go_wp2_with fail
   go_loopg [] (s.size - (k + 1)) (fun G wr => ∃ m : Nat, k + 1 ≤ m ∧ m + G = s.size ∧ Hid (RK wr B s m) ∧ Hid (Gr B W wr) ∧ Hid ((s.data.toList.drop m).dropWhile g = (s.data.toList.drop (k + 1)).dropWhile g))
   case atStart => exact ⟨k + 1, by omega, by omega, HR1, HG1, Lib.hid rfl⟩
   case round =>
    obtain ⟨m, hm1, hm2, HRm, HGm, HDm⟩ := hrel
    clear c0 c1 f1 HR1 HG1 hne hlt'
    have c0 := HRm.out.c0
    have c1 := HRm.out.c1
    have f1 := HRm.out.fr 1
    by_cases hltm : m < s.size
    ·obtain ⟨c2, t2, hd2, hck2, ht2⟩ := cons_at hltm
     have hltm' : (m : Int) < (s.size : Int) := by omega
     have hg1 := Lib.hid (fun W => HG.out c2 W)
     cases hgc : g c2 with
     | false =>
      have HE : Hid (s.data.toList.drop m = (s.data.toList.drop (k + 1)).dropWhile g) := Lib.hid (by rw [← HDm.out, hd2]; simp [List.dropWhile, hgc])
      rw [hgc] at hg1
      clear hd2 ht2 hgc
      go_wp2_with fail
      go_big_quiet (exact Calls.quiet_of_same (same_of (hg1.out _)))
      go_wp2
      go_ret
      rw [HV.out]
      exact ⟨rfl, ⟨m, by omega, HE.out.symm, HRm.out.drewN nq⟩, HGm.out.drewN nq⟩
     | true =>
      have HE : Hid ((s.data.toList.drop (m + 1)).dropWhile g = (s.data.toList.drop (k + 1)).dropWhile g) := Lib.hid (by rw [← HDm.out, hd2, ht2]; simp [List.dropWhile, hgc])
      rw [hgc] at hg1
      clear hd2 ht2 hgc
      go_wp2_with fail
      go_big_quiet (exact Calls.quiet_of_same (same_of (hg1.out _)))
      have HR3 := Lib.hid ((HRm.out.drewN nq).set (m + 1))
      have HG3 := Lib.hid ((HGm.out.drewN nq).set (B := B) (o := 1) (.int .i64 ((m + 1 : Nat) : Int)))
      go_wp2
      go_roundg (gk - 1)
      case rel => exact ⟨m + 1, by omega, by omega, HR3, HG3, HE⟩
      case measure => omega
    ·have hltm' : ¬ (m : Int) < (s.size : Int) := by omega
     have HE : Hid (s.data.toList.drop m = (s.data.toList.drop (k + 1)).dropWhile g) := Lib.hid (by rw [← HDm.out, drop_all (by omega)]; rfl)
     have hdec : decide ((m : Int) < (s.size : Int)) = false := by simp; omega
     go_wp2_with fail
     go_big_quiet (fail)
     go_wp2
     go_ret
     rw [HV.out]
     exact ⟨rfl, ⟨m, by omega, HE.out.symm, HRm.out.drewN nq⟩, HGm.out.drewN nq⟩
 ·have he : ((k : Int) == (s.size : Int)) = true := by simp; omega
  have HV : Hid (word b g (s.data.toList.drop k) = none) := Lib.hid (by rw [drop_all (by omega)]; rfl)
  go_enter Tryz.func180, Tryz.ntmps180
  go_wp2_with fail
  go_big_quiet (fail)
  go_wp2
  go_ret
  rw [HV.out]
  exact ⟨rfl, ⟨k, by omega, rfl, HR.out.drewN nq⟩, (Gr.refl B W).drewN nq⟩
theorem does_name : Does 164 name := by
 refine ⟨fun _ _ => by kernel_rfl, ?_⟩
 intro W B s l hs h
 have HW := Lib.hid (word_any does_letter does_inName W B s l hs h)
 have HE : Hid (word letU inN = name) := Lib.hid rfl
 rw [HE.out] at HW
 clear h
 go_enter Tryz.func164, Tryz.ntmps164
 go_wp2_with fail
 refine HW.out.mono ?_
 rintro e w1 ⟨rfl, h1, h2⟩
 go_wp2
 go_ret
 exact ⟨rfl, h1, h2⟩
theorem does_key : Does 228 key := by
 refine ⟨fun _ _ => by kernel_rfl, ?_⟩
 intro W B s l hs h
 have HW := Lib.hid (word_any does_beginsKey does_inKey W B s l hs h)
 have HE : Hid (word keyB keyG = key) := Lib.hid rfl
 rw [HE.out] at HW
 clear h
 go_enter Tryz.func228, Tryz.ntmps228
 go_wp2_with fail
 refine HW.out.mono ?_
 rintro e w1 ⟨rfl, h1, h2⟩
 go_wp2
 go_ret
 exact ⟨rfl, h1, h2⟩
theorem does_whites : Does 217 white := by
 refine ⟨fun _ _ => by kernel_rfl, ?_⟩
 intro W B s l hs h
 have HW := Lib.hid (word_any does_white does_white W B s l hs h)
 have HE : Hid (word wht wht = white) := Lib.hid rfl
 rw [HE.out] at HW
 clear h
 go_enter Tryz.func217, Tryz.ntmps217
 go_wp2_with fail
 refine HW.out.mono ?_
 rintro e w1 ⟨rfl, h1, h2⟩
 go_wp2
 go_ret
 exact ⟨rfl, h1, h2⟩
theorem does_less : Does 193 (sgn 60) := by
 refine ⟨fun _ _ => by kernel_rfl, ?_⟩
 intro W B s l hs h
 have HW := Lib.hid (sign_any 60 W B s l hs h)
 rw [show (((60 : UInt8).toNat : Nat) : Int) = 60 from rfl] at HW
 clear h
 go_enter Tryz.func193, Tryz.ntmps193
 go_wp2_with fail
 refine HW.out.mono ?_
 rintro e w1 ⟨rfl, h1, h2⟩
 go_wp2
 go_ret
 exact ⟨rfl, h1, h2⟩
theorem does_greater : Does 197 (sgn 62) := by
 refine ⟨fun _ _ => by kernel_rfl, ?_⟩
 intro W B s l hs h
 have HW := Lib.hid (sign_any 62 W B s l hs h)
 rw [show (((62 : UInt8).toNat : Nat) : Int) = 62 from rfl] at HW
 clear h
 go_enter Tryz.func197, Tryz.ntmps197
 go_wp2_with fail
 refine HW.out.mono ?_
 rintro e w1 ⟨rfl, h1, h2⟩
 go_wp2
 go_ret
 exact ⟨rfl, h1, h2⟩
theorem does_slash : Does 198 (sgn 47) := by
 refine ⟨fun _ _ => by kernel_rfl, ?_⟩
 intro W B s l hs h
 have HW := Lib.hid (sign_any 47 W B s l hs h)
 rw [show (((47 : UInt8).toNat : Nat) : Int) = 47 from rfl] at HW
 clear h
 go_enter Tryz.func198, Tryz.ntmps198
 go_wp2_with fail
 refine HW.out.mono ?_
 rintro e w1 ⟨rfl, h1, h2⟩
 go_wp2
 go_ret
 exact ⟨rfl, h1, h2⟩
theorem does_equals : Does 239 (sgn 61) := by
 refine ⟨fun _ _ => by kernel_rfl, ?_⟩
 intro W B s l hs h
 have HW := Lib.hid (sign_any 61 W B s l hs h)
 rw [show (((61 : UInt8).toNat : Nat) : Int) = 61 from rfl] at HW
 clear h
 go_enter Tryz.func239, Tryz.ntmps239
 go_wp2_with fail
 refine HW.out.mono ?_
 rintro e w1 ⟨rfl, h1, h2⟩
 go_wp2
 go_ret
 exact ⟨rfl, h1, h2⟩
end Sc
end Go.Proofs.YtkiipaaaakhhfaaGreatDoor
end
section
namespace Go.Proofs.YtkiipaaaakhhfaaGreatDoor
open Go Go.RowKit
namespace Sc
set_option maxRecDepth 100000
set_option linter.unusedVariables false
set_option linter.unusedSimpArgs false
abbrev Part := FuncId × (List UInt8 → Option (List UInt8))
def DoesAll (ps : List Part) : Prop := ∀ x ∈ ps, Does x.1 x.2
def allP : List Part → List UInt8 → Option (List UInt8)
 | [], l => some l
 | x :: ps, l => (x.2 l).bind (allP ps)
def firstP : List Part → List UInt8 → Option (List UInt8)
 | [], _ => none
 | x :: ps, l => match x.2 l with
  | some r => some r
  | none => firstP ps l
def mv (B : Nat) (x : Part) : Value := .func (.func x.1) #[.pointer (some ⟨B, 0, none⟩)] #[]
def PB (w : World) (g B : Nat) (ps : List Part) : Prop := ∃ fr, w.heap[g]? = some (.cells (ps.map (mv B)).toArray 23 fr)
theorem PB.cell {w : World} {g B : Nat} {ps : List Part} (h : PB w g B ps) {i : Nat} {x : Part} (hi : ps[i]? = some x) : w.cell? ⟨g, i, none⟩ = some (mv B x) := by
 obtain ⟨fr, hb⟩ := h
 simp [World.cell?, hb, hi]
theorem PB.lt {w : World} {g B : Nat} {ps : List Part} (h : PB w g B ps) : g < w.heap.size := by
 obtain ⟨fr, hb⟩ := h
 exact lt_of_block hb
theorem PB.gr {w w' : World} {g B : Nat} {ps : List Part} (h : PB w g B ps) (hg : Gr B w w') (hne : g ≠ B) : PB w' g B ps := by
 have hl := h.lt
 obtain ⟨fr, hb⟩ := h
 exact ⟨fr, (hg.block g hl (fun e => hne (Option.some.inj e))).trans hb⟩
set_option maxHeartbeats 4000000 in
theorem all_any {ps : List Part} (hps : DoesAll ps) (hn : ps.length ≤ 100) (W : World) (B g : Nat) (s : ByteArray) (l : List UInt8) (hs : s.size ≤ 1000000) (h : RD W B s l) (hp : PB W g B ps) (hne : g ≠ B) :
  Calls Tryz.prog 192 #[.pointer (some ⟨B, 0, none⟩), .slice (some ⟨g, 0, none⟩) ps.length ps.length] W fun e W' => e = .returned (.bool (allP ps l).isSome) ∧ RD W' B s ((allP ps l).getD l) ∧ Gr B W W' := by
 have hmf : ∀ (fn : Fn) (first cap : Array Value) (w : World), (Instr.makeFunc fn first cap).run Tryz.prog w = .ok (.func fn first cap) w := fun _ _ _ _ => rfl
 obtain ⟨k, hk, hl, hr⟩ := h
 have HL := Lib.hid hl
 have c1 := hr.c1
 have HR0 := Lib.hid hr
 have HPS := Lib.hid hps
 have HRD : Hid (RD W B s l) := Lib.hid ⟨k, hk, hl, hr⟩
 have HPB := Lib.hid hp
 obtain ⟨N, hN⟩ : ∃ N, ps.length = N := ⟨_, rfl⟩
 have HN := Lib.hid hN
 rw [hN]
 rw [hN] at hn
 clear hl hr hps hp hN
 go_enter Tryz.func192, Tryz.ntmps192
 go_wp2_with fail
 go_loopg [14] N (fun G s14 wr => ∃ (i : Nat) (m : List UInt8), i + G = N ∧ s14 = .int .i64 (i : Int) ∧ Hid (RD wr B s m) ∧ Hid (Gr B W wr) ∧ Hid (allP ps l = allP (ps.drop i) m))
 case atStart => exact ⟨0, l, by omega, rfl, HRD, Lib.hid (Gr.refl B W), Lib.hid rfl⟩
 case round =>
  obtain ⟨i, m, hiG, rfl, HRD2, HG2, HA⟩ := hrel
  clear c1
  have HPB2 := Lib.hid (HPB.out.gr HG2.out hne)
  cases gk with
  | zero =>
   have hlt : ¬ (i : Int) < (N : Int) := by omega
   have HV : Hid (allP ps l = some m) := Lib.hid (by rw [HA.out, List.drop_eq_nil_of_le (by rw [HN.out]; omega)]; rfl)
   go_wp2
   go_ret
   rw [HV.out]
   exact ⟨rfl, HRD2.out, HG2.out⟩
  | succ G =>
   have hlt : (i : Int) < (N : Int) := by omega
   obtain ⟨x, hx⟩ : ∃ x, ps[i]? = some x := ⟨_, List.getElem?_eq_getElem (by rw [HN.out]; omega)⟩
   have hd : ps.drop i = x :: ps.drop (i + 1) := by
    obtain ⟨h1, h2⟩ := List.getElem?_eq_some_iff.1 hx
    rw [← h2]; exact List.drop_eq_getElem_cons h1
   have cg := HPB2.out.cell hx
   have HD := Lib.hid (HPS.out x (List.mem_of_getElem? hx))
   have eb := HD.out.1
   unfold Ent at eb
   unfold mv at cg
   have HC := Lib.hid (HD.out.2 wr B s m hs HRD2.out)
   obtain ⟨f, p⟩ := x
   simp only at cg eb HC
   cases hpm : p m with
   | none =>
    have HV : Hid (allP ps l = none) := Lib.hid (by rw [HA.out, hd]; simp [allP, hpm])
    rw [hpm] at HC
    clear hd hx hpm HPB2 HD
    go_wp2_with fail
    refine HC.out.mono ?_
    rintro e w1 ⟨rfl, h1, h2⟩
    obtain ⟨k1, hk1, hm1, hr1⟩ := h1
    have c1 := hr1.c1
    have f1 := hr1.fr 1
    have HX : Hid (RD (w1.setCell ⟨B, 1, none⟩ (.int .i64 (k : Int))) B s l ∧ Gr B W (w1.setCell ⟨B, 1, none⟩ (.int .i64 (k : Int)))) := Lib.hid ⟨⟨k, hk, HL.out, hr1.set k⟩, (HG2.out.trans h2).set _⟩
    clear hr1 hm1 h2
    go_wp2
    go_ret
    rw [HV.out]
    exact ⟨rfl, HX.out.1, HX.out.2⟩
   | some r =>
    have HV : Hid (allP ps l = allP (ps.drop (i + 1)) r) := Lib.hid (by rw [HA.out, hd]; simp [allP, hpm])
    rw [hpm] at HC
    clear hd hx hpm HPB2 HD
    go_wp2_with fail
    refine HC.out.mono ?_
    rintro e w1 ⟨rfl, h1, h2⟩
    have HX := Lib.hid h1
    have HY := Lib.hid (HG2.out.trans h2)
    clear h1 h2
    go_wp2
    go_roundg G
    case rel => exact ⟨i + 1, r, by omega, by go_num, HX, HY, HV⟩
    case measure => omega
set_option maxHeartbeats 4000000 in
theorem first_any {ps : List Part} (hps : DoesAll ps) (hn : ps.length ≤ 100) (W : World) (B g : Nat) (s : ByteArray) (l : List UInt8) (hs : s.size ≤ 1000000) (h : RD W B s l) (hp : PB W g B ps) (hne : g ≠ B) :
  Calls Tryz.prog 172 #[.pointer (some ⟨B, 0, none⟩), .slice (some ⟨g, 0, none⟩) ps.length ps.length] W fun e W' => e = .returned (.bool (firstP ps l).isSome) ∧ RD W' B s ((firstP ps l).getD l) ∧ Gr B W W' := by
 have HPS := Lib.hid hps
 have HRD := Lib.hid h
 have HPB := Lib.hid hp
 obtain ⟨N, hN⟩ : ∃ N, ps.length = N := ⟨_, rfl⟩
 have HN := Lib.hid hN
 rw [hN]
 rw [hN] at hn
 clear h hps hp hN
 go_enter Tryz.func172, Tryz.ntmps172
 go_wp2_with fail
 go_loopg [9] N (fun G s9 wr => ∃ (i : Nat), i + G = N ∧ s9 = .int .i64 (i : Int) ∧ Hid (RD wr B s l) ∧ Hid (Gr B W wr) ∧ Hid (firstP ps l = firstP (ps.drop i) l))
 case atStart => exact ⟨0, by omega, rfl, HRD, Lib.hid (Gr.refl B W), Lib.hid rfl⟩
 case round =>
  obtain ⟨i, hiG, rfl, HRD2, HG2, HA⟩ := hrel
  have HPB2 := Lib.hid (HPB.out.gr HG2.out hne)
  cases gk with
  | zero =>
   have hlt : ¬ (i : Int) < (N : Int) := by omega
   have HV : Hid (firstP ps l = none) := Lib.hid (by rw [HA.out, List.drop_eq_nil_of_le (by rw [HN.out]; omega)]; rfl)
   go_wp2
   go_ret
   rw [HV.out]
   exact ⟨rfl, HRD2.out, HG2.out⟩
  | succ G =>
   have hlt : (i : Int) < (N : Int) := by omega
   obtain ⟨x, hx⟩ : ∃ x, ps[i]? = some x := ⟨_, List.getElem?_eq_getElem (by rw [HN.out]; omega)⟩
   have hd : ps.drop i = x :: ps.drop (i + 1) := by
    obtain ⟨h1, h2⟩ := List.getElem?_eq_some_iff.1 hx
    rw [← h2]; exact List.drop_eq_getElem_cons h1
   have cg := HPB2.out.cell hx
   have HD := Lib.hid (HPS.out x (List.mem_of_getElem? hx))
   have eb := HD.out.1
   unfold Ent at eb
   unfold mv at cg
   have HC := Lib.hid (HD.out.2 wr B s l hs HRD2.out)
   obtain ⟨f, p⟩ := x
   simp only at cg eb HC
   cases hpm : p l with
   | none =>
    have HV : Hid (firstP ps l = firstP (ps.drop (i + 1)) l) := Lib.hid (by rw [HA.out, hd]; simp [firstP, hpm])
    rw [hpm] at HC
    clear hd hx hpm HPB2 HD
    go_wp2_with fail
    refine HC.out.mono ?_
    rintro e w1 ⟨rfl, h1, h2⟩
    have HX := Lib.hid h1
    have HY := Lib.hid (HG2.out.trans h2)
    clear h1 h2
    go_wp2
    go_roundg G
    case rel => exact ⟨i + 1, by omega, by go_num, HX, HY, HV⟩
    case measure => omega
   | some r =>
    have HV : Hid (firstP ps l = some r) := Lib.hid (by rw [HA.out, hd]; simp [firstP, hpm])
    rw [hpm] at HC
    clear hd hx hpm HPB2 HD
    go_wp2_with fail
    refine HC.out.mono ?_
    rintro e w1 ⟨rfl, h1, h2⟩
    have HX := Lib.hid h1
    have HY := Lib.hid (HG2.out.trans h2)
    clear h1 h2
    go_wp2
    go_ret
    rw [HV.out]
    exact ⟨rfl, HX.out, HY.out⟩
theorem maybe_any {x : Part} (hx : Does x.1 x.2) (W : World) (B : Nat) (s : ByteArray) (l : List UInt8) (hs : s.size ≤ 1000000) (h : RD W B s l) :
  Calls Tryz.prog 216 #[.pointer (some ⟨B, 0, none⟩), mv B x] W fun e W' => e = .returned (.bool true) ∧ RD W' B s ((x.2 l).getD l) ∧ Gr B W W' := by
 have eb := hx.1
 unfold Ent at eb
 have HC := Lib.hid (hx.2 W B s l hs h)
 obtain ⟨f, p⟩ := x
 simp only at eb HC
 unfold mv
 clear hx h
 go_enter Tryz.func216, Tryz.ntmps216
 go_wp2_with fail
 refine HC.out.mono ?_
 rintro e w1 ⟨rfl, h1, h2⟩
 go_wp2
 go_ret
 exact ⟨rfl, h1, h2⟩
def oftenP (p : List UInt8 → Option (List UInt8)) : Nat → List UInt8 → List UInt8
 | 0, l => l
 | n + 1, l => match p l with
  | some r => oftenP p n r
  | none => l
set_option maxHeartbeats 2000000 in
theorem often_any {x : Part} (hx : Does x.1 x.2) (hdec : ∀ l r, x.2 l = some r → r.length < l.length) (W : World) (B : Nat) (s : ByteArray) (l : List UInt8) (hs : s.size ≤ 1000000) (h : RD W B s l) :
  Calls Tryz.prog 214 #[.pointer (some ⟨B, 0, none⟩), mv B x] W fun e W' => e = .returned (.bool true) ∧ RD W' B s (oftenP x.2 l.length l) ∧ Gr B W W' := by
 have eb := hx.1
 unfold Ent at eb
 have HX := Lib.hid hx.2
 have HDec := Lib.hid hdec
 have HRD := Lib.hid h
 obtain ⟨f, p⟩ := x
 simp only at eb HX HDec
 unfold mv
 simp only
 clear hx h hdec
 have HFu : Hid (∀ n m (a : List UInt8), a.length ≤ n → a.length ≤ m → oftenP p n a = oftenP p m a) := Lib.hid (by
  intro n
  induction n with
  | zero =>
   intro m a h1 h2
   have : a = [] := List.length_eq_zero_iff.1 (by omega)
   subst this
   cases m with
   | zero => rfl
   | succ m =>
    simp only [oftenP]
    cases hp : p [] with
    | none => rfl
    | some r => have := HDec.out _ _ hp; simp at this
  | succ n ih =>
   intro m a h1 h2
   cases m with
   | zero =>
    have : a = [] := List.length_eq_zero_iff.1 (by omega)
    subst this
    simp only [oftenP]
    cases hp : p [] with
    | none => rfl
    | some r => have := HDec.out _ _ hp; simp at this
   | succ m =>
    simp only [oftenP]
    cases hp : p a with
    | none => rfl
    | some r => have := HDec.out _ _ hp; exact ih m r (by omega) (by omega))
 go_enter Tryz.func214, Tryz.ntmps214
 go_wp2_with fail
 go_loopg [] l.length (fun G wr => ∃ (m : List UInt8), m.length ≤ G ∧ Hid (RD wr B s m) ∧ Hid (Gr B W wr) ∧ Hid (oftenP p l.length l = oftenP p m.length m))
 case atStart => exact ⟨l, Nat.le_refl _, HRD, Lib.hid (Gr.refl B W), Lib.hid rfl⟩
 case round =>
  obtain ⟨m, hmG, HRD2, HG2, HA⟩ := hrel
  have HC := Lib.hid (HX.out wr B s m hs HRD2.out)
  cases hpm : p m with
  | none =>
   have HV : Hid (oftenP p l.length l = m) := Lib.hid (by
    rw [HA.out]
    cases m with
    | nil => rfl
    | cons c t => simp only [List.length_cons, oftenP, hpm])
   rw [hpm] at HC
   clear hpm
   go_wp2_with fail
   refine HC.out.mono ?_
   rintro e w1 ⟨rfl, h1, h2⟩
   have HX := Lib.hid h1
   have HY := Lib.hid (HG2.out.trans h2)
   clear h1 h2
   go_wp2
   go_ret
   rw [HV.out]
   exact ⟨rfl, HX.out, HY.out⟩
  | some r =>
   have hlt := HDec.out _ _ hpm
   have HV : Hid (oftenP p l.length l = oftenP p r.length r) := Lib.hid (by
    rw [HA.out]
    cases m with
    | nil => simp at hlt
    | cons c t =>
     simp only [List.length_cons, oftenP, hpm]
     simp only [List.length_cons] at hlt
     exact HFu.out _ _ _ (by omega) (Nat.le_refl _))
   rw [hpm] at HC
   clear hpm
   go_wp2_with fail
   refine HC.out.mono ?_
   rintro e w1 ⟨rfl, h1, h2⟩
   have HX := Lib.hid h1
   have HY := Lib.hid (HG2.out.trans h2)
   clear h1 h2
   go_wp2
   go_roundg (gk - 1)
   case rel => exact ⟨r, by omega, HX, HY, HV⟩
   case measure => omega
end Sc
end Go.Proofs.YtkiipaaaakhhfaaGreatDoor
end
