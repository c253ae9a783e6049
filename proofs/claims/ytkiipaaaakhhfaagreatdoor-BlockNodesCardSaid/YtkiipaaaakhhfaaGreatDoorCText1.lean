import GoSem.Core.Utf8
import Derived.Lib.DecodeN
import Derived.Test.YtkiipaaaakhhfaaGreatDoorCShelf1
import Derived.WalkKit
import Derived.BigCall
import Derived.BigQuiet
import Derived.Deep.QuietTactic
import Derived.Lib.Hide
import Derived.Deep.DeepCutAuto
import Derived.Laws.AppendOwn
import Derived.Laws.IdiomStrings
import Derived.Deep.LoopGhost
import Derived.RegionTactic
import Derived.Lib.SlTrimSet
import Derived.Laws.Cover4
section
set_option linter.unusedVariables false
set_option linter.unusedSimpArgs false
namespace Go.Proofs.YtkiipaaaakhhfaaGreatDoor
namespace Tx
def btw (l : List UInt8) (k lo hi : Nat) : Bool := match l[k]? with
 | some c => decide (lo ≤ c.toNat) && decide (c.toNat ≤ hi)
 | none => false
def good (l : List UInt8) : Nat :=
 if btw l 0 0 127 then 1
 else if btw l 0 194 223 && btw l 1 128 191 then 2
 else if !btw l 2 128 191 then 0
 else if (btw l 0 224 224 && btw l 1 160 191) || (btw l 0 237 237 && btw l 1 128 159) then 3
 else if (btw l 0 225 236 || btw l 0 238 239) && btw l 1 128 191 then 3
 else if !btw l 3 128 191 then 0
 else if (btw l 0 240 240 && btw l 1 144 191) || ((btw l 0 241 243 && btw l 1 128 191) || (btw l 0 244 244 && btw l 1 128 143)) then 4
 else 0
def goodN (n b0 b1 b2 b3 : Nat) : Nat :=
 if 1 ≤ n ∧ b0 ≤ 127 then 1
 else if 2 ≤ n ∧ 194 ≤ b0 ∧ b0 ≤ 223 ∧ 128 ≤ b1 ∧ b1 ≤ 191 then 2
 else if 3 ≤ n ∧ 128 ≤ b2 ∧ b2 ≤ 191 ∧ ((b0 = 224 ∧ 160 ≤ b1 ∧ b1 ≤ 191) ∨ (b0 = 237 ∧ 128 ≤ b1 ∧ b1 ≤ 159) ∨ (((225 ≤ b0 ∧ b0 ≤ 236) ∨ (238 ≤ b0 ∧ b0 ≤ 239)) ∧ 128 ≤ b1 ∧ b1 ≤ 191)) then 3
 else if 4 ≤ n ∧ 128 ≤ b2 ∧ b2 ≤ 191 ∧ 128 ≤ b3 ∧ b3 ≤ 191 ∧ ((b0 = 240 ∧ 144 ≤ b1 ∧ b1 ≤ 191) ∨ (241 ≤ b0 ∧ b0 ≤ 243 ∧ 128 ≤ b1 ∧ b1 ≤ 191) ∨ (b0 = 244 ∧ 128 ≤ b1 ∧ b1 ≤ 143)) then 4
 else 0
def at' (l : List UInt8) (k : Nat) : Nat := (l.getD k 0).toNat
theorem btw_at (l : List UInt8) (k lo hi : Nat) : btw l k lo hi = (decide (k < l.length) && (decide (lo ≤ at' l k) && decide (at' l k ≤ hi))) := by
 unfold btw at'
 by_cases h : k < l.length
 ·simp [List.getElem?_eq_getElem h, h, List.getD]
 ·simp [List.getElem?_eq_none (Nat.le_of_not_lt h), h]
theorem good_eq (l : List UInt8) : good l = goodN l.length (at' l 0) (at' l 1) (at' l 2) (at' l 3) := by
 simp only [good, btw_at, Bool.and_eq_true, Bool.or_eq_true, Bool.not_eq_true', decide_eq_true_eq, Bool.and_eq_false_iff, decide_eq_false_iff_not]
 generalize l.length = n
 generalize at' l 0 = a0
 generalize at' l 1 = a1
 generalize at' l 2 = a2
 generalize at' l 3 = a3
 unfold goodN
 by_cases c1 : 1 ≤ n ∧ a0 ≤ 127
 ·have d1 : 0 < n ∧ 0 ≤ a0 ∧ a0 ≤ 127 := by omega
  rw [if_pos d1, if_pos c1]
 rw [if_neg c1, if_neg (show ¬ (0 < n ∧ 0 ≤ a0 ∧ a0 ≤ 127) by omega)]
 clear c1
 by_cases c2 : 2 ≤ n ∧ 194 ≤ a0 ∧ a0 ≤ 223 ∧ 128 ≤ a1 ∧ a1 ≤ 191
 ·have d2 : (0 < n ∧ 194 ≤ a0 ∧ a0 ≤ 223) ∧ 1 < n ∧ 128 ≤ a1 ∧ a1 ≤ 191 := by omega
  rw [if_pos d2, if_pos c2]
 rw [if_neg c2, if_neg (show ¬ ((0 < n ∧ 194 ≤ a0 ∧ a0 ≤ 223) ∧ 1 < n ∧ 128 ≤ a1 ∧ a1 ≤ 191) by omega)]
 clear c2
 by_cases c0 : 2 < n ∧ 128 ≤ a2 ∧ a2 ≤ 191
 ·have d0 : ¬ (¬ 2 < n ∨ ¬ 128 ≤ a2 ∨ ¬ a2 ≤ 191) := by omega
  rw [if_neg d0]
  obtain ⟨hn, h2, h3⟩ := c0
  by_cases c3 : (a0 = 224 ∧ 160 ≤ a1 ∧ a1 ≤ 191) ∨ (a0 = 237 ∧ 128 ≤ a1 ∧ a1 ≤ 159)
  ·rw [if_pos (show 3 ≤ n ∧ 128 ≤ a2 ∧ a2 ≤ 191 ∧ _ from ⟨by omega, h2, h3, by omega⟩)]
   rw [if_pos]
   omega
  ·rw [if_neg (show ¬ ((0 < n ∧ 224 ≤ a0 ∧ a0 ≤ 224) ∧ 1 < n ∧ 160 ≤ a1 ∧ a1 ≤ 191 ∨ (0 < n ∧ 237 ≤ a0 ∧ a0 ≤ 237) ∧ 1 < n ∧ 128 ≤ a1 ∧ a1 ≤ 159) by omega)]
   by_cases c4 : ((225 ≤ a0 ∧ a0 ≤ 236) ∨ (238 ≤ a0 ∧ a0 ≤ 239)) ∧ 128 ≤ a1 ∧ a1 ≤ 191
   ·rw [if_pos (show 3 ≤ n ∧ 128 ≤ a2 ∧ a2 ≤ 191 ∧ _ from ⟨by omega, h2, h3, by omega⟩)]
    rw [if_pos]
    omega
   ·rw [if_neg (show ¬ ((0 < n ∧ 225 ≤ a0 ∧ a0 ≤ 236 ∨ 0 < n ∧ 238 ≤ a0 ∧ a0 ≤ 239) ∧ 1 < n ∧ 128 ≤ a1 ∧ a1 ≤ 191) by omega)]
    rw [if_neg (show ¬ (3 ≤ n ∧ 128 ≤ a2 ∧ a2 ≤ 191 ∧ (a0 = 224 ∧ 160 ≤ a1 ∧ a1 ≤ 191 ∨ a0 = 237 ∧ 128 ≤ a1 ∧ a1 ≤ 159 ∨ (225 ≤ a0 ∧ a0 ≤ 236 ∨ 238 ≤ a0 ∧ a0 ≤ 239) ∧ 128 ≤ a1 ∧ a1 ≤ 191)) by intro h; omega)]
    clear c3 c4
    by_cases c5 : 3 < n ∧ 128 ≤ a3 ∧ a3 ≤ 191
    ·rw [if_neg (show ¬ (¬ 3 < n ∨ ¬ 128 ≤ a3 ∨ ¬ a3 ≤ 191) by omega)]
     obtain ⟨hn4, h4, h5⟩ := c5
     by_cases c6 : (a0 = 240 ∧ 144 ≤ a1 ∧ a1 ≤ 191) ∨ (241 ≤ a0 ∧ a0 ≤ 243 ∧ 128 ≤ a1 ∧ a1 ≤ 191) ∨ (a0 = 244 ∧ 128 ≤ a1 ∧ a1 ≤ 143)
     ·rw [if_pos (show 4 ≤ n ∧ 128 ≤ a2 ∧ a2 ≤ 191 ∧ 128 ≤ a3 ∧ a3 ≤ 191 ∧ _ from ⟨by omega, h2, h3, h4, h5, c6⟩)]
      rw [if_pos]
      omega
     ·rw [if_neg (show ¬ (4 ≤ n ∧ 128 ≤ a2 ∧ a2 ≤ 191 ∧ 128 ≤ a3 ∧ a3 ≤ 191 ∧ _) from fun h => c6 h.2.2.2.2.2)]
      rw [if_neg]
      omega
    ·rw [if_pos (show ¬ 3 < n ∨ ¬ 128 ≤ a3 ∨ ¬ a3 ≤ 191 by omega)]
     rw [if_neg (show ¬ (4 ≤ n ∧ 128 ≤ a2 ∧ a2 ≤ 191 ∧ 128 ≤ a3 ∧ a3 ≤ 191 ∧ _) from fun h => c5 ⟨by omega, h.2.2.2.1, h.2.2.2.2.1⟩)]
 ·rw [if_pos (show ¬ 2 < n ∨ ¬ 128 ≤ a2 ∨ ¬ a2 ≤ 191 by omega)]
  rw [if_neg (show ¬ (3 ≤ n ∧ 128 ≤ a2 ∧ a2 ≤ 191 ∧ _) from fun h => c0 ⟨by omega, h.2.1, h.2.2.1⟩)]
  rw [if_neg (show ¬ (4 ≤ n ∧ 128 ≤ a2 ∧ a2 ≤ 191 ∧ _) from fun h => c0 ⟨by omega, h.2.1, h.2.2.1⟩)]
theorem at_app (l m : List UInt8) (k : Nat) (h : k < l.length) : at' (l ++ m) k = at' l k := by
 simp [at', List.getD, List.getElem?_append_left h]
theorem at_take (l : List UInt8) (n k : Nat) (h : k < n) : at' (l.take n) k = at' l k := by
 simp [at', List.getD, List.getElem?_take, h]
theorem at_lt (l : List UInt8) (k : Nat) : at' l k < 256 := by unfold at'; exact UInt8.toNat_lt _
theorem good_le (l : List UInt8) : good l ≤ l.length := by
 rw [good_eq]; unfold goodN; repeat' split
 all_goals omega
theorem good_le4 (l : List UInt8) : good l ≤ 4 := by
 rw [good_eq]; unfold goodN; repeat' split
 all_goals omega
theorem good_self (l m : List UInt8) (h : good l ≠ 0) : good (l.take (good l) ++ m) = good l := by
 have hle := good_le l
 have h4 := good_le4 l
 generalize hg : good l = g at *
 rw [good_eq] at hg ⊢
 have hl : (l.take g ++ m).length = g + m.length := by simp; omega
 rw [hl]
 have e0 : at' (l.take g ++ m) 0 = at' l 0 := by rw [at_app _ _ _ (by simp; omega), at_take _ _ _ (by omega)]
 have e1 : 2 ≤ g → at' (l.take g ++ m) 1 = at' l 1 := fun _ => by rw [at_app _ _ _ (by simp; omega), at_take _ _ _ (by omega)]
 have e2 : 3 ≤ g → at' (l.take g ++ m) 2 = at' l 2 := fun _ => by rw [at_app _ _ _ (by simp; omega), at_take _ _ _ (by omega)]
 have e3 : 4 ≤ g → at' (l.take g ++ m) 3 = at' l 3 := fun _ => by rw [at_app _ _ _ (by simp; omega), at_take _ _ _ (by omega)]
 rw [e0]
 generalize at' (l.take g ++ m) 1 = c1 at *
 generalize at' (l.take g ++ m) 2 = c2 at *
 generalize at' (l.take g ++ m) 3 = c3 at *
 generalize at' l 0 = a0 at *
 generalize at' l 1 = a1 at *
 generalize at' l 2 = a2 at *
 generalize at' l 3 = a3 at *
 unfold goodN at hg ⊢
 have hcase : g = 1 ∨ g = 2 ∨ g = 3 ∨ g = 4 := by omega
 rcases hcase with rfl | rfl | rfl | rfl
 ·split at hg
  ·rw [if_pos (by omega)]
  ·repeat' split at hg
   all_goals omega
 ·rw [e1 (by omega)]
  split at hg
  ·omega
  ·split at hg
   ·rw [if_neg (by omega), if_pos (by omega)]
   ·repeat' split at hg
    all_goals omega
 ·rw [e1 (by omega), e2 (by omega)]
  split at hg
  ·omega
  ·split at hg
   ·omega
   ·split at hg
    ·rw [if_neg (by omega), if_neg (by omega), if_pos (by omega)]
    ·split at hg <;> omega
 ·rw [e1 (by omega), e2 (by omega), e3 (by omega)]
  split at hg
  ·omega
  ·split at hg
   ·omega
   ·split at hg
    ·omega
    ·split at hg
     ·rw [if_neg (by omega), if_neg (by omega), if_neg (by omega), if_pos (by omega)]
     ·omega
theorem good_app (l m : List UInt8) (h : good l ≠ 0) : good (l ++ m) = good l := by
 have := good_self l (l.drop (good l) ++ m) h
 rwa [← List.append_assoc, List.take_append_drop] at this
def mark : List UInt8 := [239, 191, 189]
def chars : List UInt8 → List (List UInt8)
 | [] => []
 | b :: l => if h : good (b :: l) = 0 ∨ b = 0 then mark :: chars l else (b :: l).take (good (b :: l)) :: chars ((b :: l).drop (good (b :: l)))
termination_by l => l.length
decreasing_by
 ·simp
 ·have : good (b :: l) ≠ 0 := fun e => h (Or.inl e)
  simp; omega
theorem chars_nil : chars [] = [] := by rw [chars]
theorem chars_bad (b : UInt8) (l : List UInt8) (h : good (b :: l) = 0 ∨ b = 0) : chars (b :: l) = mark :: chars l := by rw [chars, dif_pos h]
theorem chars_ok (b : UInt8) (l : List UInt8) (h0 : good (b :: l) ≠ 0) (hb : b ≠ 0) : chars (b :: l) = (b :: l).take (good (b :: l)) :: chars ((b :: l).drop (good (b :: l))) := by
 rw [chars, dif_neg (by intro h; rcases h with h | h; exact h0 h; exact hb h)]
def clean (l : List UInt8) : List UInt8 := (chars l).flatten
def IsChar (c : List UInt8) : Prop := c ≠ [] ∧ good c = c.length ∧ c.head? ≠ some 0
theorem isChar_mark : IsChar mark := by refine ⟨by decide, by decide, by decide⟩
theorem isChar_take (b : UInt8) (l : List UInt8) (h0 : good (b :: l) ≠ 0) (hb : b ≠ 0) : IsChar ((b :: l).take (good (b :: l))) := by
 have hle := good_le (b :: l)
 have hs := good_self (b :: l) [] h0
 rw [List.append_nil] at hs
 refine ⟨?_, ?_, ?_⟩
 ·intro e
  have := congrArg List.length e
  simp at this
  omega
 ·rw [hs]; simp at hle ⊢; omega
 ·obtain ⟨k, hk⟩ : ∃ k, good (b :: l) = k + 1 := ⟨good (b :: l) - 1, by omega⟩
  rw [hk]; simpa using hb
theorem chars_isChar (l : List UInt8) : ∀ c ∈ chars l, IsChar c := by
 induction l using chars.induct with
 | case1 => rw [chars_nil]; intro c hc; cases hc
 | case2 b l h ih =>
  rw [chars_bad b l h]; intro c hc
  rcases List.mem_cons.1 hc with rfl | hc
  ·exact isChar_mark
  ·exact ih c hc
 | case3 b l h ih =>
  have h0 : good (b :: l) ≠ 0 := fun e => h (Or.inl e)
  have hb : b ≠ 0 := fun e => h (Or.inr e)
  rw [chars_ok b l h0 hb]; intro c hc
  rcases List.mem_cons.1 hc with rfl | hc
  ·exact isChar_take b l h0 hb
  ·exact ih c hc
theorem chars_char (c m : List UInt8) (h : IsChar c) : chars (c ++ m) = c :: chars m := by
 obtain ⟨hne, hg, hh⟩ := h
 cases c with
 | nil => exact absurd rfl hne
 | cons b t =>
  have h0 : good (b :: t) ≠ 0 := by rw [hg]; simp
  have hb : b ≠ 0 := by simpa using hh
  have hga : good (b :: t ++ m) = (b :: t).length := by rw [good_app _ _ h0, hg]
  have hga' : good (b :: (t ++ m)) = t.length + 1 := by simpa using hga
  rw [List.cons_append, chars_ok b (t ++ m) (by rw [hga']; omega) hb, hga']
  simp
theorem chars_flat (cs : List (List UInt8)) (m : List UInt8) (h : ∀ c ∈ cs, IsChar c) : chars (cs.flatten ++ m) = cs ++ chars m := by
 induction cs with
 | nil => simp
 | cons c cs ih =>
  rw [List.flatten_cons, List.append_assoc, chars_char _ _ (h c (by simp)), ih (fun x hx => h x (by simp [hx]))]
  simp
theorem chars_clean_app (l m : List UInt8) : chars (clean l ++ m) = chars l ++ chars m := chars_flat _ _ (chars_isChar l)
theorem chars_clean (l : List UInt8) : chars (clean l) = chars l := by
 have := chars_clean_app l []
 simpa [chars_nil] using this
theorem mark_len : mark.length = 3 := rfl
theorem chars_length (l : List UInt8) : (chars l).length ≤ l.length := by
 induction l using chars.induct with
 | case1 => simp [chars_nil]
 | case2 b l h ih => rw [chars_bad b l h]; simp; omega
 | case3 b l h ih =>
  have h0 : good (b :: l) ≠ 0 := fun e => h (Or.inl e)
  have hb : b ≠ 0 := fun e => h (Or.inr e)
  rw [chars_ok b l h0 hb]
  have := good_le (b :: l)
  simp at this ih ⊢; omega
theorem clean_length (l : List UInt8) : (clean l).length ≤ 3 * l.length := by
 unfold clean
 induction l using chars.induct with
 | case1 => simp [chars_nil]
 | case2 b l h ih => rw [chars_bad b l h]; simp [mark_len] at ih ⊢; omega
 | case3 b l h ih =>
  have h0 : good (b :: l) ≠ 0 := fun e => h (Or.inl e)
  have hb : b ≠ 0 := fun e => h (Or.inr e)
  rw [chars_ok b l h0 hb]
  have := good_le (b :: l)
  simp at this ih ⊢; omega
theorem isChar_ascii (x : UInt8) (hx : x.toNat < 128) (h0 : x ≠ 0) : IsChar [x] := by
 refine ⟨by simp, ?_, by simpa using h0⟩
 rw [good_eq]; unfold goodN; rw [if_pos]; · rfl
 ·simp [at']; omega
def val (c : List UInt8) : Nat :=
 match c with
 | [a] => a.toNat
 | [a, b] => (a.toNat - 192) * 64 + (b.toNat - 128)
 | [a, b, c] => ((a.toNat - 224) * 64 + (b.toNat - 128)) * 64 + (c.toNat - 128)
 | [a, b, c, d] => (((a.toNat - 240) * 64 + (b.toNat - 128)) * 64 + (c.toNat - 128)) * 64 + (d.toNat - 128)
 | _ => 0
def runes (l : List UInt8) : List Nat := (chars l).map val
theorem isChar_cases (c : List UInt8) (h : IsChar c) :
  (∃ a : UInt8, c = [a] ∧ 1 ≤ a.toNat ∧ a.toNat ≤ 127) ∨
  (∃ a b : UInt8, c = [a, b] ∧ 194 ≤ a.toNat ∧ a.toNat ≤ 223 ∧ 128 ≤ b.toNat ∧ b.toNat ≤ 191) ∨
  (∃ a b d : UInt8, c = [a, b, d] ∧ 128 ≤ d.toNat ∧ d.toNat ≤ 191 ∧ ((a.toNat = 224 ∧ 160 ≤ b.toNat ∧ b.toNat ≤ 191) ∨ (a.toNat = 237 ∧ 128 ≤ b.toNat ∧ b.toNat ≤ 159) ∨ (((225 ≤ a.toNat ∧ a.toNat ≤ 236) ∨ (238 ≤ a.toNat ∧ a.toNat ≤ 239)) ∧ 128 ≤ b.toNat ∧ b.toNat ≤ 191))) ∨
  (∃ a b d e : UInt8, c = [a, b, d, e] ∧ 128 ≤ d.toNat ∧ d.toNat ≤ 191 ∧ 128 ≤ e.toNat ∧ e.toNat ≤ 191 ∧ ((a.toNat = 240 ∧ 144 ≤ b.toNat ∧ b.toNat ≤ 191) ∨ (241 ≤ a.toNat ∧ a.toNat ≤ 243 ∧ 128 ≤ b.toNat ∧ b.toNat ≤ 191) ∨ (a.toNat = 244 ∧ 128 ≤ b.toNat ∧ b.toNat ≤ 143))) := by
 obtain ⟨hne, hg, hh⟩ := h
 have h4 := good_le4 c
 rw [good_eq] at hg h4
 match c, hne with
 | [a], _ =>
  left
  refine ⟨a, rfl, ?_, ?_⟩
  ·have : a ≠ 0 := by simpa using hh
   have h2 : a.toNat ≠ 0 := fun e => this (UInt8.toNat_inj.1 (by simpa using e))
   omega
  ·simp [at', goodN] at hg
   repeat' split at hg
   all_goals first | omega | simp at hg
 | [a, b], _ =>
  right; left
  refine ⟨a, b, rfl, ?_⟩
  simp [at', goodN] at hg
  repeat' split at hg
  all_goals first | omega | simp at hg
 | [a, b, d], _ =>
  right; right; left
  refine ⟨a, b, d, rfl, ?_⟩
  simp [at', goodN] at hg
  repeat' split at hg
  all_goals first | omega | simp at hg
 | [a, b, d, e], _ =>
  right; right; right
  refine ⟨a, b, d, e, rfl, ?_⟩
  simp [at', goodN] at hg
  repeat' split at hg
  all_goals first | omega | simp at hg
 | a :: b :: d :: e :: f :: t, _ =>
  rw [hg] at h4
  simp at h4
theorem val_1 (a : UInt8) : val [a] = a.toNat := rfl
theorem val_2 (a b : UInt8) : val [a, b] = (a.toNat - 192) * 64 + (b.toNat - 128) := rfl
theorem val_3 (a b c : UInt8) : val [a, b, c] = ((a.toNat - 224) * 64 + (b.toNat - 128)) * 64 + (c.toNat - 128) := rfl
theorem val_4 (a b c d : UInt8) : val [a, b, c, d] = (((a.toNat - 240) * 64 + (b.toNat - 128)) * 64 + (c.toNat - 128)) * 64 + (d.toNat - 128) := rfl
theorem val_range (c : List UInt8) (h : IsChar c) : 0 < val c ∧ val c ≤ 1114111 ∧ (val c < 55296 ∨ 57343 < val c) := by
 rcases isChar_cases c h with ⟨a, rfl, h⟩ | ⟨a, b, rfl, h⟩ | ⟨a, b, d, rfl, h⟩ | ⟨a, b, d, e, rfl, h⟩
 ·rw [val_1]; omega
 ·rw [val_2]; omega
 ·rw [val_3]; omega
 ·rw [val_4]; omega
def encN (c : Nat) : List UInt8 :=
 if c < 128 then [UInt8.ofNat c]
 else if c < 2048 then [UInt8.ofNat (192 + c / 64), UInt8.ofNat (128 + c % 64)]
 else if c < 65536 then [UInt8.ofNat (224 + c / 4096), UInt8.ofNat (128 + c / 64 % 64), UInt8.ofNat (128 + c % 64)]
 else [UInt8.ofNat (240 + c / 262144), UInt8.ofNat (128 + c / 4096 % 64), UInt8.ofNat (128 + c / 64 % 64), UInt8.ofNat (128 + c % 64)]
theorem decodeN_val (c : List UInt8) (m : List UInt8) (h : IsChar c) : Lib.decodeN (c ++ m).length (at' (c ++ m) 0) (at' (c ++ m) 1) (at' (c ++ m) 2) (at' (c ++ m) 3) = (val c, c.length) := by
 rcases isChar_cases c h with ⟨a, rfl, h⟩ | ⟨a, b, rfl, h⟩ | ⟨a, b, d, rfl, h⟩ | ⟨a, b, d, e, rfl, h⟩
 ·rw [val_1, show at' ([a] ++ m) 0 = a.toNat from rfl]
  unfold Lib.decodeN
  rw [if_pos (by omega)]; rfl
 ·rw [val_2, show at' ([a, b] ++ m) 0 = a.toNat from rfl, show at' ([a, b] ++ m) 1 = b.toNat from rfl, show ([a, b] ++ m).length = m.length + 2 from by simp]
  unfold Lib.decodeN
  rw [if_neg (by omega), if_pos (by omega), if_pos (by omega)]
  exact Prod.ext (by simp only; omega) rfl
 ·rw [val_3, show at' ([a, b, d] ++ m) 0 = a.toNat from rfl, show at' ([a, b, d] ++ m) 1 = b.toNat from rfl, show at' ([a, b, d] ++ m) 2 = d.toNat from rfl, show ([a, b, d] ++ m).length = m.length + 3 from by simp]
  unfold Lib.decodeN
  rw [if_neg (by omega), if_neg (by omega), if_pos (by omega), if_pos (by omega)]
  exact Prod.ext (by simp only; omega) rfl
 ·rw [val_4, show at' ([a, b, d, e] ++ m) 0 = a.toNat from rfl, show at' ([a, b, d, e] ++ m) 1 = b.toNat from rfl, show at' ([a, b, d, e] ++ m) 2 = d.toNat from rfl, show at' ([a, b, d, e] ++ m) 3 = e.toNat from rfl, show ([a, b, d, e] ++ m).length = m.length + 4 from by simp]
  unfold Lib.decodeN
  rw [if_neg (by omega), if_neg (by omega), if_neg (by omega), if_pos (by omega), if_pos (by omega)]
  exact Prod.ext (by simp only; omega) rfl
end Tx
end Go.Proofs.YtkiipaaaakhhfaaGreatDoor
end
section
namespace Go.Proofs.YtkiipaaaakhhfaaGreatDoor
open Go Go.RowKit
namespace Tx
set_option maxRecDepth 100000
set_option linter.unusedVariables false
def shS (c : Nat) : Nat := if c < 128 then 1 else if c < 194 then 0 else if c ≤ 223 then 2 else if c ≤ 239 then 3 else if c ≤ 244 then 4 else 0
def shLo (c : Nat) : Nat := if c < 194 then 0 else if c ≤ 223 then 128 else if c = 224 then 160 else if c ≤ 239 then 128 else if c = 240 then 144 else if c ≤ 244 then 128 else 0
def shHi (c : Nat) : Nat := if c < 194 then 0 else if c = 237 then 159 else if c ≤ 243 then 191 else if c = 244 then 143 else 0
theorem tup3 {a b c : Int} {x y z : Nat} (h1 : (x : Int) = a) (h2 : (y : Int) = b) (h3 : (z : Int) = c) : (.tuple #[.int .i64 a, .int .u8 b, .int .u8 c] : Value) = .tuple #[.int .i64 x, .int .u8 y, .int .u8 z] := by rw [h1, h2, h3]
set_option maxHeartbeats 1000000 in
theorem shape_any (c : Nat) (hc : c < 256) (w : World) :
  Calls Tryz.prog 224 #[.int .u8 (c : Int)] w fun e w' => e = .returned (.tuple #[.int .i64 (shS c : Nat), .int .u8 (shLo c : Nat), .int .u8 (shHi c : Nat)]) ∧ w = w' := by
 have e1 : 0 ≤ (c : Int) := by omega
 have e2 : (c : Int) ≤ 255 := by omega
 go_enter Tryz.func224, Tryz.ntmps224
 go_wp2
 all_goals (
  go_ret3
  refine ⟨congrArg Ending.returned (tup3 ?_ ?_ ?_), rfl⟩
  all_goals try simp only [beq_iff_eq, beq_eq_false_iff_ne] at *
  ·unfold shS; (repeat' split) <;> omega
  ·unfold shLo; (repeat' split) <;> omega
  ·unfold shHi; (repeat' split) <;> omega)
def Row (w : World) (b off : Nat) (l : List UInt8) : Prop := ∀ i, i < l.length → w.cell? ⟨b, off + i, none⟩ = some (.int .u8 (at' l i : Nat))
theorem Row.one {w : World} {b off : Nat} {l : List UInt8} (h : Row w b off l) (i : Nat) (hi : i < l.length) : w.cell? ⟨b, off + i, none⟩ = some (.int .u8 (at' l i : Nat)) := h i hi
theorem at_drop (l : List UInt8) (n i : Nat) : at' (l.drop n) i = at' l (n + i) := by simp [at', List.getD]
theorem Row.drop {w : World} {b off : Nat} {l : List UInt8} (h : Row w b off l) (n : Nat) : Row w b (off + n) (l.drop n) := by
 intro i hi
 rw [List.length_drop] at hi
 rw [at_drop, Nat.add_assoc]
 exact h (n + i) (by omega)
theorem ret_bool {a b : Bool} (h : a = b) : Ending.returned (.bool a) = .returned (.bool b) := by rw [h]
end Tx
end Go.Proofs.YtkiipaaaakhhfaaGreatDoor
end
section
namespace Go.Proofs.YtkiipaaaakhhfaaGreatDoor
open Go Go.RowKit
namespace Tx
set_option maxRecDepth 100000
set_option linter.unusedVariables false
set_option linter.unusedSimpArgs false
def Sl (w : World) (v : Value) (r : List UInt8) : Prop := ∃ (ao : Option Addr) (cap : Nat), v = .slice ao r.length cap ∧ r.length ≤ cap ∧ cap ≤ maxLen ∧ (r ≠ [] → ∃ b off, ao = some ⟨b, off, none⟩ ∧ Row w b off r)
theorem Row.lt {w : World} {b off : Nat} {l : List UInt8} (h : Row w b off l) (hne : l ≠ []) : b < w.heap.size := by
 have h0 := h 0 (List.length_pos_iff.2 hne)
 rcases Nat.lt_or_ge b w.heap.size with h' | h'
 ·exact h'
 ·simp [World.cell?, Array.getElem?_eq_none h'] at h0
theorem Row.below {w w' : World} {B b off : Nat} {l : List UInt8} (h : Row w b off l) (hb : b < B) (hB : Below B w w') : Row w' b off l := by
 intro i hi
 rw [hB.cell (p := ⟨b, off + i, none⟩) hb]; exact h i hi
theorem Row.below' {w w' : World} {b off : Nat} {l : List UInt8} (h : Row w b off l) (hB : Below w.heap.size w w') : Row w' b off l := by
 by_cases hne : l = []
 ·subst hne; intro i hi; simp at hi
 ·exact h.below (h.lt hne) hB
theorem Sl.below {w w' : World} {v : Value} {r : List UInt8} (h : Sl w v r) (hB : Below w.heap.size w w') : Sl w' v r := by
 obtain ⟨ao, cap, rfl, h1, h2, h4⟩ := h
 exact ⟨ao, cap, rfl, h1, h2, fun ha => by obtain ⟨b, off, e, hr⟩ := h4 ha; exact ⟨b, off, e, hr.below' hB⟩⟩
theorem add_eq (b off j : Nat) : (⟨b, off, none⟩ : Addr).add j = ⟨b, off + j, none⟩ := by
 unfold Addr.add
 split
 ·subst_vars; rfl
 ·rfl
theorem Sl.cell {w : World} {b off : Nat} {x : UInt8} {t : List UInt8} (h : Row w b off (x :: t)) : w.cell? ⟨b, off, none⟩ = some (.int .u8 (x.toNat : Nat)) := by
 have := h 0 (by simp)
 simpa [at'] using this
theorem row_cells {w : World} {b off : Nat} {r : List UInt8} (h : Row w b off r) (n : Nat) (hn : n ≤ r.length) : ∀ j u, (Lib.byteCells (r.take n))[j]? = some u → w.cell? ((⟨b, off, none⟩ : Addr).add j) = some u := by
 intro j u hu
 have hj : j < n := by
  have := (List.getElem?_eq_some_iff.1 hu).1
  simp [Lib.byteCells] at this; omega
 simp [Lib.byteCells, List.getElem?_take, hj] at hu
 have := h j (by omega)
 rw [add_eq, this]
 have e : r[j]? = some r[j] := List.getElem?_eq_getElem (by omega)
 rw [e] at hu
 simp at hu
 simp [at', List.getD, e, hu]
theorem byteCells_one (l : List UInt8) : ∀ u ∈ Lib.byteCells l, u.oneCell' = true := by
 intro u hu
 simp only [Lib.byteCells, List.mem_map] at hu
 obtain ⟨b, _, rfl⟩ := hu
 rfl
theorem Sl.cut {w : World} {b off cap : Nat} {r : List UInt8} (h : Row w b off r) (h1 : r.length ≤ cap) (h2 : cap ≤ maxLen) (n m : Nat) (hn : n ≤ r.length) (hm : m = r.length - n) :
  Sl w (.slice (if cap = n then some ⟨b, off, none⟩ else some ⟨b, off + n, none⟩) m (cap - n)) (r.drop n) := by
 subst hm
 by_cases e : cap = n
 ·rw [if_pos e]
  have h0 : r.drop n = [] := List.drop_eq_nil_of_le (by omega)
  exact ⟨some ⟨b, off, none⟩, cap - n, by simp, by simp; omega, by omega, fun hne => absurd h0 hne⟩
 ·rw [if_neg e]
  exact ⟨some ⟨b, off + n, none⟩, cap - n, by simp, by simp; omega, by omega, fun _ => ⟨b, off + n, rfl, h.drop n⟩⟩
theorem u8_ne0 {x : UInt8} (h : x ≠ 0) : x.toNat ≠ 0 := fun e => h (UInt8.toNat_inj.1 (by simpa using e))
end Tx
end Go.Proofs.YtkiipaaaakhhfaaGreatDoor
end
section
namespace Go.Proofs.YtkiipaaaakhhfaaGreatDoor
open Go Go.RowKit
namespace Tx
set_option maxRecDepth 100000
set_option linter.unusedVariables false
set_option linter.unusedSimpArgs false
theorem sh_cases (c : Nat) : (c < 128 ∧ shS c = 1) ∨ ((128 ≤ c ∧ c < 194 ∨ 245 ≤ c) ∧ shS c = 0) ∨ (194 ≤ c ∧ c ≤ 223 ∧ shS c = 2 ∧ shLo c = 128 ∧ shHi c = 191) ∨ (c = 224 ∧ shS c = 3 ∧ shLo c = 160 ∧ shHi c = 191) ∨
  (c = 237 ∧ shS c = 3 ∧ shLo c = 128 ∧ shHi c = 159) ∨ ((225 ≤ c ∧ c ≤ 236 ∨ 238 ≤ c ∧ c ≤ 239) ∧ shS c = 3 ∧ shLo c = 128 ∧ shHi c = 191) ∨ (c = 240 ∧ shS c = 4 ∧ shLo c = 144 ∧ shHi c = 191) ∨
  (241 ≤ c ∧ c ≤ 243 ∧ shS c = 4 ∧ shLo c = 128 ∧ shHi c = 191) ∨ (c = 244 ∧ shS c = 4 ∧ shLo c = 128 ∧ shHi c = 143) := by
 have hc : c < 128 ∨ (128 ≤ c ∧ c < 194 ∨ 245 ≤ c) ∨ (194 ≤ c ∧ c ≤ 223) ∨ c = 224 ∨ c = 237 ∨ (225 ≤ c ∧ c ≤ 236 ∨ 238 ≤ c ∧ c ≤ 239) ∨ c = 240 ∨ (241 ≤ c ∧ c ≤ 243) ∨ c = 244 := by omega
 rcases hc with h | h | h | h | h | h | h | h | h
 ·exact Or.inl ⟨h, by unfold shS; (repeat' split) <;> omega⟩
 ·exact Or.inr (Or.inl ⟨h, by unfold shS; (repeat' split) <;> omega⟩)
 ·exact Or.inr (Or.inr (Or.inl ⟨h.1, h.2, by unfold shS; (repeat' split) <;> omega, by unfold shLo; (repeat' split) <;> omega, by unfold shHi; (repeat' split) <;> omega⟩))
 ·subst h; decide
 ·subst h; decide
 ·exact Or.inr (Or.inr (Or.inr (Or.inr (Or.inr (Or.inl ⟨h, by unfold shS; (repeat' split) <;> omega, by unfold shLo; (repeat' split) <;> omega, by unfold shHi; (repeat' split) <;> omega⟩)))))
 ·subst h; decide
 ·exact Or.inr (Or.inr (Or.inr (Or.inr (Or.inr (Or.inr (Or.inr (Or.inl ⟨h.1, h.2, by unfold shS; (repeat' split) <;> omega, by unfold shLo; (repeat' split) <;> omega, by unfold shHi; (repeat' split) <;> omega⟩)))))))
 ·subst h; decide
def loJ (c j : Nat) : Nat := if j = 0 then shLo c else 128
def hiJ (c j : Nat) : Nat := if j = 0 then shHi c else 191
def okB (c j v : Nat) : Prop := loJ c j ≤ v ∧ v ≤ hiJ c j
theorem okB_0 (c v : Nat) : okB c 0 v ↔ shLo c ≤ v ∧ v ≤ shHi c := Iff.rfl
theorem okB_1 (c v : Nat) : okB c 1 v ↔ 128 ≤ v ∧ v ≤ 191 := Iff.rfl
theorem okB_2 (c v : Nat) : okB c 2 v ↔ 128 ≤ v ∧ v ≤ 191 := Iff.rfl
theorem good_cons (x : UInt8) (t : List UInt8) : good (x :: t) = goodN (t.length + 1) x.toNat (at' t 0) (at' t 1) (at' t 2) := good_eq _
theorem good_short (x : UInt8) (t : List UInt8) (h : shS x.toNat = 0 ∨ t.length + 1 < shS x.toNat) : good (x :: t) = 0 := by
 rw [good_cons]
 generalize x.toNat = c at *
 generalize at' t 0 = a1
 generalize at' t 1 = a2
 generalize at' t 2 = a3
 generalize t.length = n at *
 unfold goodN
 rcases sh_cases c with h1 | h1 | h1 | h1 | h1 | h1 | h1 | h1 | h1
 all_goals rw [if_neg (by omega), if_neg (by omega), if_neg (by omega), if_neg (by omega)]
theorem good_all (x : UInt8) (t : List UInt8) (h0 : shS x.toNat ≠ 0) (hl : shS x.toNat ≤ t.length + 1) (h : ∀ j, j + 1 < shS x.toNat → okB x.toNat j (at' t j)) : good (x :: t) = shS x.toNat := by
 rw [good_cons]
 have j0 := h 0
 have j1 := h 1
 have j2 := h 2
 clear h
 rw [okB_0] at j0
 rw [okB_1] at j1
 rw [okB_2] at j2
 generalize x.toNat = c at *
 generalize at' t 0 = a1 at *
 generalize at' t 1 = a2 at *
 generalize at' t 2 = a3 at *
 generalize t.length = n at *
 unfold goodN
 rcases sh_cases c with h1 | h1 | h1 | h1 | h1 | h1 | h1 | h1 | h1
 ·rw [if_pos (by omega)]; omega
 ·omega
 ·have := j0 (by omega); rw [if_neg (by omega), if_pos (by omega)]; omega
 ·have := j0 (by omega); have := j1 (by omega); rw [if_neg (by omega), if_neg (by omega), if_pos (by omega)]; omega
 ·have := j0 (by omega); have := j1 (by omega); rw [if_neg (by omega), if_neg (by omega), if_pos (by omega)]; omega
 ·have := j0 (by omega); have := j1 (by omega); rw [if_neg (by omega), if_neg (by omega), if_pos (by omega)]; omega
 ·have := j0 (by omega); have := j1 (by omega); have := j2 (by omega); rw [if_neg (by omega), if_neg (by omega), if_neg (by omega), if_pos (by omega)]; omega
 ·have := j0 (by omega); have := j1 (by omega); have := j2 (by omega); rw [if_neg (by omega), if_neg (by omega), if_neg (by omega), if_pos (by omega)]; omega
 ·have := j0 (by omega); have := j1 (by omega); have := j2 (by omega); rw [if_neg (by omega), if_neg (by omega), if_neg (by omega), if_pos (by omega)]; omega
theorem good_not (x : UInt8) (t : List UInt8) (j : Nat) (hj : j + 1 < shS x.toNat) (h : ¬ okB x.toNat j (at' t j)) : good (x :: t) = 0 := by
 rw [good_cons]
 have hs4 : shS x.toNat ≤ 4 := by rcases sh_cases x.toNat with h1 | h1 | h1 | h1 | h1 | h1 | h1 | h1 | h1 <;> omega
 have hj3 : j = 0 ∨ j = 1 ∨ j = 2 := by omega
 rcases hj3 with rfl | rfl | rfl
 all_goals
  first | rw [okB_0] at h | rw [okB_1] at h | rw [okB_2] at h
  generalize x.toNat = c at *
  generalize at' t 0 = a1 at *
  generalize at' t 1 = a2 at *
  generalize at' t 2 = a3 at *
  generalize t.length = n at *
  unfold goodN
  rcases sh_cases c with h1 | h1 | h1 | h1 | h1 | h1 | h1 | h1 | h1
  all_goals first | (exfalso; omega) | rw [if_neg (by omega), if_neg (by omega), if_neg (by omega), if_neg (by omega)]
def Bld (B : Nat) (bs : List UInt8) (w : World) : Prop := Lib.IsBuilder 132 5 B B (Lib.byteCells bs) w
theorem crel_bad {w wr w2 : World} {l acc t : List UInt8} {x : UInt8} {p k : Nat} (hbad : good (x :: t) = 0 ∨ x = 0) (hxt : l.drop p = x :: t) (hpk : p + (k + 1) = l.length) (hacc : acc ++ clean (x :: t) = clean l) (hal : acc.length ≤ 3 * p)
  (hbw : Below w.heap.size w wr) (hb : Lib.BuilderAt 132 5 w.heap.size w.heap.size (.pointer (some ⟨w.heap.size, 0, none⟩)) (Lib.byteCells acc ++ Lib.strCells ⟨#[239, 191, 189]⟩) w2) (hbw2 : Below w.heap.size wr w2) :
  ∃ (p' : Nat) (acc : List UInt8), p' + k = l.length ∧ Value.int .i64 ((p : Int) + 1) = .int .i64 p' ∧ Bld w.heap.size acc w2 ∧ acc ++ clean (l.drop p') = clean l ∧ Below w.heap.size w w2 ∧ acc.length ≤ 3 * p' := by
 refine ⟨p + 1, acc ++ mark, by omega, by rw [show ((p + 1 : Nat) : Int) = (p : Int) + 1 from by omega], ?_, ?_, hbw.trans hbw2, by simp [mark]; omega⟩
 ·refine Or.inr ?_
  simpa [Lib.byteCells, Lib.strCells, mark] using hb
 ·rw [← hacc, show l.drop (p + 1) = t from by rw [← List.drop_drop, hxt]; rfl]
  unfold clean; rw [chars_bad x t hbad]; simp
theorem crel_good {w wr w2 : World} {l acc t : List UInt8} {x : UInt8} {p k sz : Nat} (hgood : good (x :: t) = sz) (hs0 : sz ≠ 0) (hx : x ≠ 0) (hxt : l.drop p = x :: t) (hpk : p + (k + 1) = l.length) (hacc : acc ++ clean (x :: t) = clean l) (hal : acc.length ≤ 3 * p)
  (hbw : Below w.heap.size w wr) (hb : Lib.BuilderAt 132 5 w.heap.size w.heap.size (.pointer (some ⟨w.heap.size, 0, none⟩)) (Lib.byteCells acc ++ Lib.byteCells ((x :: t).take sz)) w2) (hbw2 : Below w.heap.size wr w2) :
  ∃ (p' : Nat) (acc : List UInt8), p' + (k + 1 - sz) = l.length ∧ Value.int .i64 ((p : Int) + sz) = .int .i64 p' ∧ Bld w.heap.size acc w2 ∧ acc ++ clean (l.drop p') = clean l ∧ Below w.heap.size w w2 ∧ acc.length ≤ 3 * p' := by
 have hgl := good_le (x :: t)
 have htl : (x :: t).length = k + 1 := by rw [← hxt, List.length_drop]; omega
 subst hgood
 refine ⟨p + good (x :: t), acc ++ (x :: t).take (good (x :: t)), by omega, by rw [show ((p + good (x :: t) : Nat) : Int) = (p : Int) + good (x :: t) from by omega], ?_, ?_, hbw.trans hbw2, by simp; omega⟩
 ·refine Or.inr ?_
  simpa [Lib.byteCells] using hb
 ·rw [← hacc, ← List.drop_drop, hxt]
  unfold clean; rw [chars_ok x t hs0 hx]; simp
theorem strsz : (⟨#[239, 191, 189]⟩ : ByteArray).size = 3 := rfl
set_option maxHeartbeats 1000000 in
theorem clean_any (l : List UInt8) (v : Value) (w : World) (hv : Sl w v l) (hl : l.length ≤ 1099511627776) :
  Calls Tryz.prog 207 #[v] w fun e w' => e = .returned (.string ⟨(clean l).toArray⟩) ∧ Below w.heap.size w w' := by
 obtain ⟨ao, cap, rfl, hrc, hcm, hrow⟩ := hv
 have Hrow := Lib.hid hrow
 clear hrow
 unfold maxLen at hcm
 go_enter Tryz.func207, Tryz.ntmps207
 go_wp2
 go_step3
 go_wp2_with (go_at_call 130; refine (Tryz.Builder_Grow_fresh w.heap.size w.heap.size l.length _ (Nat.le_refl _) ?g1 ?g2 ?g3).mono ?_)
 case g1 => simp only [World.alloc, Array.getElem?_push_size]
 case g2 => simp
 case g3 => omega
 rintro e w1 ⟨rfl, hb1, hbw1⟩
 go_wp2
 go_step3
 go_wp2
 have hbw0 : Below w.heap.size w w1 := ((Below.refl _ w).alloc (Nat.le_refl _) _).trans hbw1
 clear hbw1
 go_loopg [4] l.length (fun k s4 wr => ∃ (p : Nat) (acc : List UInt8), p + k = l.length ∧ s4 = .int .i64 p ∧ Bld w.heap.size acc wr ∧ acc ++ clean (l.drop p) = clean l ∧ Below w.heap.size w wr ∧ acc.length ≤ 3 * p)
 case atStart => exact ⟨0, [], by omega, rfl, Or.inr hb1, by simp, hbw0, by simp⟩
 case round =>
  obtain ⟨p, acc, hpk, rfl, hB, hacc, hbw, hal⟩ := hrel
  have hsz := hbw.size
  cases gk with
  | zero =>
   have hpl : ¬ ((p : Int) < (l.length : Int)) := by omega
   go_wp2_with (go_at_call 117; refine (Tryz.Builder_String_any w.heap.size w.heap.size acc _ hB hsz).mono ?_; rintro e w2 ⟨rfl, hb2⟩)
   try rw [Exit.noGoto_ret]
   go_ret
   rw [List.drop_eq_nil_of_le (by omega), clean, chars_nil] at hacc
   simp at hacc
   exact ⟨by rw [← hacc]; rfl, hbw.trans hb2⟩
  | succ k =>
   have hpl : (p : Int) < (l.length : Int) := by omega
   obtain ⟨b, off, rfl, hr⟩ := Hrow.out (by intro e; subst e; simp at hpk)
   have hrw := hr.below' hbw
   obtain ⟨x, t, hxt⟩ : ∃ x t, l.drop p = x :: t := by
    cases h : l.drop p with
    | nil => have := congrArg List.length h; simp at this; omega
    | cons x t => exact ⟨x, t, rfl⟩
   have hrd := hrw.drop p
   rw [hxt] at hrd
   have htl : t.length + 1 + p = l.length := by have := congrArg List.length hxt; simp at this; omega
   have hc0 := Sl.cell hrd
   have hx256 : x.toNat < 256 := UInt8.toNat_lt x
   have SH := Lib.hid (shape_any x.toNat hx256 wr)
   rw [hxt] at hacc
   have Hxt := Lib.hid hxt
   have Hrd := Lib.hid hrd
   have Hblt := Lib.hid (hr.lt (by intro e; subst e; simp at hpk))
   clear hxt hrd hr hrw
   have hs4 : shS x.toNat ≤ 4 := by rcases sh_cases x.toNat with h1 | h1 | h1 | h1 | h1 | h1 | h1 | h1 | h1 <;> omega
   obtain ⟨sz, hsz'⟩ : ∃ sz, shS x.toNat = sz := ⟨_, rfl⟩
   obtain ⟨lo, hlo'⟩ : ∃ lo, shLo x.toNat = lo := ⟨_, rfl⟩
   obtain ⟨hi, hhi'⟩ : ∃ hi, shHi x.toNat = hi := ⟨_, rfl⟩
   rw [hsz', hlo', hhi'] at SH
   rw [hsz'] at hs4
   have Hsz := Lib.hid hsz'
   have Hlo := Lib.hid hlo'
   have Hhi := Lib.hid hhi'
   clear hsz' hlo' hhi'
   by_cases hshort : sz = 0 ∨ t.length + 1 < sz
   ·by_cases hs0 : sz = 0
    ·subst hs0
     go_wp2_with (first
      | (go_at_call 224; refine SH.out.mono ?_; rintro e w' ⟨rfl, rfl⟩)
      | (go_at_call 115; refine (Tryz.Builder_WriteString w.heap.size w.heap.size _ _ _ hB ?a1 hsz).mono ?_))
     case a1 => rw [Lib.byteCells_length, strsz]; omega
     rintro e w2 ⟨rfl, hb2, hbw2⟩
     go_wp2
     go_roundg k
     case rel => exact crel_bad (Or.inl (good_short x t (Or.inl Hsz.out))) Hxt.out hpk hacc hal hbw hb2 hbw2
     case measure => omega
    ·have hsb : ((sz : Int) == 0) = false := by simp; omega
     have hgt : (l.length : Int) - (p : Int) < (sz : Int) := by omega
     have Hshort := Lib.hid hshort
     clear hshort
     go_wp2_with (first
      | (go_at_call 224; refine SH.out.mono ?_; rintro e w' ⟨rfl, rfl⟩)
      | (go_at_call 115; refine (Tryz.Builder_WriteString w.heap.size w.heap.size _ _ _ hB ?a2 hsz).mono ?_))
     case a2 => rw [Lib.byteCells_length, strsz]; omega
     rintro e w2 ⟨rfl, hb2, hbw2⟩
     go_wp2
     go_roundg k
     case rel => exact crel_bad (Or.inl (good_short x t (by rw [Hsz.out]; exact Hshort.out))) Hxt.out hpk hacc hal hbw hb2 hbw2
     case measure => omega
   ·have hsb : ((sz : Int) == 0) = false := by simp; omega
    have hgt : (sz : Int) ≤ (l.length : Int) - (p : Int) := by omega
    have hs0 : 0 < sz := by omega
    have hszl : sz ≤ t.length + 1 := by omega
    clear hshort
    by_cases h1 : sz = 1
    ·subst h1
     have hgd : Hid (good (x :: t) = 1) := Lib.hid (by rw [← Hsz.out]; exact good_all x t (by rw [Hsz.out]; decide) (by rw [Hsz.out]; omega) (fun j hj => absurd hj (by rw [Hsz.out]; omega)))
     have WR := Lib.hid (fun c => Tryz.Builder_Write w.heap.size w.heap.size _ ⟨b, off + p, none⟩ 1 c (Lib.byteCells ((x :: t).take 1)) _ hB (by simp [Lib.byteCells]) (row_cells Hrd.out 1 (by simp)) (Hblt.out) (byteCells_one _) (by rw [Lib.byteCells_length]; omega) hsz)
     have hcp : ¬ cap = p := by omega
     by_cases hx : x = 0
     ·have hx0 : ((x.toNat : Int) == 0) = true := by subst hx; rfl
      have Hx := Lib.hid hx
      clear hx
      by_cases hcap : p + 1 = cap
      ·have hcp1 : cap - p = 1 := by omega
       go_wp2_with (go_at_call 224; refine SH.out.mono ?_; rintro e w' ⟨rfl, rfl⟩)
       go_loopg [4, 47] 0 (fun g s4 s47 wx => g = 0 ∧ s4 = .int .i64 p ∧ s47 = .int .i64 0 ∧ wx = wr)
       case atStart => exact ⟨rfl, rfl, rfl, rfl⟩
       case round =>
        obtain ⟨rfl, rfl, rfl, rfl⟩ := hrel
        go_wp2_with (go_at_call 115; refine (Tryz.Builder_WriteString w.heap.size w.heap.size _ _ _ hB (by rw [Lib.byteCells_length, strsz]; omega) hsz).mono ?_; rintro e w2 ⟨rfl, hb2, hbw2⟩)
        go_roundg k
        case rel => exact crel_bad (Or.inr Hx.out) Hxt.out hpk hacc hal hbw hb2 hbw2
        case measure => omega
      ·have hcap' : ¬ cap = p + 1 := fun e => hcap e.symm
       clear hcap
       go_wp2_with (go_at_call 224; refine SH.out.mono ?_; rintro e w' ⟨rfl, rfl⟩)
       go_loopg [4, 47] 0 (fun g s4 s47 wx => g = 0 ∧ s4 = .int .i64 p ∧ s47 = .int .i64 0 ∧ wx = wr)
       case atStart => exact ⟨rfl, rfl, rfl, rfl⟩
       case round =>
        obtain ⟨rfl, rfl, rfl, rfl⟩ := hrel
        go_wp2_with (go_at_call 115; refine (Tryz.Builder_WriteString w.heap.size w.heap.size _ _ _ hB (by rw [Lib.byteCells_length, strsz]; omega) hsz).mono ?_; rintro e w2 ⟨rfl, hb2, hbw2⟩)
        go_roundg k
        case rel => exact crel_bad (Or.inr Hx.out) Hxt.out hpk hacc hal hbw hb2 hbw2
        case measure => omega
     ·have hx0 : ((x.toNat : Int) == 0) = false := by have := u8_ne0 hx; simp; omega
      have Hx := Lib.hid hx
      clear hx
      by_cases hcap : p + 1 = cap
      ·have hcp1 : cap - p = 1 := by omega
       go_wp2_with (go_at_call 224; refine SH.out.mono ?_; rintro e w' ⟨rfl, rfl⟩)
       go_loopg [4, 47] 0 (fun g s4 s47 wx => g = 0 ∧ s4 = .int .i64 p ∧ s47 = .int .i64 0 ∧ wx = wr)
       case atStart => exact ⟨rfl, rfl, rfl, rfl⟩
       case round =>
        obtain ⟨rfl, rfl, rfl, rfl⟩ := hrel
        go_wp2_with (go_at_call 225; refine (WR.out _).mono ?_; rintro e w2 ⟨rfl, hb2, hbw2⟩)
        go_roundg k
        case rel => exact crel_good hgd.out (by decide) Hx.out Hxt.out hpk hacc hal hbw hb2 hbw2
        case measure => omega
      ·have hcap' : ¬ cap = p + 1 := fun e => hcap e.symm
       clear hcap
       go_wp2_with (go_at_call 224; refine SH.out.mono ?_; rintro e w' ⟨rfl, rfl⟩)
       go_loopg [4, 47] 0 (fun g s4 s47 wx => g = 0 ∧ s4 = .int .i64 p ∧ s47 = .int .i64 0 ∧ wx = wr)
       case atStart => exact ⟨rfl, rfl, rfl, rfl⟩
       case round =>
        obtain ⟨rfl, rfl, rfl, rfl⟩ := hrel
        go_wp2_with (go_at_call 225; refine (WR.out _).mono ?_; rintro e w2 ⟨rfl, hb2, hbw2⟩)
        go_roundg k
        case rel => exact crel_good hgd.out (by decide) Hx.out Hxt.out hpk hacc hal hbw hb2 hbw2
        case measure => omega
    ·have h2 : 2 ≤ sz := by omega
     have hx : x ≠ 0 := by
      intro e
      have h194 : 128 ≤ x.toNat := by
       have := Hsz.out
       rcases sh_cases x.toNat with h | h | h | h | h | h | h | h | h <;> omega
      subst e
      exact absurd h194 (by decide)
     have hx0 : ((x.toNat : Int) == 0) = false := by have := u8_ne0 hx; simp; omega
     have Hx := Lib.hid hx
     clear hx h1
     have hcap' : ¬ cap = p + 1 := by omega
     have hcp : ¬ cap = p := by omega
     have WR := Lib.hid (fun (_ : good (x :: t) = sz) => fun c => Tryz.Builder_Write w.heap.size w.heap.size _ ⟨b, off + p, none⟩ sz c (Lib.byteCells ((x :: t).take sz)) _ hB (by simp [Lib.byteCells]; omega) (row_cells Hrd.out sz (by simp; omega)) (Hblt.out) (byteCells_one _) (by rw [Lib.byteCells_length]; omega) hsz)
     have Hcell : Hid (∀ i, i < t.length → wr.cell? ⟨b, off + (p + 1) + i, none⟩ = some (.int .u8 (at' t i : Nat))) := Lib.hid (by
      intro i hi
      have := Hrd.out (i + 1) (by simp; omega)
      rw [show off + (p + 1) + i = off + p + (i + 1) from by omega, this]; rfl)
     go_wp2_with (go_at_call 224; refine SH.out.mono ?_; rintro e w' ⟨rfl, rfl⟩)
     obtain ⟨w0, rfl⟩ : ∃ w0 : World, w0 = wr := ⟨_, rfl⟩
     go_loopg [4, 6, 7, 47] (sz - 1) (fun g s4 s6 s7 s47 wx => ∃ i : Nat, i + g = sz - 1 ∧ s4 = .int .i64 p ∧ s6 = .int .u8 (loJ x.toNat i : Nat) ∧ s7 = .int .u8 (hiJ x.toNat i : Nat) ∧ s47 = .int .i64 i ∧ Hid (∀ j, j < i → okB x.toNat j (at' t j)) ∧ wx = w0)
     case atStart => exact ⟨0, by omega, rfl, by rw [← Hlo.out]; rfl, by rw [← Hhi.out]; rfl, rfl, Lib.hid (fun j hj => by omega), rfl⟩
     case round =>
      obtain ⟨i, hig, rfl, rfl, rfl, rfl, HOK, rfl⟩ := hrel
      cases gk with
      | zero =>
       have hii : ¬ (i : Int) < (sz : Int) - 1 := by omega
       have hgd : Hid (good (x :: t) = sz) := Lib.hid (by
        rw [← Hsz.out]; exact good_all x t (by rw [Hsz.out]; omega) (by rw [Hsz.out]; omega) (fun j hj => HOK.out j (by rw [Hsz.out] at hj; omega)))
       have HW := Lib.hid (WR.out hgd.out)
       go_wp2_with (go_at_call 225; refine (HW.out _).mono ?_; rintro e w2 ⟨rfl, hb2, hbw2⟩)
       go_roundg (k + 1 - sz)
       case rel => exact crel_good hgd.out (by omega) Hx.out Hxt.out hpk hacc hal hbw hb2 hbw2
       case measure => omega
      | succ g =>
       have hii : (i : Int) < (sz : Int) - 1 := by omega
       have hcl := Hcell.out i (by omega)
       have hv := at_lt t i
       by_cases hok : okB x.toNat i (at' t i)
       ·have HO := Lib.hid hok
        have h1 := hok.1
        have h2 := hok.2
        clear hok
        generalize hgen : at' t i = v at *
        have Hgen := Lib.hid hgen
        clear hgen
        go_wp2_with fail
        go_roundg g
        case rel =>
         refine ⟨i + 1, by omega, rfl, by simp [loJ], by simp [hiJ], by go_num, Lib.hid (fun j hj => ?_), rfl⟩
         by_cases hji : j = i
         ·subst hji; rw [Hgen.out]; exact HO.out
         ·exact HOK.out j (by omega)
        case measure => omega
       ·have hgd : Hid (good (x :: t) = 0) := Lib.hid (good_not x t i (by rw [Hsz.out]; omega) hok)
        have hor : at' t i < loJ x.toNat i ∨ (loJ x.toNat i ≤ at' t i ∧ hiJ x.toNat i < at' t i) := by
         unfold okB at hok; omega
        clear hok
        generalize at' t i = v at *
        generalize loJ x.toNat i = lj at *
        generalize hiJ x.toNat i = hj at *
        rcases hor with hv1 | ⟨hv1, hv2⟩
        ·go_wp2_with (go_at_call 115; refine (Tryz.Builder_WriteString w.heap.size w.heap.size _ _ _ hB (by rw [Lib.byteCells_length, strsz]; omega) hsz).mono ?_; rintro e w2 ⟨rfl, hb2, hbw2⟩)
         go_roundg k
         case rel => exact crel_bad (Or.inl hgd.out) Hxt.out hpk hacc hal hbw hb2 hbw2
         case measure => omega
        ·go_wp2_with (go_at_call 115; refine (Tryz.Builder_WriteString w.heap.size w.heap.size _ _ _ hB (by rw [Lib.byteCells_length, strsz]; omega) hsz).mono ?_; rintro e w2 ⟨rfl, hb2, hbw2⟩)
         go_roundg k
         case rel => exact crel_bad (Or.inl hgd.out) Hxt.out hpk hacc hal hbw hb2 hbw2
         case measure => omega
end Tx
end Go.Proofs.YtkiipaaaakhhfaaGreatDoor
end
section
namespace Go.Proofs.YtkiipaaaakhhfaaGreatDoor
open Go Go.RowKit
namespace Tx
set_option maxRecDepth 100000
set_option linter.unusedVariables false
set_option linter.unusedSimpArgs false
def str (l : List UInt8) : Value := .string ⟨l.toArray⟩
theorem ext_of (s : ByteArray) (a b : Nat) (l : List UInt8) (h : (s.data.toList.drop a).take (b - a) = l) : s.extract a b = ⟨l.toArray⟩ := by
 have := Lib.extract_data s a b
 rw [h] at this
 cases hx : s.extract a b with
 | mk d => rw [hx] at this; simp at this; rw [← this]
theorem size_mk (l : List UInt8) : (⟨l.toArray⟩ : ByteArray).size = l.length := by rfl
theorem below_drewN {B : Nat} {a w : World} (h : Below B a w) (n : Nat) : Below B a (w.drewN n) := h.trans ⟨rfl, rfl, rfl, Nat.le_refl _, fun _ _ => rfl⟩
def SSl (w : World) (v : Value) (L : List (List UInt8)) : Prop := ∃ (ao : Option Addr) (cap : Nat), v = .slice ao L.length cap ∧ L.length ≤ 9223372036854775807 ∧ (L ≠ [] → ∃ b off, ao = some ⟨b, off, none⟩ ∧ ∀ i (h : i < L.length), w.cell? ⟨b, off + i, none⟩ = some (str L[i]))
theorem cell_lt {w : World} {b o : Nat} {x : Value} (h : w.cell? ⟨b, o, none⟩ = some x) : b < w.heap.size := by
 rcases Nat.lt_or_ge b w.heap.size with h' | h'
 ·exact h'
 ·simp [World.cell?, Array.getElem?_eq_none h'] at h
theorem SSl.below {w w' : World} {v : Value} {L : List (List UInt8)} (h : SSl w v L) (hB : Below w.heap.size w w') : SSl w' v L := by
 obtain ⟨ao, cap, rfl, hl, hr⟩ := h
 refine ⟨ao, cap, rfl, hl, fun hne => ?_⟩
 obtain ⟨b, off, e, hc⟩ := hr hne
 exact ⟨b, off, e, fun i hi => by have := hc i hi; rw [hB.cell (p := ⟨b, off + i, none⟩) (cell_lt this)]; exact this⟩
theorem ssl_new (w : World) (L : List (List UInt8)) (hl : L.length ≤ 1000) : SSl (w.alloc (.cells (L.map str).toArray 9)) (.slice (some ⟨w.heap.size, 0, none⟩) L.length L.length) L := by
 refine ⟨_, _, rfl, by omega, fun _ => ⟨w.heap.size, 0, rfl, fun i hi => ?_⟩⟩
 rw [World.cell?_alloc_new]
 simp [List.getElem?_eq_getElem hi]
end Tx
end Go.Proofs.YtkiipaaaakhhfaaGreatDoor
end
section
set_option linter.unusedVariables false
set_option linter.unusedSimpArgs false
namespace Go.Proofs.YtkiipaaaakhhfaaGreatDoor
namespace Tx
def isEnd (c : UInt8) : Bool := c == 10 || c == 13
def lineOf (l : List UInt8) : List UInt8 := l.takeWhile (fun c => !isEnd c)
def cutEnd : List UInt8 → List UInt8
 | [] => []
 | 13 :: 10 :: t => t
 | _ :: t => t
def restOf (l : List UInt8) : List UInt8 := cutEnd (l.dropWhile (fun c => !isEnd c))
theorem cutEnd_le (l : List UInt8) : (cutEnd l).length ≤ l.length - 1 := by
 unfold cutEnd; split <;> simp <;> omega
theorem dropWhile_le (p : UInt8 → Bool) (l : List UInt8) : (l.dropWhile p).length ≤ l.length := by
 induction l with
 | nil => simp
 | cons a t ih => rw [List.dropWhile_cons]; split <;> simp <;> omega
theorem restOf_lt (b : UInt8) (l : List UInt8) : (restOf (b :: l)).length < (b :: l).length := by
 unfold restOf
 have h1 := cutEnd_le ((b :: l).dropWhile (fun c => !isEnd c))
 have h2 := dropWhile_le (fun c => !isEnd c) (b :: l)
 simp at *; omega
def lines : List UInt8 → List (List UInt8)
 | [] => []
 | b :: l => lineOf (b :: l) :: lines (restOf (b :: l))
termination_by l => l.length
decreasing_by exact restOf_lt b l
def join (L : List (List UInt8)) : List UInt8 := (L.map (· ++ [10])).flatten
def blank (l : List UInt8) : Bool := l.all (fun c => c == 32 || c == 9)
theorem trim_nil (l : List UInt8) : (Lib.trimS l [32, 9] = []) ↔ blank l = true := by
 have hk : ∀ c : UInt8, ([32, 9] : List UInt8).contains c = (c == 32 || c == 9) := fun c => by simp [List.contains_cons, Bool.beq_eq_decide_eq]
 have hall : ∀ m : List UInt8, m.dropWhile (fun c => ([32, 9] : List UInt8).contains c) = [] ↔ blank m = true := fun m => by
  simp only [hk, blank]
  induction m with
  | nil => simp
  | cons a t ih => rw [List.dropWhile_cons]; by_cases h : (a == 32 || a == 9) = true <;> simp_all
 unfold Lib.trimS Lib.trimLeftS
 rw [hall]
 unfold Lib.trimRightS
 have hsplit : ∀ m : List UInt8, blank (m.dropWhile (fun c => ([32, 9] : List UInt8).contains c)) = true ↔ blank m = true := fun m => by
  simp only [hk, blank]
  induction m with
  | nil => simp
  | cons a t ih => rw [List.dropWhile_cons]; by_cases h : (a == 32 || a == 9) = true <;> simp_all
 have hrev : ∀ m : List UInt8, blank m.reverse = blank m := fun m => by simp [blank]
 rw [hrev, hsplit, hrev]
end Tx
end Go.Proofs.YtkiipaaaakhhfaaGreatDoor
end
section
namespace Go.Proofs.YtkiipaaaakhhfaaGreatDoor
open Go Go.RowKit
namespace Tx
set_option maxRecDepth 100000
set_option linter.unusedVariables false
set_option linter.unusedSimpArgs false
set_option maxHeartbeats 1000000 in
theorem blank_any (s : ByteArray) (w : World) (hs : s.size ≤ 9223372036854775807) :
  Calls Tryz.prog 111 #[.string s] w fun e w' => e = .returned (.bool (blank s.data.toList)) ∧ Below w.heap.size w w' := by
 have HT := Lib.hid (Tryz.strings_Trim_ascii s ⟨#[32, 9]⟩ w hs (by decide) (ascii_of_all (by decide)))
 go_enter Tryz.func111, Tryz.ntmps111
 have hb := trim_nil s.data.toList
 have HB := Lib.hid hb
 clear hb
 generalize hx : Lib.trimS s.data.toList [32, 9] = x at *
 have Hx := Lib.hid hx
 clear hx
 go_wp2_with (go_at_call 129; refine HT.out.mono ?_; rintro e w1 ⟨rfl, hb⟩)
 go_ret
 refine ⟨ret_bool ?_, hb⟩
 have h1 := HB.out
 rw [Bool.eq_iff_iff, ← h1, List.isEmpty_iff]
end Tx
end Go.Proofs.YtkiipaaaakhhfaaGreatDoor
end
section
namespace Go.Proofs.YtkiipaaaakhhfaaGreatDoor
open Go Go.RowKit
namespace Tx
set_option maxRecDepth 100000
set_option linter.unusedVariables false
set_option linter.unusedSimpArgs false
theorem get_at (l : List UInt8) (i k : Nat) : ((⟨l.toArray⟩ : ByteArray).get! (i + k)).toNat = at' (l.drop i) k := by
 rw [at_drop]
 unfold at'
 congr 1
 show (l.toArray)[i + k]! = _
 by_cases h : i + k < l.length
 ·simp [List.getD, h]
 ·simp [List.getD, h]; rfl
theorem decode_char (pre c m : List UInt8) (h : IsChar c) : Utf8.decode ⟨(pre ++ (c ++ m)).toArray⟩ pre.length = (val c, c.length) := by
 rw [Lib.decode_at]
 have e0 := get_at (pre ++ (c ++ m)) pre.length 0
 have e1 := get_at (pre ++ (c ++ m)) pre.length 1
 have e2 := get_at (pre ++ (c ++ m)) pre.length 2
 have e3 := get_at (pre ++ (c ++ m)) pre.length 3
 rw [Nat.add_zero] at e0
 rw [List.drop_left] at e0 e1 e2 e3
 rw [e0, e1, e2, e3]
 have hs : (⟨(pre ++ (c ++ m)).toArray⟩ : ByteArray).size - pre.length = (c ++ m).length := by
  rw [size_mk]; simp
 rw [hs]
 exact decodeN_val c m h
theorem runesFrom_chars : ∀ (cs : List (List UInt8)) (pre : List UInt8) (bound : Nat) (acc : Array Value), (∀ c ∈ cs, IsChar c) → cs.length ≤ bound →
  Conv.runesFrom ⟨(pre ++ cs.flatten).toArray⟩ bound pre.length acc = acc ++ (cs.map (fun c => Value.int .i32 (val c : Nat))).toArray
 | [], pre, bound, acc, _, _ => by
  cases bound with
  | zero => simp [Conv.runesFrom]
  | succ n =>
   unfold Conv.runesFrom
   rw [if_neg (by rw [size_mk]; simp)]
   simp
 | c :: cs, pre, bound, acc, h, hb => by
  obtain ⟨n, rfl⟩ : ∃ n, bound = n + 1 := ⟨bound - 1, by simp at hb; omega⟩
  have hc := h c (by simp)
  have hpos : 0 < c.length := List.length_pos_iff.2 hc.1
  unfold Conv.runesFrom
  rw [List.flatten_cons, if_pos (by rw [size_mk]; simp; omega), decode_char pre c cs.flatten hc]
  have := runesFrom_chars cs (pre ++ c) n (acc.push (.int .i32 (val c : Nat))) (fun x hx => h x (by simp [hx])) (by simp at hb; omega)
  rw [List.length_append, List.append_assoc] at this
  show Conv.runesFrom _ n (pre.length + c.length) (acc.push (.int .i32 (Int.ofNat (val c)))) = _
  rw [show (Int.ofNat (val c)) = ((val c : Nat) : Int) from rfl, this]
  simp
def RSl (w : World) (v : Value) (ns : List Nat) : Prop := ∃ (ao : Option Addr) (cap : Nat), v = .slice ao ns.length cap ∧ ns.length ≤ 9223372036854775807 ∧ (ns ≠ [] → ∃ b off, ao = some ⟨b, off, none⟩ ∧ ∀ i (h : i < ns.length), w.cell? ⟨b, off + i, none⟩ = some (.int .i32 (ns[i] : Nat)))
theorem RSl.below {w w' : World} {v : Value} {L : List Nat} (h : RSl w v L) (hB : Below w.heap.size w w') : RSl w' v L := by
 obtain ⟨ao, cap, rfl, hl, hr⟩ := h
 refine ⟨ao, cap, rfl, hl, fun hne => ?_⟩
 obtain ⟨b, off, e, hc⟩ := hr hne
 exact ⟨b, off, e, fun i hi => by have := hc i hi; rw [hB.cell (p := ⟨b, off + i, none⟩) (cell_lt this)]; exact this⟩
theorem drew_below (w : World) : Below w.heap.size w w.drew := (Below.refl _ w).drew
theorem conv_sb (s : ByteArray) (w : World) (hs : s.size ≤ maxLen) : ∃ v W', (convert 9 108 (.string s)).run Tryz.prog w = .ok v W' ∧ Sl W' v s.data.toList ∧ Below w.heap.size w W' := by
 have hdl : s.data.toList.length = s.size := by rw [Array.length_toList]; rfl
 refine ⟨_, _, run_bytes_of_string w 9 108 5 s Tryz.underlying9 Tryz.underlying108 Tryz.underlying5, ?_, (drew_below w).alloc (Nat.le_refl _) _⟩
 refine ⟨_, _, by rw [hdl], by rw [hdl]; exact grownCap_ge _ _ _ _, grownCap_le_maxLen _ _ _ _ hs, fun _ => ⟨w.heap.size, 0, rfl, fun i hi => ?_⟩⟩
 rw [hdl] at hi
 have h1 := World.cell?_alloc_mark w.drew (bytesRow s (grownCap w s.size 0 5)) 5 ((bytesRow s (grownCap w s.size 0 5)).size, (bytesRow s (grownCap w s.size 0 5)).size + 1) i
 rw [Nat.zero_add]
 refine Eq.trans h1 ?_
 rw [bytesRow_at s _ i hi]
 have : at' s.data.toList i = s.data[i].toNat := by
  unfold at'
  rw [List.getD, List.getElem?_eq_getElem (by rw [hdl]; exact hi)]
  simp
 rw [this]
end Tx
end Go.Proofs.YtkiipaaaakhhfaaGreatDoor
end
section
namespace Go.Proofs.YtkiipaaaakhhfaaGreatDoor
open Go Go.RowKit
namespace Tx
set_option maxRecDepth 100000
set_option linter.unusedVariables false
set_option linter.unusedSimpArgs false
set_option maxHeartbeats 1000000 in
theorem join_any (L : List (List UInt8)) (v : Value) (w : World) (hv : SSl w v L) (hl : (join L).length ≤ 1099511627776) :
  Calls Tryz.prog 79 #[v] w fun e w' => e = .returned (str (join L)) ∧ Below w.heap.size w w' := by
 obtain ⟨ao, cap, rfl, hlen, hrow⟩ := hv
 have Hrow := Lib.hid hrow
 clear hrow
 go_enter Tryz.func79, Tryz.ntmps79
 go_wp2
 go_loopg [8] L.length (fun g s8 wr => ∃ (k : Nat), k + g = L.length ∧ s8 = .int .i64 k ∧ Bld w.heap.size (join (L.take k)) wr ∧ Below w.heap.size w wr)
 case atStart => exact ⟨0, by omega, rfl, Lib.fresh_isBuilder 132 5 w, (Below.refl _ w).alloc (Nat.le_refl _) _⟩
 case round =>
  obtain ⟨k, hkg, rfl, hB, hbw⟩ := hrel
  have hsz := hbw.size
  cases gk with
  | zero =>
   have hkl : ¬ ((k : Int) < (L.length : Int)) := by omega
   go_wp2_with (go_at_call 117; refine (Tryz.Builder_String_any w.heap.size w.heap.size _ _ hB hsz).mono ?_; rintro e w2 ⟨rfl, hb2⟩)
   go_wp2
   go_ret
   rw [List.take_of_length_le (by omega)]
   exact ⟨rfl, hbw.trans hb2⟩
  | succ g =>
   have hkl : (k : Int) < (L.length : Int) := by omega
   have hk2 : k < L.length := by omega
   obtain ⟨b, off, rfl, hr⟩ := Hrow.out (by intro e; subst e; simp at hk2)
   have hc := hr k hk2
   have hblt := cell_lt hc
   rw [← hbw.cell (p := ⟨b, off + k, none⟩) hblt] at hc
   have HJ : Hid (join (L.take (k + 1)) = join (L.take k) ++ L[k] ++ [10]) := Lib.hid (by unfold join; rw [List.take_succ_eq_append_getElem hk2, List.map_append, List.flatten_append]; simp)
   have hjl : (join (L.take (k + 1))).length ≤ (join L).length := by
    have : join L = join (L.take (k + 1)) ++ join (L.drop (k + 1)) := by simp only [join]; rw [← List.flatten_append, ← List.map_append, List.take_append_drop]
    rw [this, List.length_append]; omega
   have hjl2 : (join (L.take k)).length + L[k].length + 1 = (join (L.take (k + 1))).length := by rw [HJ.out]; simp; omega
   generalize hx : L[k] = x at *
   have Hx := Lib.hid hx
   clear hx
   have WS := Lib.hid (Tryz.Builder_WriteString w.heap.size w.heap.size _ ⟨x.toArray⟩ _ hB (by rw [Lib.byteCells_length, size_mk]; omega) hsz)
   unfold str at hc
   go_wp2_with fail
   refine WS.out.mono ?_
   rintro e w2 ⟨rfl, hb2, hbw2⟩
   have hsz2 : w.heap.size ≤ w2.heap.size := Nat.le_trans hsz hbw2.size
   have WB := Lib.hid (Tryz.Builder_WriteByte w.heap.size w.heap.size _ 10 _ (Or.inr hb2) (by rw [List.length_append, Lib.byteCells_length, Lib.strCells_length, size_mk]; omega) hsz2)
   go_wp2_with fail
   refine WB.out.mono ?_
   rintro e w3 ⟨rfl, hb3, hbw3⟩
   go_wp2
   go_roundg g
   case rel =>
    refine ⟨k + 1, by omega, by go_num, Or.inr ?_, (hbw.trans hbw2).trans hbw3⟩
    rw [HJ.out]
    simpa [Lib.byteCells, Lib.strCells] using hb3
   case measure => omega
end Tx
end Go.Proofs.YtkiipaaaakhhfaaGreatDoor
end
