/- Plain mathematics of layer 1 (bytes as a text, and its lines): no program in it. -/
import GoSem.Core.Utf8
import Derived.Lib.DecodeN
set_option linter.unusedVariables false
set_option linter.unusedSimpArgs false
namespace Go.Proofs.YtfabiidohdkkcaaGreatDoor
namespace Tx

def btw (l : List UInt8) (k lo hi : Nat) : Bool := match l[k]? with
  | some c => decide (lo ≤ c.toNat) && decide (c.toNat ≤ hi)
  | none => false

/-- How long the good run at the beginning is; 0: there is none. -/
def good (l : List UInt8) : Nat :=
  if btw l 0 0 127 then 1
  else if btw l 0 194 223 && btw l 1 128 191 then 2
  else if !btw l 2 128 191 then 0
  else if (btw l 0 224 224 && btw l 1 160 191) || (btw l 0 237 237 && btw l 1 128 159) then 3
  else if (btw l 0 225 236 || btw l 0 238 239) && btw l 1 128 191 then 3
  else if !btw l 3 128 191 then 0
  else if (btw l 0 240 240 && btw l 1 144 191) || ((btw l 0 241 243 && btw l 1 128 191) || (btw l 0 244 244 && btw l 1 128 143)) then 4
  else 0

/-- The same over numbers: how many bytes there are, and the first four. -/
def goodN (n b0 b1 b2 b3 : Nat) : Nat :=
  if 1 ≤ n ∧ b0 ≤ 127 then 1
  else if 2 ≤ n ∧ 194 ≤ b0 ∧ b0 ≤ 223 ∧ 128 ≤ b1 ∧ b1 ≤ 191 then 2
  else if 3 ≤ n ∧ 128 ≤ b2 ∧ b2 ≤ 191 ∧ ((b0 = 224 ∧ 160 ≤ b1 ∧ b1 ≤ 191) ∨ (b0 = 237 ∧ 128 ≤ b1 ∧ b1 ≤ 159) ∨ (((225 ≤ b0 ∧ b0 ≤ 236) ∨ (238 ≤ b0 ∧ b0 ≤ 239)) ∧ 128 ≤ b1 ∧ b1 ≤ 191)) then 3
  else if 4 ≤ n ∧ 128 ≤ b2 ∧ b2 ≤ 191 ∧ 128 ≤ b3 ∧ b3 ≤ 191 ∧ ((b0 = 240 ∧ 144 ≤ b1 ∧ b1 ≤ 191) ∨ (241 ≤ b0 ∧ b0 ≤ 243 ∧ 128 ≤ b1 ∧ b1 ≤ 191) ∨ (b0 = 244 ∧ 128 ≤ b1 ∧ b1 ≤ 143)) then 4
  else 0

def at' (l : List UInt8) (k : Nat) : Nat := (l.getD k 0).toNat

theorem btw_at (l : List UInt8) (k lo hi : Nat) : btw l k lo hi = (decide (k < l.length) && (decide (lo ≤ at' l k) && decide (at' l k ≤ hi))) := by
  unfold btw at'
  by_cases h : k < l.length
  · simp [List.getElem?_eq_getElem h, h, List.getD]
  · simp [List.getElem?_eq_none (Nat.le_of_not_lt h), h]

theorem good_eq (l : List UInt8) : good l = goodN l.length (at' l 0) (at' l 1) (at' l 2) (at' l 3) := by
  simp only [good, btw_at, Bool.and_eq_true, Bool.or_eq_true, Bool.not_eq_true', decide_eq_true_eq, Bool.and_eq_false_iff, decide_eq_false_iff_not]
  generalize l.length = n
  generalize at' l 0 = a0
  generalize at' l 1 = a1
  generalize at' l 2 = a2
  generalize at' l 3 = a3
  unfold goodN
  by_cases c1 : 1 ≤ n ∧ a0 ≤ 127
  · have d1 : 0 < n ∧ 0 ≤ a0 ∧ a0 ≤ 127 := by omega
    rw [if_pos d1, if_pos c1]
  rw [if_neg c1, if_neg (show ¬ (0 < n ∧ 0 ≤ a0 ∧ a0 ≤ 127) by omega)]
  clear c1
  by_cases c2 : 2 ≤ n ∧ 194 ≤ a0 ∧ a0 ≤ 223 ∧ 128 ≤ a1 ∧ a1 ≤ 191
  · have d2 : (0 < n ∧ 194 ≤ a0 ∧ a0 ≤ 223) ∧ 1 < n ∧ 128 ≤ a1 ∧ a1 ≤ 191 := by omega
    rw [if_pos d2, if_pos c2]
  rw [if_neg c2, if_neg (show ¬ ((0 < n ∧ 194 ≤ a0 ∧ a0 ≤ 223) ∧ 1 < n ∧ 128 ≤ a1 ∧ a1 ≤ 191) by omega)]
  clear c2
  by_cases c0 : 2 < n ∧ 128 ≤ a2 ∧ a2 ≤ 191
  · have d0 : ¬ (¬ 2 < n ∨ ¬ 128 ≤ a2 ∨ ¬ a2 ≤ 191) := by omega
    rw [if_neg d0]
    obtain ⟨hn, h2, h3⟩ := c0
    by_cases c3 : (a0 = 224 ∧ 160 ≤ a1 ∧ a1 ≤ 191) ∨ (a0 = 237 ∧ 128 ≤ a1 ∧ a1 ≤ 159)
    · rw [if_pos (show 3 ≤ n ∧ 128 ≤ a2 ∧ a2 ≤ 191 ∧ _ from ⟨by omega, h2, h3, by omega⟩)]
      rw [if_pos]
      omega
    · rw [if_neg (show ¬ ((0 < n ∧ 224 ≤ a0 ∧ a0 ≤ 224) ∧ 1 < n ∧ 160 ≤ a1 ∧ a1 ≤ 191 ∨ (0 < n ∧ 237 ≤ a0 ∧ a0 ≤ 237) ∧ 1 < n ∧ 128 ≤ a1 ∧ a1 ≤ 159) by omega)]
      by_cases c4 : ((225 ≤ a0 ∧ a0 ≤ 236) ∨ (238 ≤ a0 ∧ a0 ≤ 239)) ∧ 128 ≤ a1 ∧ a1 ≤ 191
      · rw [if_pos (show 3 ≤ n ∧ 128 ≤ a2 ∧ a2 ≤ 191 ∧ _ from ⟨by omega, h2, h3, by omega⟩)]
        rw [if_pos]
        omega
      · rw [if_neg (show ¬ ((0 < n ∧ 225 ≤ a0 ∧ a0 ≤ 236 ∨ 0 < n ∧ 238 ≤ a0 ∧ a0 ≤ 239) ∧ 1 < n ∧ 128 ≤ a1 ∧ a1 ≤ 191) by omega)]
        rw [if_neg (show ¬ (3 ≤ n ∧ 128 ≤ a2 ∧ a2 ≤ 191 ∧ (a0 = 224 ∧ 160 ≤ a1 ∧ a1 ≤ 191 ∨ a0 = 237 ∧ 128 ≤ a1 ∧ a1 ≤ 159 ∨ (225 ≤ a0 ∧ a0 ≤ 236 ∨ 238 ≤ a0 ∧ a0 ≤ 239) ∧ 128 ≤ a1 ∧ a1 ≤ 191)) by intro h; omega)]
        clear c3 c4
        by_cases c5 : 3 < n ∧ 128 ≤ a3 ∧ a3 ≤ 191
        · rw [if_neg (show ¬ (¬ 3 < n ∨ ¬ 128 ≤ a3 ∨ ¬ a3 ≤ 191) by omega)]
          obtain ⟨hn4, h4, h5⟩ := c5
          by_cases c6 : (a0 = 240 ∧ 144 ≤ a1 ∧ a1 ≤ 191) ∨ (241 ≤ a0 ∧ a0 ≤ 243 ∧ 128 ≤ a1 ∧ a1 ≤ 191) ∨ (a0 = 244 ∧ 128 ≤ a1 ∧ a1 ≤ 143)
          · rw [if_pos (show 4 ≤ n ∧ 128 ≤ a2 ∧ a2 ≤ 191 ∧ 128 ≤ a3 ∧ a3 ≤ 191 ∧ _ from ⟨by omega, h2, h3, h4, h5, c6⟩)]
            rw [if_pos]
            omega
          · rw [if_neg (show ¬ (4 ≤ n ∧ 128 ≤ a2 ∧ a2 ≤ 191 ∧ 128 ≤ a3 ∧ a3 ≤ 191 ∧ _) from fun h => c6 h.2.2.2.2.2)]
            rw [if_neg]
            omega
        · rw [if_pos (show ¬ 3 < n ∨ ¬ 128 ≤ a3 ∨ ¬ a3 ≤ 191 by omega)]
          rw [if_neg (show ¬ (4 ≤ n ∧ 128 ≤ a2 ∧ a2 ≤ 191 ∧ 128 ≤ a3 ∧ a3 ≤ 191 ∧ _) from fun h => c5 ⟨by omega, h.2.2.2.1, h.2.2.2.2.1⟩)]
  · rw [if_pos (show ¬ 2 < n ∨ ¬ 128 ≤ a2 ∨ ¬ a2 ≤ 191 by omega)]
    rw [if_neg (show ¬ (3 ≤ n ∧ 128 ≤ a2 ∧ a2 ≤ 191 ∧ _) from fun h => c0 ⟨by omega, h.2.1, h.2.2.1⟩)]
    rw [if_neg (show ¬ (4 ≤ n ∧ 128 ≤ a2 ∧ a2 ≤ 191 ∧ _) from fun h => c0 ⟨by omega, h.2.1, h.2.2.1⟩)]

theorem at_app (l m : List UInt8) (k : Nat) (h : k < l.length) : at' (l ++ m) k = at' l k := by
  simp [at', List.getD, List.getElem?_append_left h]
theorem at_take (l : List UInt8) (n k : Nat) (h : k < n) : at' (l.take n) k = at' l k := by
  simp [at', List.getD, List.getElem?_take, h]
theorem at_lt (l : List UInt8) (k : Nat) : at' l k < 256 := by unfold at'; exact UInt8.toNat_lt _

theorem good_le (l : List UInt8) : good l ≤ l.length := by
  rw [good_eq]; unfold goodN; repeat' split
  all_goals omega
theorem good_le4 (l : List UInt8) : good l ≤ 4 := by
  rw [good_eq]; unfold goodN; repeat' split
  all_goals omega

/-- A good run is a good run whatever stands behind it. -/
theorem good_self (l m : List UInt8) (h : good l ≠ 0) : good (l.take (good l) ++ m) = good l := by
  have hle := good_le l
  have h4 := good_le4 l
  generalize hg : good l = g at *
  rw [good_eq] at hg ⊢
  have hl : (l.take g ++ m).length = g + m.length := by simp; omega
  rw [hl]
  have e0 : at' (l.take g ++ m) 0 = at' l 0 := by rw [at_app _ _ _ (by simp; omega), at_take _ _ _ (by omega)]
  have e1 : 2 ≤ g → at' (l.take g ++ m) 1 = at' l 1 := fun _ => by rw [at_app _ _ _ (by simp; omega), at_take _ _ _ (by omega)]
  have e2 : 3 ≤ g → at' (l.take g ++ m) 2 = at' l 2 := fun _ => by rw [at_app _ _ _ (by simp; omega), at_take _ _ _ (by omega)]
  have e3 : 4 ≤ g → at' (l.take g ++ m) 3 = at' l 3 := fun _ => by rw [at_app _ _ _ (by simp; omega), at_take _ _ _ (by omega)]
  rw [e0]
  generalize at' (l.take g ++ m) 1 = c1 at *
  generalize at' (l.take g ++ m) 2 = c2 at *
  generalize at' (l.take g ++ m) 3 = c3 at *
  generalize at' l 0 = a0 at *
  generalize at' l 1 = a1 at *
  generalize at' l 2 = a2 at *
  generalize at' l 3 = a3 at *
  unfold goodN at hg ⊢
  have hcase : g = 1 ∨ g = 2 ∨ g = 3 ∨ g = 4 := by omega
  rcases hcase with rfl | rfl | rfl | rfl
  · split at hg
    · rw [if_pos (by omega)]
    · repeat' split at hg
      all_goals omega
  · rw [e1 (by omega)]
    split at hg
    · omega
    · split at hg
      · rw [if_neg (by omega), if_pos (by omega)]
      · repeat' split at hg
        all_goals omega
  · rw [e1 (by omega), e2 (by omega)]
    split at hg
    · omega
    · split at hg
      · omega
      · split at hg
        · rw [if_neg (by omega), if_neg (by omega), if_pos (by omega)]
        · split at hg <;> omega
  · rw [e1 (by omega), e2 (by omega), e3 (by omega)]
    split at hg
    · omega
    · split at hg
      · omega
      · split at hg
        · omega
        · split at hg
          · rw [if_neg (by omega), if_neg (by omega), if_neg (by omega), if_pos (by omega)]
          · omega

theorem good_app (l m : List UInt8) (h : good l ≠ 0) : good (l ++ m) = good l := by
  have := good_self l (l.drop (good l) ++ m) h
  rwa [← List.append_assoc, List.take_append_drop] at this

/-- A byte below 128 goes on no run. -/
theorem good_ascii (l r : List UInt8) (x : UInt8) (hl : l ≠ []) (hx : x.toNat < 128) : good (l ++ x :: r) = good l := by
  by_cases h0 : good l = 0
  · rw [h0]
    have hlen : 1 ≤ l.length := by cases l with | nil => exact absurd rfl hl | cons a t => simp
    rw [good_eq] at h0 ⊢
    have e0 : at' (l ++ x :: r) 0 = at' l 0 := at_app _ _ _ (by omega)
    have e1 : 2 ≤ l.length → at' (l ++ x :: r) 1 = at' l 1 := fun _ => at_app _ _ _ (by omega)
    have e2 : 3 ≤ l.length → at' (l ++ x :: r) 2 = at' l 2 := fun _ => at_app _ _ _ (by omega)
    have e3 : 4 ≤ l.length → at' (l ++ x :: r) 3 = at' l 3 := fun _ => at_app _ _ _ (by omega)
    have ex : ∀ k, l.length = k → at' (l ++ x :: r) k < 128 := fun k hk => by
      subst hk; simp [at', List.getD]; exact hx
    have x1 : l.length = 1 → at' (l ++ x :: r) 1 < 128 := ex 1
    have x2 : l.length = 2 → at' (l ++ x :: r) 2 < 128 := ex 2
    have x3 : l.length = 3 → at' (l ++ x :: r) 3 < 128 := ex 3
    have hn : (l ++ x :: r).length = l.length + 1 + r.length := by simp; omega
    rw [hn, e0]
    generalize at' (l ++ x :: r) 1 = c1 at *
    generalize at' (l ++ x :: r) 2 = c2 at *
    generalize at' (l ++ x :: r) 3 = c3 at *
    generalize at' l 0 = a0 at *
    generalize at' l 1 = a1 at *
    generalize at' l 2 = a2 at *
    generalize at' l 3 = a3 at *
    generalize l.length = n at *
    unfold goodN at h0 ⊢
    split at h0
    · omega
    split at h0
    · omega
    split at h0
    · omega
    split at h0
    · omega
    rw [if_neg (by omega)]
    have hc : n = 1 ∨ n = 2 ∨ n = 3 ∨ 4 ≤ n := by omega
    rcases hc with h | h | h | h
    · have := x1 h; rw [if_neg (by omega), if_neg (by omega), if_neg (by omega)]
    · have := x2 h; rw [e1 (by omega)]; rw [if_neg (by omega), if_neg (by omega), if_neg (by omega)]
    · have := x3 h; rw [e1 (by omega), e2 (by omega)]; rw [if_neg (by omega), if_neg (by omega), if_neg (by omega)]
    · rw [e1 (by omega), e2 (by omega), e3 (by omega)]; rw [if_neg (by omega), if_neg (by omega), if_neg (by omega)]
  · exact good_app l _ h0

def mark : List UInt8 := [239, 191, 189]

/-- The characters of a text that any bytes are. -/
def chars : List UInt8 → List (List UInt8)
  | [] => []
  | b :: l => if h : good (b :: l) = 0 ∨ b = 0 then mark :: chars l else (b :: l).take (good (b :: l)) :: chars ((b :: l).drop (good (b :: l)))
termination_by l => l.length
decreasing_by
  · simp
  · have : good (b :: l) ≠ 0 := fun e => h (Or.inl e)
    simp; omega

theorem chars_nil : chars [] = [] := by rw [chars]
theorem chars_bad (b : UInt8) (l : List UInt8) (h : good (b :: l) = 0 ∨ b = 0) : chars (b :: l) = mark :: chars l := by rw [chars, dif_pos h]
theorem chars_ok (b : UInt8) (l : List UInt8) (h0 : good (b :: l) ≠ 0) (hb : b ≠ 0) : chars (b :: l) = (b :: l).take (good (b :: l)) :: chars ((b :: l).drop (good (b :: l))) := by
  rw [chars, dif_neg (by intro h; rcases h with h | h; exact h0 h; exact hb h)]

def clean (l : List UInt8) : List UInt8 := (chars l).flatten

/-- One character's own bytes. -/
def IsChar (c : List UInt8) : Prop := c ≠ [] ∧ good c = c.length ∧ c.head? ≠ some 0

theorem isChar_mark : IsChar mark := by refine ⟨by decide, by decide, by decide⟩

theorem isChar_take (b : UInt8) (l : List UInt8) (h0 : good (b :: l) ≠ 0) (hb : b ≠ 0) : IsChar ((b :: l).take (good (b :: l))) := by
  have hle := good_le (b :: l)
  have hs := good_self (b :: l) [] h0
  rw [List.append_nil] at hs
  refine ⟨?_, ?_, ?_⟩
  · intro e
    have := congrArg List.length e
    simp at this
    omega
  · rw [hs]; simp at hle ⊢; omega
  · obtain ⟨k, hk⟩ : ∃ k, good (b :: l) = k + 1 := ⟨good (b :: l) - 1, by omega⟩
    rw [hk]; simpa using hb

theorem chars_isChar (l : List UInt8) : ∀ c ∈ chars l, IsChar c := by
  induction l using chars.induct with
  | case1 => rw [chars_nil]; intro c hc; cases hc
  | case2 b l h ih =>
    rw [chars_bad b l h]; intro c hc
    rcases List.mem_cons.1 hc with rfl | hc
    · exact isChar_mark
    · exact ih c hc
  | case3 b l h ih =>
    have h0 : good (b :: l) ≠ 0 := fun e => h (Or.inl e)
    have hb : b ≠ 0 := fun e => h (Or.inr e)
    rw [chars_ok b l h0 hb]; intro c hc
    rcases List.mem_cons.1 hc with rfl | hc
    · exact isChar_take b l h0 hb
    · exact ih c hc

/-- A character ahead is read as it is. -/
theorem chars_char (c m : List UInt8) (h : IsChar c) : chars (c ++ m) = c :: chars m := by
  obtain ⟨hne, hg, hh⟩ := h
  cases c with
  | nil => exact absurd rfl hne
  | cons b t =>
    have h0 : good (b :: t) ≠ 0 := by rw [hg]; simp
    have hb : b ≠ 0 := by simpa using hh
    have hga : good (b :: t ++ m) = (b :: t).length := by rw [good_app _ _ h0, hg]
    have hga' : good (b :: (t ++ m)) = t.length + 1 := by simpa using hga
    rw [List.cons_append, chars_ok b (t ++ m) (by rw [hga']; omega) hb, hga']
    simp

theorem chars_flat (cs : List (List UInt8)) (m : List UInt8) (h : ∀ c ∈ cs, IsChar c) : chars (cs.flatten ++ m) = cs ++ chars m := by
  induction cs with
  | nil => simp
  | cons c cs ih =>
    rw [List.flatten_cons, List.append_assoc, chars_char _ _ (h c (by simp)), ih (fun x hx => h x (by simp [hx]))]
    simp

theorem chars_clean_app (l m : List UInt8) : chars (clean l ++ m) = chars l ++ chars m := chars_flat _ _ (chars_isChar l)
theorem chars_clean (l : List UInt8) : chars (clean l) = chars l := by
  have := chars_clean_app l []
  simpa [chars_nil] using this
theorem clean_clean (l : List UInt8) : clean (clean l) = clean l := by rw [clean, chars_clean]; rfl
theorem clean_app (l m : List UInt8) : clean (clean l ++ m) = clean l ++ clean m := by simp [clean, chars_flat _ _ (chars_isChar l)]
theorem clean_app2 (l m : List UInt8) : clean (clean l ++ clean m) = clean l ++ clean m := by rw [clean_app, clean_clean]

theorem mark_len : mark.length = 3 := rfl
theorem chars_length (l : List UInt8) : (chars l).length ≤ l.length := by
  induction l using chars.induct with
  | case1 => simp [chars_nil]
  | case2 b l h ih => rw [chars_bad b l h]; simp; omega
  | case3 b l h ih =>
    have h0 : good (b :: l) ≠ 0 := fun e => h (Or.inl e)
    have hb : b ≠ 0 := fun e => h (Or.inr e)
    rw [chars_ok b l h0 hb]
    have := good_le (b :: l)
    simp at this ih ⊢; omega
theorem clean_length (l : List UInt8) : (clean l).length ≤ 3 * l.length := by
  unfold clean
  induction l using chars.induct with
  | case1 => simp [chars_nil]
  | case2 b l h ih => rw [chars_bad b l h]; simp [mark_len] at ih ⊢; omega
  | case3 b l h ih =>
    have h0 : good (b :: l) ≠ 0 := fun e => h (Or.inl e)
    have hb : b ≠ 0 := fun e => h (Or.inr e)
    rw [chars_ok b l h0 hb]
    have := good_le (b :: l)
    simp at this ih ⊢; omega

/-- A byte below 128 (not 0) is a character by itself, wherever it stands. -/
theorem isChar_ascii (x : UInt8) (hx : x.toNat < 128) (h0 : x ≠ 0) : IsChar [x] := by
  refine ⟨by simp, ?_, by simpa using h0⟩
  rw [good_eq]; unfold goodN; rw [if_pos]; · rfl
  · simp [at']; omega
theorem chars_mid (a r : List UInt8) (x : UInt8) (hx : x.toNat < 128) (h0 : x ≠ 0) : chars (a ++ x :: r) = chars a ++ [x] :: chars r := by
  induction a using chars.induct with
  | case1 => 
    have := chars_char [x] r (isChar_ascii x hx h0)
    simpa [chars_nil] using this
  | case2 b l h ih =>
    have hg := good_ascii (b :: l) r x (by simp) hx
    rw [chars_bad b l h, List.cons_append, chars_bad b (l ++ x :: r) (by rw [← List.cons_append, hg]; exact h), ih]; simp
  | case3 b l h ih =>
    have hz : good (b :: l) ≠ 0 := fun e => h (Or.inl e)
    have hb : b ≠ 0 := fun e => h (Or.inr e)
    have hg := good_ascii (b :: l) r x (by simp) hx
    have hle := good_le (b :: l)
    rw [chars_ok b l hz hb, List.cons_append, chars_ok b (l ++ x :: r) (by rw [← List.cons_append, hg]; exact hz) hb]
    rw [← List.cons_append, hg, List.take_append_of_le_length hle, List.drop_append_of_le_length hle, ih]; simp
theorem clean_mid (a b : List UInt8) : clean (a ++ 120 :: 10 :: b) = clean a ++ 120 :: 10 :: clean b := by
  have h := chars_mid a (10 :: b) 120 (by decide) (by decide)
  have h2 := chars_mid [] b 10 (by decide) (by decide)
  simp [chars_nil] at h2
  simp [clean, h, h2]

/-! ### characters as numbers -/
def val (c : List UInt8) : Nat :=
  match c with
  | [a] => a.toNat
  | [a, b] => (a.toNat - 192) * 64 + (b.toNat - 128)
  | [a, b, c] => ((a.toNat - 224) * 64 + (b.toNat - 128)) * 64 + (c.toNat - 128)
  | [a, b, c, d] => (((a.toNat - 240) * 64 + (b.toNat - 128)) * 64 + (c.toNat - 128)) * 64 + (d.toNat - 128)
  | _ => 0

def runes (l : List UInt8) : List Nat := (chars l).map val

/-- What a character's bytes are. -/
theorem isChar_cases (c : List UInt8) (h : IsChar c) :
    (∃ a : UInt8, c = [a] ∧ 1 ≤ a.toNat ∧ a.toNat ≤ 127) ∨
    (∃ a b : UInt8, c = [a, b] ∧ 194 ≤ a.toNat ∧ a.toNat ≤ 223 ∧ 128 ≤ b.toNat ∧ b.toNat ≤ 191) ∨
    (∃ a b d : UInt8, c = [a, b, d] ∧ 128 ≤ d.toNat ∧ d.toNat ≤ 191 ∧ ((a.toNat = 224 ∧ 160 ≤ b.toNat ∧ b.toNat ≤ 191) ∨ (a.toNat = 237 ∧ 128 ≤ b.toNat ∧ b.toNat ≤ 159) ∨ (((225 ≤ a.toNat ∧ a.toNat ≤ 236) ∨ (238 ≤ a.toNat ∧ a.toNat ≤ 239)) ∧ 128 ≤ b.toNat ∧ b.toNat ≤ 191))) ∨
    (∃ a b d e : UInt8, c = [a, b, d, e] ∧ 128 ≤ d.toNat ∧ d.toNat ≤ 191 ∧ 128 ≤ e.toNat ∧ e.toNat ≤ 191 ∧ ((a.toNat = 240 ∧ 144 ≤ b.toNat ∧ b.toNat ≤ 191) ∨ (241 ≤ a.toNat ∧ a.toNat ≤ 243 ∧ 128 ≤ b.toNat ∧ b.toNat ≤ 191) ∨ (a.toNat = 244 ∧ 128 ≤ b.toNat ∧ b.toNat ≤ 143))) := by
  obtain ⟨hne, hg, hh⟩ := h
  have h4 := good_le4 c
  rw [good_eq] at hg h4
  match c, hne with
  | [a], _ =>
    left
    refine ⟨a, rfl, ?_, ?_⟩
    · have : a ≠ 0 := by simpa using hh
      have h2 : a.toNat ≠ 0 := fun e => this (UInt8.toNat_inj.1 (by simpa using e))
      omega
    · simp [at', goodN] at hg
      repeat' split at hg
      all_goals first | omega | simp at hg
  | [a, b], _ =>
    right; left
    refine ⟨a, b, rfl, ?_⟩
    simp [at', goodN] at hg
    repeat' split at hg
    all_goals first | omega | simp at hg
  | [a, b, d], _ =>
    right; right; left
    refine ⟨a, b, d, rfl, ?_⟩
    simp [at', goodN] at hg
    repeat' split at hg
    all_goals first | omega | simp at hg
  | [a, b, d, e], _ =>
    right; right; right
    refine ⟨a, b, d, e, rfl, ?_⟩
    simp [at', goodN] at hg
    repeat' split at hg
    all_goals first | omega | simp at hg
  | a :: b :: d :: e :: f :: t, _ =>
    rw [hg] at h4
    simp at h4

theorem val_1 (a : UInt8) : val [a] = a.toNat := rfl
theorem val_2 (a b : UInt8) : val [a, b] = (a.toNat - 192) * 64 + (b.toNat - 128) := rfl
theorem val_3 (a b c : UInt8) : val [a, b, c] = ((a.toNat - 224) * 64 + (b.toNat - 128)) * 64 + (c.toNat - 128) := rfl
theorem val_4 (a b c d : UInt8) : val [a, b, c, d] = (((a.toNat - 240) * 64 + (b.toNat - 128)) * 64 + (c.toNat - 128)) * 64 + (d.toNat - 128) := rfl

theorem val_range (c : List UInt8) (h : IsChar c) : 0 < val c ∧ val c ≤ 1114111 ∧ (val c < 55296 ∨ 57343 < val c) := by
  rcases isChar_cases c h with ⟨a, rfl, h⟩ | ⟨a, b, rfl, h⟩ | ⟨a, b, d, rfl, h⟩ | ⟨a, b, d, e, rfl, h⟩
  · rw [val_1]; omega
  · rw [val_2]; omega
  · rw [val_3]; omega
  · rw [val_4]; omega

theorem ofNat_eq (n : Nat) (a : UInt8) (h : n = a.toNat) : UInt8.ofNat n = a := by subst h; exact UInt8.ofNat_toNat

def encN (c : Nat) : List UInt8 :=
  if c < 128 then [UInt8.ofNat c]
  else if c < 2048 then [UInt8.ofNat (192 + c / 64), UInt8.ofNat (128 + c % 64)]
  else if c < 65536 then [UInt8.ofNat (224 + c / 4096), UInt8.ofNat (128 + c / 64 % 64), UInt8.ofNat (128 + c % 64)]
  else [UInt8.ofNat (240 + c / 262144), UInt8.ofNat (128 + c / 4096 % 64), UInt8.ofNat (128 + c / 64 % 64), UInt8.ofNat (128 + c % 64)]

theorem encode_eq (n : Nat) (h : n < 55296 ∨ 57343 < n) (h2 : n ≤ 1114111) : Utf8.encode (n : Int) = ⟨(encN n).toArray⟩ := by
  have hv : Utf8.valid (n : Int) = true := by
    simp only [Utf8.valid, Bool.or_eq_true, Bool.and_eq_true, decide_eq_true_eq]; omega
  unfold Utf8.encode encN
  simp only [hv, if_true, Int.toNat_natCast]
  by_cases h1 : n < 128
  · simp [h1]
  · by_cases h2 : n < 2048
    · simp [h1, h2]
    · by_cases h3 : n < 65536 <;> simp [h1, h2, h3]

/-- A character's number, written again, is it. -/
theorem encN_val (c : List UInt8) (h : IsChar c) : encN (val c) = c := by
  unfold encN
  rcases isChar_cases c h with ⟨a, rfl, h⟩ | ⟨a, b, rfl, h⟩ | ⟨a, b, d, rfl, h⟩ | ⟨a, b, d, e, rfl, h⟩
  · rw [val_1, if_pos (by omega), ofNat_eq _ a rfl]
  · rw [val_2, if_neg (by omega), if_pos (by omega), ofNat_eq _ a (by omega), ofNat_eq _ b (by omega)]
  · rw [val_3, if_neg (by omega), if_neg (by omega), if_pos (by omega), ofNat_eq _ a (by omega), ofNat_eq _ b (by omega), ofNat_eq _ d (by omega)]
  · rw [val_4, if_neg (by omega), if_neg (by omega), if_neg (by omega), ofNat_eq _ a (by omega), ofNat_eq _ b (by omega), ofNat_eq _ d (by omega), ofNat_eq _ e (by omega)]
theorem encode_val (c : List UInt8) (h : IsChar c) : Utf8.encode (val c : Int) = ⟨c.toArray⟩ := by
  have hr := val_range c h
  rw [encode_eq _ hr.2.2 hr.2.1, encN_val c h]

/-- The model's decode of a character. -/
theorem decodeN_val (c : List UInt8) (m : List UInt8) (h : IsChar c) : Lib.decodeN (c ++ m).length (at' (c ++ m) 0) (at' (c ++ m) 1) (at' (c ++ m) 2) (at' (c ++ m) 3) = (val c, c.length) := by
  rcases isChar_cases c h with ⟨a, rfl, h⟩ | ⟨a, b, rfl, h⟩ | ⟨a, b, d, rfl, h⟩ | ⟨a, b, d, e, rfl, h⟩
  · rw [val_1, show at' ([a] ++ m) 0 = a.toNat from rfl]
    unfold Lib.decodeN
    rw [if_pos (by omega)]; rfl
  · rw [val_2, show at' ([a, b] ++ m) 0 = a.toNat from rfl, show at' ([a, b] ++ m) 1 = b.toNat from rfl, show ([a, b] ++ m).length = m.length + 2 from by simp]
    unfold Lib.decodeN
    rw [if_neg (by omega), if_pos (by omega), if_pos (by omega)]
    exact Prod.ext (by simp only; omega) rfl
  · rw [val_3, show at' ([a, b, d] ++ m) 0 = a.toNat from rfl, show at' ([a, b, d] ++ m) 1 = b.toNat from rfl, show at' ([a, b, d] ++ m) 2 = d.toNat from rfl, show ([a, b, d] ++ m).length = m.length + 3 from by simp]
    unfold Lib.decodeN
    rw [if_neg (by omega), if_neg (by omega), if_pos (by omega), if_pos (by omega)]
    exact Prod.ext (by simp only; omega) rfl
  · rw [val_4, show at' ([a, b, d, e] ++ m) 0 = a.toNat from rfl, show at' ([a, b, d, e] ++ m) 1 = b.toNat from rfl, show at' ([a, b, d, e] ++ m) 2 = d.toNat from rfl, show at' ([a, b, d, e] ++ m) 3 = e.toNat from rfl, show ([a, b, d, e] ++ m).length = m.length + 4 from by simp]
    unfold Lib.decodeN
    rw [if_neg (by omega), if_neg (by omega), if_neg (by omega), if_pos (by omega), if_pos (by omega)]
    exact Prod.ext (by simp only; omega) rfl

end Tx
end Go.Proofs.YtfabiidohdkkcaaGreatDoor
