/- Plain mathematics of layer 3 (kinds of characters, and labels): no program in it. -/
import Derived.Test.YtfabiidohdkkcaaGreatDoorTextPure
import Derived.Lib.FieldsP
import Derived.Lib.Join
set_option linter.unusedVariables false
set_option linter.unusedSimpArgs false
namespace Go.Proofs.YtfabiidohdkkcaaGreatDoor
namespace Ks
open Tx

/-! ### kinds of characters -/
/-- A table of ranges: first, last, and what belongs to it. -/
abbrev Tab := List (Int × Int × Int)
def kinds : Tab := [(9, 10, 1), (12, 13, 1), (32, 32, 1), (33, 47, 2), (58, 64, 2), (91, 96, 2), (123, 126, 2), (160, 160, 1), (161, 169, 2), (171, 172, 2), (174, 177, 2), (180, 180, 2), (182, 184, 2), (187, 187, 2), (191, 191, 2), (215, 215, 2), (247, 247, 2), (5760, 5760, 1), (8192, 8202, 1), (8208, 8231, 2), (8239, 8239, 1), (8240, 8286, 2), (8287, 8287, 1), (8352, 8384, 2), (12288, 12288, 1), (12289, 12291, 2), (12296, 12319, 2), (65281, 65295, 2)]
def kdF : Tab → Int → Int
  | [], _ => 0
  | (a, b, k) :: t, r => if r ≤ b then (if r < a then 0 else k) else kdF t r
def kd (r : Int) : Int := kdF kinds r

/-- Is a number in one of some ranges? -/
def amg (l : List (Int × Int)) (r : Int) : Bool := l.any fun p => decide (p.1 ≤ r) && decide (r ≤ p.2)
def ascF : Int → Tab → Bool
  | _, [] => true
  | lo, (a, b, _) :: t => decide (lo < a) && decide (a ≤ b) && ascF b t
def only (k : Int) (t : Tab) : List (Int × Int) := (t.filter fun x => x.2.2 == k).map fun x => (x.1, x.2.1)

theorem only_cons (k a b j : Int) (t : Tab) : only k ((a, b, j) :: t) = if j = k then (a, b) :: only k t else only k t := by
  unfold only
  by_cases h : j = k <;> simp [h]
theorem amg_nil (r : Int) : amg [] r = false := rfl
theorem amg_cons (a b r : Int) (l : List (Int × Int)) : amg ((a, b) :: l) r = (decide (a ≤ r) && decide (r ≤ b) || amg l r) := by simp [amg]

theorem amg_below (k : Int) : ∀ (t : Tab) (lo r : Int), ascF lo t = true → r ≤ lo → amg (only k t) r = false
  | [], _, _, _, _ => rfl
  | (a, b, j) :: t, lo, r, h, hr => by
    simp only [ascF, Bool.and_eq_true, decide_eq_true_eq] at h
    have ih := amg_below k t b r h.2 (by omega)
    rw [only_cons]
    split
    · rw [amg_cons, ih, decide_eq_false (by omega : ¬ a ≤ r)]; rfl
    · exact ih
theorem kdF_only (k : Int) (hk : k ≠ 0) : ∀ (t : Tab) (lo r : Int), ascF lo t = true → (kdF t r = k ↔ amg (only k t) r = true)
  | [], _, r, _ => by
    rw [show amg (only k []) r = false from rfl]
    exact ⟨fun e => absurd e.symm hk, fun h => by cases h⟩
  | (a, b, j) :: t, lo, r, h => by
    simp only [ascF, Bool.and_eq_true, decide_eq_true_eq] at h
    rw [only_cons]
    show (if r ≤ b then (if r < a then 0 else j) else kdF t r) = k ↔ _
    by_cases hb : r ≤ b
    · have hB := amg_below k t b r h.2 hb
      rw [if_pos hb]
      by_cases ha : r < a
      · rw [if_pos ha]
        split
        · rw [amg_cons, hB, decide_eq_false (by omega : ¬ a ≤ r)]
          exact ⟨fun e => absurd e.symm hk, fun h => by cases h⟩
        · rw [hB]
          exact ⟨fun e => absurd e.symm hk, fun h => by cases h⟩
      · rw [if_neg ha]
        by_cases hj : j = k
        · rw [if_pos hj, amg_cons, decide_eq_true (by omega : a ≤ r), decide_eq_true hb]
          exact ⟨fun _ => rfl, fun _ => hj⟩
        · rw [if_neg hj, hB]
          exact ⟨fun e => absurd e hj, fun h => by cases h⟩
    · rw [if_neg hb]
      have ih := kdF_only k hk t b r h.2
      rw [ih]
      split
      · rw [amg_cons, decide_eq_false hb, Bool.and_false, Bool.false_or]
      · exact Iff.rfl
theorem dec_amg {a k : Int} {b : Bool} (h : a = k ↔ b = true) : decide (a = k) = b := by
  rw [Bool.eq_iff_iff, decide_eq_true_iff]; exact h
def whites : List (Int × Int) := [(9, 10), (12, 13), (32, 32), (160, 160), (5760, 5760), (8192, 8202), (8239, 8239), (8287, 8287), (12288, 12288)]
def signs : List (Int × Int) := [(33, 47), (58, 64), (91, 96), (123, 126), (161, 169), (171, 172), (174, 177), (180, 180), (182, 184), (187, 187), (191, 191), (215, 215), (247, 247), (8208, 8231), (8240, 8286), (8352, 8384), (12289, 12291), (12296, 12319), (65281, 65295)]
theorem white_amg (r : Int) : decide (kd r = 1) = amg whites r := by
  exact dec_amg (kdF_only 1 (by decide) kinds 0 r (by decide))
theorem sign_amg (r : Int) : decide (kd r = 2) = amg signs r := by
  exact dec_amg (kdF_only 2 (by decide) kinds 0 r (by decide))

/-! ### small letters -/
def caps : Tab := [(65, 90, 32), (192, 214, 32), (216, 222, 32), (913, 929, 32), (931, 939, 32), (962, 962, 1), (1024, 1039, 80), (1040, 1071, 32)]
def smF : Tab → Int → Int
  | [], r => r
  | (a, b, m) :: t, r => if a ≤ r ∧ r ≤ b then r + m else smF t r
def smI (r : Int) : Int := smF caps r
def sm (n : Nat) : Nat := (smI (n : Int)).toNat

theorem smI_eq (r : Int) : smI r = if 65 ≤ r ∧ r ≤ 90 then r + 32 else if 192 ≤ r ∧ r ≤ 214 then r + 32 else if 216 ≤ r ∧ r ≤ 222 then r + 32 else if 913 ≤ r ∧ r ≤ 929 then r + 32 else if 931 ≤ r ∧ r ≤ 939 then r + 32
    else if 962 ≤ r ∧ r ≤ 962 then r + 1 else if 1024 ≤ r ∧ r ≤ 1039 then r + 80 else if 1040 ≤ r ∧ r ≤ 1071 then r + 32 else r := rfl
theorem smI_nat (n : Nat) : smI (n : Int) = (sm n : Nat) := by
  unfold sm
  have : 0 ≤ smI (n : Int) := by rw [smI_eq]; (repeat' split) <;> omega
  omega
theorem sm_eq (n : Nat) : sm n = if 65 ≤ n ∧ n ≤ 90 then n + 32 else if 192 ≤ n ∧ n ≤ 214 then n + 32 else if 216 ≤ n ∧ n ≤ 222 then n + 32 else if 913 ≤ n ∧ n ≤ 929 then n + 32 else if 931 ≤ n ∧ n ≤ 939 then n + 32
    else if 962 ≤ n ∧ n ≤ 962 then n + 1 else if 1024 ≤ n ∧ n ≤ 1039 then n + 80 else if 1040 ≤ n ∧ n ≤ 1071 then n + 32 else n := by
  have h := smI_nat n
  rw [smI_eq] at h
  repeat' split at h
  all_goals (first | rw [if_pos (by omega)] | rw [if_neg (by omega)])
  all_goals (try omega)
  all_goals (repeat' (first | rw [if_pos (by omega)] | rw [if_neg (by omega)]))
  all_goals omega

/-- A character's number. -/
def Valid (n : Nat) : Prop := 0 < n ∧ n ≤ 1114111 ∧ (n < 55296 ∨ 57343 < n)
theorem sm_valid {n : Nat} (h : Valid n) : Valid (sm n) := by
  unfold Valid at *; rw [sm_eq]; (repeat' split) <;> omega
def Small (m : Nat) : Prop := ¬ (65 ≤ m ∧ m ≤ 90) ∧ ¬ (192 ≤ m ∧ m ≤ 214) ∧ ¬ (216 ≤ m ∧ m ≤ 222) ∧ ¬ (913 ≤ m ∧ m ≤ 929) ∧ ¬ (931 ≤ m ∧ m ≤ 939) ∧ ¬ (962 ≤ m ∧ m ≤ 962) ∧ ¬ (1024 ≤ m ∧ m ≤ 1039) ∧ ¬ (1040 ≤ m ∧ m ≤ 1071)
theorem sm_small (n : Nat) : Small (sm n) := by
  unfold Small; rw [sm_eq]; (repeat' split) <;> omega
theorem small_sm {m : Nat} (h : Small m) : sm m = m := by
  obtain ⟨h1, h2, h3, h4, h5, h6, h7, h8⟩ := h
  rw [sm_eq, if_neg h1, if_neg h2, if_neg h3, if_neg h4, if_neg h5, if_neg h6, if_neg h7, if_neg h8]
theorem sm_idem (n : Nat) : sm (sm n) = sm n := small_sm (sm_small n)
theorem sm_sharp (n : Nat) (h : ¬ (n = 223 ∨ n = 7838)) : ¬ (sm n = 223 ∨ sm n = 7838) := by
  rw [sm_eq]; (repeat' split) <;> omega

/-! ### characters there and back -/
theorem toNat_of (n : Nat) (h : n < 256) : (UInt8.ofNat n).toNat = n := by
  rw [UInt8.toNat_ofNat']; exact Nat.mod_eq_of_lt h
theorem enc_char {n : Nat} (h : Valid n) : IsChar (encN n) ∧ val (encN n) = n := by
  unfold Valid at h
  unfold encN
  by_cases h1 : n < 128
  · rw [if_pos h1]
    have e := toNat_of n (by omega)
    refine ⟨isChar_ascii _ (by rw [e]; exact h1) (fun h0 => ?_), by rw [val_1, e]⟩
    rw [h0] at e; simp at e; omega
  rw [if_neg h1]
  by_cases h2 : n < 2048
  · rw [if_pos h2]
    have e0 := toNat_of (192 + n / 64) (by omega)
    have e1 := toNat_of (128 + n % 64) (by omega)
    generalize UInt8.ofNat (192 + n / 64) = a at *
    generalize UInt8.ofNat (128 + n % 64) = b at *
    refine ⟨⟨by simp, ?_, ?_⟩, ?_⟩
    · rw [good_eq, show at' [a, b] 0 = a.toNat from rfl, show at' [a, b] 1 = b.toNat from rfl]
      unfold goodN
      rw [e0, e1, show ([a, b] : List UInt8).length = 2 from rfl, if_neg (by omega), if_pos (by omega)]
    · intro h0; simp at h0; subst h0; simp at e0; omega
    · rw [val_2, e0, e1]; omega
  rw [if_neg h2]
  by_cases h3 : n < 65536
  · rw [if_pos h3]
    have e0 := toNat_of (224 + n / 4096) (by omega)
    have e1 := toNat_of (128 + n / 64 % 64) (by omega)
    have e2 := toNat_of (128 + n % 64) (by omega)
    generalize UInt8.ofNat (224 + n / 4096) = a at *
    generalize UInt8.ofNat (128 + n / 64 % 64) = b at *
    generalize UInt8.ofNat (128 + n % 64) = c at *
    refine ⟨⟨by simp, ?_, ?_⟩, ?_⟩
    · rw [good_eq, show at' [a, b, c] 0 = a.toNat from rfl, show at' [a, b, c] 1 = b.toNat from rfl, show at' [a, b, c] 2 = c.toNat from rfl]
      unfold goodN
      rw [e0, e1, e2, show ([a, b, c] : List UInt8).length = 3 from rfl, if_neg (by omega), if_neg (by omega), if_pos (by omega)]
    · intro h0; simp at h0; subst h0; simp at e0; omega
    · rw [val_3, e0, e1, e2]; omega
  rw [if_neg h3]
  have e0 := toNat_of (240 + n / 262144) (by omega)
  have e1 := toNat_of (128 + n / 4096 % 64) (by omega)
  have e2 := toNat_of (128 + n / 64 % 64) (by omega)
  have e3 := toNat_of (128 + n % 64) (by omega)
  generalize UInt8.ofNat (240 + n / 262144) = a at *
  generalize UInt8.ofNat (128 + n / 4096 % 64) = b at *
  generalize UInt8.ofNat (128 + n / 64 % 64) = c at *
  generalize UInt8.ofNat (128 + n % 64) = d at *
  refine ⟨⟨by simp, ?_, ?_⟩, ?_⟩
  · rw [good_eq, show at' [a, b, c, d] 0 = a.toNat from rfl, show at' [a, b, c, d] 1 = b.toNat from rfl, show at' [a, b, c, d] 2 = c.toNat from rfl, show at' [a, b, c, d] 3 = d.toNat from rfl]
    unfold goodN
    rw [e0, e1, e2, e3, show ([a, b, c, d] : List UInt8).length = 4 from rfl, if_neg (by omega), if_neg (by omega), if_neg (by omega), if_pos (by omega)]
  · intro h0; simp at h0; subst h0; simp at e0; omega
  · rw [val_4, e0, e1, e2, e3]; omega

/-- Numbers as a text. -/
def enc (ns : List Nat) : List UInt8 := ns.flatMap encN
theorem enc_nil : enc [] = [] := rfl
theorem enc_cons (n : Nat) (ns : List Nat) : enc (n :: ns) = encN n ++ enc ns := rfl
theorem enc_app (a b : List Nat) : enc (a ++ b) = enc a ++ enc b := by simp [enc]
theorem enc_32 : encN 32 = [32] := rfl
theorem encN_len (n : Nat) : 1 ≤ (encN n).length ∧ (encN n).length ≤ 4 := by
  unfold encN; repeat' split
  all_goals simp
theorem enc_len (ns : List Nat) : ns.length ≤ (enc ns).length ∧ (enc ns).length ≤ 4 * ns.length := by
  induction ns with
  | nil => simp [enc]
  | cons n ns ih => rw [enc_cons]; have := encN_len n; simp; omega

def AllV (ns : List Nat) : Prop := ∀ n ∈ ns, Valid n
theorem chars_enc (ns : List Nat) (m : List UInt8) (h : AllV ns) : chars (enc ns ++ m) = ns.map encN ++ chars m := by
  have e : enc ns = (ns.map encN).flatten := by simp [enc, List.flatMap_def]
  rw [e, chars_flat _ _ (fun c hc => by obtain ⟨n, hn, rfl⟩ := List.mem_map.1 hc; exact (enc_char (h n hn)).1)]
theorem runes_enc_app (ns : List Nat) (m : List UInt8) (h : AllV ns) : runes (enc ns ++ m) = ns ++ runes m := by
  unfold runes
  rw [chars_enc ns m h, List.map_append, List.map_map]
  congr 1
  conv => rhs; rw [← List.map_id ns]
  exact List.map_congr_left fun n hn => (enc_char (h n hn)).2
theorem runes_nil : runes [] = [] := by simp [runes, chars_nil]
theorem runes_enc (ns : List Nat) (h : AllV ns) : runes (enc ns) = ns := by
  have := runes_enc_app ns [] h
  simpa [runes_nil] using this
theorem runes_valid (l : List UInt8) : AllV (runes l) := by
  intro n hn
  obtain ⟨c, hc, rfl⟩ := List.mem_map.1 hn
  exact val_range c (chars_isChar l c hc)
theorem enc_runes (l : List UInt8) : enc (runes l) = clean l := by
  unfold enc runes clean
  rw [List.flatMap_def, List.map_map]
  congr 1
  conv => rhs; rw [← List.map_id (chars l)]
  exact List.map_congr_left fun c hc => encN_val c (chars_isChar l c hc)
theorem runes_len (l : List UInt8) : (runes l).length ≤ l.length := by have := chars_length l; simpa [runes] using this
theorem clean_enc (ns : List Nat) (h : AllV ns) : clean (enc ns) = enc ns := by
  rw [← enc_runes, runes_enc ns h]

/-! ### without capitals -/
def foldN (r : Nat) : List Nat := if r = 223 ∨ r = 7838 then [115, 115] else [sm r]
def foldRs (ns : List Nat) : List Nat := ns.flatMap foldN
def fold (l : List UInt8) : List UInt8 := enc (foldRs (runes l))

theorem foldRs_nil : foldRs [] = [] := rfl
theorem foldRs_cons (n : Nat) (ns : List Nat) : foldRs (n :: ns) = foldN n ++ foldRs ns := rfl
theorem foldRs_app (a b : List Nat) : foldRs (a ++ b) = foldRs a ++ foldRs b := by simp [foldRs]
theorem foldN_valid {n : Nat} (h : Valid n) : AllV (foldN n) := by
  unfold foldN
  split
  · intro m hm
    simp at hm; subst hm; unfold Valid; omega
  · intro m hm
    simp at hm; subst hm; exact sm_valid h
theorem foldRs_valid {ns : List Nat} (h : AllV ns) : AllV (foldRs ns) := by
  intro m hm
  obtain ⟨n, hn, hmn⟩ := List.mem_flatMap.1 hm
  exact foldN_valid (h n hn) m hmn
theorem foldN_fix (n : Nat) : foldRs (foldN n) = foldN n := by
  unfold foldN
  split
  · rfl
  · rename_i h
    show foldN (sm n) ++ [] = [sm n]
    unfold foldN
    rw [if_neg (sm_sharp n h), sm_idem, List.append_nil]
theorem foldRs_fix (ns : List Nat) : foldRs (foldRs ns) = foldRs ns := by
  induction ns with
  | nil => rfl
  | cons n ns ih => rw [foldRs_cons, foldRs_app, foldN_fix, ih]
theorem runes_fold (l : List UInt8) : runes (fold l) = foldRs (runes l) := runes_enc _ (foldRs_valid (runes_valid l))
theorem fold_fold (l : List UInt8) : fold (fold l) = fold l := by
  show enc (foldRs (runes (fold l))) = _
  rw [runes_fold, foldRs_fix]; rfl
theorem foldRs_len (ns : List Nat) : (foldRs ns).length ≤ 2 * ns.length := by
  induction ns with
  | nil => simp [foldRs]
  | cons n ns ih =>
    rw [foldRs_cons]
    have : (foldN n).length ≤ 2 := by unfold foldN; split <;> simp
    simp; omega
theorem fold_len (l : List UInt8) : (fold l).length ≤ 8 * l.length := by
  have h1 := (enc_len (foldRs (runes l))).2
  have h2 := foldRs_len (runes l)
  have h3 := runes_len l
  unfold fold; omega
/-- P3.2: two texts that were cleaned. -/
theorem fold_sums (a b : List UInt8) : fold (clean a ++ clean b) = fold (clean a) ++ fold (clean b) := by
  have h1 : runes (clean a ++ clean b) = runes a ++ runes b := by
    rw [← enc_runes a, runes_enc_app _ _ (runes_valid a)]
    congr 1
    rw [← enc_runes b, runes_enc _ (runes_valid b)]
  have h2 : ∀ l, runes (clean l) = runes l := fun l => by rw [← enc_runes l, runes_enc _ (runes_valid l)]
  unfold fold
  rw [h1, h2, h2, foldRs_app, enc_app]

/-! ### fields, and a sign between them -/
section
variable {α : Type} (p : α → Bool)
def flg : List α → List α → List (List α)
  | [], cur => if cur.isEmpty then [] else [cur]
  | x :: t, cur => if p x then (if cur.isEmpty then flg t [] else cur :: flg t []) else flg t (cur ++ [x])
def fl (l : List α) : List (List α) := flg p l []
def jn (s : α) : List (List α) → List α
  | [] => []
  | [x] => x
  | x :: y :: t => x ++ s :: jn s (y :: t)

theorem fl_nil : fl p [] = [] := rfl
theorem flg_split (x : α) (hx : p x = true) (b : List α) : ∀ (a cur : List α), flg p (a ++ x :: b) cur = flg p a cur ++ fl p b
  | [], cur => by
    simp only [List.nil_append, flg, hx, if_true, fl]
    cases cur with
    | nil => simp
    | cons c t => simp
  | y :: a, cur => by
    simp only [List.cons_append, flg]
    have ih1 := flg_split x hx b a []
    have ih2 := flg_split x hx b a (cur ++ [y])
    split
    · split
      · exact ih1
      · rw [ih1]; rfl
    · exact ih2
theorem fl_split (x : α) (hx : p x = true) (a b : List α) : fl p (a ++ x :: b) = fl p a ++ fl p b := flg_split p x hx b a []
theorem flg_none : ∀ (a cur : List α), (∀ x ∈ a, p x = false) → flg p a cur = if (cur ++ a).isEmpty then [] else [cur ++ a]
  | [], cur, _ => by simp [flg]
  | y :: a, cur, h => by
    simp only [flg, h y (by simp), Bool.false_eq_true, if_false]
    rw [flg_none a (cur ++ [y]) (fun x hx => h x (by simp [hx]))]
    simp
theorem fl_none (a : List α) (h : ∀ x ∈ a, p x = false) : fl p a = if a.isEmpty then [] else [a] := by
  have := flg_none p a [] h
  simpa [fl] using this
theorem split_at (l : List α) : (∀ x ∈ l, p x = false) ∨ ∃ a x b, l = a ++ x :: b ∧ p x = true ∧ ∀ y ∈ a, p y = false := by
  induction l with
  | nil => left; intro x hx; cases hx
  | cons c t ih =>
    cases hc : p c with
    | true => right; exact ⟨[], c, t, rfl, hc, fun y hy => by cases hy⟩
    | false =>
      rcases ih with h | ⟨a, x, b, rfl, hx, ha⟩
      · left; intro x hx; rcases List.mem_cons.1 hx with rfl | hx
        · exact hc
        · exact h x hx
      · right; refine ⟨c :: a, x, b, rfl, hx, fun y hy => ?_⟩
        rcases List.mem_cons.1 hy with rfl | hy
        · exact hc
        · exact ha y hy
theorem flg_good : ∀ (l cur : List α), (∀ x ∈ cur, p x = false) → ∀ F ∈ flg p l cur, F ≠ [] ∧ ∀ x ∈ F, p x = false
  | [], cur, h, F, hF => by
    cases cur with
    | nil => simp [flg] at hF
    | cons c t => simp [flg] at hF; subst hF; exact ⟨by simp, h⟩
  | y :: l, cur, h, F, hF => by
    simp only [flg] at hF
    cases hy : p y with
    | true =>
      rw [hy] at hF
      simp only [if_true] at hF
      cases cur with
      | nil => exact flg_good l [] (fun x hx => by cases hx) F (by simpa using hF)
      | cons c t =>
        simp only [List.isEmpty_cons, Bool.false_eq_true, if_false, List.mem_cons] at hF
        rcases hF with rfl | hF
        · exact ⟨by simp, h⟩
        · exact flg_good l [] (fun x hx => by cases hx) F hF
    | false =>
      rw [hy] at hF
      simp only [Bool.false_eq_true, if_false] at hF
      refine flg_good l (cur ++ [y]) (fun x hx => ?_) F hF
      rcases List.mem_append.1 hx with hx | hx
      · exact h x hx
      · simp at hx; subst hx; exact hy
theorem fl_good (l : List α) : ∀ F ∈ fl p l, F ≠ [] ∧ ∀ x ∈ F, p x = false := flg_good p l [] (fun x hx => by cases hx)
theorem fl_jn (s : α) (hs : p s = true) : ∀ (Fs : List (List α)), (∀ F ∈ Fs, F ≠ [] ∧ ∀ x ∈ F, p x = false) → fl p (jn s Fs) = Fs
  | [], _ => rfl
  | [x], h => by
    obtain ⟨h1, h2⟩ := h x (by simp)
    show fl p x = _
    rw [fl_none p x h2]
    cases x with
    | nil => exact absurd rfl h1
    | cons c t => rfl
  | x :: y :: t, h => by
    obtain ⟨h1, h2⟩ := h x (by simp)
    show fl p (x ++ s :: jn s (y :: t)) = _
    rw [fl_split p s hs, fl_jn s hs (y :: t) (fun F hF => h F (by simp at hF ⊢; right; exact hF)), fl_none p x h2]
    cases x with
    | nil => exact absurd rfl h1
    | cons c t => rfl
/-- White space at an end, and how much there is, says nothing. -/
theorem fl_gaps (g : List α) (hg : ∀ x ∈ g, p x = true) (l : List α) : fl p (g ++ l) = fl p l := by
  induction g with
  | nil => rfl
  | cons c t ih =>
    have := fl_split p c (hg c (by simp)) [] (t ++ l)
    rw [List.nil_append] at this
    rw [List.cons_append, this, fl_nil, List.nil_append, ih (fun x hx => hg x (by simp [hx]))]
theorem fl_mid (a g b : List α) (hg : ∀ x ∈ g, p x = true) (h0 : g ≠ []) : fl p (a ++ g ++ b) = fl p a ++ fl p b := by
  cases g with
  | nil => exact absurd rfl h0
  | cons c t =>
    rw [List.append_assoc, List.cons_append, fl_split p c (hg c (by simp)), fl_gaps p t (fun x hx => hg x (by simp [hx]))]
theorem fl_around (g a b : List α) (s : α) (hs : p s = true) (hg : ∀ x ∈ g, p x = true) (h0 : g ≠ []) : fl p (g ++ a ++ g ++ b ++ g) = fl p (a ++ s :: b) := by
  have h1 := fl_mid p (g ++ a ++ g ++ b) g [] hg h0
  rw [List.append_nil, fl_nil, List.append_nil] at h1
  rw [h1, fl_mid p (g ++ a) g b hg h0, fl_gaps p g hg, fl_split p s hs]
def lsum (Fs : List (List α)) : Nat := (Fs.map fun F => F.length + 1).sum
theorem flg_sum : ∀ (t cur : List α), lsum (flg p t cur) ≤ cur.length + t.length + 1
  | [], cur => by
    cases cur with
    | nil => simp [flg, lsum]
    | cons c t => simp [flg, lsum]
  | x :: t, cur => by
    have h1 := flg_sum t []
    have h2 := flg_sum t (cur ++ [x])
    simp only [flg]
    split
    · split
      · simp at h1 ⊢; omega
      · simp [lsum] at h1 ⊢; omega
    · simp at h2 ⊢; omega
theorem jn_len (s : α) : ∀ (Fs : List (List α)), (jn s Fs).length ≤ lsum Fs
  | [] => by simp [jn, lsum]
  | [x] => by simp [jn, lsum]
  | x :: y :: t => by
    have := jn_len s (y :: t)
    simp [jn, lsum] at this ⊢; omega
theorem jn_fl_len (s : α) (l : List α) : (jn s (fl p l)).length ≤ l.length + 1 := by
  have h1 := jn_len s (fl p l)
  have h2 := flg_sum p l []
  unfold fl at *; simp at h2; omega
theorem fl_count (l : List α) : (fl p l).length ≤ l.length + 1 := by
  have h2 := flg_sum p l []
  have : ∀ Fs : List (List α), Fs.length ≤ lsum Fs := fun Fs => by
    induction Fs with
    | nil => simp [lsum]
    | cons x t ih => simp [lsum] at ih ⊢; omega
  have := this (flg p l [])
  unfold fl; simp at h2; omega
theorem jn_snoc (s : α) : ∀ (Fs : List (List α)) (x : List α), Fs ≠ [] → jn s (Fs ++ [x]) = jn s Fs ++ s :: x
  | [], _, h => absurd rfl h
  | [y], x, _ => rfl
  | y :: z :: t, x, _ => by
    have := jn_snoc s (z :: t) x (by simp)
    show y ++ s :: jn s (z :: t ++ [x]) = _
    rw [this]
    simp [jn]
theorem jn_last (s : α) (Fs : List (List α)) (x y : List α) : jn s (Fs ++ [x ++ y]) = jn s (Fs ++ [x]) ++ y := by
  cases Fs with
  | nil => rfl
  | cons z t => rw [jn_snoc s _ _ (by simp), jn_snoc s _ _ (by simp)]; simp
end

/-- What goes over each text by itself goes over its fields. -/
theorem fl_map {α β : Type} (p : α → Bool) (q : β → Bool) (f : List α → List β) (g : α → β) (hf : ∀ a x b, p x = true → f (a ++ x :: b) = f a ++ g x :: f b) (hg : ∀ x, p x = true → q (g x) = true)
    (hn : ∀ a, (∀ x ∈ a, p x = false) → ∀ y ∈ f a, q y = false) (h0 : ∀ a, f a = [] ↔ a = []) :
    ∀ (k : Nat) (l : List α), l.length ≤ k → fl q (f l) = (fl p l).map f := by
  have base : ∀ l, (∀ x ∈ l, p x = false) → fl q (f l) = (fl p l).map f := fun l h => by
    rw [fl_none q _ (hn l h), fl_none p l h]
    by_cases e : l = []
    · subst e
      have e2 : f [] = [] := (h0 []).2 rfl
      rw [e2]; rfl
    · have e2 : f l ≠ [] := fun h => e ((h0 l).1 h)
      cases l with
      | nil => exact absurd rfl e
      | cons c t =>
        cases hfl : f (c :: t) with
        | nil => exact absurd hfl e2
        | cons d u => simp [hfl]
  intro k
  induction k with
  | zero => intro l hl; exact base l (fun x hx => by have : l = [] := List.length_eq_zero_iff.1 (by omega); subst this; cases hx)
  | succ k ih =>
    intro l hl
    rcases split_at p l with h | ⟨a, x, b, rfl, hx, ha⟩
    · exact base l h
    · rw [hf a x b hx, fl_split q _ (hg x hx), fl_split p x hx, base a ha, ih b (by simp at hl; omega), List.map_append]
theorem jn_map {α β : Type} (f : List α → List β) (s : α) (r : β) (hf : ∀ a b, f (a ++ s :: b) = f a ++ r :: f b) (h0 : f [] = []) : ∀ (Fs : List (List α)), f (jn s Fs) = jn r (Fs.map f)
  | [] => h0
  | [x] => rfl
  | x :: y :: t => by
    have ih := jn_map f s r hf h0 (y :: t)
    show f (x ++ s :: jn s (y :: t)) = _
    rw [hf, ih]; rfl
theorem lib_join (L : List (List UInt8)) : Lib.join L [32] = jn 32 L := by
  induction L with
  | nil => rfl
  | cons x t ih =>
    cases t with
    | nil => exact Lib.join_one x [32]
    | cons y u =>
      rw [Lib.join_cons] at ih ⊢
      show _ = x ++ 32 :: jn 32 (y :: u)
      rw [← ih]
      simp [Lib.joinTail]

/-! ### labels -/
def gapN (n : Nat) : Bool := (decide (9 ≤ n) && decide (n ≤ 13)) || decide (n = 32)
def gapB (c : UInt8) : Bool := gapN c.toNat

theorem gapN_iff (n : Nat) : gapN n = true ↔ (9 ≤ n ∧ n ≤ 13) ∨ n = 32 := by simp [gapN]
theorem gapN_not (n : Nat) : gapN n = false ↔ ¬ ((9 ≤ n ∧ n ≤ 13) ∨ n = 32) := by rw [← gapN_iff]; simp
theorem gap_sm (n : Nat) : gapN (sm n) = gapN n := by
  rw [Bool.eq_iff_iff, gapN_iff, gapN_iff, sm_eq]; (repeat' split) <;> omega
theorem foldN_gap (n : Nat) (h : gapN n = true) : foldN n = [n] := by
  rw [gapN_iff] at h
  unfold foldN
  rw [if_neg (by omega), sm_eq]
  congr 1
  repeat' split
  all_goals omega
theorem foldN_nogap (n : Nat) (h : gapN n = false) : ∀ m ∈ foldN n, gapN m = false := by
  unfold foldN
  split
  · intro m hm; simp at hm; subst hm; rfl
  · intro m hm; simp at hm; subst hm; rw [gap_sm]; exact h
theorem foldRs_eq_nil (ns : List Nat) : foldRs ns = [] ↔ ns = [] := by
  cases ns with
  | nil => simp [foldRs]
  | cons n ns =>
    rw [foldRs_cons]
    have : foldN n ≠ [] := by unfold foldN; split <;> simp
    simp [this]
theorem fl_foldRs (ns : List Nat) : fl gapN (foldRs ns) = (fl gapN ns).map foldRs :=
  fl_map gapN gapN foldRs id (fun a x b hx => by rw [foldRs_app, foldRs_cons, foldN_gap x hx]; rfl) (fun x hx => hx)
    (fun a h y hy => by obtain ⟨n, hn, hy⟩ := List.mem_flatMap.1 hy; exact foldN_nogap n (h n hn) y hy) foldRs_eq_nil ns.length ns (Nat.le_refl _)

theorem val_multi (c : List UInt8) (h : IsChar c) : (∃ a, c = [a] ∧ val c = a.toNat) ∨ 128 ≤ val c := by
  rcases isChar_cases c h with ⟨a, rfl, h⟩ | ⟨a, b, rfl, h⟩ | ⟨a, b, d, rfl, h⟩ | ⟨a, b, d, e, rfl, h⟩
  · exact Or.inl ⟨a, rfl, rfl⟩
  · right; rw [val_2]; omega
  · right; rw [val_3]; omega
  · right; rw [val_4]; omega
theorem chars_mem (l : List UInt8) : ∀ c ∈ chars l, c = Tx.mark ∨ ∀ x ∈ c, x ∈ l := by
  induction l using chars.induct with
  | case1 => rw [chars_nil]; intro c hc; cases hc
  | case2 b l h ih =>
    rw [chars_bad b l h]; intro c hc
    rcases List.mem_cons.1 hc with rfl | hc
    · exact Or.inl rfl
    · rcases ih c hc with h | h
      · exact Or.inl h
      · exact Or.inr fun x hx => by simp [h x hx]
  | case3 b l h ih =>
    have h0 : good (b :: l) ≠ 0 := fun e => h (Or.inl e)
    have hb : b ≠ 0 := fun e => h (Or.inr e)
    rw [chars_ok b l h0 hb]; intro c hc
    rcases List.mem_cons.1 hc with rfl | hc
    · exact Or.inr fun x hx => List.mem_of_mem_take hx
    · rcases ih c hc with h | h
      · exact Or.inl h
      · exact Or.inr fun x hx => List.mem_of_mem_drop (h x hx)
theorem runes_nogap (a : List UInt8) (h : ∀ x ∈ a, gapB x = false) : ∀ n ∈ runes a, gapN n = false := by
  intro n hn
  obtain ⟨c, hc, rfl⟩ := List.mem_map.1 hn
  rcases val_multi c (chars_isChar a c hc) with ⟨x, rfl, e⟩ | hv
  · rcases chars_mem a [x] hc with e2 | hx
    · exact absurd e2 (by simp [Tx.mark])
    · rw [e]; exact h x (hx x (by simp))
  · rw [gapN_not]; omega
theorem runes_eq_nil (l : List UInt8) : runes l = [] ↔ l = [] := by
  cases l with
  | nil => simp [runes_nil]
  | cons b l =>
    unfold runes
    by_cases h : good (b :: l) = 0 ∨ b = 0
    · rw [chars_bad b l h]; simp
    · rw [chars_ok b l (fun e => h (Or.inl e)) (fun e => h (Or.inr e))]; simp
theorem runes_mid (a b : List UInt8) (x : UInt8) (hx : gapB x = true) : runes (a ++ x :: b) = runes a ++ x.toNat :: runes b := by
  have h := (gapN_iff _).1 hx
  unfold runes
  rw [chars_mid a b x (by omega) (fun e => by subst e; simp at h)]
  simp [val_1]
theorem fl_runes (l : List UInt8) : fl gapN (runes l) = (fl gapB l).map runes :=
  fl_map gapB gapN runes UInt8.toNat (fun a x b hx => runes_mid a b x hx) (fun x hx => hx) runes_nogap runes_eq_nil l.length l (Nat.le_refl _)

def labN (ns : List Nat) : List Nat := jn 32 (fl gapN (foldRs ns))
def lab (l : List UInt8) : List UInt8 := enc (labN (runes l))

theorem foldRs_32 (a b : List Nat) : foldRs (a ++ 32 :: b) = foldRs a ++ 32 :: foldRs b := by rw [foldRs_app, foldRs_cons]; rfl
theorem foldRs_jn (Fs : List (List Nat)) : foldRs (jn 32 Fs) = jn 32 (Fs.map foldRs) := jn_map foldRs 32 32 foldRs_32 rfl Fs
theorem runes_jn (Fs : List (List UInt8)) : runes (jn 32 Fs) = jn 32 (Fs.map runes) := jn_map runes 32 32 (fun a b => runes_mid a b 32 rfl) runes_nil Fs
theorem enc_jn (Fs : List (List Nat)) : enc (jn 32 Fs) = jn 32 (Fs.map enc) := jn_map enc 32 32 (fun a b => by rw [enc_app, enc_cons]; rfl) rfl Fs

theorem labN_fold (ns : List Nat) : foldRs (labN ns) = labN ns := by
  unfold labN
  rw [foldRs_jn, ← fl_foldRs, foldRs_fix]
theorem labN_of_fold (ns : List Nat) : labN (foldRs ns) = labN ns := by unfold labN; rw [foldRs_fix]
theorem labN_labN (ns : List Nat) : labN (labN ns) = labN ns := by
  have h := labN_fold ns
  show jn 32 (fl gapN (foldRs (labN ns))) = _
  rw [h]
  unfold labN
  rw [fl_jn gapN 32 rfl _ (fl_good gapN _)]
theorem labN_valid {ns : List Nat} (h : AllV ns) : AllV (labN ns) := by
  have h2 := foldRs_valid h
  have h3 : ∀ (l cur : List Nat), AllV l → AllV cur → ∀ F ∈ flg gapN l cur, AllV F := by
    intro l
    induction l with
    | nil =>
      intro cur _ hc F hF
      cases cur with
      | nil => simp [flg] at hF
      | cons c t => simp [flg] at hF; subst hF; exact hc
    | cons x t ih =>
      intro cur hl hc F hF
      have ht : AllV t := fun n hn => hl n (by simp [hn])
      simp only [flg] at hF
      split at hF
      · split at hF
        · exact ih [] ht (fun n hn => by cases hn) F hF
        · rcases List.mem_cons.1 hF with rfl | hF
          · exact hc
          · exact ih [] ht (fun n hn => by cases hn) F hF
      · refine ih (cur ++ [x]) ht (fun n hn => ?_) F hF
        rcases List.mem_append.1 hn with hn | hn
        · exact hc n hn
        · simp at hn; subst hn; exact hl n (by simp)
  have h4 : ∀ Fs : List (List Nat), (∀ F ∈ Fs, AllV F) → AllV (jn 32 Fs) := by
    intro Fs
    induction Fs with
    | nil => intro _ n hn; cases hn
    | cons x t ih =>
      intro h
      cases t with
      | nil => exact h x (by simp)
      | cons y u =>
        intro n hn
        have hn' : n ∈ x ++ 32 :: jn 32 (y :: u) := hn
        rcases List.mem_append.1 hn' with hn | hn
        · exact h x (by simp) n hn
        · rcases List.mem_cons.1 hn with rfl | hn
          · unfold Valid; omega
          · exact ih (fun F hF => h F (by simp at hF ⊢; right; exact hF)) n hn
  exact h4 _ (fun F hF => h3 _ [] h2 (fun n hn => by cases hn) F hF)
theorem runes_lab (l : List UInt8) : runes (lab l) = labN (runes l) := runes_enc _ (labN_valid (runes_valid l))
/-- P3.4. -/
theorem lab_lab (l : List UInt8) : lab (lab l) = lab l := by
  show enc (labN (runes (lab l))) = _
  rw [runes_lab, labN_labN]; rfl
theorem lab_fold (l : List UInt8) : lab (fold l) = lab l := by
  show enc (labN (runes (fold l))) = _
  rw [runes_fold, labN_of_fold]; rfl
theorem fold_lab (l : List UInt8) : fold (lab l) = lab l := by
  show enc (foldRs (runes (lab l))) = _
  rw [runes_lab, labN_fold]; rfl
/-- The document's way: first white space, then capitals. -/
theorem lab_ref (l : List UInt8) : fold (jn 32 (fl gapB l)) = lab l := by
  unfold fold lab labN
  rw [runes_jn, foldRs_jn, ← fl_runes, ← fl_foldRs]
theorem lab_blanks (g a b : List UInt8) (hg : ∀ x ∈ g, gapB x = true) (h0 : g ≠ []) : lab (g ++ a ++ g ++ b ++ g) = lab (a ++ 32 :: b) := by
  rw [← lab_ref, ← lab_ref, fl_around gapB g a b 32 rfl hg h0]
theorem lab_len (l : List UInt8) : (lab l).length ≤ 8 * l.length + 4 := by
  have h1 := (enc_len (labN (runes l))).2
  have h2 := jn_fl_len gapN 32 (foldRs (runes l))
  have h3 := foldRs_len (runes l)
  have h4 := runes_len l
  unfold lab; unfold labN at *; omega

/-! The document's own loop. -/
def stp (st : List UInt8 × Bool) (c : UInt8) : List UInt8 × Bool :=
  if gapB c then (st.1, decide (0 < st.1.length)) else ((if st.2 then st.1 ++ [32] else st.1) ++ [c], false)
theorem jn_pos (Fs : List (List UInt8)) (h : ∀ F ∈ Fs, F ≠ []) (h0 : Fs ≠ []) : 0 < (jn 32 Fs).length := by
  cases Fs with
  | nil => exact absurd rfl h0
  | cons x t =>
    have := List.length_pos_iff.2 (h x (by simp))
    cases t with
    | nil => exact this
    | cons y u => show 0 < (x ++ 32 :: jn 32 (y :: u)).length; simp; omega
theorem stp_go : ∀ (rest : List UInt8) (Fs : List (List UInt8)) (cur : List UInt8), (∀ F ∈ Fs, F ≠ []) →
    (rest.foldl stp (jn 32 (Fs ++ if cur.isEmpty then [] else [cur]), cur.isEmpty && !Fs.isEmpty)).1 = jn 32 (Fs ++ flg gapB rest cur)
  | [], Fs, cur, h => rfl
  | c :: rest, Fs, cur, h => by
    rw [List.foldl_cons]
    cases hc : gapB c with
    | true =>
      simp only [stp, hc, if_true, flg]
      cases cur with
      | nil =>
        have ih := stp_go rest Fs [] h
        simp only [List.isEmpty_nil, if_true, List.append_nil, Bool.true_and] at ih ⊢
        rw [← ih]
        congr 3
        cases Fs with
        | nil => rfl
        | cons x t => exact decide_eq_true (jn_pos _ h (by simp))
      | cons d u =>
        have ih := stp_go rest (Fs ++ [d :: u]) [] (fun F hF => by
          rcases List.mem_append.1 hF with hF | hF
          · exact h F hF
          · simp at hF; subst hF; simp)
        simp only [List.isEmpty_nil, if_true, List.append_nil, Bool.true_and, List.isEmpty_cons, Bool.false_eq_true, if_false, List.append_assoc, List.cons_append, List.nil_append] at ih ⊢
        rw [← ih]
        congr 3
        have : 0 < (jn 32 (Fs ++ [d :: u])).length := jn_pos _ (fun F hF => by
          rcases List.mem_append.1 hF with hF | hF
          · exact h F hF
          · simp at hF; subst hF; simp) (by simp)
        rw [decide_eq_true this]; simp
    | false =>
      simp only [stp, hc, Bool.false_eq_true, if_false, flg]
      have ih := stp_go rest Fs (cur ++ [c]) h
      rw [← ih]
      congr 2
      have e1 : (cur ++ [c]).isEmpty = false := by simp
      rw [e1]
      simp only [Bool.false_and, Bool.false_eq_true, if_false]
      congr 1
      cases cur with
      | nil =>
        simp only [List.isEmpty_nil, if_true, List.append_nil, Bool.true_and, List.nil_append]
        cases Fs with
        | nil => rfl
        | cons x t => rw [jn_snoc 32 _ _ (by simp)]; simp
      | cons d u =>
        simp only [List.isEmpty_cons, Bool.false_and, Bool.false_eq_true, if_false]
        rw [jn_last]
theorem stp_all (l : List UInt8) : (l.foldl stp ([], false)).1 = jn 32 (fl gapB l) := stp_go l [] [] (fun F hF => by cases hF)
end Ks
end Go.Proofs.YtfabiidohdkkcaaGreatDoor
