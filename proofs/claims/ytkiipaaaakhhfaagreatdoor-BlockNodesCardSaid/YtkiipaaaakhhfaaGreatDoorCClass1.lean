import Derived.Test.YtkiipaaaakhhfaaGreatDoorCText1
import Derived.Lib.FieldsP
import Derived.Lib.Join
section
set_option linter.unusedVariables false
set_option linter.unusedSimpArgs false
namespace Go.Proofs.YtkiipaaaakhhfaaGreatDoor
namespace Ks
open Tx
abbrev Tab := List (Int × Int × Int)
def kinds : Tab := [(9, 10, 1), (12, 13, 1), (32, 32, 1), (33, 47, 2), (58, 64, 2), (91, 96, 2), (123, 126, 2), (160, 160, 1), (161, 169, 2), (171, 172, 2), (174, 177, 2), (180, 180, 2), (182, 184, 2), (187, 187, 2), (191, 191, 2), (215, 215, 2), (247, 247, 2), (5760, 5760, 1), (8192, 8202, 1), (8208, 8231, 2), (8239, 8239, 1), (8240, 8286, 2), (8287, 8287, 1), (8352, 8384, 2), (12288, 12288, 1), (12289, 12291, 2), (12296, 12319, 2), (65281, 65295, 2)]
def kdF : Tab → Int → Int
  | [], _ => 0
  | (a, b, k) :: t, r => if r ≤ b then (if r < a then 0 else k) else kdF t r
def kd (r : Int) : Int := kdF kinds r
def amg (l : List (Int × Int)) (r : Int) : Bool := l.any fun p => decide (p.1 ≤ r) && decide (r ≤ p.2)
def ascF : Int → Tab → Bool
  | _, [] => true
  | lo, (a, b, _) :: t => decide (lo < a) && decide (a ≤ b) && ascF b t
def only (k : Int) (t : Tab) : List (Int × Int) := (t.filter fun x => x.2.2 == k).map fun x => (x.1, x.2.1)
theorem only_cons (k a b j : Int) (t : Tab) : only k ((a, b, j) :: t) = if j = k then (a, b) :: only k t else only k t := by
  unfold only
  by_cases h : j = k <;> simp [h]
theorem amg_cons (a b r : Int) (l : List (Int × Int)) : amg ((a, b) :: l) r = (decide (a ≤ r) && decide (r ≤ b) || amg l r) := by simp [amg]
theorem amg_below (k : Int) : ∀ (t : Tab) (lo r : Int), ascF lo t = true → r ≤ lo → amg (only k t) r = false
  | [], _, _, _, _ => rfl
  | (a, b, j) :: t, lo, r, h, hr => by
    simp only [ascF, Bool.and_eq_true, decide_eq_true_eq] at h
    have ih := amg_below k t b r h.2 (by omega)
    rw [only_cons]
    split
    · rw [amg_cons, ih, decide_eq_false (by omega : ¬ a ≤ r)]; rfl
    · exact ih
theorem kdF_only (k : Int) (hk : k ≠ 0) : ∀ (t : Tab) (lo r : Int), ascF lo t = true → (kdF t r = k ↔ amg (only k t) r = true)
  | [], _, r, _ => by
    rw [show amg (only k []) r = false from rfl]
    exact ⟨fun e => absurd e.symm hk, fun h => by cases h⟩
  | (a, b, j) :: t, lo, r, h => by
    simp only [ascF, Bool.and_eq_true, decide_eq_true_eq] at h
    rw [only_cons]
    show (if r ≤ b then (if r < a then 0 else j) else kdF t r) = k ↔ _
    by_cases hb : r ≤ b
    · have hB := amg_below k t b r h.2 hb
      rw [if_pos hb]
      by_cases ha : r < a
      · rw [if_pos ha]
        split
        · rw [amg_cons, hB, decide_eq_false (by omega : ¬ a ≤ r)]
          exact ⟨fun e => absurd e.symm hk, fun h => by cases h⟩
        · rw [hB]
          exact ⟨fun e => absurd e.symm hk, fun h => by cases h⟩
      · rw [if_neg ha]
        by_cases hj : j = k
        · rw [if_pos hj, amg_cons, decide_eq_true (by omega : a ≤ r), decide_eq_true hb]
          exact ⟨fun _ => rfl, fun _ => hj⟩
        · rw [if_neg hj, hB]
          exact ⟨fun e => absurd e hj, fun h => by cases h⟩
    · rw [if_neg hb]
      have ih := kdF_only k hk t b r h.2
      rw [ih]
      split
      · rw [amg_cons, decide_eq_false hb, Bool.and_false, Bool.false_or]
      · exact Iff.rfl
theorem dec_amg {a k : Int} {b : Bool} (h : a = k ↔ b = true) : decide (a = k) = b := by
  rw [Bool.eq_iff_iff, decide_eq_true_iff]; exact h
def signs : List (Int × Int) := [(33, 47), (58, 64), (91, 96), (123, 126), (161, 169), (171, 172), (174, 177), (180, 180), (182, 184), (187, 187), (191, 191), (215, 215), (247, 247), (8208, 8231), (8240, 8286), (8352, 8384), (12289, 12291), (12296, 12319), (65281, 65295)]
theorem sign_amg (r : Int) : decide (kd r = 2) = amg signs r := by
  exact dec_amg (kdF_only 2 (by decide) kinds 0 r (by decide))
def caps : Tab := [(65, 90, 32), (192, 214, 32), (216, 222, 32), (913, 929, 32), (931, 939, 32), (962, 962, 1), (1024, 1039, 80), (1040, 1071, 32)]
def smF : Tab → Int → Int
  | [], r => r
  | (a, b, m) :: t, r => if a ≤ r ∧ r ≤ b then r + m else smF t r
def smI (r : Int) : Int := smF caps r
def sm (n : Nat) : Nat := (smI (n : Int)).toNat
theorem smI_eq (r : Int) : smI r = if 65 ≤ r ∧ r ≤ 90 then r + 32 else if 192 ≤ r ∧ r ≤ 214 then r + 32 else if 216 ≤ r ∧ r ≤ 222 then r + 32 else if 913 ≤ r ∧ r ≤ 929 then r + 32 else if 931 ≤ r ∧ r ≤ 939 then r + 32
    else if 962 ≤ r ∧ r ≤ 962 then r + 1 else if 1024 ≤ r ∧ r ≤ 1039 then r + 80 else if 1040 ≤ r ∧ r ≤ 1071 then r + 32 else r := rfl
theorem smI_nat (n : Nat) : smI (n : Int) = (sm n : Nat) := by
  unfold sm
  have : 0 ≤ smI (n : Int) := by rw [smI_eq]; (repeat' split) <;> omega
  omega
theorem sm_eq (n : Nat) : sm n = if 65 ≤ n ∧ n ≤ 90 then n + 32 else if 192 ≤ n ∧ n ≤ 214 then n + 32 else if 216 ≤ n ∧ n ≤ 222 then n + 32 else if 913 ≤ n ∧ n ≤ 929 then n + 32 else if 931 ≤ n ∧ n ≤ 939 then n + 32
    else if 962 ≤ n ∧ n ≤ 962 then n + 1 else if 1024 ≤ n ∧ n ≤ 1039 then n + 80 else if 1040 ≤ n ∧ n ≤ 1071 then n + 32 else n := by
  have h := smI_nat n
  rw [smI_eq] at h
  repeat' split at h
  all_goals (first | rw [if_pos (by omega)] | rw [if_neg (by omega)])
  all_goals (try omega)
  all_goals (repeat' (first | rw [if_pos (by omega)] | rw [if_neg (by omega)]))
  all_goals omega
def Valid (n : Nat) : Prop := 0 < n ∧ n ≤ 1114111 ∧ (n < 55296 ∨ 57343 < n)
theorem sm_valid {n : Nat} (h : Valid n) : Valid (sm n) := by
  unfold Valid at *; rw [sm_eq]; (repeat' split) <;> omega
theorem toNat_of (n : Nat) (h : n < 256) : (UInt8.ofNat n).toNat = n := by
  rw [UInt8.toNat_ofNat']; exact Nat.mod_eq_of_lt h
theorem enc_char {n : Nat} (h : Valid n) : IsChar (encN n) ∧ val (encN n) = n := by
  unfold Valid at h
  unfold encN
  by_cases h1 : n < 128
  · rw [if_pos h1]
    have e := toNat_of n (by omega)
    refine ⟨isChar_ascii _ (by rw [e]; exact h1) (fun h0 => ?_), by rw [val_1, e]⟩
    rw [h0] at e; simp at e; omega
  rw [if_neg h1]
  by_cases h2 : n < 2048
  · rw [if_pos h2]
    have e0 := toNat_of (192 + n / 64) (by omega)
    have e1 := toNat_of (128 + n % 64) (by omega)
    generalize UInt8.ofNat (192 + n / 64) = a at *
    generalize UInt8.ofNat (128 + n % 64) = b at *
    refine ⟨⟨by simp, ?_, ?_⟩, ?_⟩
    · rw [good_eq, show at' [a, b] 0 = a.toNat from rfl, show at' [a, b] 1 = b.toNat from rfl]
      unfold goodN
      rw [e0, e1, show ([a, b] : List UInt8).length = 2 from rfl, if_neg (by omega), if_pos (by omega)]
    · intro h0; simp at h0; subst h0; simp at e0; omega
    · rw [val_2, e0, e1]; omega
  rw [if_neg h2]
  by_cases h3 : n < 65536
  · rw [if_pos h3]
    have e0 := toNat_of (224 + n / 4096) (by omega)
    have e1 := toNat_of (128 + n / 64 % 64) (by omega)
    have e2 := toNat_of (128 + n % 64) (by omega)
    generalize UInt8.ofNat (224 + n / 4096) = a at *
    generalize UInt8.ofNat (128 + n / 64 % 64) = b at *
    generalize UInt8.ofNat (128 + n % 64) = c at *
    refine ⟨⟨by simp, ?_, ?_⟩, ?_⟩
    · rw [good_eq, show at' [a, b, c] 0 = a.toNat from rfl, show at' [a, b, c] 1 = b.toNat from rfl, show at' [a, b, c] 2 = c.toNat from rfl]
      unfold goodN
      rw [e0, e1, e2, show ([a, b, c] : List UInt8).length = 3 from rfl, if_neg (by omega), if_neg (by omega), if_pos (by omega)]
    · intro h0; simp at h0; subst h0; simp at e0; omega
    · rw [val_3, e0, e1, e2]; omega
  rw [if_neg h3]
  have e0 := toNat_of (240 + n / 262144) (by omega)
  have e1 := toNat_of (128 + n / 4096 % 64) (by omega)
  have e2 := toNat_of (128 + n / 64 % 64) (by omega)
  have e3 := toNat_of (128 + n % 64) (by omega)
  generalize UInt8.ofNat (240 + n / 262144) = a at *
  generalize UInt8.ofNat (128 + n / 4096 % 64) = b at *
  generalize UInt8.ofNat (128 + n / 64 % 64) = c at *
  generalize UInt8.ofNat (128 + n % 64) = d at *
  refine ⟨⟨by simp, ?_, ?_⟩, ?_⟩
  · rw [good_eq, show at' [a, b, c, d] 0 = a.toNat from rfl, show at' [a, b, c, d] 1 = b.toNat from rfl, show at' [a, b, c, d] 2 = c.toNat from rfl, show at' [a, b, c, d] 3 = d.toNat from rfl]
    unfold goodN
    rw [e0, e1, e2, e3, show ([a, b, c, d] : List UInt8).length = 4 from rfl, if_neg (by omega), if_neg (by omega), if_neg (by omega), if_pos (by omega)]
  · intro h0; simp at h0; subst h0; simp at e0; omega
  · rw [val_4, e0, e1, e2, e3]; omega
def enc (ns : List Nat) : List UInt8 := ns.flatMap encN
theorem enc_nil : enc [] = [] := rfl
theorem enc_cons (n : Nat) (ns : List Nat) : enc (n :: ns) = encN n ++ enc ns := rfl
theorem enc_app (a b : List Nat) : enc (a ++ b) = enc a ++ enc b := by simp [enc]
theorem encN_len (n : Nat) : 1 ≤ (encN n).length ∧ (encN n).length ≤ 4 := by
  unfold encN; repeat' split
  all_goals simp
theorem enc_len (ns : List Nat) : ns.length ≤ (enc ns).length ∧ (enc ns).length ≤ 4 * ns.length := by
  induction ns with
  | nil => simp [enc]
  | cons n ns ih => rw [enc_cons]; have := encN_len n; simp; omega
def AllV (ns : List Nat) : Prop := ∀ n ∈ ns, Valid n
theorem chars_enc (ns : List Nat) (m : List UInt8) (h : AllV ns) : chars (enc ns ++ m) = ns.map encN ++ chars m := by
  have e : enc ns = (ns.map encN).flatten := by simp [enc, List.flatMap_def]
  rw [e, chars_flat _ _ (fun c hc => by obtain ⟨n, hn, rfl⟩ := List.mem_map.1 hc; exact (enc_char (h n hn)).1)]
theorem runes_enc_app (ns : List Nat) (m : List UInt8) (h : AllV ns) : runes (enc ns ++ m) = ns ++ runes m := by
  unfold runes
  rw [chars_enc ns m h, List.map_append, List.map_map]
  congr 1
  conv => rhs; rw [← List.map_id ns]
  exact List.map_congr_left fun n hn => (enc_char (h n hn)).2
theorem runes_nil : runes [] = [] := by simp [runes, chars_nil]
theorem runes_enc (ns : List Nat) (h : AllV ns) : runes (enc ns) = ns := by
  have := runes_enc_app ns [] h
  simpa [runes_nil] using this
theorem runes_valid (l : List UInt8) : AllV (runes l) := by
  intro n hn
  obtain ⟨c, hc, rfl⟩ := List.mem_map.1 hn
  exact val_range c (chars_isChar l c hc)
theorem runes_len (l : List UInt8) : (runes l).length ≤ l.length := by have := chars_length l; simpa [runes] using this
def foldN (r : Nat) : List Nat := if r = 223 ∨ r = 7838 then [115, 115] else [sm r]
def foldRs (ns : List Nat) : List Nat := ns.flatMap foldN
def fold (l : List UInt8) : List UInt8 := enc (foldRs (runes l))
theorem foldRs_cons (n : Nat) (ns : List Nat) : foldRs (n :: ns) = foldN n ++ foldRs ns := rfl
theorem foldRs_app (a b : List Nat) : foldRs (a ++ b) = foldRs a ++ foldRs b := by simp [foldRs]
theorem foldN_valid {n : Nat} (h : Valid n) : AllV (foldN n) := by
  unfold foldN
  split
  · intro m hm
    simp at hm; subst hm; unfold Valid; omega
  · intro m hm
    simp at hm; subst hm; exact sm_valid h
theorem foldRs_valid {ns : List Nat} (h : AllV ns) : AllV (foldRs ns) := by
  intro m hm
  obtain ⟨n, hn, hmn⟩ := List.mem_flatMap.1 hm
  exact foldN_valid (h n hn) m hmn
theorem foldRs_len (ns : List Nat) : (foldRs ns).length ≤ 2 * ns.length := by
  induction ns with
  | nil => simp [foldRs]
  | cons n ns ih =>
    rw [foldRs_cons]
    have : (foldN n).length ≤ 2 := by unfold foldN; split <;> simp
    simp; omega
theorem fold_len (l : List UInt8) : (fold l).length ≤ 8 * l.length := by
  have h1 := (enc_len (foldRs (runes l))).2
  have h2 := foldRs_len (runes l)
  have h3 := runes_len l
  unfold fold; omega
section
variable {α : Type} (p : α → Bool)
def flg : List α → List α → List (List α)
  | [], cur => if cur.isEmpty then [] else [cur]
  | x :: t, cur => if p x then (if cur.isEmpty then flg t [] else cur :: flg t []) else flg t (cur ++ [x])
def fl (l : List α) : List (List α) := flg p l []
def jn (s : α) : List (List α) → List α
  | [] => []
  | [x] => x
  | x :: y :: t => x ++ s :: jn s (y :: t)
def lsum (Fs : List (List α)) : Nat := (Fs.map fun F => F.length + 1).sum
theorem flg_sum : ∀ (t cur : List α), lsum (flg p t cur) ≤ cur.length + t.length + 1
  | [], cur => by
    cases cur with
    | nil => simp [flg, lsum]
    | cons c t => simp [flg, lsum]
  | x :: t, cur => by
    have h1 := flg_sum t []
    have h2 := flg_sum t (cur ++ [x])
    simp only [flg]
    split
    · split
      · simp at h1 ⊢; omega
      · simp [lsum] at h1 ⊢; omega
    · simp at h2 ⊢; omega
theorem jn_len (s : α) : ∀ (Fs : List (List α)), (jn s Fs).length ≤ lsum Fs
  | [] => by simp [jn, lsum]
  | [x] => by simp [jn, lsum]
  | x :: y :: t => by
    have := jn_len s (y :: t)
    simp [jn, lsum] at this ⊢; omega
theorem jn_fl_len (s : α) (l : List α) : (jn s (fl p l)).length ≤ l.length + 1 := by
  have h1 := jn_len s (fl p l)
  have h2 := flg_sum p l []
  unfold fl at *; simp at h2; omega
theorem fl_count (l : List α) : (fl p l).length ≤ l.length + 1 := by
  have h2 := flg_sum p l []
  have : ∀ Fs : List (List α), Fs.length ≤ lsum Fs := fun Fs => by
    induction Fs with
    | nil => simp [lsum]
    | cons x t ih => simp [lsum] at ih ⊢; omega
  have := this (flg p l [])
  unfold fl; simp at h2; omega
end
theorem jn_map {α β : Type} (f : List α → List β) (s : α) (r : β) (hf : ∀ a b, f (a ++ s :: b) = f a ++ r :: f b) (h0 : f [] = []) : ∀ (Fs : List (List α)), f (jn s Fs) = jn r (Fs.map f)
  | [] => h0
  | [x] => rfl
  | x :: y :: t => by
    have ih := jn_map f s r hf h0 (y :: t)
    show f (x ++ s :: jn s (y :: t)) = _
    rw [hf, ih]; rfl
theorem lib_join (L : List (List UInt8)) : Lib.join L [32] = jn 32 L := by
  induction L with
  | nil => rfl
  | cons x t ih =>
    cases t with
    | nil => exact Lib.join_one x [32]
    | cons y u =>
      rw [Lib.join_cons] at ih ⊢
      show _ = x ++ 32 :: jn 32 (y :: u)
      rw [← ih]
      simp [Lib.joinTail]
def gapN (n : Nat) : Bool := (decide (9 ≤ n) && decide (n ≤ 13)) || decide (n = 32)
theorem gapN_iff (n : Nat) : gapN n = true ↔ (9 ≤ n ∧ n ≤ 13) ∨ n = 32 := by simp [gapN]
def labN (ns : List Nat) : List Nat := jn 32 (fl gapN (foldRs ns))
def lab (l : List UInt8) : List UInt8 := enc (labN (runes l))
theorem enc_jn (Fs : List (List Nat)) : enc (jn 32 Fs) = jn 32 (Fs.map enc) := jn_map enc 32 32 (fun a b => by rw [enc_app, enc_cons]; rfl) rfl Fs
theorem lab_len (l : List UInt8) : (lab l).length ≤ 8 * l.length + 4 := by
  have h1 := (enc_len (labN (runes l))).2
  have h2 := jn_fl_len gapN 32 (foldRs (runes l))
  have h3 := foldRs_len (runes l)
  have h4 := runes_len l
  unfold lab; unfold labN at *; omega
end Ks
end Go.Proofs.YtkiipaaaakhhfaaGreatDoor
end
section
namespace Go.Proofs.YtkiipaaaakhhfaaGreatDoor
open Go Go.RowKit
namespace Ks
open Tx
set_option maxRecDepth 100000
set_option linter.unusedVariables false
set_option linter.unusedSimpArgs false
def TabAt (w : World) (g : Nat) (q : IntKind) (T : Tab) : Prop := ∀ (i : Nat) (x : Int × Int × Int), T[i]? = some x →
  w.cell? ⟨g, i * 3, none⟩ = some (.int .i32 x.1) ∧ w.cell? ⟨g, i * 3 + 1, none⟩ = some (.int .i32 x.2.1) ∧ w.cell? ⟨g, i * 3 + 2, none⟩ = some (.int q x.2.2)
structure Laid (w : World) : Prop where
  kinds : TabAt w 4 .i64 kinds
  caps : TabAt w 3 .i32 caps
theorem TabAt.below {w w' : World} {g : Nat} {q : IntKind} {T : Tab} (h : TabAt w g q T) (hB : Below w.heap.size w w') : TabAt w' g q T := by
  intro i x hx
  obtain ⟨h1, h2, h3⟩ := h i x hx
  have hl := cell_lt h1
  exact ⟨(hB.cell (p := ⟨g, i * 3, none⟩) hl).trans h1, (hB.cell (p := ⟨g, i * 3 + 1, none⟩) hl).trans h2, (hB.cell (p := ⟨g, i * 3 + 2, none⟩) hl).trans h3⟩
theorem Laid.below {w w' : World} (h : Laid w) (hB : Below w.heap.size w w') : Laid w' := ⟨h.kinds.below hB, h.caps.below hB⟩
theorem tab_at {T : Tab} {k : Nat} (h : k < T.length) : ∃ a b m, T[k]? = some (a, b, m) ∧ T.drop k = (a, b, m) :: T.drop (k + 1) ∧ (a, b, m) ∈ T := by
  refine ⟨T[k].1, T[k].2.1, T[k].2.2, List.getElem?_eq_getElem h, ?_, List.getElem_mem h⟩
  exact List.drop_eq_getElem_cons h
theorem ret_int' {k : IntKind} {a b : Int} (h : a = b) : Ending.returned (.int k a) = .returned (.int k b) := by rw [h]
set_option maxHeartbeats 1000000 in
theorem kind_any (r : Int) (w : World) (hL : Laid w) :
    Calls Tryz.prog 186 #[.int .i32 r] w fun e w' => e = .returned (.int .i64 (kd r)) ∧ w = w' := by
  have HL := Lib.hid hL.kinds
  clear hL
  go_enter Tryz.func186, Tryz.ntmps186
  go_wp2
  go_loop [4] (fun i => ∃ k : Nat, k ≤ 28 ∧ i = .int .i64 k ∧ Hid (kdF (kinds.drop k) r = kd r)) (fun i => 28 - (intOf i).toNat)
  case atStart => exact ⟨0, by omega, rfl, Lib.hid rfl⟩
  case round =>
    obtain ⟨k, hk, rfl, HK⟩ := hrel
    by_cases hlt : k < 28
    · obtain ⟨a, b, m, hx, hd, _⟩ := tab_at (T := kinds) (k := k) hlt
      obtain ⟨c0, c1, c2⟩ := HL.out k _ hx
      have HD := Lib.hid hd
      clear hx hd
      have hlt' : (k : Int) < 28 := by omega
      have HE : Hid (kdF ((a, b, m) :: kinds.drop (k + 1)) r = if r ≤ b then (if r < a then 0 else m) else kdF (kinds.drop (k + 1)) r) := Lib.hid rfl
      rw [← HD.out] at HE
      by_cases hb : r ≤ b
      · by_cases ha : r < a
        · have HV : Hid (kd r = 0) := Lib.hid (by rw [← HK.out, HE.out, if_pos hb, if_pos ha])
          go_wp2
          go_ret
          exact ⟨ret_int' HV.out.symm, rfl⟩
        · have HV : Hid (kd r = m) := Lib.hid (by rw [← HK.out, HE.out, if_pos hb, if_neg ha])
          go_wp2
          go_ret
          exact ⟨ret_int' HV.out.symm, rfl⟩
      · have HV : Hid (kdF (kinds.drop (k + 1)) r = kd r) := Lib.hid (by rw [← HK.out, HE.out, if_neg hb])
        go_wp2
        go_round
        case rel => exact ⟨k + 1, by omega, by go_num, HV⟩
        case measure => simp [intOf]; omega
    · obtain rfl : k = 28 := by omega
      go_wp2
      go_ret
      exact ⟨ret_int' (by rw [← HK.out]; rfl), rfl⟩
theorem caps_range : ∀ x ∈ caps, 0 ≤ x.1 ∧ x.2.1 ≤ 2000 ∧ 0 ≤ x.2.2 ∧ x.2.2 ≤ 100 := by decide
set_option maxHeartbeats 1000000 in
theorem small_any (r : Int) (w : World) (hL : Laid w) :
    Calls Tryz.prog 184 #[.int .i32 r] w fun e w' => e = .returned (.int .i32 (smI r)) ∧ w = w' := by
  have HL := Lib.hid hL.caps
  clear hL
  go_enter Tryz.func184, Tryz.ntmps184
  go_wp2
  go_loop [4] (fun i => ∃ k : Nat, k ≤ 8 ∧ i = .int .i64 k ∧ Hid (smF (caps.drop k) r = smI r)) (fun i => 8 - (intOf i).toNat)
  case atStart => exact ⟨0, by omega, rfl, Lib.hid rfl⟩
  case round =>
    obtain ⟨k, hk, rfl, HK⟩ := hrel
    by_cases hlt : k < 8
    · obtain ⟨a, b, m, hx, hd, hm⟩ := tab_at (T := caps) (k := k) hlt
      obtain ⟨c0, c1, c2⟩ := HL.out k _ hx
      obtain ⟨r1, r2, r3, r4⟩ := caps_range _ hm
      simp only at r1 r2 r3 r4
      have HD := Lib.hid hd
      clear hx hd hm
      have hlt' : (k : Int) < 8 := by omega
      have HE : Hid (smF ((a, b, m) :: caps.drop (k + 1)) r = if a ≤ r ∧ r ≤ b then r + m else smF (caps.drop (k + 1)) r) := Lib.hid rfl
      rw [← HD.out] at HE
      by_cases ha : a ≤ r
      · by_cases hb : r ≤ b
        · have HV : Hid (smI r = r + m) := Lib.hid (by rw [← HK.out, HE.out, if_pos ⟨ha, hb⟩])
          go_wp2
          go_ret
          exact ⟨ret_int' HV.out.symm, rfl⟩
        · have HV : Hid (smF (caps.drop (k + 1)) r = smI r) := Lib.hid (by rw [← HK.out, HE.out, if_neg (fun h => hb h.2)])
          go_wp2
          go_round
          case rel => exact ⟨k + 1, by omega, by go_num, HV⟩
          case measure => simp [intOf]; omega
      · have HV : Hid (smF (caps.drop (k + 1)) r = smI r) := Lib.hid (by rw [← HK.out, HE.out, if_neg (fun h => ha h.1)])
        go_wp2
        go_round
        case rel => exact ⟨k + 1, by omega, by go_num, HV⟩
        case measure => simp [intOf]; omega
    · obtain rfl : k = 8 := by omega
      go_wp2
      go_ret
      exact ⟨ret_int' (by rw [← HK.out]; rfl), rfl⟩
theorem ret_bool' {a b : Bool} (h : a = b) : Ending.returned (.bool a) = .returned (.bool b) := by rw [h]
theorem beq_dec (a b : Int) : (a == b) = decide (a = b) := by rw [Bool.eq_iff_iff, beq_iff_eq, decide_eq_true_iff]
theorem punct_any (r : Int) (w : World) (hL : Laid w) :
    Calls Tryz.prog 168 #[.int .i32 r] w fun e w' => e = .returned (.bool (amg signs r)) ∧ w = w' := by
  have HK := Lib.hid (kind_any r w hL)
  have HW := Lib.hid (sign_amg r)
  clear hL
  go_enter Tryz.func168, Tryz.ntmps168
  go_wp2_with (go_at_call 186; refine HK.out.mono ?_; rintro e w' ⟨rfl, rfl⟩)
  go_ret
  exact ⟨ret_bool' (by rw [← HW.out, beq_dec]), rfl⟩
def lett (b : Int) : Bool := (decide (97 ≤ b) && decide (b ≤ 122)) || (decide (65 ≤ b) && decide (b ≤ 90))
def digi (b : Int) : Bool := decide (48 ≤ b) && decide (b ≤ 57)
def gapI (b : Int) : Bool := (decide (9 ≤ b) && decide (b ≤ 13)) || decide (b = 32)
theorem gapI_nat (n : Nat) : gapI (n : Int) = gapN n := by
  rw [Bool.eq_iff_iff, gapN_iff]; simp [gapI]; omega
theorem letter_any (b : Int) (w : World) :
    Calls Tryz.prog 133 #[.int .u8 b] w fun e w' => e = .returned (.bool (lett b)) ∧ w = w' := by
  go_enter Tryz.func133, Tryz.ntmps133
  go_wp2
  all_goals (go_ret; refine ⟨ret_bool' ?_, rfl⟩; unfold lett; simp [*] <;> omega)
theorem digit_any (b : Int) (w : World) :
    Calls Tryz.prog 160 #[.int .u8 b] w fun e w' => e = .returned (.bool (digi b)) ∧ w = w' := by
  go_enter Tryz.func160, Tryz.ntmps160
  go_wp2
  all_goals (go_ret; refine ⟨ret_bool' ?_, rfl⟩; unfold digi; simp [*] <;> omega)
theorem gap_any (b : Int) (w : World) :
    Calls Tryz.prog 206 #[.int .i32 b] w fun e w' => e = .returned (.bool (gapI b)) ∧ w = w' := by
  have HG := Lib.hid (show ∀ x, x = gapI b → x = gapI b from fun _ h => h)
  by_cases h1 : 9 ≤ b
  · by_cases h2 : b ≤ 13
    · have hV : gapI b = true := by unfold gapI; rw [decide_eq_true h1, decide_eq_true h2]; rfl
      rw [hV]
      go_enter Tryz.func206, Tryz.ntmps206
      go_wp2
      go_ret
      exact ⟨rfl, rfl⟩
    · have hV : gapI b = (b == 32) := by unfold gapI; rw [decide_eq_false h2, Bool.and_false, Bool.false_or, beq_dec]
      rw [hV]
      clear hV HG
      go_enter Tryz.func206, Tryz.ntmps206
      go_wp2
      go_ret
      exact ⟨rfl, rfl⟩
  · have hV : gapI b = (b == 32) := by unfold gapI; rw [decide_eq_false h1, Bool.false_and, Bool.false_or, beq_dec]
    rw [hV]
    clear hV HG
    go_enter Tryz.func206, Tryz.ntmps206
    go_wp2
    go_ret
    exact ⟨rfl, rfl⟩
end Ks
end Go.Proofs.YtkiipaaaakhhfaaGreatDoor
end
section
namespace Go.Proofs.YtkiipaaaakhhfaaGreatDoor
open Go Go.RowKit
namespace Ks
open Tx
set_option maxRecDepth 100000
set_option linter.unusedVariables false
set_option linter.unusedSimpArgs false
def RB (w : World) (b : Nat) (ns : List Nat) : Prop := ∃ cs fr, w.heap[b]? = some (.cells cs 21 fr) ∧ ∀ i (h : i < ns.length), cs[i]? = some (.int .i32 (ns[i] : Nat))
theorem RB.cell {w : World} {b : Nat} {ns : List Nat} (h : RB w b ns) (i : Nat) (hi : i < ns.length) : w.cell? ⟨b, i, none⟩ = some (.int .i32 (ns[i] : Nat)) := by
  obtain ⟨cs, fr, hb, hc⟩ := h
  simp [World.cell?, hb, hc i hi]
theorem RB.kept {w w' : World} {b B : Nat} {ns : List Nat} (h : RB w b ns) (hne : b ≠ B) (ho : Lib.OthersKept 5 (some B) w w') : RB w' b ns := by
  obtain ⟨cs, fr, hb, hc⟩ := h
  refine ⟨cs, fr, ho b _ hb (fun e => hne (Option.some.inj e)) (fun c fz e => ?_), hc⟩
  simp at e
theorem conv_srB (l : List UInt8) (w : World) (hl : (clean l).length ≤ 1000000000) : ∃ b cap W', (convert 9 171 (.string ⟨(clean l).toArray⟩)).run Tryz.prog w = .ok (.slice (some ⟨b, 0, none⟩) (runes l).length cap) W' ∧ w.heap.size ≤ b ∧ RB W' b (runes l) ∧ Below w.heap.size w W' := by
  have hlen : (chars l).length ≤ (clean l).length := by
    have := chars_length (clean l); rw [chars_clean] at this; exact this
  have hrf : Conv.runesFrom ⟨(clean l).toArray⟩ (clean l).length 0 #[] = ((runes l).map (fun n => Value.int .i32 (n : Nat))).toArray := by
    have := runesFrom_chars (chars l) [] (clean l).length #[] (chars_isChar l) hlen
    simp only [List.nil_append, List.length_nil] at this
    rw [show (chars l).flatten = clean l from rfl] at this
    rw [this]; simp [runes]
  have hsz : (runes l).length = (chars l).length := by simp [runes]
  have hrun := run_runes_of_string (P := Tryz.prog) w 9 171 21 ⟨(clean l).toArray⟩ Tryz.underlying9 Tryz.underlying171 Tryz.underlying21 (by rw [size_mk, hrf]; simp; omega)
  rw [size_mk, hrf] at hrun
  simp only [List.size_toArray, List.length_map] at hrun
  refine ⟨_, _, _, hrun, Nat.le_refl _, ⟨_, _, heap_alloc_new _ _, fun i hi => ?_⟩, (drew_below w).alloc (Nat.le_refl _) _⟩
  rw [Array.getElem?_append_left (by simpa using hi)]
  simp [List.getElem?_eq_getElem hi]
set_option maxHeartbeats 1000000 in
theorem runesB_any (s : ByteArray) (w : World) (hs : s.size ≤ 100000000) :
    Calls Tryz.prog 182 #[.string s] w fun e w' => ∃ b cap, e = .returned (.slice (some ⟨b, 0, none⟩) (runes s.data.toList).length cap) ∧ w.heap.size ≤ b ∧ RB w' b (runes s.data.toList) ∧ Below w.heap.size w w' := by
  have hdl : s.data.toList.length = s.size := by rw [Array.length_toList]; rfl
  obtain ⟨v1, w1, hcv, hsl, hb1⟩ := conv_sb s w (by unfold maxLen; omega)
  have Hsl := Lib.hid hsl
  clear hsl
  have hcl := clean_length s.data.toList
  go_enter Tryz.func182, Tryz.ntmps182
  go_wp2_with fail
  refine (clean_any _ _ _ Hsl.out (by omega)).mono ?_
  rintro e w2 ⟨rfl, hb2⟩
  obtain ⟨b3, cap3, w3, hcv3, hle3, hrs, hb3⟩ := conv_srB s.data.toList w2 (by omega)
  have Hrs := Lib.hid hrs
  clear hrs hcv
  have hbw := (hb1.trans (hb2.mono hb1.size))
  have hbw3 := hbw.trans (hb3.mono hbw.size)
  have hsz := hbw.size
  clear hb1 hb2 hb3 hbw
  go_wp2
  go_ret
  exact ⟨_, _, rfl, by omega, Hrs.out, hbw3⟩
def BF (B : Nat) (bs : List UInt8) (w : World) : Prop := Lib.IsBuilderF 132 5 B B (Lib.byteCells bs) w
theorem bf_below {W W' : World} {B : Nat} {bs : List UInt8} (h : BF B bs W) (hb : Below W.heap.size W W') : BF B bs W' := by
  have one : ∀ p, Lib.BuilderAtF 132 5 B B p (Lib.byteCells bs) W → Lib.BuilderAtF 132 5 B B p (Lib.byteCells bs) W' := by
    intro p h
    have hlt := h.lt
    obtain ⟨hB, v, hv, hown, hne⟩ := h
    exact ⟨hB, v, (hb.block B hlt).trans hv, hown.kept (row := none) ⟨hb.os, hb.tape, hb.output, hb.size, fun k hk _ => hb.block k hk⟩ (Classical.em _), hne⟩
  exact h.elim (fun x => .inl (one _ x)) (fun x => .inr (one _ x))
theorem byteCells_app (a b : List UInt8) : Lib.byteCells (a ++ b) = Lib.byteCells a ++ Lib.byteCells b := by simp [Lib.byteCells]
theorem strCells_mk (l : List UInt8) : Lib.strCells ⟨l.toArray⟩ = Lib.byteCells l := by simp [Lib.strCells, Lib.byteCells]
theorem u8i (n : Nat) (h : n < 256) : Value.int .u8 ((UInt8.ofNat n).toNat : Nat) = Value.int .u8 (n : Int) := by rw [toNat_of n h]
theorem runeCells_enc {n : Nat} (h : Valid n) : Lib.runeCells (n : Int) = Lib.byteCells (encN n) := by
  unfold Valid at h
  unfold Lib.runeCells encN
  by_cases h1 : n < 128
  · rw [Lib.encodeRuneZ_one (by omega) (by omega), if_pos h1]
    simp only [Lib.byteCells, List.map_cons, List.map_nil]
    rw [u8i _ (by omega)]
  by_cases h2 : n < 2048
  · rw [Lib.encodeRuneZ_two (by omega) (by omega), if_neg h1, if_pos h2]
    simp only [Lib.byteCells, List.map_cons, List.map_nil]
    rw [u8i _ (by omega), u8i _ (by omega)]
    rfl
  by_cases h3 : n < 65536
  · rw [Lib.encodeRuneZ_three (by omega), if_neg h1, if_neg h2, if_pos h3]
    simp only [Lib.byteCells, List.map_cons, List.map_nil]
    rw [u8i _ (by omega), u8i _ (by omega), u8i _ (by omega)]
    rfl
  · rw [Lib.encodeRuneZ_four (by omega) (by omega), if_neg h1, if_neg h2, if_neg h3]
    simp only [Lib.byteCells, List.map_cons, List.map_nil]
    rw [u8i _ (by omega), u8i _ (by omega), u8i _ (by omega), u8i _ (by omega)]
    rfl
theorem take_fold (R : List Nat) (k : Nat) (h : k < R.length) : enc (foldRs (R.take (k + 1))) = enc (foldRs (R.take k)) ++ enc (foldN R[k]) := by
  rw [List.take_succ_eq_append_getElem h, foldRs_app, enc_app]
  congr 2
  simp [foldRs]
theorem take_fold_len (R : List Nat) (k : Nat) : (enc (foldRs (R.take k))).length ≤ 8 * R.length := by
  have h1 := (enc_len (foldRs (R.take k))).2
  have h2 := foldRs_len (R.take k)
  have h3 : (R.take k).length ≤ R.length := by simp; omega
  omega
theorem ret_str' {a b : List UInt8} (h : a = b) : Ending.returned (.string ⟨a.toArray⟩) = .returned (str b) := by rw [h]; rfl
set_option maxHeartbeats 2000000 in
theorem fold_any (s : ByteArray) (w : World) (hs : s.size ≤ 100000000) (hL : Laid w) :
    Calls Tryz.prog 165 #[.string s] w fun e w' => e = .returned (str (fold s.data.toList)) ∧ Below w.heap.size w w' := by
  have HL := Lib.hid hL
  have hdl : s.data.toList.length = s.size := by rw [Array.length_toList]; rfl
  have hrl := runes_len s.data.toList
  go_enter Tryz.func165, Tryz.ntmps165
  go_wp2_with (go_at_call 130; refine (Tryz.Builder_Grow_fresh w.heap.size w.heap.size s.size _ (Nat.le_refl _) ?g1 ?g2 ?g3).mono ?_)
  case g1 => simp only [World.alloc, Array.getElem?_push_size]
  case g2 => simp
  case g3 => omega
  rintro e w1 ⟨rfl, hb1, hbw1⟩
  have hbw0 : Below w.heap.size w w1 := ((Below.refl _ w).alloc (Nat.le_refl _) _).trans hbw1
  have hB1 : BF w.heap.size [] w1 := Lib.IsBuilderF.of (Or.inr hb1)
  have hlt1 : w.heap.size < w1.heap.size := hb1.lt
  clear hbw1 hb1
  have HR := Lib.hid (runesB_any s w1 hs)
  go_wp2_with (go_at_call 182; refine HR.out.mono ?_; rintro e w2 ⟨b, cap, rfl, hle, hrb, hb2⟩)
  have hbw2 := hbw0.trans (hb2.mono hbw0.size)
  have hB2 := bf_below hB1 hb2
  have hne : b ≠ w.heap.size := by omega
  have HV := Lib.hid (runes_valid s.data.toList)
  have HF : Hid (fold s.data.toList = enc (foldRs (runes s.data.toList))) := Lib.hid rfl
  clear HR hB1 hb2 hbw0 hlt1 hle
  generalize runes s.data.toList = R at *
  go_loopg [12] R.length (fun g s12 wr => ∃ k : Nat, k + g = R.length ∧ s12 = .int .i64 k ∧ BF w.heap.size (enc (foldRs (R.take k))) wr ∧ RB wr b R ∧ Below w.heap.size w wr)
  case atStart => exact ⟨0, by omega, rfl, hB2, hrb, hbw2⟩
  case round =>
    obtain ⟨k, hkg, rfl, hB, hR, hbw⟩ := hrel
    have hsz := hbw.size
    clear hB2 hrb hbw2
    cases gk with
    | zero =>
      have hkl : ¬ ((k : Int) < (R.length : Int)) := by omega
      go_wp2_with (go_at_call 117; refine (Tryz.Builder_String_any_f w.heap.size w.heap.size _ _ hB hsz).mono ?_; rintro e w3 ⟨rfl, _, hb3⟩)
      go_ret
      rw [List.take_of_length_le (by omega)]
      exact ⟨ret_str' HF.out.symm, hbw.trans hb3⟩
    | succ g =>
      have hkl : (k : Int) < (R.length : Int) := by omega
      have hk2 : k < R.length := by omega
      have hc := hR.cell k hk2
      have HT := Lib.hid (take_fold R k hk2)
      have hv := HV.out _ (List.getElem_mem hk2)
      have hlen := take_fold_len R k
      have hLr := HL.out.below hbw
      have HR' := Lib.hid hR
      generalize R[k] = x at *
      have HX := Lib.hid hv
      obtain ⟨z, hz⟩ : ∃ z : Int, (x : Int) = z := ⟨_, rfl⟩
      have Hz := Lib.hid hz
      have HSM := Lib.hid (small_any z wr hLr)
      rw [hz] at hc
      clear hv hLr hR hz
      by_cases h1 : z = 223
      · have HN : Hid (enc (foldN x) = [115, 115]) := Lib.hid (by
          have : x = 223 := by have := Hz.out; omega
          subst this; rfl)
        have e1 : (z == 223) = true := by subst h1; rfl
        clear h1
        go_wp2_with (go_at_call 115; refine (Tryz.Builder_WriteString_k w.heap.size w.heap.size _ _ _ hB ?a1 hsz).mono ?_)
        case a1 => rw [Lib.byteCells_length, show (⟨#[115, 115]⟩ : ByteArray).size = 2 from rfl]; omega
        rintro e w3 ⟨rfl, hb3, hbw3, ho3⟩
        go_wp2
        go_roundg g
        case rel => exact ⟨k + 1, by omega, by go_num, by rw [HT.out, HN.out]; exact Or.inr (by rw [byteCells_app]; exact hb3), HR'.out.kept hne ho3, hbw.trans hbw3⟩
        case measure => omega
      · have e1 : (z == 223) = false := by simpa using h1
        by_cases h2 : z = 7838
        · have HN : Hid (enc (foldN x) = [115, 115]) := Lib.hid (by
            have : x = 7838 := by have := Hz.out; omega
            subst this; rfl)
          have e2 : (z == 7838) = true := by subst h2; rfl
          clear h1 h2
          go_wp2_with (go_at_call 115; refine (Tryz.Builder_WriteString_k w.heap.size w.heap.size _ _ _ hB ?a2 hsz).mono ?_)
          case a2 => rw [Lib.byteCells_length, show (⟨#[115, 115]⟩ : ByteArray).size = 2 from rfl]; omega
          rintro e w3 ⟨rfl, hb3, hbw3, ho3⟩
          go_wp2
          go_roundg g
          case rel => exact ⟨k + 1, by omega, by go_num, by rw [HT.out, HN.out]; exact Or.inr (by rw [byteCells_app]; exact hb3), HR'.out.kept hne ho3, hbw.trans hbw3⟩
          case measure => omega
        · have e2 : (z == 7838) = false := by simpa using h2
          have HN : Hid (enc (foldN x) = encN (sm x)) := Lib.hid (by
            have h3 := Hz.out
            unfold foldN
            rw [if_neg (by omega)]
            simp [enc])
          have HS2 : Hid (smI z = ((sm x : Nat) : Int)) := Lib.hid (by rw [← Hz.out]; exact smI_nat x)
          have HC := Lib.hid (runeCells_enc (sm_valid HX.out))
          have hsmv := sm_valid HX.out
          obtain ⟨y, hy⟩ : ∃ y : Int, ((sm x : Nat) : Int) = y := ⟨_, rfl⟩
          have hy0 : -2147483648 ≤ y := by omega
          have hy1 : y ≤ 2147483647 := by unfold Valid at hsmv; omega
          rw [HS2.out, hy] at HSM
          rw [hy] at HC
          clear h1 h2 hsmv HS2 hy
          go_wp2_with (first
            | (go_at_call 184; refine HSM.out.mono ?_; rintro e w' ⟨rfl, rfl⟩)
            | (go_at_call 183; refine (Tryz.Builder_WriteRune_k w.heap.size w.heap.size _ y hy0 hy1 _ hB ?a3 hsz).mono ?_))
          case a3 => rw [Lib.byteCells_length]; omega
          rintro e w3 ⟨rfl, hb3, hbw3, ho3⟩
          go_wp2
          go_roundg g
          case rel => exact ⟨k + 1, by omega, by go_num, by rw [HT.out, HN.out]; exact Or.inr (by rw [byteCells_app, ← HC.out]; exact hb3), HR'.out.kept hne ho3, hbw.trans hbw3⟩
          case measure => omega
end Ks
end Go.Proofs.YtkiipaaaakhhfaaGreatDoor
end
section
namespace Go.Proofs.YtkiipaaaakhhfaaGreatDoor
open Go Go.RowKit
namespace Ks
open Tx
set_option maxRecDepth 100000
set_option linter.unusedVariables false
set_option linter.unusedSimpArgs false
theorem ext_mid (a b c : List UInt8) : (⟨(a ++ b ++ c).toArray⟩ : ByteArray).extract a.length (a ++ b).length = ⟨b.toArray⟩ := by
  refine ext_of _ _ _ _ ?_
  show ((a ++ b ++ c).drop a.length).take ((a ++ b).length - a.length) = b
  rw [List.append_assoc, List.drop_left, List.length_append, Nat.add_sub_cancel_left, List.take_left]
theorem spansP_succ (p : Nat → Bool) (s : ByteArray) (f pos : Nat) (st : Option Nat) (acc : List (Nat × Nat)) : Lib.spansFromP p s (f + 1) pos st acc =
    if pos < s.size then
      (if p (Utf8.decode s pos).1 then
        (match st with
         | some a => Lib.spansFromP p s f (pos + (Utf8.decode s pos).2) none (acc ++ [(a, pos)])
         | none => Lib.spansFromP p s f (pos + (Utf8.decode s pos).2) none acc)
       else
        (match st with
         | some a => Lib.spansFromP p s f (pos + (Utf8.decode s pos).2) (some a) acc
         | none => Lib.spansFromP p s f (pos + (Utf8.decode s pos).2) (some pos) acc))
    else (acc, st) := by rfl
theorem spans_go (all : List Nat) (hv : AllV all) : ∀ (rest done cur : List Nat) (f : Nat) (acc : List (Nat × Nat)), all = done ++ cur ++ rest → rest.length ≤ f →
    ((Lib.closeSpans ⟨(enc all).toArray⟩ (Lib.spansFromP gapN ⟨(enc all).toArray⟩ f (enc (done ++ cur)).length (if cur.isEmpty then none else some (enc done).length) acc)).map fun x => (⟨(enc all).toArray⟩ : ByteArray).extract x.1 x.2)
      = (acc.map fun x => (⟨(enc all).toArray⟩ : ByteArray).extract x.1 x.2) ++ (flg gapN rest cur).map (fun F => (⟨(enc F).toArray⟩ : ByteArray))
  | [], done, cur, f, acc, he, hf => by
    have hs : (⟨(enc all).toArray⟩ : ByteArray).size = (enc (done ++ cur)).length := by rw [size_mk, he]; simp
    rw [Lib.spansFromP_end _ _ _ _ _ _ (by rw [hs]; omega)]
    cases hc : cur with
    | nil => subst hc; simp [Lib.closeSpans, flg]
    | cons c u =>
      rw [← hc]
      have hne : cur.isEmpty = false := by rw [hc]; rfl
      have hx : (⟨(enc all).toArray⟩ : ByteArray).extract (enc done).length (enc (done ++ cur)).length = ⟨(enc cur).toArray⟩ := by
        have := ext_mid (enc done) (enc cur) []
        rw [List.append_nil, ← enc_app] at this
        rw [he, List.append_nil]; exact this
      simp only [hne, Bool.false_eq_true, if_false, Lib.closeSpans, flg, hs, List.map_append, List.map_cons, List.map_nil, hx]
  | x :: t, done, cur, f, acc, he, hf => by
    obtain ⟨g, rfl⟩ : ∃ g, f = g + 1 := ⟨f - 1, by simp at hf; omega⟩
    have hxv : Valid x := hv x (by rw [he]; simp)
    have hS : enc all = enc (done ++ cur) ++ (encN x ++ enc t) := by rw [he, enc_app, enc_cons]
    have hlt : (enc (done ++ cur)).length < (⟨(enc all).toArray⟩ : ByteArray).size := by
      rw [size_mk, hS]
      have := (encN_len x).1
      simp; omega
    have hd : Utf8.decode ⟨(enc all).toArray⟩ (enc (done ++ cur)).length = (x, (encN x).length) := by
      rw [hS, decode_char (enc (done ++ cur)) (encN x) (enc t) (enc_char hxv).1, (enc_char hxv).2]
    have hpos : ∀ y : List Nat, (enc (done ++ cur)).length + (encN x).length = (enc (done ++ cur ++ [x])).length := fun _ => by
      rw [enc_app (done ++ cur), List.length_append]; simp [enc]
    have hg : t.length ≤ g := by simp at hf; omega
    rw [spansP_succ, if_pos hlt, hd]
    simp only
    cases hp : gapN x with
    | true =>
      simp only [if_true]
      have ih := spans_go all hv t (done ++ cur ++ [x]) [] g
      simp only [List.append_nil, List.isEmpty_nil, if_true] at ih
      cases hc : cur with
      | nil =>
        subst hc
        simp only [List.isEmpty_nil, if_true, flg, hp]
        rw [hpos []]
        exact ih acc (by rw [he]; simp) hg
      | cons c u =>
        rw [← hc]
        have hne : cur.isEmpty = false := by rw [hc]; rfl
        simp only [hne, Bool.false_eq_true, if_false, flg, hp, if_true]
        rw [hpos [], ih _ (by rw [he]; simp) hg, List.map_append, List.append_assoc]
        congr 1
        have hx : (⟨(enc all).toArray⟩ : ByteArray).extract (enc done).length (enc (done ++ cur)).length = ⟨(enc cur).toArray⟩ := by
          have := ext_mid (enc done) (enc cur) (encN x ++ enc t)
          rw [← enc_app done cur, ← hS] at this
          exact this
        simp only [List.map_cons, List.map_nil, hx]; rfl
    | false =>
      simp only [Bool.false_eq_true, if_false]
      have ih := spans_go all hv t done (cur ++ [x]) g acc (by rw [he]; simp) hg
      have hne2 : (cur ++ [x]).isEmpty = false := by simp
      simp only [hne2, Bool.false_eq_true, if_false, ← List.append_assoc] at ih
      simp only [flg, hp, Bool.false_eq_true, if_false]
      rw [← ih, ← hpos []]
      cases hc : cur with
      | nil => simp
      | cons c u => rfl
theorem fields_enc (ns : List Nat) (hv : AllV ns) : Lib.goFieldsP gapN ⟨(enc ns).toArray⟩ = (fl gapN ns).map (fun F => (⟨(enc F).toArray⟩ : ByteArray)) := by
  have h := spans_go ns hv ns [] [] (enc ns).length [] (by simp) (enc_len ns).1
  simpa [Lib.goFieldsP, Lib.spansOfP, enc_nil, size_mk, fl] using h
theorem gap_gives (w : World) : PredAtRunes Tryz.prog 206 #[] gapN w := by
  intro W x _ _
  unfold FnGives
  refine (gap_any (x : Int) W).mono ?_
  rintro e w' ⟨rfl, rfl⟩
  exact ⟨by rw [gapI_nat], 0, rfl⟩
theorem join_enc (Fs : List (List Nat)) : Lib.join ((Fs.map fun F => (⟨(enc F).toArray⟩ : ByteArray)).map (·.data.toList)) [32] = enc (jn 32 Fs) := by
  rw [lib_join, enc_jn, List.map_map]; rfl
set_option maxHeartbeats 2000000 in
theorem label_any (s : ByteArray) (w : World) (hs : s.size ≤ 10000000) (hL : Laid w) :
    Calls Tryz.prog 179 #[.string s] w fun e w' => e = .returned (str (lab s.data.toList)) ∧ Below w.heap.size w w' := by
  have hdl : s.data.toList.length = s.size := by rw [Array.length_toList]; rfl
  have HF := Lib.hid (fold_any s w (by omega) hL)
  have hX : AllV (foldRs (runes s.data.toList)) := foldRs_valid (runes_valid _)
  have HFL := fields_enc _ hX
  have hll := lab_len s.data.toList
  have hfl := fold_len s.data.toList
  have hcnt := fl_count gapN (foldRs (runes s.data.toList))
  have hcn2 := foldRs_len (runes s.data.toList)
  have hcn3 := runes_len s.data.toList
  have hlab : lab s.data.toList = enc (jn 32 (fl gapN (foldRs (runes s.data.toList)))) := rfl
  have hfold : fold s.data.toList = enc (foldRs (runes s.data.toList)) := rfl
  rw [← hfold] at HFL
  have hJ := join_enc (fl gapN (foldRs (runes s.data.toList)))
  rw [← hlab] at hJ
  have hN : (fl gapN (foldRs (runes s.data.toList))).length ≤ 100000000 := by omega
  clear hX hL hcnt hcn2 hcn3 hlab hfold
  generalize fl gapN (foldRs (runes s.data.toList)) = Fs at *
  generalize fold s.data.toList = X at *
  generalize hL : lab s.data.toList = L at *
  obtain ⟨xs, hxs⟩ : ∃ xs, Fs.map (fun F => (⟨(enc F).toArray⟩ : ByteArray)) = xs := ⟨_, rfl⟩
  have hxl : xs.length ≤ 100000000 := by rw [← hxs, List.length_map]; exact hN
  rw [hxs] at HFL hJ
  have HLL : Hid ((Lib.join (xs.map (·.data.toList)) [32]).length ≤ 140737488355328) := Lib.hid (by rw [hJ]; omega)
  have HJ := Lib.hid hJ
  have HL := Lib.hid hL
  have HFL' := Lib.hid HFL
  have hxz : (⟨X.toArray⟩ : ByteArray).size ≤ 4294967296 := by rw [size_mk]; omega
  have Hxz := Lib.hid hxz
  clear hN hxs hJ HFL hL hxz hll hfl
  go_enter Tryz.func179, Tryz.ntmps179
  go_wp2_with (go_at_call 165; refine HF.out.mono ?_; rintro e w1 ⟨rfl, hb1⟩)
  have HG := Lib.hid (Tryz.strings_FieldsFunc_runes 206 #[] (enters_of Tryz.func206 (by kernel_rfl) rfl) gapN ⟨X.toArray⟩ w1 Hxz.out (gap_gives w1))
  rw [HFL'.out] at HG
  go_wp2_with (go_at_call 205; refine HG.out.mono ?_; rintro e w2 ⟨A, rfl, hA, hown, hb2⟩)
  have hbw2 := hb1.trans (hb2.mono hb1.size)
  have hcells : ∀ (j : Nat) x, xs[j]? = some x → w2.cell? ⟨A, 0 + j, none⟩ = some (.string x) := by
    intro j x hx
    have hj := hown.cellAt j (by have := (List.getElem?_eq_some_iff.1 hx).1; simpa using this)
    rw [Nat.zero_add, hj, List.getElem?_map, hx]; rfl
  have HN := Lib.hid (Tryz.strings_Join A 0 xs.length xs ⟨#[32]⟩ w2 hcells (hown.lt A rfl).2 (by omega) (Nat.le_refl _) HLL.out)
  clear hb1 hb2 hown hcells
  go_wp2_with (go_at_call 118; refine HN.out.mono ?_; rintro e w3 ⟨rfl, hb3⟩)
  go_ret
  refine ⟨?_, hbw2.trans (hb3.mono hbw2.size)⟩
  exact ret_str' HJ.out
end Ks
end Go.Proofs.YtkiipaaaakhhfaaGreatDoor
end
