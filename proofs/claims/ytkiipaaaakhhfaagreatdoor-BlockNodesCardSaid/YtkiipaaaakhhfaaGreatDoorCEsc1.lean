import Derived.Test.YtkiipaaaakhhfaaGreatDoorCEnt1
import Derived.Deep.LoopGhost
import Derived.Test.YtkiipaaaakhhfaaGreatDoorCEnt2
import Derived.Laws.DeepStrings4
import Derived.Laws.BitsAllLaws
import Derived.Laws.BitsLemmas
section
set_option linter.unusedVariables false
set_option linter.unusedSimpArgs false
set_option maxRecDepth 100000
namespace Go.Proofs.YtkiipaaaakhhfaaGreatDoor
namespace Es
open En
abbrev Tab := List (Int × Int × Int)
def kinds : Tab := [(9, 10, 1), (12, 13, 1), (32, 32, 1), (33, 47, 2), (58, 64, 2), (91, 96, 2), (123, 126, 2), (160, 160, 1), (161, 169, 2), (171, 172, 2), (174, 177, 2), (180, 180, 2), (182, 184, 2), (187, 187, 2), (191, 191, 2), (215, 215, 2), (247, 247, 2), (5760, 5760, 1), (8192, 8202, 1), (8208, 8231, 2), (8239, 8239, 1), (8240, 8286, 2), (8287, 8287, 1), (8352, 8384, 2), (12288, 12288, 1), (12289, 12291, 2), (12296, 12319, 2), (65281, 65295, 2)]
def kdF : Tab → Int → Int
 | [], _ => 0
 | (a, b, k) :: t, r => if r ≤ b then (if r < a then 0 else k) else kdF t r
def kd (r : Int) : Int := kdF kinds r
def sgI (b : Int) : Bool := (decide (33 ≤ b) && decide (b ≤ 47)) || (decide (58 ≤ b) && decide (b ≤ 64)) || (decide (91 ≤ b) && decide (b ≤ 96)) || (decide (123 ≤ b) && decide (b ≤ 126))
theorem kd_sgN : ∀ n : Nat, n < 128 → decide (kd (n : Int) = 2) = sgI n := by decide +kernel
theorem kd_sg {b : Int} (h0 : 0 ≤ b) (h1 : b < 128) : decide (kd b = 2) = sgI b := by
 obtain ⟨n, rfl⟩ : ∃ n : Nat, b = n := ⟨b.toNat, by omega⟩
 exact kd_sgN n (by omega)
theorem sg_high {b : Int} (h : 128 ≤ b) : sgI b = false := by
 unfold sgI
 rw [decide_eq_false (by omega : ¬ b ≤ 47), decide_eq_false (by omega : ¬ b ≤ 64), decide_eq_false (by omega : ¬ b ≤ 96), decide_eq_false (by omega : ¬ b ≤ 126)]
 simp
def sg (c : UInt8) : Bool := sgI (c.toNat : Int)
theorem all_u8 {p : UInt8 → Bool} (h : (List.range 256).all (fun n => p (UInt8.ofNat n)) = true) (c : UInt8) : p c = true := by
 have := List.all_eq_true.1 h c.toNat (List.mem_range.2 c.toNat_lt)
 simpa using this
def ampB : List UInt8 := [38, 97, 109, 112, 59]
def ltB : List UInt8 := [38, 108, 116, 59]
def gtB : List UInt8 := [38, 103, 116, 59]
def quotB : List UInt8 := [38, 113, 117, 111, 116, 59]
def htB (c : UInt8) : List UInt8 := if c = 38 then ampB else if c = 60 then ltB else if c = 62 then gtB else if c = 34 then quotB else [c]
def html (l : List UInt8) : List UInt8 := l.flatMap htB
theorem flat_len {f : UInt8 → List UInt8} {a b : Nat} (h : ∀ c, a ≤ (f c).length ∧ (f c).length ≤ b) : ∀ l : List UInt8, a * l.length ≤ (l.flatMap f).length ∧ (l.flatMap f).length ≤ b * l.length
 | [] => by simp
 | c :: t => by
  have := flat_len h t
  have := h c
  rw [List.flatMap_cons, List.length_append, List.length_cons, Nat.mul_succ, Nat.mul_succ]
  omega
def asIs : List UInt8 := [33, 35, 36, 37, 40, 41, 42, 43, 44, 45, 46, 47, 58, 59, 61, 63, 64, 95, 126]
def okB (c : UInt8) : Bool := isAl c || asIs.contains c
def encB (v : Int) : List UInt8 := (Utf8.encode v).data.toList
def esc1 : List UInt8 → Option UInt8
 | 92 :: c :: _ => if sg c then some c else none
 | _ => none
def fst (l : List UInt8) : List UInt8 × Nat :=
 match esc1 l with
 | some c => ([c], 2)
 | none => match rread l with
  | some (v, n) => (encB v, n)
  | none => (l.take 1, 1)
def unes : Nat → List UInt8 → List UInt8
 | _, [] => []
 | k + 1, _ :: t => unes k t
 | 0, c :: t => (fst (c :: t)).1 ++ unes ((fst (c :: t)).2 - 1) t
def une (l : List UInt8) : List UInt8 := unes 0 l
theorem esc1_other {c : UInt8} {t : List UInt8} (h : c ≠ 92) : esc1 (c :: t) = none := by
 unfold esc1
 split
 ·rename_i e; simp at e; exact absurd e.1 h
 ·rfl
theorem esc1_one (t : UInt8) : esc1 [t] = none := by
 unfold esc1
 split
 ·rename_i e; simp at e
 ·rfl
theorem esc1_slash (c : UInt8) (t : List UInt8) : esc1 (92 :: c :: t) = if sg c then some c else none := rfl
theorem rread_other {c : UInt8} {t : List UInt8} (h : c ≠ 38) : rread (c :: t) = none := by
 rw [← gread_eq]
 unfold gread
 split
 ·rename_i e; simp at e; exact absurd e.1 h
 ·rename_i e; simp at e; exact absurd e.1 h
 ·rfl
theorem rread_pos {l : List UInt8} {v : Int} {n : Nat} (h : rread l = some (v, n)) : 1 ≤ n ∧ n ≤ l.length := by
 unfold rread at h
 cases hc : cutS l with
 | none => rw [hc] at h; cases h
 | some b =>
  rw [hc] at h
  obtain ⟨_, m, hl⟩ := cutS_some hc
  cases ho : ofBody b with
  | none => simp [ho] at h
  | some x =>
   simp [ho] at h
   rw [hl]
   simp
   omega
theorem encB_len (v : Int) : (encB v).length ≤ 4 := by
 unfold encB
 rw [Array.length_toList]
 show (Utf8.encode v).size ≤ 4
 unfold Utf8.encode
 simp only
 repeat' split
 all_goals simp [ByteArray.size]
theorem fst_slash {c : UInt8} {t : List UInt8} (h : sg c = true) : fst (92 :: c :: t) = ([c], 2) := by
 unfold fst
 rw [esc1_slash, if_pos h]
theorem fst_ref {l : List UInt8} {v : Int} {n : Nat} (h1 : esc1 l = none) (h2 : rread l = some (v, n)) : fst l = (encB v, n) := by
 unfold fst
 rw [h1, h2]
theorem fst_self {l : List UInt8} (h1 : esc1 l = none) (h2 : rread l = none) : fst l = (l.take 1, 1) := by
 unfold fst
 rw [h1, h2]
theorem fst_plain {c : UInt8} {t : List UInt8} (h1 : c ≠ 92) (h2 : c ≠ 38) : fst (c :: t) = ([c], 1) := fst_self (esc1_other h1) (rread_other h2)
theorem esc1_some {l : List UInt8} {c : UInt8} (h : esc1 l = some c) : ∃ t, l = 92 :: c :: t ∧ sg c = true := by
 unfold esc1 at h
 split at h
 ·rename_i x t
  split at h
  ·rename_i hs
   cases h
   exact ⟨t, rfl, hs⟩
  ·cases h
 ·cases h
theorem fst_bounds {l : List UInt8} (h : l ≠ []) : (fst l).1.length ≤ 4 ∧ 1 ≤ (fst l).2 ∧ (fst l).2 ≤ l.length := by
 cases he : esc1 l with
 | some c =>
  obtain ⟨t, rfl, hs⟩ := esc1_some he
  rw [fst_slash hs]
  simp
 | none =>
  cases hr : rread l with
  | some x =>
   obtain ⟨v, n⟩ := x
   rw [fst_ref he hr]
   exact ⟨encB_len v, (rread_pos hr).1, (rread_pos hr).2⟩
  | none =>
   rw [fst_self he hr]
   have : 0 < l.length := List.length_pos_iff.2 h
   refine ⟨?_, ?_, ?_⟩
   ·simp; omega
   ·exact Nat.le_refl _
   ·exact this
theorem unes_nil (k : Nat) : unes k [] = [] := by cases k <;> rfl
theorem unes_len : ∀ (l : List UInt8) (k : Nat), (unes k l).length ≤ 4 * l.length
 | [], k => by rw [unes_nil]; simp
 | c :: t, k + 1 => by
  show (unes k t).length ≤ _
  have := unes_len t k
  rw [List.length_cons]
  omega
 | c :: t, 0 => by
  show ((fst (c :: t)).1 ++ unes ((fst (c :: t)).2 - 1) t).length ≤ _
  have := unes_len t ((fst (c :: t)).2 - 1)
  have := (fst_bounds (l := c :: t) (by simp)).1
  rw [List.length_append, List.length_cons]
  omega
theorem une_len (l : List UInt8) : (une l).length ≤ 4 * l.length := unes_len l 0
def bkB (c : UInt8) : List UInt8 := if sg c then [92, c] else [c]
def back (l : List UInt8) : List UInt8 := l.flatMap bkB
theorem bkB_len (c : UInt8) : 1 ≤ (bkB c).length ∧ (bkB c).length ≤ 2 := by
 unfold bkB
 split <;> simp
theorem back_len (l : List UInt8) : l.length ≤ (back l).length ∧ (back l).length ≤ 2 * l.length := by
 have := flat_len bkB_len l
 unfold back
 omega
end Es
end Go.Proofs.YtkiipaaaakhhfaaGreatDoor
end
section
namespace Go.Proofs.YtkiipaaaakhhfaaGreatDoor
open Go Go.RowKit
namespace Es
open En
set_option maxRecDepth 100000
set_option linter.unusedVariables false
set_option linter.unusedSimpArgs false
theorem u8_ne {c : UInt8} {n : Nat} (hn : n < 256) (h : c ≠ UInt8.ofNat n) : ((c.toNat : Int) == (n : Int)) = false := by
 simp only [beq_eq_false_iff_ne]
 intro e
 apply h
 rw [← UInt8.ofNat_toNat (x := c)]
 congr 1
 omega
def TabAt (w : World) (g : Nat) (q : IntKind) (T : Tab) : Prop := ∀ (i : Nat) (x : Int × Int × Int), T[i]? = some x →
 w.cell? ⟨g, i * 3, none⟩ = some (.int .i32 x.1) ∧ w.cell? ⟨g, i * 3 + 1, none⟩ = some (.int .i32 x.2.1) ∧ w.cell? ⟨g, i * 3 + 2, none⟩ = some (.int q x.2.2)
theorem cell_lt {w : World} {b o : Nat} {x : Value} (h : w.cell? ⟨b, o, none⟩ = some x) : b < w.heap.size := by
 rcases Nat.lt_or_ge b w.heap.size with h' | h'
 ·exact h'
 ·simp [World.cell?, Array.getElem?_eq_none h'] at h
theorem TabAt.below {w w' : World} {g : Nat} {q : IntKind} {T : Tab} (h : TabAt w g q T) (hB : Below w.heap.size w w') : TabAt w' g q T := by
 intro i x hx
 obtain ⟨h1, h2, h3⟩ := h i x hx
 have hl := cell_lt h1
 exact ⟨(hB.cell (p := ⟨g, i * 3, none⟩) hl).trans h1, (hB.cell (p := ⟨g, i * 3 + 1, none⟩) hl).trans h2, (hB.cell (p := ⟨g, i * 3 + 2, none⟩) hl).trans h3⟩
def LaidK (w : World) : Prop := TabAt w 4 .i64 kinds
theorem LaidK.below {w w' : World} (h : LaidK w) (hB : Below w.heap.size w w') : LaidK w' := TabAt.below h hB
theorem tab_at {T : Tab} {k : Nat} (h : k < T.length) : ∃ a b m, T[k]? = some (a, b, m) ∧ T.drop k = (a, b, m) :: T.drop (k + 1) := by
 refine ⟨T[k].1, T[k].2.1, T[k].2.2, List.getElem?_eq_getElem h, ?_⟩
 exact List.drop_eq_getElem_cons h
set_option maxHeartbeats 1000000 in
theorem kind_any (r : Int) (w : World) (hL : LaidK w) :
  Calls Tryz.prog 186 #[.int .i32 r] w fun e w' => e = .returned (.int .i64 (kd r)) ∧ w = w' := by
 have HL := Lib.hid hL
 clear hL
 go_enter Tryz.func186, Tryz.ntmps186
 go_wp2
 go_loop [4] (fun i => ∃ k : Nat, k ≤ 28 ∧ i = .int .i64 k ∧ Hid (kdF (kinds.drop k) r = kd r)) (fun i => 28 - (intOf i).toNat)
 case atStart => exact ⟨0, by omega, rfl, Lib.hid rfl⟩
 case round =>
  obtain ⟨k, hk, rfl, HK⟩ := hrel
  by_cases hlt : k < 28
  ·obtain ⟨a, b, m, hx, hd⟩ := tab_at (T := kinds) (k := k) hlt
   obtain ⟨c0, c1, c2⟩ := HL.out k _ hx
   have HD := Lib.hid hd
   clear hx hd
   have hlt' : (k : Int) < 28 := by omega
   have HE : Hid (kdF ((a, b, m) :: kinds.drop (k + 1)) r = if r ≤ b then (if r < a then 0 else m) else kdF (kinds.drop (k + 1)) r) := Lib.hid rfl
   rw [← HD.out] at HE
   by_cases hb : r ≤ b
   ·by_cases ha : r < a
    ·have HV : Hid (kd r = 0) := Lib.hid (by rw [← HK.out, HE.out, if_pos hb, if_pos ha])
     go_wp2
     go_ret
     exact ⟨ret_int' HV.out.symm, rfl⟩
    ·have HV : Hid (kd r = m) := Lib.hid (by rw [← HK.out, HE.out, if_pos hb, if_neg ha])
     go_wp2
     go_ret
     exact ⟨ret_int' HV.out.symm, rfl⟩
   ·have HV : Hid (kdF (kinds.drop (k + 1)) r = kd r) := Lib.hid (by rw [← HK.out, HE.out, if_neg hb])
    go_wp2
    go_round
    case rel => exact ⟨k + 1, by omega, by go_num, HV⟩
    case measure => simp [intOf]; omega
  ·obtain rfl : k = 28 := by omega
   go_wp2
   go_ret
   exact ⟨ret_int' (by rw [← HK.out]; rfl), rfl⟩
theorem beq_dec (a b : Int) : (a == b) = decide (a = b) := by rw [Bool.eq_iff_iff, beq_iff_eq, decide_eq_true_iff]
theorem punct_any (r : Int) (w : World) (hL : LaidK w) :
  Calls Tryz.prog 168 #[.int .i32 r] w fun e w' => e = .returned (.bool (decide (kd r = 2))) ∧ w = w' := by
 have HK := Lib.hid (kind_any r w hL)
 have HW : Hid (decide (kd r = 2) = (kd r == 2)) := Lib.hid (beq_dec _ _).symm
 clear hL
 go_enter Tryz.func168, Tryz.ntmps168
 go_wp2_with (go_at_call 186; refine HK.out.mono ?_; rintro e w' ⟨rfl, rfl⟩)
 go_ret
 exact ⟨ret_bool' HW.out.symm, rfl⟩
theorem sign_any (b : Int) (w : World) (h0 : 0 ≤ b) (h1 : b ≤ 255) (hL : LaidK w) :
  Calls Tryz.prog 153 #[.int .u8 b] w fun e w' => e = .returned (.bool (sgI b)) ∧ w = w' := by
 by_cases hb : b < 128
 ·have HP := Lib.hid (punct_any b w hL)
  rw [kd_sg h0 hb] at HP
  clear hL
  generalize sgI b = x at *
  go_enter Tryz.func153, Tryz.ntmps153
  go_wp2_with (go_at_call 168; refine HP.out.mono ?_; rintro e w' ⟨rfl, rfl⟩)
  go_ret
  exact ⟨rfl, rfl⟩
 ·have HV := Lib.hid (sg_high (b := b) (by omega))
  clear hL
  go_enter Tryz.func153, Tryz.ntmps153
  go_wp2
  go_ret
  exact ⟨ret_bool' HV.out.symm, rfl⟩
end Es
end Go.Proofs.YtkiipaaaakhhfaaGreatDoor
end
section
namespace Go.Proofs.YtkiipaaaakhhfaaGreatDoor
open Go Go.RowKit
namespace Es
open En
set_option maxRecDepth 100000
set_option linter.unusedVariables false
set_option linter.unusedSimpArgs false
def str (l : List UInt8) : Value := .string ⟨l.toArray⟩
theorem size_mk (l : List UInt8) : (⟨l.toArray⟩ : ByteArray).size = l.length := by rfl
theorem ret_strL {a b : List UInt8} (h : a = b) : Ending.returned (.string ⟨a.toArray⟩) = .returned (str b) := by rw [h]; rfl
def BF (B : Nat) (bs : List UInt8) (w : World) : Prop := Lib.IsBuilderF 132 5 B B (Lib.byteCells bs) w
theorem bf_below {W W' : World} {B : Nat} {bs : List UInt8} (h : BF B bs W) (hb : Below W.heap.size W W') : BF B bs W' := by
 have one : ∀ p, Lib.BuilderAtF 132 5 B B p (Lib.byteCells bs) W → Lib.BuilderAtF 132 5 B B p (Lib.byteCells bs) W' := by
  intro p h
  have hlt := h.lt
  obtain ⟨hB, v, hv, hown, hne⟩ := h
  exact ⟨hB, v, (hb.block B hlt).trans hv, hown.kept (row := none) ⟨hb.os, hb.tape, hb.output, hb.size, fun k hk _ => hb.block k hk⟩ (Classical.em _), hne⟩
 exact h.elim (fun x => .inl (one _ x)) (fun x => .inr (one _ x))
theorem byteCells_app (a b : List UInt8) : Lib.byteCells (a ++ b) = Lib.byteCells a ++ Lib.byteCells b := by simp [Lib.byteCells]
theorem strCells_mk (l : List UInt8) : Lib.strCells ⟨l.toArray⟩ = Lib.byteCells l := by simp [Lib.strCells, Lib.byteCells]
theorem bf_str {B : Nat} {p : Value} {bs l r : List UInt8} {w : World} (h : Lib.BuilderAtF 132 5 B B p (Lib.byteCells bs ++ Lib.strCells ⟨l.toArray⟩) w) (hp : p = .pointer (some ⟨B, 0, none⟩)) (hr : r = bs ++ l) : BF B r w := by
 subst hp hr
 refine Or.inr ?_
 rw [byteCells_app, ← strCells_mk l]
 exact h
end Es
end Go.Proofs.YtkiipaaaakhhfaaGreatDoor
end
section
namespace Go.Proofs.YtkiipaaaakhhfaaGreatDoor
open Go Go.RowKit
namespace Es
open En
set_option maxRecDepth 100000
set_option linter.unusedVariables false
set_option linter.unusedSimpArgs false
theorem ext_of (s : ByteArray) (a b : Nat) (l : List UInt8) (h : (s.data.toList.drop a).take (b - a) = l) : s.extract a b = ⟨l.toArray⟩ := by
 have := Lib.extract_data s a b
 rw [h] at this
 cases hx : s.extract a b with
 | mk d => rw [hx] at this; simp at this; rw [← this]
theorem ext_rest (s : ByteArray) (a : Nat) : (s.extract a s.size).data.toList = s.data.toList.drop a := by
 rw [Lib.extract_data, List.take_of_length_le]
 rw [List.length_drop, sz]
 omega
theorem str_encB (v : Int) : (⟨(encB v).toArray⟩ : ByteArray) = Utf8.encode v := by
 unfold encB
 cases Utf8.encode v
 simp
theorem ret_pair {a b : ByteArray} {m n : Int} (h1 : a = b) (h2 : m = n) : Ending.returned (.tuple #[.string a, .int .i64 m]) = .returned (.tuple #[.string b, .int .i64 n]) := by rw [h1, h2]
set_option maxHeartbeats 2000000 in
theorem first_any (s : ByteArray) (w : World) (h0 : 0 < s.size) (hs : s.size ≤ 1000000) (hL : LaidK w) :
  Calls Tryz.prog 131 #[.string s] w fun e w' => e = .returned (.tuple #[str (fst s.data.toList).1, .int .i64 ((fst s.data.toList).2 : Nat)]) ∧ Below w.heap.size w w' := by
 obtain ⟨c, t, hd, hck, ht⟩ := cons_at h0
 rw [List.drop_zero] at hd
 have HE1 : Hid (s.extract 0 1 = ⟨[c].toArray⟩) := Lib.hid (ext_of s 0 1 [c] (by rw [hd]; rfl))
 have hzero : (0 : Int) < (s.size : Int) := by omega
 by_cases h1 : c = 92
 ·subst h1
  by_cases h2 : 1 < s.size
  ·obtain ⟨c2, t2, hd2, hck2, _⟩ := cons_at h2
   have htt : t = c2 :: t2 := by
    rw [hd] at hd2
    simpa using hd2
   subst htt
   have HS := Lib.hid (fun W h => sign_any (c2.toNat : Int) W (by omega) (by have := c2.toNat_lt; omega) h)
   have hlt : (1 : Int) < (s.size : Int) := by omega
   have HE2 : Hid (s.extract 1 2 = ⟨[c2].toArray⟩) := Lib.hid (ext_of s 1 2 [c2] (by rw [hd]; rfl))
   have h22 : (2 : Int) ≤ (s.size : Int) := by omega
   cases hsg : sgI (c2.toNat : Int) with
   | true =>
    have HV : Hid (fst s.data.toList = ([c2], 2)) := Lib.hid (by rw [hd]; exact fst_slash hsg)
    rw [hsg] at HS
    have HS2 := Lib.hid (HS.out w hL)
    clear hd hd2 ht hsg HS hL
    go_enter Tryz.func131, Tryz.ntmps131
    go_wp2_with fail
    refine HS2.out.mono ?_
    rintro e w' ⟨rfl, rfl⟩
    go_wp2
    go_ret2
    exact ⟨by rw [HV.out]; exact ret_pair HE2.out rfl, Below.refl _ _⟩
   | false =>
    have HV : Hid (fst s.data.toList = ([92], 1)) := Lib.hid (by
     rw [hd, fst_self (by rw [esc1_slash, if_neg (by unfold sg; rw [hsg]; simp)]) (rread_other (by decide))]
     rfl)
    rw [hsg] at HS
    have HS2 := Lib.hid (HS.out w hL)
    clear hd hd2 ht hsg HS hL
    go_enter Tryz.func131, Tryz.ntmps131
    go_wp2_with fail
    refine HS2.out.mono ?_
    rintro e w' ⟨rfl, rfl⟩
    go_wp2
    go_ret2
    exact ⟨by rw [HV.out]; exact ret_pair HE1.out rfl, Below.refl _ _⟩
  ·have htn : t = [] := by
    have := congrArg List.length hd
    rw [sz] at this
    simp at this
    exact List.length_eq_zero_iff.1 (by omega)
   have HV : Hid (fst s.data.toList = ([92], 1)) := Lib.hid (by
    rw [hd, htn, fst_self (esc1_one 92) (rread_other (by decide))]
    rfl)
   have hlt : ¬ (1 : Int) < (s.size : Int) := by omega
   clear hd ht htn hL h2
   go_enter Tryz.func131, Tryz.ntmps131
   go_wp2
   go_ret2
   exact ⟨by rw [HV.out]; exact ret_pair HE1.out rfl, Below.refl _ _⟩
 have e1 : ((c.toNat : Int) == 92) = false := u8_ne (n := 92) (by decide) h1
 have HO : Hid (esc1 s.data.toList = none) := Lib.hid (by rw [hd]; exact esc1_other h1)
 by_cases h2 : c = 38
 ·subst h2
  have HR := Lib.hid (gread_any s w hs)
  rw [gread_eq] at HR
  cases hr : rread s.data.toList with
  | some x =>
   obtain ⟨v, n⟩ := x
   have hn := (rread_pos hr).1
   have HV := Lib.hid (fst_ref HO.out hr)
   rw [hr] at HR
   unfold resV at HR
   have hn' : (0 : Int) < (n : Int) := by omega
   clear hd ht hL hr hn e1
   go_enter Tryz.func131, Tryz.ntmps131
   go_wp2_with fail
   refine HR.out.mono ?_
   rintro e w' ⟨rfl, hb⟩
   go_wp2
   go_ret2
   exact ⟨by rw [HV.out]; exact ret_pair (str_encB v).symm rfl, hb⟩
  | none =>
   have HV : Hid (fst s.data.toList = ([38], 1)) := Lib.hid (by rw [fst_self HO.out hr, hd]; rfl)
   rw [hr] at HR
   unfold resV at HR
   clear hd ht hL hr e1
   go_enter Tryz.func131, Tryz.ntmps131
   go_wp2_with fail
   refine HR.out.mono ?_
   rintro e w' ⟨rfl, hb⟩
   go_wp2
   go_ret2
   exact ⟨by rw [HV.out]; exact ret_pair HE1.out rfl, hb⟩
 ·have e2 : ((c.toNat : Int) == 38) = false := u8_ne (n := 38) (by decide) h2
  have HV : Hid (fst s.data.toList = ([c], 1)) := Lib.hid (by rw [hd]; exact fst_plain h1 h2)
  clear hd ht hL h1 h2
  go_enter Tryz.func131, Tryz.ntmps131
  go_wp2
  go_ret2
  exact ⟨by rw [HV.out]; exact ret_pair HE1.out rfl, Below.refl _ _⟩
theorem app_len {a b c : List UInt8} (h : a ++ b = c) : a.length ≤ c.length := by rw [← h]; simp
set_option maxHeartbeats 2000000 in
theorem unescape_any (s : ByteArray) (w : World) (hs : s.size ≤ 1000000) (hL : LaidK w) :
  Calls Tryz.prog 102 #[.string s] w fun e w' => e = .returned (str (une s.data.toList)) ∧ Below w.heap.size w w' := by
 have hdl := Lib.hid (sz s)
 have HL := Lib.hid hL
 clear hL
 go_enter Tryz.func102, Tryz.ntmps102
 go_wp2_with (go_at_call 130; refine (Tryz.Builder_Grow_fresh w.heap.size w.heap.size s.size _ (Nat.le_refl _) ?g1 ?g2 ?g3).mono ?_)
 case g1 => simp only [World.alloc, Array.getElem?_push_size]
 case g2 => simp
 case g3 => omega
 rintro e w1 ⟨rfl, hb1, hbw1⟩
 have hbw0 : Below w.heap.size w w1 := ((Below.refl _ w).alloc (Nat.le_refl _) _).trans hbw1
 have hB1 : BF w.heap.size [] w1 := Lib.IsBuilderF.of (Or.inr hb1)
 clear hbw1 hb1
 go_wp2
 go_loopg [4, 13] s.size (fun g s4 s13 wr => ∃ (k n : Nat) (acc : List UInt8), k + g = s.size ∧ s13 = .int .i64 k ∧ s4 = .int .i64 n ∧ n ≤ s.size ∧ Hid (acc ++ unes (n - k) (s.data.toList.drop k) = une s.data.toList) ∧ BF w.heap.size acc wr ∧ Below w.heap.size w wr)
 case atStart => exact ⟨0, 0, [], by omega, rfl, rfl, by omega, Lib.hid rfl, hB1, hbw0⟩
 case round =>
  obtain ⟨k, n, acc, hkg, rfl, rfl, hn, HI, hB, hbw⟩ := hrel
  have hsz := hbw.size
  have hacc : acc.length ≤ 4000000 := by
   have := app_len HI.out
   have := une_len s.data.toList
   rw [hdl.out] at this
   omega
  clear hB1 hbw0
  cases gk with
  | zero =>
   have hkl : ¬ ((k : Int) < (s.size : Int)) := by omega
   have HV : Hid (une s.data.toList = acc) := Lib.hid (by
    have := HI.out
    rw [List.drop_eq_nil_of_le (by rw [hdl.out]; omega), unes_nil, List.append_nil] at this
    exact this.symm)
   go_wp2_with (go_at_call 117; refine (Tryz.Builder_String_any_f w.heap.size w.heap.size _ _ hB hsz).mono ?_; rintro e w3 ⟨rfl, _, hb3⟩)
   go_ret
   exact ⟨ret_strL HV.out.symm, hbw.trans hb3⟩
  | succ g =>
   have hkl : (k : Int) < (s.size : Int) := by omega
   have hk2 : k < s.size := by omega
   obtain ⟨c, t, hd, _, ht⟩ := cons_at hk2
   by_cases hnk : k < n
   ·have hnk' : (k : Int) < (n : Int) := by omega
    have HI2 : Hid (acc ++ unes (n - (k + 1)) (s.data.toList.drop (k + 1)) = une s.data.toList) := Lib.hid (by
     rw [← HI.out, ht, hd, show n - k = (n - (k + 1)) + 1 by omega]
     rfl)
    clear hd ht
    go_wp2
    go_roundg g
    case rel => exact ⟨k + 1, n, acc, by omega, by go_num, rfl, hn, HI2, hB, hbw⟩
    case measure => omega
   ·have hnk' : ¬ ((k : Int) < (n : Int)) := by omega
    have hfb := fst_bounds (l := s.data.toList.drop k) (by rw [hd]; simp)
    have HI2 : Hid ((acc ++ (fst (s.data.toList.drop k)).1) ++ unes (k + (fst (s.data.toList.drop k)).2 - (k + 1)) (s.data.toList.drop (k + 1)) = une s.data.toList) := Lib.hid (by
     rw [← HI.out, ht, hd, show n - k = 0 by omega, List.append_assoc, show ∀ x, k + x - (k + 1) = x - 1 by omega]
     rfl)
    have HF := Lib.hid (first_any (s.extract k s.size) wr (by simp; omega) (by simp; omega) (HL.out.below hbw))
    rw [ext_rest] at HF
    have hfl := hfb.2.2
    rw [List.length_drop, hdl.out] at hfl
    have hf1 := hfb.2.1
    have hf4 := hfb.1
    clear hd ht hfb
    generalize (fst (s.data.toList.drop k)).1 = told at *
    generalize (fst (s.data.toList.drop k)).2 = m at *
    unfold str at HF
    go_wp2_with (go_at_call 131; refine HF.out.mono ?_; rintro e w2 ⟨rfl, hb2⟩)
    have hbw2 := hbw.trans (hb2.mono hbw.size)
    have hB2 := bf_below hB hb2
    have hsz2 := hbw2.size
    go_wp2_with (go_at_call 115; refine (Tryz.Builder_WriteString_k w.heap.size w.heap.size _ _ _ hB2 ?a1 hsz2).mono ?_)
    case a1 => rw [Lib.byteCells_length, size_mk]; omega
    rintro e w3 ⟨rfl, hb3, hbw3, _⟩
    go_wp2
    go_roundg g
    case rel => exact ⟨k + 1, k + m, _, by omega, by go_num, by go_num, by omega, HI2, bf_str hb3 rfl rfl, hbw2.trans hbw3⟩
    case measure => omega
end Es
end Go.Proofs.YtkiipaaaakhhfaaGreatDoor
end
section
namespace Go.Proofs.YtkiipaaaakhhfaaGreatDoor
open Go Go.RowKit
namespace Es
open En
set_option maxRecDepth 100000
set_option linter.unusedVariables false
set_option linter.unusedSimpArgs false
theorem idx_cons (b : UInt8) (t : List UInt8) (c : UInt8) : Lib.indexByte (b :: t) c = if b == c then 0 else if Lib.indexByte t c == -1 then -1 else Lib.indexByte t c + 1 := rfl
theorem idx_mem (l : List UInt8) (c : UInt8) : l.contains c = decide (0 ≤ Lib.indexByte l c) := by
 induction l with
 | nil => rfl
 | cons b t ih =>
  rw [List.contains_cons, ih, idx_cons]
  have hge := Lib.indexByte_ge t c
  generalize Lib.indexByte t c = z at *
  by_cases h : b = c
  ·subst h; simp
  ·have h1 : (b == c) = false := by simpa using h
   have h2 : (c == b) = false := by simpa using (fun e => h e.symm)
   rw [h1, h2, Bool.false_or, if_neg (by simp)]
   by_cases h3 : z = -1
   ·subst h3; rfl
   ·rw [if_neg (by simpa using h3), decide_eq_decide]
    omega
end Es
end Go.Proofs.YtkiipaaaakhhfaaGreatDoor
end
