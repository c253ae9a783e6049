import Derived.Test.YtkiipaaaakhhfaaGreatDoorCLk1
import Derived.OwnWalk
import Derived.Test.YtkiipaaaakhhfaaGreatDoorCEsc1
section
namespace Go.Proofs.YtkiipaaaakhhfaaGreatDoor
open Go Go.RowKit
namespace Lk
open Es
set_option maxRecDepth 100000
set_option linter.unusedVariables false
set_option linter.unusedSimpArgs false
structure LaidL (w : World) : Prop where
 kinds : LaidK w
 len : ∃ m : Int, w.cell? ⟨0, 0, none⟩ = some (.int .i64 m)
theorem LaidL.below {w w' : World} (h : LaidL w) (hB : Below w.heap.size w w') : LaidL w' := by
 obtain ⟨h1, m, h2⟩ := h
 exact ⟨h1.below hB, m, (hB.cell (p := ⟨0, 0, none⟩) (cell_lt h2)).trans h2⟩
theorem ba_eqL {S : ByteArray} {l : List UInt8} (h : S.data.toList = l) : S = ⟨l.toArray⟩ := by
 subst h
 cases S; simp
theorem ba_selfL (S : ByteArray) : (⟨S.data.toList.toArray⟩ : ByteArray) = S := (ba_eqL rfl).symm
theorem ba_mkL (l : List UInt8) : ∃ S : ByteArray, S.data.toList = l := ⟨⟨l.toArray⟩, by simp⟩
theorem ext_restL (s : ByteArray) (a : Nat) : (s.extract a s.size).data.toList = s.data.toList.drop a := by
 rw [Lib.extract_data, List.take_of_length_le]
 rw [List.length_drop, szL]
 omega
theorem ext_toL (s : ByteArray) (a : Nat) : (s.extract 0 a).data.toList = s.data.toList.take a := by
 rw [Lib.extract_data, List.drop_zero]; rfl
theorem empF {S : ByteArray} (h : 0 < S.size) : S.toList.isEmpty = false := by
 rw [Go.ByteArray.toList_eq]
 cases hl : S.data.toList with
 | nil => have := congrArg List.length hl; rw [szL, List.length_nil] at this; omega
 | cons _ _ => rfl
theorem ascii_of {l : List UInt8} (h : l.all (fun b => decide (b.toNat < 128)) = true) : ∀ (j : Nat) b, l[j]? = some b → b.toNat < 128 := by
 intro j b hj
 have := List.all_eq_true.1 h b (List.mem_of_getElem? hj)
 simpa using this
theorem three_of (x y z c : UInt8) : ([x, y, z].contains c) = (c == x || (c == y || c == z)) := by rw [List.contains_cons, two_of]
theorem wh_drop (l : List UInt8) : (Lib.trimLeftS l [32, 9, 10]).length + whN l = l.length := by
 unfold Lib.trimLeftS whN
 rw [show (fun x => ([32, 9, 10] : List UInt8).contains x) = whB from funext fun c => by rw [three_of]; unfold whB; rw [Bool.or_assoc]]
 have := congrArg List.length (List.takeWhile_append_dropWhile (p := whB) (l := l))
 rw [List.length_append] at this
 omega
theorem white_any (s : ByteArray) (w : World) (hz : s.size ≤ 1000000) :
  Calls Tryz.prog 200 #[.string s] w fun e w' => e = .returned (.int .i64 (whN s.data.toList : Nat)) ∧ Below w.heap.size w w' := by
 obtain ⟨B, hB⟩ := ba_mkL (Lib.trimLeftS s.data.toList [32, 9, 10])
 have HT : Hid (Calls Tryz.prog 112 #[.string s, .string ⟨#[32, 9, 10]⟩] w fun e w' => e = .returned (.string B) ∧ Below w.heap.size w w') := Lib.hid (by
  have := Tryz.strings_TrimLeft_ascii s ⟨#[32, 9, 10]⟩ w (by decide) (ascii_of (by decide))
  rw [show (⟨#[32, 9, 10]⟩ : ByteArray).data.toList = [32, 9, 10] from rfl, ← hB, ba_selfL] at this
  exact this)
 have hl := wh_drop s.data.toList
 rw [← hB, szL, szL] at hl
 clear hB
 generalize whN s.data.toList = n at *
 have hd : (s.size : Int) - (B.size : Int) = (n : Int) := by omega
 have hB1 : (B.size : Int) ≤ 1000000 := by omega
 have hs1 : (s.size : Int) ≤ 1000000 := by omega
 clear hl
 go_enter Tryz.func200, Tryz.ntmps200
 go_wp2_with fail
 refine HT.out.mono ?_
 rintro e w1 ⟨rfl, hb⟩
 go_wp2
 go_ret
 exact ⟨retI (by omega), hb⟩
theorem idx10 : ∀ l : List UInt8, (∃ a r, l = a ++ 10 :: r ∧ (∀ c ∈ a, c ≠ 10) ∧ Lib.index l [10] = (a.length : Int)) ∨ ((∀ c ∈ l, c ≠ 10) ∧ Lib.index l [10] = -1)
 | [] => .inr ⟨fun c h => (by cases h), rfl⟩
 | b :: t => by
  by_cases hb : b = 10
  ·subst hb
   refine .inl ⟨[], t, rfl, fun c h => (by cases h), ?_⟩
   show (if ([10] : List UInt8).isPrefixOf (10 :: t) then (0 : Int) else _) = 0
   rw [if_pos (by simp [List.isPrefixOf])]
  ·have hno : ([10] : List UInt8).isPrefixOf (b :: t) = false := by
    have : ((10 : UInt8) == b) = false := by simpa using fun e => hb e.symm
    simp [List.isPrefixOf, this]
   have hix : Lib.index (b :: t) [10] = if Lib.index t [10] == -1 then -1 else Lib.index t [10] + 1 := by
    show (if ([10] : List UInt8).isPrefixOf (b :: t) then (0 : Int) else if Lib.index t [10] == -1 then -1 else Lib.index t [10] + 1) = _
    rw [hno]; rfl
   rcases idx10 t with ⟨a, r, h1, h2, h3⟩ | ⟨h1, h2⟩
   ·refine .inl ⟨b :: a, r, by rw [h1]; rfl, fun c hc => ?_, ?_⟩
    ·rcases List.mem_cons.1 hc with rfl | hc
     ·exact hb
     ·exact h2 c hc
    ·rw [hix, h3]
     have : ((a.length : Int) == -1) = false := by simp
     rw [this]; simp
   ·refine .inr ⟨fun c hc => ?_, ?_⟩
    ·rcases List.mem_cons.1 hc with rfl | hc
     ·exact hb
     ·exact h1 c hc
    ·rw [hix, h2]; rfl
theorem cut10 (l : List UInt8) : (∃ a r, Lib.cut l [10] = (a, r, true) ∧ l = a ++ 10 :: r ∧ ∀ c ∈ a, c ≠ 10) ∨ (Lib.cut l [10] = (l, [], false) ∧ ∀ c ∈ l, c ≠ 10) := by
 rcases idx10 l with ⟨a, r, h1, h2, h3⟩ | ⟨h1, h2⟩
 ·refine .inl ⟨a, r, ?_, h1, h2⟩
  unfold Lib.cut
  rw [h3, if_pos (by omega), Int.toNat_natCast]
  have e1 : l.take a.length = a := by rw [h1]; exact List.take_left' rfl
  have e2 : l.drop (a.length + ([10] : List UInt8).length) = r := by
   rw [h1, show a ++ 10 :: r = (a ++ [10]) ++ r by simp]
   exact List.drop_left' (by simp)
  rw [e1, e2]
 ·refine .inr ⟨?_, h1⟩
  unfold Lib.cut
  rw [h2, if_neg (by omega)]
theorem trim_bl (l : List UInt8) : (Lib.trimS l [32, 9]).isEmpty = l.all bl := by
 have hk : (fun c => ([32, 9] : List UInt8).contains c) = bl := funext fun c => two_of 32 9 c
 have hall : ∀ m : List UInt8, (m.dropWhile bl).isEmpty = m.all bl := fun m => by
  induction m with
  | nil => rfl
  | cons a t ih => rw [List.dropWhile_cons, List.all_cons]; cases bl a <;> simp [ih]
 have hsplit : ∀ m : List UInt8, (m.dropWhile bl).all bl = m.all bl := fun m => by
  induction m with
  | nil => rfl
  | cons a t ih => rw [List.dropWhile_cons, List.all_cons]; cases h : bl a <;> simp [ih, h]
 unfold Lib.trimS Lib.trimLeftS Lib.trimRightS
 rw [hk, hall, List.all_reverse, hsplit, List.all_reverse]
theorem cut_call (s : ByteArray) (w : World) (hz : s.size ≤ 1000000) (hL : LaidL w) : ∃ A B : ByteArray, ∃ ok : Bool, Lib.cut s.data.toList [10] = (A.data.toList, B.data.toList, ok) ∧
  ∀ W, Below w.heap.size w W → Calls Tryz.prog 148 #[.string s, .string ⟨#[10]⟩] W fun e w' => e = .returned (.tuple #[.string A, .string B, .bool ok]) ∧ Below w.heap.size w w' := by
 obtain ⟨A, hA⟩ := ba_mkL (Lib.cut s.data.toList [10]).1
 obtain ⟨B, hB⟩ := ba_mkL (Lib.cut s.data.toList [10]).2.1
 refine ⟨A, B, (Lib.cut s.data.toList [10]).2.2, by rw [hA, hB], fun W hW => ?_⟩
 obtain ⟨m, hm⟩ := (hL.below hW).len
 have := Tryz.strings_Cut s ⟨#[10]⟩ m W (by omega) hm
 rw [show (⟨#[10]⟩ : ByteArray).data.toList = [10] from rfl, ← hA, ← hB, ba_selfL, ba_selfL] at this
 exact this.mono fun e w' ⟨h1, n, h2⟩ => ⟨h1, by rw [h2]; exact below_drewN hW n⟩
set_option maxHeartbeats 2000000 in
theorem gap_any (s : ByteArray) (w : World) (hz : s.size ≤ 1000000) (hL : LaidL w) :
  Calls Tryz.prog 232 #[.string s] w fun e w' => e = .returned (.bool (gapP s.data.toList)) ∧ Below w.heap.size w w' := by
 obtain ⟨A, B, ok, hcut, hC⟩ := cut_call s w hz hL
 have HC := Lib.hid (hC w (Below.refl _ _))
 have HV : Hid (gapP s.data.toList = blankL B.data.toList ∧ B.size ≤ s.size) := Lib.hid (by
  rcases cut10 s.data.toList with ⟨a, r, h1, h2, h3⟩ | ⟨h1, h2⟩
  ·rw [h1] at hcut
   have hB : B.data.toList = r := (Prod.mk.inj (Prod.mk.inj hcut).2).1.symm
   have hl := congrArg List.length h2
   rw [szL, List.length_append, List.length_cons, ← hB, szL] at hl
   exact ⟨by rw [h2, gap_app r a h3, hB], by omega⟩
  ·rw [h1] at hcut
   have hB : B.data.toList = [] := (Prod.mk.inj (Prod.mk.inj hcut).2).1.symm
   have hl := congrArg List.length hB
   rw [szL, List.length_nil] at hl
   exact ⟨by rw [gap_no _ h2, hB]; rfl, by omega⟩)
 have HL := Lib.hid hL
 clear hcut hC hL
 generalize gapP s.data.toList = y at *
 go_enter Tryz.func232, Tryz.ntmps232
 go_wp2_with fail
 refine HC.out.mono ?_
 rintro e w1 ⟨rfl, hb1⟩
 have HB1 := Lib.hid hb1
 clear hb1
 go_wp2_with fail
 go_loopg [4] (s.size) (fun g s4 wr => ∃ R : ByteArray, s4 = .string R ∧ R.size ≤ g ∧ g ≤ s.size ∧ Hid (y = blankL R.data.toList) ∧ Hid (Below w.heap.size w wr))
 case atStart => exact ⟨B, rfl, HV.out.2, Nat.le_refl _, Lib.hid HV.out.1, HB1⟩
 case round =>
  obtain ⟨R, rfl, hRg, hgs, HY, HBr⟩ := hrel
  clear HB1 HC HV
  obtain ⟨A2, B2, ok2, hcut, hC⟩ := cut_call R wr (by omega) (HL.out.below HBr.out)
  have HC2 := Lib.hid (hC wr (Below.refl _ _))
  rcases cut10 R.data.toList with ⟨a, r, h1, h2, h3⟩ | ⟨h1, h2⟩
  ·rw [h1] at hcut
   obtain ⟨hA, hcut2⟩ := Prod.mk.inj hcut
   obtain ⟨hB, hok⟩ := Prod.mk.inj hcut2
   subst hok
   have hl := congrArg List.length h2
   rw [szL, List.length_append, List.length_cons, hB, szL, hA, szL] at hl
   have HY2 : Hid (y = (A2.data.toList.all bl || blankL B2.data.toList)) := Lib.hid (by rw [HY.out, h2, blankL_app r h3, hA, hB])
   have HT : Hid (∀ W, Calls Tryz.prog 129 #[.string A2, .string ⟨#[32, 9]⟩] W fun e w' => e = .returned (.string ⟨(Lib.trimS A2.data.toList [32, 9]).toArray⟩) ∧ Below W.heap.size W w') := Lib.hid (fun W => Tryz.strings_Trim_ascii A2 ⟨#[32, 9]⟩ W (by omega) (by decide) (ascii_of (by decide)))
   have HX := Lib.hid (trim_bl A2.data.toList)
   clear hcut hcut2 h1 h2 h3 hA hB hC
   generalize Lib.trimS A2.data.toList [32, 9] = x at *
   generalize A2.data.toList.all bl = z at *
   cases z with
   | true =>
    have hx : x.isEmpty = true := HX.out
    go_wp2_with fail
    refine HC2.out.mono ?_
    rintro e w2 ⟨rfl, hb2⟩
    go_wp2_with fail
    refine (HT.out _).mono ?_
    rintro e w3 ⟨rfl, hb3⟩
    go_wp2
    go_ret
    exact ⟨retB (by rw [HY2.out]; rfl), HBr.out.trans ((hb2.trans (hb3.mono hb2.size)).mono HBr.out.size)⟩
   | false =>
    have hx : x.isEmpty = false := HX.out
    go_wp2_with fail
    refine HC2.out.mono ?_
    rintro e w2 ⟨rfl, hb2⟩
    go_wp2_with fail
    refine (HT.out _).mono ?_
    rintro e w3 ⟨rfl, hb3⟩
    have HB3 := Lib.hid (HBr.out.trans ((hb2.trans (hb3.mono hb2.size)).mono HBr.out.size))
    clear hb2 hb3
    cases gk with
    | zero => exact absurd hl (by omega)
    | succ g =>
     go_wp2
     go_roundg g
     case rel => exact ⟨B2, rfl, by omega, by omega, Lib.hid (by rw [HY2.out]; rfl), HB3⟩
     case measure => omega
  ·rw [h1] at hcut
   obtain ⟨hA, hcut2⟩ := Prod.mk.inj hcut
   obtain ⟨hB, hok⟩ := Prod.mk.inj hcut2
   subst hok
   have HY2 : Hid (y = false) := Lib.hid (by rw [HY.out, blankL_none h2])
   clear hcut hcut2 h1 h2 hA hB hC
   go_wp2_with fail
   refine HC2.out.mono ?_
   rintro e w2 ⟨rfl, hb2⟩
   go_wp2
   go_ret
   exact ⟨retB HY2.out.symm, HBr.out.trans (hb2.mono HBr.out.size)⟩
end Lk
end Go.Proofs.YtkiipaaaakhhfaaGreatDoor
end
section
namespace Go.Proofs.YtkiipaaaakhhfaaGreatDoor
open Go Go.RowKit
namespace Lk
open Es
set_option maxRecDepth 100000
set_option linter.unusedVariables false
set_option linter.unusedSimpArgs false
theorem clone_any (s : ByteArray) (w : World) (hs : s.size ≤ 281474976710656) :
  Calls Tryz.prog 31 #[.string s] w fun e w' => e = .returned (.string s) ∧ Below w.heap.size w w' := by
 go_enter Tryz.func31, Tryz.ntmps31
 go_wp2_with (go_at_call 50; refine (Tryz.stringslite_Clone s w hs).mono ?_; rintro e w1 ⟨rfl, hb⟩)
 go_ret
 exact ⟨rfl, hb⟩
theorem ret2 {a b : ByteArray} {m n : Int} (h1 : a = b) (h2 : m = n) : Ending.returned (.tuple #[.string a, .int .i64 m]) = .returned (.tuple #[.string b, .int .i64 n]) := by rw [h1, h2]
theorem pre_hit {s : ByteArray} {c : UInt8} {t : List UInt8} (h : s.data.toList = c :: t) (w : World) (T : ByteArray) (hT : T.data.toList = t) :
  Calls Tryz.prog 28 #[.string s, .string ⟨#[c]⟩] w fun e w' => e = .returned (.tuple #[.string T, .bool true]) ∧ w = w' := by
 have := Tryz.strings_CutPrefix s ⟨#[c]⟩ w
 rw [show (⟨#[c]⟩ : ByteArray).data.toList = [c] from rfl, h, show Lib.hasPrefix (c :: t) [c] = true by simp [Lib.hasPrefix, List.isPrefixOf], show Lib.trimPrefix (c :: t) [c] = t by unfold Lib.trimPrefix; rw [show Lib.hasPrefix (c :: t) [c] = true by simp [Lib.hasPrefix, List.isPrefixOf]]; rfl, ← hT, ba_selfL] at this
 exact this.mono fun _ _ ⟨a, b⟩ => ⟨a, b.symm⟩
theorem noPre {l : List UInt8} {c : UInt8} (h : l.head? ≠ some c) : Lib.hasPrefix l [c] = false := by
 cases l with
 | nil => rfl
 | cons d t =>
  have : (c == d) = false := by
   rw [beq_eq_false_iff_ne]
   rintro rfl
   exact h rfl
  simp [Lib.hasPrefix, List.isPrefixOf, this]
theorem pre_miss {s : ByteArray} {c : UInt8} (h : s.data.toList.head? ≠ some c) (w : World) :
  Calls Tryz.prog 28 #[.string s, .string ⟨#[c]⟩] w fun e w' => e = .returned (.tuple #[.string s, .bool false]) ∧ w = w' := by
 have := Tryz.strings_CutPrefix s ⟨#[c]⟩ w
 rw [show (⟨#[c]⟩ : ByteArray).data.toList = [c] from rfl, noPre h, show Lib.trimPrefix s.data.toList [c] = s.data.toList by unfold Lib.trimPrefix; rw [noPre h]; rfl, ba_selfL] at this
 exact this.mono fun _ _ ⟨a, b⟩ => ⟨a, b.symm⟩
theorem has_any (s : ByteArray) (c : UInt8) (w : World) :
  Calls Tryz.prog 30 #[.string s, .string ⟨#[c]⟩] w fun e w' => e = .returned (.bool (decide (s.data.toList.head? = some c))) ∧ w = w' := by
 have := Tryz.strings_HasPrefix s ⟨#[c]⟩ w
 rw [show (⟨#[c]⟩ : ByteArray).data.toList = [c] from rfl, show Lib.hasPrefix s.data.toList [c] = decide (s.data.toList.head? = some c) by
  cases hl : s.data.toList with
  | nil => rfl
  | cons d t =>
   by_cases hd : d = c
   ·subst hd; simp [Lib.hasPrefix, List.isPrefixOf]
   ·rw [noPre (by simpa using hd)]; simp [hd]] at this
 exact this.mono fun _ _ ⟨a, b⟩ => ⟨a, b.symm⟩
def labV (l : List UInt8) : Value := .tuple #[str (labP l).1, .int .i64 ((labP l).2 : Nat)]
theorem lab_cut (t : List UInt8) : labP (91 :: t) = match labF false (t.take 1000) with
  | none => ([], 0)
  | some i => if whN (t.take i) = i then ([], 0) else (t.take i, i + 2) := by
 show (if (91 : UInt8) = 91 then (match labF false t with
  | none => (([], 0) : List UInt8 × Nat)
  | some i => if 999 < i ∨ whN (t.take i) = i then ([], 0) else (t.take i, i + 2)) else ([], 0)) = _
 rw [if_pos rfl]
 cases h : labF false (t.take 1000) with
 | some i =>
  have hlt : i < (t.take 1000).length := find_lt _ false i h
  have h2 : labF false t = some i := by
   have := find_take (t.drop (i + 1)) _ false i h
   rw [List.take_take, show min (i + 1) 1000 = i + 1 by rw [List.length_take] at hlt; omega, List.take_append_drop] at this
   exact this
  rw [h2]
  rw [List.length_take] at hlt
  by_cases hw : whN (t.take i) = i
  ·simp only [if_pos hw, if_pos (Or.inr hw : 999 < i ∨ _)]
  ·simp only [if_neg hw, if_neg (show ¬ (999 < i ∨ whN (t.take i) = i) from fun e => e.elim (by omega) hw)]
 | none =>
  cases h2 : labF false t with
  | none => rfl
  | some i =>
   have hlt : i < t.length := find_lt _ false i h2
   by_cases hi : 999 < i
   ·simp only [if_pos (Or.inl hi : 999 < i ∨ _)]
   ·have := find_take ((t.drop (i + 1)).take (1000 - (i + 1))) _ false i h2
    rw [show t.take (i + 1) ++ (t.drop (i + 1)).take (1000 - (i + 1)) = t.take 1000 by rw [← List.take_add]; congr 1; omega] at this
    exact absurd (h.symm.trans this) (by simp)
set_option maxHeartbeats 2000000 in
theorem label_any (s : ByteArray) (w : World) (hz : s.size ≤ 1000000) (hL : LaidL w) :
  Calls Tryz.prog 175 #[.string s] w fun e w' => e = .returned (labV s.data.toList) ∧ Below w.heap.size w w' := by
 by_cases hh : s.data.toList.head? = some 91
 ·obtain ⟨t, ht⟩ := head_cons hh
  obtain ⟨T, hT⟩ := ba_mkL t
  have HC := Lib.hid (pre_hit ht w T hT)
  have hTs : T.size + 1 = s.size := by rw [← szL T, ← szL s, ht, hT]; rfl
  obtain ⟨m, hm⟩ : ∃ m : Nat, m = min T.size 1000 := ⟨_, rfl⟩
  have hm1 : min (T.size : Int) 1000 = (m : Int) := by omega
  have hm2 : (m : Int) ≤ (T.size : Int) := by omega
  obtain ⟨U, hU⟩ : ∃ U, U = T.extract 0 m := ⟨_, rfl⟩
  have hUl : U.data.toList = t.take 1000 := by
   rw [hU, ext_toL, hT, hm]
   rcases Nat.le_total T.size 1000 with h | h
   ·rw [Nat.min_eq_left h, List.take_of_length_le (by rw [← hT, szL]; omega), List.take_of_length_le (by rw [← hT, szL]; omega)]
   ·rw [Nat.min_eq_right h]
  have hUs : U.size ≤ 1000 := by rw [← szL U, hUl, List.length_take]; omega
  have HU := Lib.hid hU
  have HV := Lib.hid (lab_cut t)
  have HP := Lib.hid (fun W (h : LaidL W) => upTo_any U 93 [91] W (by omega) h.kinds)
  rw [hUl, ← up_lab] at HP
  have HLw := Lib.hid hL
  rw [ht]
  unfold labV
  clear hm hU hT ht hh hL
  rw [HV.out]
  cases hr : labF false (t.take 1000) with
  | none =>
   rw [hr] at HP
   unfold upV at HP
   clear hUl hr
   go_enter Tryz.func175, Tryz.ntmps175
   go_wp2_with fail
   refine HC.out.mono ?_
   rintro e w1 ⟨rfl, rfl⟩
   go_wp2_with fail
   rw [← HU.out]
   refine (HP.out _ HLw.out).mono ?_
   rintro e w2 ⟨rfl, hb2⟩
   go_wp2
   go_ret2
   exact ⟨rfl, hb2⟩
  | some i =>
   have hlt : i < (t.take 1000).length := find_lt _ false i hr
   obtain ⟨I, hI⟩ : ∃ I, I = U.extract 0 i := ⟨_, rfl⟩
   have hIl : I.data.toList = t.take i := by
    rw [hI, ext_toL, hUl, List.take_take, Nat.min_eq_left (by rw [List.length_take] at hlt; omega)]
   have hIs : I.size = i := by rw [← szL I, hIl, List.length_take]; rw [List.length_take] at hlt; omega
   rw [hr] at HP
   unfold upV at HP
   simp only at HP
   rw [← hI] at HP
   have hi9 : i ≤ 999 := by rw [List.length_take] at hlt; omega
   have HW := Lib.hid (fun W => white_any I W (by omega))
   rw [hIl] at HW
   have HK := Lib.hid (fun W => clone_any I W (by omega))
   have HI2 := Lib.hid hIl
   have hIs2 : (I.size : Int) = (i : Int) := by omega
   clear hUl hr hlt hI hIl hIs
   simp only
   by_cases hw : whN (t.take i) = i
   ·rw [hw] at HW
    rw [if_pos hw]
    clear hw
    go_enter Tryz.func175, Tryz.ntmps175
    go_wp2_with fail
    refine HC.out.mono ?_
    rintro e w1 ⟨rfl, rfl⟩
    go_wp2_with fail
    rw [← HU.out]
    refine (HP.out _ HLw.out).mono ?_
    rintro e w2 ⟨rfl, hb2⟩
    go_wp2_with fail
    refine (HW.out _).mono ?_
    rintro e w3 ⟨rfl, hb3⟩
    go_wp2
    go_ret2
    exact ⟨rfl, hb2.trans (hb3.mono hb2.size)⟩
   ·rw [if_neg hw]
    have hwb : ((whN (t.take i) : Int) == (i : Int)) = false := by simp; omega
    generalize whN (t.take i) = g at *
    clear hw
    go_enter Tryz.func175, Tryz.ntmps175
    go_wp2_with fail
    refine HC.out.mono ?_
    rintro e w1 ⟨rfl, rfl⟩
    go_wp2_with fail
    rw [← HU.out]
    refine (HP.out _ HLw.out).mono ?_
    rintro e w2 ⟨rfl, hb2⟩
    go_wp2_with fail
    refine (HW.out _).mono ?_
    rintro e w3 ⟨rfl, hb3⟩
    go_wp2_with fail
    refine (HK.out _).mono ?_
    rintro e w4 ⟨rfl, hb4⟩
    go_wp2
    go_ret2
    have hb := hb2.trans (hb3.mono hb2.size)
    exact ⟨ret2 (by rw [← HI2.out, ba_selfL]) (by omega), hb.trans (hb4.mono hb.size)⟩
 ·have HC := Lib.hid (pre_miss hh w)
  have HV : Hid (labP s.data.toList = ([], 0)) := Lib.hid (by
   cases hl : s.data.toList with
   | nil => rfl
   | cons c t => exact lab_none t (fun e => hh (by rw [hl, e]; rfl)))
  unfold labV
  rw [HV.out]
  clear hh hL
  go_enter Tryz.func175, Tryz.ntmps175
  go_wp2_with fail
  refine HC.out.mono ?_
  rintro e w1 ⟨rfl, rfl⟩
  go_wp2
  go_ret2
  exact ⟨rfl, Below.refl _ _⟩
end Lk
end Go.Proofs.YtkiipaaaakhhfaaGreatDoor
end
section
namespace Go.Proofs.YtkiipaaaakhhfaaGreatDoor
open Go Go.RowKit
namespace Lk
open Es
set_option maxRecDepth 100000
set_option linter.unusedVariables false
set_option linter.unusedSimpArgs false
theorem ret3 {a b : ByteArray} {m n : Int} {x y : Bool} (h1 : a = b) (h2 : m = n) (h3 : x = y) : Ending.returned (.tuple #[.string a, .int .i64 m, .bool x]) = .returned (.tuple #[.string b, .int .i64 n, .bool y]) := by rw [h1, h2, h3]
def dstV (l : List UInt8) : Value := .tuple #[str (destP l).1, .int .i64 ((destP l).2.1 : Nat), .bool (destP l).2.2]
theorem dest_bare {l : List UInt8} (h : l.head? ≠ some 60) : destP l = if bareN l = 0 then ([], 0, false) else (une (l.take (bareN l)), bareN l, true) := by
 cases l with
 | nil => rfl
 | cons c t =>
  have hc : c ≠ 60 := fun e => h (by rw [e]; rfl)
  have hd := bareN_dst (c :: t)
  unfold destP
  simp only
  rw [if_neg hc, hd]
  unfold bareN
  by_cases h0 : 0 < (fnd opS 0 false (c :: t)).2
  ·simp only [if_pos h0, if_true]
  ·simp only [if_neg h0]
theorem bareN_le (l : List UInt8) : bareN l ≤ l.length := by
 unfold bareN
 split
 ·exact Nat.zero_le _
 ·exact fnd_le _ _ _
set_option maxHeartbeats 2000000 in
theorem dest_any (s : ByteArray) (w : World) (hz : s.size ≤ 1000000) (hL : LaidL w) :
  Calls Tryz.prog 177 #[.string s] w fun e w' => e = .returned (dstV s.data.toList) ∧ Below w.heap.size w w' := by
 have HLw := Lib.hid hL
 by_cases hh : s.data.toList.head? = some 60
 ·obtain ⟨t, ht⟩ := head_cons hh
  obtain ⟨T, hT⟩ := ba_mkL t
  have HC := Lib.hid (pre_hit ht w T hT)
  have hTs : T.size + 1 = s.size := by rw [← szL T, ← szL s, ht, hT]; rfl
  have HP := Lib.hid (fun W (h : LaidL W) => upTo_any T 62 [60, 10] W (by omega) h.kinds)
  rw [hT, ← up_ang] at HP
  rw [ht]
  unfold dstV
  cases hr : angF false t with
  | none =>
   have HV : Hid (destP (60 :: t) = ([], 0, false)) := Lib.hid (by unfold destP; simp only [if_true, hr])
   rw [hr] at HP
   unfold upV at HP
   rw [HV.out]
   clear hr hT ht hh hL
   go_enter Tryz.func177, Tryz.ntmps177
   go_wp2_with fail
   refine HC.out.mono ?_
   rintro e w1 ⟨rfl, rfl⟩
   go_wp2_with fail
   refine (HP.out _ HLw.out).mono ?_
   rintro e w2 ⟨rfl, hb2⟩
   go_wp2
   go_ret3
   exact ⟨rfl, hb2⟩
  | some i =>
   have HV : Hid (destP (60 :: t) = (une (t.take i), i + 2, true)) := Lib.hid (by unfold destP; simp only [if_true, hr])
   have hlt : i < t.length := find_lt _ false i hr
   rw [← hT, szL] at hlt
   obtain ⟨I, hI⟩ : ∃ I, I = T.extract 0 i := ⟨_, rfl⟩
   have hIl : I.data.toList = t.take i := by rw [hI, ext_toL, hT]
   have hIs : I.size = i := by rw [← szL I, hIl, List.length_take, ← hT, szL]; omega
   rw [hr] at HP
   unfold upV at HP
   simp only at HP
   rw [← hI] at HP
   have HU := Lib.hid (fun W (h : LaidL W) => unescape_any I W (by omega) h.kinds)
   rw [hIl] at HU
   rw [HV.out]
   have hIs2 : (I.size : Int) = (i : Int) := by omega
   clear hr hT ht hh hL hI hIl hIs HV
   generalize une (t.take i) = u at *
   unfold str at HU
   go_enter Tryz.func177, Tryz.ntmps177
   go_wp2_with fail
   refine HC.out.mono ?_
   rintro e w1 ⟨rfl, rfl⟩
   go_wp2_with fail
   refine (HP.out _ HLw.out).mono ?_
   rintro e w2 ⟨rfl, hb2⟩
   go_wp2_with fail
   refine (HU.out _ (HLw.out.below hb2)).mono ?_
   rintro e w3 ⟨rfl, hb3⟩
   go_wp2
   go_ret3
   exact ⟨ret3 rfl (by omega) rfl, hb2.trans (hb3.mono hb2.size)⟩
 ·have HC := Lib.hid (pre_miss hh w)
  have HB := Lib.hid (bare_any s w hz hL.kinds)
  have HV := Lib.hid (dest_bare hh)
  have hle := bareN_le s.data.toList
  rw [szL] at hle
  obtain ⟨n, hn⟩ : ∃ n, n = bareN s.data.toList := ⟨_, rfl⟩
  rw [← hn] at HB HV hle
  unfold dstV
  rw [HV.out]
  by_cases h0 : n = 0
  ·rw [if_pos h0]
   subst h0
   clear hh hL hn
   go_enter Tryz.func177, Tryz.ntmps177
   go_wp2_with fail
   refine HC.out.mono ?_
   rintro e w1 ⟨rfl, rfl⟩
   go_wp2_with fail
   refine HB.out.mono ?_
   rintro e w2 ⟨rfl, hb2⟩
   go_wp2
   go_ret3
   exact ⟨rfl, hb2⟩
  ·rw [if_neg h0]
   have hnb : ((n : Int) == 0) = false := by simp; omega
   have hle2 : (n : Int) ≤ (s.size : Int) := by omega
   obtain ⟨I, hI⟩ : ∃ I, I = s.extract 0 n := ⟨_, rfl⟩
   have hIl : I.data.toList = s.data.toList.take n := by rw [hI, ext_toL]
   have hIs : I.size ≤ 1000000 := by rw [← szL I, hIl, List.length_take, szL]; omega
   have HI := Lib.hid hI
   have HU := Lib.hid (fun W (h : LaidL W) => unescape_any I W (by omega) h.kinds)
   rw [hIl] at HU
   clear hh hL hn h0 HV hI hIl
   generalize une (s.data.toList.take n) = u at *
   unfold str at HU
   go_enter Tryz.func177, Tryz.ntmps177
   go_wp2_with fail
   refine HC.out.mono ?_
   rintro e w1 ⟨rfl, rfl⟩
   go_wp2_with fail
   refine HB.out.mono ?_
   rintro e w2 ⟨rfl, hb2⟩
   go_wp2_with fail
   rw [← HI.out]
   refine (HU.out _ (HLw.out.below hb2)).mono ?_
   rintro e w3 ⟨rfl, hb3⟩
   go_wp2
   go_ret3
   exact ⟨ret3 rfl rfl rfl, hb2.trans (hb3.mono hb2.size)⟩
def titV (l : List UInt8) : Value := .tuple #[str (titP l).1, .int .i64 ((titP l).2 : Nat)]
theorem tit_parts (s : ByteArray) (w : World) (hz : s.size ≤ 1000000) (hL : LaidL w) {c : UInt8} {t : List UInt8} (ht : s.data.toList = c :: t) (hc : c = 34 ∨ c = 39 ∨ c = 40) :
  (titF c false t = none ∧ titP s.data.toList = ([], 0) ∧ ∀ W, LaidL W → Calls Tryz.prog 199 #[.string (s.extract 1 s.size), .int .u8 ((endB c).toNat : Int), .string ⟨(bars c).toArray⟩] W fun e w' => e = .returned (.tuple #[.string ⟨#[]⟩, .bool false]) ∧ Below W.heap.size W w')
  ∨ ∃ (I : ByteArray) (u : List UInt8) (b : Bool) (i : Nat), I.size = i ∧ i ≤ 1000000 ∧ titP s.data.toList = (if b = true then ([], 0) else (u, i + 2))
   ∧ (∀ W, LaidL W → Calls Tryz.prog 199 #[.string (s.extract 1 s.size), .int .u8 ((endB c).toNat : Int), .string ⟨(bars c).toArray⟩] W fun e w' => e = .returned (.tuple #[.string I, .bool true]) ∧ Below W.heap.size W w')
   ∧ (∀ W, LaidL W → Calls Tryz.prog 232 #[.string I] W fun e w' => e = .returned (.bool b) ∧ Below W.heap.size W w')
   ∧ (∀ W, LaidL W → Calls Tryz.prog 102 #[.string I] W fun e w' => e = .returned (.string ⟨u.toArray⟩) ∧ Below W.heap.size W w') := by
 have hTl : (s.extract 1 s.size).data.toList = t := by rw [ext_restL, ht]; rfl
 have hTs : (s.extract 1 s.size).size ≤ 1000000 := by simp; omega
 have HP := fun W (h : LaidL W) => upTo_any (s.extract 1 s.size) (endB c) (bars c) W hTs h.kinds
 rw [hTl, ← up_tit hc] at HP
 have hP : titP (c :: t) = match titF c false t with
   | none => ([], 0)
   | some i => if gapP (t.take i) = true then ([], 0) else (une (t.take i), i + 2) := if_pos hc
 rw [ht, hP]
 cases hr : titF c false t with
 | none =>
  rw [hr] at HP
  exact .inl ⟨rfl, rfl, HP⟩
 | some i =>
  have hlt : i < t.length := find_lt _ false i hr
  have hts : t.length ≤ 1000000 := by rw [← hTl, szL]; exact hTs
  rw [hr] at HP
  have hIl : ((s.extract 1 s.size).extract 0 i).data.toList = t.take i := by rw [ext_toL, hTl]
  have hIs : ((s.extract 1 s.size).extract 0 i).size = i := by rw [← szL, hIl, List.length_take]; omega
  refine .inr ⟨(s.extract 1 s.size).extract 0 i, une (t.take i), gapP (t.take i), i, hIs, by omega, rfl, HP, fun W h => ?_, fun W h => ?_⟩
  ·have := gap_any ((s.extract 1 s.size).extract 0 i) W (by omega) h
   rw [hIl] at this; exact this
  ·have := unescape_any ((s.extract 1 s.size).extract 0 i) W (by omega) h.kinds
   rw [hIl] at this; exact this
set_option maxHeartbeats 4000000 in
theorem title_any (s : ByteArray) (w : World) (hz : s.size ≤ 1000000) (hL : LaidL w) :
  Calls Tryz.prog 223 #[.string s] w fun e w' => e = .returned (titV s.data.toList) ∧ Below w.heap.size w w' := by
 have HLw := Lib.hid hL
 by_cases h0 : 0 < s.size
 ·obtain ⟨c, t, hd, hck, _⟩ := consAt h0
  rw [List.drop_zero] at hd
  have he := empF h0
  have h1 : (1 : Int) ≤ (s.size : Int) := by omega
  have h01 : (0 : Int) < (s.size : Int) := by omega
  by_cases hc : c = 34 ∨ c = 39 ∨ c = 40
  ·rcases tit_parts s w hz hL hd hc with ⟨_, hV, hP⟩ | ⟨I, u, b, i, hI, hi, hV, hP, hG, hU⟩
   ·have HV := Lib.hid hV
    have HP := Lib.hid hP
    unfold titV
    rw [HV.out]
    clear hL hd hV hP
    rcases hc with rfl | rfl | rfl
    all_goals
     go_enter Tryz.func223, Tryz.ntmps223
     go_wp2_with fail
     refine (HP.out _ HLw.out).mono ?_
     rintro e w2 ⟨rfl, hb2⟩
     go_wp2
     go_ret2
     exact ⟨rfl, hb2⟩
   ·have HV := Lib.hid hV
    have HP := Lib.hid hP
    have HG := Lib.hid hG
    have HU := Lib.hid hU
    have hI2 : (I.size : Int) = (i : Int) := by omega
    unfold titV
    rw [HV.out]
    clear hL hd hV hP hG hU hI HV
    cases b with
    | true =>
     rcases hc with rfl | rfl | rfl
     all_goals
      go_enter Tryz.func223, Tryz.ntmps223
      go_wp2_with fail
      refine (HP.out _ HLw.out).mono ?_
      rintro e w2 ⟨rfl, hb2⟩
      go_wp2_with fail
      refine (HG.out _ (HLw.out.below hb2)).mono ?_
      rintro e w3 ⟨rfl, hb3⟩
      go_wp2
      go_ret2
      exact ⟨rfl, hb2.trans (hb3.mono hb2.size)⟩
    | false =>
     rcases hc with rfl | rfl | rfl
     all_goals
      go_enter Tryz.func223, Tryz.ntmps223
      go_wp2_with fail
      refine (HP.out _ HLw.out).mono ?_
      rintro e w2 ⟨rfl, hb2⟩
      go_wp2_with fail
      refine (HG.out _ (HLw.out.below hb2)).mono ?_
      rintro e w3 ⟨rfl, hb3⟩
      have hb := hb2.trans (hb3.mono hb2.size)
      go_wp2_with fail
      refine (HU.out _ (HLw.out.below hb)).mono ?_
      rintro e w4 ⟨rfl, hb4⟩
      go_wp2
      go_ret2
      exact ⟨ret2 rfl (by first | rfl | omega), hb.trans (hb4.mono hb.size)⟩
  ·have HV : Hid (titP s.data.toList = ([], 0)) := Lib.hid (by rw [hd]; exact if_neg hc)
   have n34 : ((c.toNat : Int) == 34) = false := (eqU c 34 (by decide)).trans (beq_eq_false_iff_ne.2 fun e => hc (.inl e))
   have n39 : ((c.toNat : Int) == 39) = false := (eqU c 39 (by decide)).trans (beq_eq_false_iff_ne.2 fun e => hc (.inr (.inl e)))
   have n40 : ((c.toNat : Int) == 40) = false := (eqU c 40 (by decide)).trans (beq_eq_false_iff_ne.2 fun e => hc (.inr (.inr e)))
   unfold titV
   rw [HV.out]
   clear hL hd hc
   go_enter Tryz.func223, Tryz.ntmps223
   go_wp2
   go_ret2
   exact ⟨rfl, Below.refl _ _⟩
 ·have hs : s = ⟨#[]⟩ := ba_eqL (l := []) (List.length_eq_zero_iff.1 (by rw [szL]; omega))
  subst hs
  clear hL h0
  unfold titV
  rw [show titP (⟨#[]⟩ : ByteArray).data.toList = ([], 0) from rfl]
  go_enter Tryz.func223, Tryz.ntmps223
  go_wp2
  go_ret2
  exact ⟨rfl, Below.refl _ _⟩
end Lk
end Go.Proofs.YtkiipaaaakhhfaaGreatDoor
end
