/- Walks of layer 9, the third part: white, blank lines, labels. -/
import Derived.Test.YtfabiidohdkkcaaGreatDoorLkB
import Derived.OwnWalk
namespace Go.Proofs.YtfabiidohdkkcaaGreatDoor
open Go Go.RowKit
namespace Lk
open Es
set_option maxRecDepth 100000
set_option linter.unusedVariables false
set_option linter.unusedSimpArgs false

/-- What the walks ask of the world: the table of kinds, and the length up to which a text is looked through at once. -/
structure LaidL (w : World) : Prop where
  kinds : LaidK w
  len : ∃ m : Int, w.cell? ⟨0, 0, none⟩ = some (.int .i64 m)
theorem LaidL.below {w w' : World} (h : LaidL w) (hB : Below w.heap.size w w') : LaidL w' := by
  obtain ⟨h1, m, h2⟩ := h
  exact ⟨h1.below hB, m, (hB.cell (p := ⟨0, 0, none⟩) (cell_lt h2)).trans h2⟩

theorem ba_eqL {S : ByteArray} {l : List UInt8} (h : S.data.toList = l) : S = ⟨l.toArray⟩ := by
  subst h
  cases S; simp
theorem ba_selfL (S : ByteArray) : (⟨S.data.toList.toArray⟩ : ByteArray) = S := (ba_eqL rfl).symm
theorem ba_mkL (l : List UInt8) : ∃ S : ByteArray, S.data.toList = l := ⟨⟨l.toArray⟩, by simp⟩
theorem ext_restL (s : ByteArray) (a : Nat) : (s.extract a s.size).data.toList = s.data.toList.drop a := by
  rw [Lib.extract_data, List.take_of_length_le]
  rw [List.length_drop, szL]
  omega
theorem ext_toL (s : ByteArray) (a : Nat) : (s.extract 0 a).data.toList = s.data.toList.take a := by
  rw [Lib.extract_data, List.drop_zero]; rfl
theorem empF {S : ByteArray} (h : 0 < S.size) : S.toList.isEmpty = false := by
  rw [Go.ByteArray.toList_eq]
  cases hl : S.data.toList with
  | nil => have := congrArg List.length hl; rw [szL, List.length_nil] at this; omega
  | cons _ _ => rfl
theorem ascii_of {l : List UInt8} (h : l.all (fun b => decide (b.toNat < 128)) = true) : ∀ (j : Nat) b, l[j]? = some b → b.toNat < 128 := by
  intro j b hj
  have := List.all_eq_true.1 h b (List.mem_of_getElem? hj)
  simpa using this

/-! ### white -/
theorem three_of (x y z c : UInt8) : ([x, y, z].contains c) = (c == x || (c == y || c == z)) := by rw [List.contains_cons, two_of]
theorem wh_drop (l : List UInt8) : (Lib.trimLeftS l [32, 9, 10]).length + whN l = l.length := by
  unfold Lib.trimLeftS whN
  rw [show (fun x => ([32, 9, 10] : List UInt8).contains x) = whB from funext fun c => by rw [three_of]; unfold whB; rw [Bool.or_assoc]]
  have := congrArg List.length (List.takeWhile_append_dropWhile (p := whB) (l := l))
  rw [List.length_append] at this
  omega
theorem white_any (s : ByteArray) (w : World) (hz : s.size ≤ 1000000) :
    Calls Tryz.prog 36 #[.string s] w fun e w' => e = .returned (.int .i64 (whN s.data.toList : Nat)) ∧ Below w.heap.size w w' := by
  obtain ⟨B, hB⟩ := ba_mkL (Lib.trimLeftS s.data.toList [32, 9, 10])
  have HT : Hid (Calls Tryz.prog 60 #[.string s, .string ⟨#[32, 9, 10]⟩] w fun e w' => e = .returned (.string B) ∧ Below w.heap.size w w') := Lib.hid (by
    have := Tryz.strings_TrimLeft_ascii s ⟨#[32, 9, 10]⟩ w (by decide) (ascii_of (by decide))
    rw [show (⟨#[32, 9, 10]⟩ : ByteArray).data.toList = [32, 9, 10] from rfl, ← hB, ba_selfL] at this
    exact this)
  have hl := wh_drop s.data.toList
  rw [← hB, szL, szL] at hl
  clear hB
  generalize whN s.data.toList = n at *
  have hd : (s.size : Int) - (B.size : Int) = (n : Int) := by omega
  have hB1 : (B.size : Int) ≤ 1000000 := by omega
  have hs1 : (s.size : Int) ≤ 1000000 := by omega
  clear hl
  go_enter Tryz.func36, Tryz.ntmps36
  go_wp2_with fail
  refine HT.out.mono ?_
  rintro e w1 ⟨rfl, hb⟩
  go_wp2
  go_ret
  exact ⟨retI (by omega), hb⟩

/-! ### lines -/
theorem idx10 : ∀ l : List UInt8, (∃ a r, l = a ++ 10 :: r ∧ (∀ c ∈ a, c ≠ 10) ∧ Lib.index l [10] = (a.length : Int)) ∨ ((∀ c ∈ l, c ≠ 10) ∧ Lib.index l [10] = -1)
  | [] => .inr ⟨fun c h => (by cases h), rfl⟩
  | b :: t => by
    by_cases hb : b = 10
    · subst hb
      refine .inl ⟨[], t, rfl, fun c h => (by cases h), ?_⟩
      show (if ([10] : List UInt8).isPrefixOf (10 :: t) then (0 : Int) else _) = 0
      rw [if_pos (by simp [List.isPrefixOf])]
    · have hno : ([10] : List UInt8).isPrefixOf (b :: t) = false := by
        have : ((10 : UInt8) == b) = false := by simpa using fun e => hb e.symm
        simp [List.isPrefixOf, this]
      have hix : Lib.index (b :: t) [10] = if Lib.index t [10] == -1 then -1 else Lib.index t [10] + 1 := by
        show (if ([10] : List UInt8).isPrefixOf (b :: t) then (0 : Int) else if Lib.index t [10] == -1 then -1 else Lib.index t [10] + 1) = _
        rw [hno]; rfl
      rcases idx10 t with ⟨a, r, h1, h2, h3⟩ | ⟨h1, h2⟩
      · refine .inl ⟨b :: a, r, by rw [h1]; rfl, fun c hc => ?_, ?_⟩
        · rcases List.mem_cons.1 hc with rfl | hc
          · exact hb
          · exact h2 c hc
        · rw [hix, h3]
          have : ((a.length : Int) == -1) = false := by simp
          rw [this]; simp
      · refine .inr ⟨fun c hc => ?_, ?_⟩
        · rcases List.mem_cons.1 hc with rfl | hc
          · exact hb
          · exact h1 c hc
        · rw [hix, h2]; rfl
theorem cut10 (l : List UInt8) : (∃ a r, Lib.cut l [10] = (a, r, true) ∧ l = a ++ 10 :: r ∧ ∀ c ∈ a, c ≠ 10) ∨ (Lib.cut l [10] = (l, [], false) ∧ ∀ c ∈ l, c ≠ 10) := by
  rcases idx10 l with ⟨a, r, h1, h2, h3⟩ | ⟨h1, h2⟩
  · refine .inl ⟨a, r, ?_, h1, h2⟩
    unfold Lib.cut
    rw [h3, if_pos (by omega), Int.toNat_natCast]
    have e1 : l.take a.length = a := by rw [h1]; exact List.take_left' rfl
    have e2 : l.drop (a.length + ([10] : List UInt8).length) = r := by
      rw [h1, show a ++ 10 :: r = (a ++ [10]) ++ r by simp]
      exact List.drop_left' (by simp)
    rw [e1, e2]
  · refine .inr ⟨?_, h1⟩
    unfold Lib.cut
    rw [h2, if_neg (by omega)]
theorem trim_bl (l : List UInt8) : (Lib.trimS l [32, 9]).isEmpty = l.all bl := by
  have hk : (fun c => ([32, 9] : List UInt8).contains c) = bl := funext fun c => two_of 32 9 c
  have hall : ∀ m : List UInt8, (m.dropWhile bl).isEmpty = m.all bl := fun m => by
    induction m with
    | nil => rfl
    | cons a t ih => rw [List.dropWhile_cons, List.all_cons]; cases bl a <;> simp [ih]
  have hsplit : ∀ m : List UInt8, (m.dropWhile bl).all bl = m.all bl := fun m => by
    induction m with
    | nil => rfl
    | cons a t ih => rw [List.dropWhile_cons, List.all_cons]; cases h : bl a <;> simp [ih, h]
  unfold Lib.trimS Lib.trimLeftS Lib.trimRightS
  rw [hk, hall, List.all_reverse, hsplit, List.all_reverse]
theorem cut_call (s : ByteArray) (w : World) (hz : s.size ≤ 1000000) (hL : LaidL w) : ∃ A B : ByteArray, ∃ ok : Bool, Lib.cut s.data.toList [10] = (A.data.toList, B.data.toList, ok) ∧
    ∀ W, Below w.heap.size w W → Calls Tryz.prog 112 #[.string s, .string ⟨#[10]⟩] W fun e w' => e = .returned (.tuple #[.string A, .string B, .bool ok]) ∧ Below w.heap.size w w' := by
  obtain ⟨A, hA⟩ := ba_mkL (Lib.cut s.data.toList [10]).1
  obtain ⟨B, hB⟩ := ba_mkL (Lib.cut s.data.toList [10]).2.1
  refine ⟨A, B, (Lib.cut s.data.toList [10]).2.2, by rw [hA, hB], fun W hW => ?_⟩
  obtain ⟨m, hm⟩ := (hL.below hW).len
  have := Tryz.strings_Cut s ⟨#[10]⟩ m W (by omega) hm
  rw [show (⟨#[10]⟩ : ByteArray).data.toList = [10] from rfl, ← hA, ← hB, ba_selfL, ba_selfL] at this
  exact this.mono fun e w' ⟨h1, n, h2⟩ => ⟨h1, by rw [h2]; exact below_drewN hW n⟩

set_option maxHeartbeats 2000000 in
theorem gap_any (s : ByteArray) (w : World) (hz : s.size ≤ 1000000) (hL : LaidL w) :
    Calls Tryz.prog 90 #[.string s] w fun e w' => e = .returned (.bool (gapP s.data.toList)) ∧ Below w.heap.size w w' := by
  obtain ⟨A, B, ok, hcut, hC⟩ := cut_call s w hz hL
  have HC := Lib.hid (hC w (Below.refl _ _))
  have HV : Hid (gapP s.data.toList = blankL B.data.toList ∧ B.size ≤ s.size) := Lib.hid (by
    rcases cut10 s.data.toList with ⟨a, r, h1, h2, h3⟩ | ⟨h1, h2⟩
    · rw [h1] at hcut
      have hB : B.data.toList = r := (Prod.mk.inj (Prod.mk.inj hcut).2).1.symm
      have hl := congrArg List.length h2
      rw [szL, List.length_append, List.length_cons, ← hB, szL] at hl
      exact ⟨by rw [h2, gap_app r a h3, hB], by omega⟩
    · rw [h1] at hcut
      have hB : B.data.toList = [] := (Prod.mk.inj (Prod.mk.inj hcut).2).1.symm
      have hl := congrArg List.length hB
      rw [szL, List.length_nil] at hl
      exact ⟨by rw [gap_no _ h2, hB]; rfl, by omega⟩)
  have HL := Lib.hid hL
  clear hcut hC hL
  generalize gapP s.data.toList = y at *
  go_enter Tryz.func90, Tryz.ntmps90
  go_wp2_with fail
  refine HC.out.mono ?_
  rintro e w1 ⟨rfl, hb1⟩
  have HB1 := Lib.hid hb1
  clear hb1
  go_wp2_with fail
  go_loopg [4] (s.size) (fun g s4 wr => ∃ R : ByteArray, s4 = .string R ∧ R.size ≤ g ∧ g ≤ s.size ∧ Hid (y = blankL R.data.toList) ∧ Hid (Below w.heap.size w wr))
  case atStart => exact ⟨B, rfl, HV.out.2, Nat.le_refl _, Lib.hid HV.out.1, HB1⟩
  case round =>
    obtain ⟨R, rfl, hRg, hgs, HY, HBr⟩ := hrel
    clear HB1 HC HV
    obtain ⟨A2, B2, ok2, hcut, hC⟩ := cut_call R wr (by omega) (HL.out.below HBr.out)
    have HC2 := Lib.hid (hC wr (Below.refl _ _))
    rcases cut10 R.data.toList with ⟨a, r, h1, h2, h3⟩ | ⟨h1, h2⟩
    · rw [h1] at hcut
      obtain ⟨hA, hcut2⟩ := Prod.mk.inj hcut
      obtain ⟨hB, hok⟩ := Prod.mk.inj hcut2
      subst hok
      have hl := congrArg List.length h2
      rw [szL, List.length_append, List.length_cons, hB, szL, hA, szL] at hl
      have HY2 : Hid (y = (A2.data.toList.all bl || blankL B2.data.toList)) := Lib.hid (by rw [HY.out, h2, blankL_app r h3, hA, hB])
      have HT : Hid (∀ W, Calls Tryz.prog 113 #[.string A2, .string ⟨#[32, 9]⟩] W fun e w' => e = .returned (.string ⟨(Lib.trimS A2.data.toList [32, 9]).toArray⟩) ∧ Below W.heap.size W w') := Lib.hid (fun W => Tryz.strings_Trim_ascii A2 ⟨#[32, 9]⟩ W (by omega) (by decide) (ascii_of (by decide)))
      have HX := Lib.hid (trim_bl A2.data.toList)
      clear hcut hcut2 h1 h2 h3 hA hB hC
      generalize Lib.trimS A2.data.toList [32, 9] = x at *
      generalize A2.data.toList.all bl = z at *
      cases z with
      | true =>
        have hx : x.isEmpty = true := HX.out
        go_wp2_with fail
        refine HC2.out.mono ?_
        rintro e w2 ⟨rfl, hb2⟩
        go_wp2_with fail
        refine (HT.out _).mono ?_
        rintro e w3 ⟨rfl, hb3⟩
        go_wp2
        go_ret
        exact ⟨retB (by rw [HY2.out]; rfl), HBr.out.trans ((hb2.trans (hb3.mono hb2.size)).mono HBr.out.size)⟩
      | false =>
        have hx : x.isEmpty = false := HX.out
        go_wp2_with fail
        refine HC2.out.mono ?_
        rintro e w2 ⟨rfl, hb2⟩
        go_wp2_with fail
        refine (HT.out _).mono ?_
        rintro e w3 ⟨rfl, hb3⟩
        have HB3 := Lib.hid (HBr.out.trans ((hb2.trans (hb3.mono hb2.size)).mono HBr.out.size))
        clear hb2 hb3
        cases gk with
        | zero => exact absurd hl (by omega)
        | succ g =>
          go_wp2
          go_roundg g
          case rel => exact ⟨B2, rfl, by omega, by omega, Lib.hid (by rw [HY2.out]; rfl), HB3⟩
          case measure => omega
    · rw [h1] at hcut
      obtain ⟨hA, hcut2⟩ := Prod.mk.inj hcut
      obtain ⟨hB, hok⟩ := Prod.mk.inj hcut2
      subst hok
      have HY2 : Hid (y = false) := Lib.hid (by rw [HY.out, blankL_none h2])
      clear hcut hcut2 h1 h2 hA hB hC
      go_wp2_with fail
      refine HC2.out.mono ?_
      rintro e w2 ⟨rfl, hb2⟩
      go_wp2
      go_ret
      exact ⟨retB HY2.out.symm, HBr.out.trans (hb2.mono HBr.out.size)⟩
end Lk
end Go.Proofs.YtfabiidohdkkcaaGreatDoor
