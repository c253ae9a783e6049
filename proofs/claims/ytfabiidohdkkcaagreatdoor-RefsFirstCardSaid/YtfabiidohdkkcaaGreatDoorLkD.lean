/- Walks of layer 9, the fourth part: Label, Title, Dest. -/
import Derived.Test.YtfabiidohdkkcaaGreatDoorLkC
import Derived.Test.YtfabiidohdkkcaaGreatDoorEscDs
namespace Go.Proofs.YtfabiidohdkkcaaGreatDoor
open Go Go.RowKit
namespace Lk
open Es
set_option maxRecDepth 100000
set_option linter.unusedVariables false
set_option linter.unusedSimpArgs false

theorem clone_any (s : ByteArray) (w : World) (hs : s.size ≤ 281474976710656) :
    Calls Tryz.prog 32 #[.string s] w fun e w' => e = .returned (.string s) ∧ Below w.heap.size w w' := by
  go_enter Tryz.func32, Tryz.ntmps32
  go_wp2_with (go_at_call 55; refine (Tryz.stringslite_Clone s w hs).mono ?_; rintro e w1 ⟨rfl, hb⟩)
  go_ret
  exact ⟨rfl, hb⟩
theorem ret2 {a b : ByteArray} {m n : Int} (h1 : a = b) (h2 : m = n) : Ending.returned (.tuple #[.string a, .int .i64 m]) = .returned (.tuple #[.string b, .int .i64 n]) := by rw [h1, h2]

/-- A text that begins with this sign: what stands behind it. -/
theorem pre_hit {s : ByteArray} {c : UInt8} {t : List UInt8} (h : s.data.toList = c :: t) (w : World) (T : ByteArray) (hT : T.data.toList = t) :
    Calls Tryz.prog 34 #[.string s, .string ⟨#[c]⟩] w fun e w' => e = .returned (.tuple #[.string T, .bool true]) ∧ w = w' := by
  have := Tryz.strings_CutPrefix s ⟨#[c]⟩ w
  rw [show (⟨#[c]⟩ : ByteArray).data.toList = [c] from rfl, h, show Lib.hasPrefix (c :: t) [c] = true by simp [Lib.hasPrefix, List.isPrefixOf], show Lib.trimPrefix (c :: t) [c] = t by unfold Lib.trimPrefix; rw [show Lib.hasPrefix (c :: t) [c] = true by simp [Lib.hasPrefix, List.isPrefixOf]]; rfl, ← hT, ba_selfL] at this
  exact this.mono fun _ _ ⟨a, b⟩ => ⟨a, b.symm⟩
theorem noPre {l : List UInt8} {c : UInt8} (h : l.head? ≠ some c) : Lib.hasPrefix l [c] = false := by
  cases l with
  | nil => rfl
  | cons d t =>
    have : (c == d) = false := by
      rw [beq_eq_false_iff_ne]
      rintro rfl
      exact h rfl
    simp [Lib.hasPrefix, List.isPrefixOf, this]
theorem pre_miss {s : ByteArray} {c : UInt8} (h : s.data.toList.head? ≠ some c) (w : World) :
    Calls Tryz.prog 34 #[.string s, .string ⟨#[c]⟩] w fun e w' => e = .returned (.tuple #[.string s, .bool false]) ∧ w = w' := by
  have := Tryz.strings_CutPrefix s ⟨#[c]⟩ w
  rw [show (⟨#[c]⟩ : ByteArray).data.toList = [c] from rfl, noPre h, show Lib.trimPrefix s.data.toList [c] = s.data.toList by unfold Lib.trimPrefix; rw [noPre h]; rfl, ba_selfL] at this
  exact this.mono fun _ _ ⟨a, b⟩ => ⟨a, b.symm⟩
theorem has_any (s : ByteArray) (c : UInt8) (w : World) :
    Calls Tryz.prog 20 #[.string s, .string ⟨#[c]⟩] w fun e w' => e = .returned (.bool (decide (s.data.toList.head? = some c))) ∧ w = w' := by
  have := Tryz.strings_HasPrefix s ⟨#[c]⟩ w
  rw [show (⟨#[c]⟩ : ByteArray).data.toList = [c] from rfl, show Lib.hasPrefix s.data.toList [c] = decide (s.data.toList.head? = some c) by
    cases hl : s.data.toList with
    | nil => rfl
    | cons d t =>
      by_cases hd : d = c
      · subst hd; simp [Lib.hasPrefix, List.isPrefixOf]
      · rw [noPre (by simpa using hd)]; simp [hd]] at this
  exact this.mono fun _ _ ⟨a, b⟩ => ⟨a, b.symm⟩

/-! ### labels -/
def labV (l : List UInt8) : Value := .tuple #[str (labP l).1, .int .i64 ((labP l).2 : Nat)]
/-- What is too long is not gone through. -/
theorem lab_cut (t : List UInt8) : labP (91 :: t) = match labF false (t.take 1000) with
    | none => ([], 0)
    | some i => if whN (t.take i) = i then ([], 0) else (t.take i, i + 2) := by
  show (if (91 : UInt8) = 91 then (match labF false t with
    | none => (([], 0) : List UInt8 × Nat)
    | some i => if 999 < i ∨ whN (t.take i) = i then ([], 0) else (t.take i, i + 2)) else ([], 0)) = _
  rw [if_pos rfl]
  cases h : labF false (t.take 1000) with
  | some i =>
    have hlt : i < (t.take 1000).length := find_lt _ false i h
    have h2 : labF false t = some i := by
      have := find_take (t.drop (i + 1)) _ false i h
      rw [List.take_take, show min (i + 1) 1000 = i + 1 by rw [List.length_take] at hlt; omega, List.take_append_drop] at this
      exact this
    rw [h2]
    rw [List.length_take] at hlt
    by_cases hw : whN (t.take i) = i
    · simp only [if_pos hw, if_pos (Or.inr hw : 999 < i ∨ _)]
    · simp only [if_neg hw, if_neg (show ¬ (999 < i ∨ whN (t.take i) = i) from fun e => e.elim (by omega) hw)]
  | none =>
    cases h2 : labF false t with
    | none => rfl
    | some i =>
      have hlt : i < t.length := find_lt _ false i h2
      by_cases hi : 999 < i
      · simp only [if_pos (Or.inl hi : 999 < i ∨ _)]
      · have := find_take ((t.drop (i + 1)).take (1000 - (i + 1))) _ false i h2
        rw [show t.take (i + 1) ++ (t.drop (i + 1)).take (1000 - (i + 1)) = t.take 1000 by rw [← List.take_add]; congr 1; omega] at this
        exact absurd (h.symm.trans this) (by simp)

set_option maxHeartbeats 2000000 in
theorem label_any (s : ByteArray) (w : World) (hz : s.size ≤ 1000000) (hL : LaidL w) :
    Calls Tryz.prog 19 #[.string s] w fun e w' => e = .returned (labV s.data.toList) ∧ Below w.heap.size w w' := by
  by_cases hh : s.data.toList.head? = some 91
  · obtain ⟨t, ht⟩ := head_cons hh
    obtain ⟨T, hT⟩ := ba_mkL t
    have HC := Lib.hid (pre_hit ht w T hT)
    have hTs : T.size + 1 = s.size := by rw [← szL T, ← szL s, ht, hT]; rfl
    obtain ⟨m, hm⟩ : ∃ m : Nat, m = min T.size 1000 := ⟨_, rfl⟩
    have hm1 : min (T.size : Int) 1000 = (m : Int) := by omega
    have hm2 : (m : Int) ≤ (T.size : Int) := by omega
    obtain ⟨U, hU⟩ : ∃ U, U = T.extract 0 m := ⟨_, rfl⟩
    have hUl : U.data.toList = t.take 1000 := by
      rw [hU, ext_toL, hT, hm]
      rcases Nat.le_total T.size 1000 with h | h
      · rw [Nat.min_eq_left h, List.take_of_length_le (by rw [← hT, szL]; omega), List.take_of_length_le (by rw [← hT, szL]; omega)]
      · rw [Nat.min_eq_right h]
    have hUs : U.size ≤ 1000 := by rw [← szL U, hUl, List.length_take]; omega
    have HU := Lib.hid hU
    have HV := Lib.hid (lab_cut t)
    have HP := Lib.hid (fun W (h : LaidL W) => upTo_any U 93 [91] W (by omega) h.kinds)
    rw [hUl, ← up_lab] at HP
    have HLw := Lib.hid hL
    rw [ht]
    unfold labV
    clear hm hU hT ht hh hL
    rw [HV.out]
    cases hr : labF false (t.take 1000) with
    | none =>
      rw [hr] at HP
      unfold upV at HP
      clear hUl hr
      go_enter Tryz.func19, Tryz.ntmps19
      go_wp2_with fail
      refine HC.out.mono ?_
      rintro e w1 ⟨rfl, rfl⟩
      go_wp2_with fail
      rw [← HU.out]
      refine (HP.out _ HLw.out).mono ?_
      rintro e w2 ⟨rfl, hb2⟩
      go_wp2
      go_ret2
      exact ⟨rfl, hb2⟩
    | some i =>
      have hlt : i < (t.take 1000).length := find_lt _ false i hr
      obtain ⟨I, hI⟩ : ∃ I, I = U.extract 0 i := ⟨_, rfl⟩
      have hIl : I.data.toList = t.take i := by
        rw [hI, ext_toL, hUl, List.take_take, Nat.min_eq_left (by rw [List.length_take] at hlt; omega)]
      have hIs : I.size = i := by rw [← szL I, hIl, List.length_take]; rw [List.length_take] at hlt; omega
      rw [hr] at HP
      unfold upV at HP
      simp only at HP
      rw [← hI] at HP
      have hi9 : i ≤ 999 := by rw [List.length_take] at hlt; omega
      have HW := Lib.hid (fun W => white_any I W (by omega))
      rw [hIl] at HW
      have HK := Lib.hid (fun W => clone_any I W (by omega))
      have HI2 := Lib.hid hIl
      have hIs2 : (I.size : Int) = (i : Int) := by omega
      clear hUl hr hlt hI hIl hIs
      simp only
      by_cases hw : whN (t.take i) = i
      · rw [hw] at HW
        rw [if_pos hw]
        clear hw
        go_enter Tryz.func19, Tryz.ntmps19
        go_wp2_with fail
        refine HC.out.mono ?_
        rintro e w1 ⟨rfl, rfl⟩
        go_wp2_with fail
        rw [← HU.out]
        refine (HP.out _ HLw.out).mono ?_
        rintro e w2 ⟨rfl, hb2⟩
        go_wp2_with fail
        refine (HW.out _).mono ?_
        rintro e w3 ⟨rfl, hb3⟩
        go_wp2
        go_ret2
        exact ⟨rfl, hb2.trans (hb3.mono hb2.size)⟩
      · rw [if_neg hw]
        have hwb : ((whN (t.take i) : Int) == (i : Int)) = false := by simp; omega
        generalize whN (t.take i) = g at *
        clear hw
        go_enter Tryz.func19, Tryz.ntmps19
        go_wp2_with fail
        refine HC.out.mono ?_
        rintro e w1 ⟨rfl, rfl⟩
        go_wp2_with fail
        rw [← HU.out]
        refine (HP.out _ HLw.out).mono ?_
        rintro e w2 ⟨rfl, hb2⟩
        go_wp2_with fail
        refine (HW.out _).mono ?_
        rintro e w3 ⟨rfl, hb3⟩
        go_wp2_with fail
        refine (HK.out _).mono ?_
        rintro e w4 ⟨rfl, hb4⟩
        go_wp2
        go_ret2
        have hb := hb2.trans (hb3.mono hb2.size)
        exact ⟨ret2 (by rw [← HI2.out, ba_selfL]) (by omega), hb.trans (hb4.mono hb.size)⟩
  · have HC := Lib.hid (pre_miss hh w)
    have HV : Hid (labP s.data.toList = ([], 0)) := Lib.hid (by
      cases hl : s.data.toList with
      | nil => rfl
      | cons c t => exact lab_none t (fun e => hh (by rw [hl, e]; rfl)))
    unfold labV
    rw [HV.out]
    clear hh hL
    go_enter Tryz.func19, Tryz.ntmps19
    go_wp2_with fail
    refine HC.out.mono ?_
    rintro e w1 ⟨rfl, rfl⟩
    go_wp2
    go_ret2
    exact ⟨rfl, Below.refl _ _⟩
end Lk
end Go.Proofs.YtfabiidohdkkcaaGreatDoor
