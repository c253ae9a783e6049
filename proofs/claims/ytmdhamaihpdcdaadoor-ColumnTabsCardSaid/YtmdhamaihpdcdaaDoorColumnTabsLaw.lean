/- ColumnTabs: the law's walk. -/
import Derived.Test.YtmdhamaihpdcdaaDoorColumnSpacesLaw
import Derived.IntWalk
namespace Go.Proofs.YtmdhamaihpdcdaaDoor
open Go Go.RowKit
namespace ColumnTabs
open Cl ColumnSteps ColumnSpaces
set_option maxRecDepth 100000
set_option linter.unusedVariables false
set_option linter.unusedSimpArgs false

def tabs (k : Nat) : Value := .string ⟨(List.replicate k (9 : UInt8)).toArray⟩
theorem tabs_snoc (k : Nat) : (⟨(List.replicate k (9 : UInt8)).toArray⟩ : ByteArray) ++ ⟨#[9]⟩ = ⟨(List.replicate (k + 1) (9 : UInt8)).toArray⟩ := by
  have h : ((⟨(List.replicate k (9 : UInt8)).toArray⟩ : ByteArray) ++ ⟨#[9]⟩).data.toList = (⟨(List.replicate (k + 1) (9 : UInt8)).toArray⟩ : ByteArray).data.toList := by
    rw [List.replicate_succ']; simp
  revert h
  generalize ((⟨(List.replicate k (9 : UInt8)).toArray⟩ : ByteArray) ++ ⟨#[9]⟩) = x
  generalize (⟨(List.replicate (k + 1) (9 : UInt8)).toArray⟩ : ByteArray) = y
  intro h
  cases x with
  | mk a => cases y with
    | mk b => exact congrArg ByteArray.mk (by cases a; cases b; exact congrArg Array.mk h)

theorem tab_indent (k c a : Nat) (W : World) (hk : k ≤ 63) (hc : c ≤ 1023) (ha : (if k = 0 then 0 else 4 * k - c % 4) = a) :
    Calls Tryd.prog 16 #[.string ((⟨(List.replicate k (9 : UInt8)).toArray⟩ : ByteArray) ++ ⟨#[120]⟩), .int .i64 (c : Int)] W fun e w' => e = .returned (.tuple #[.int .i64 (a : Int), .int .i64 (k : Int)]) ∧ Below W.heap.size W w' := by
  have hx : ((⟨(List.replicate k (9 : UInt8)).toArray⟩ : ByteArray) ++ ⟨#[120]⟩).data.toList = List.replicate k 9 ++ [120] := by simp
  have ht := tabs_spec k [120] c (fun c => by simp [indC, indB, wd])
  have h := indent_any ((⟨(List.replicate k (9 : UInt8)).toArray⟩ : ByteArray) ++ ⟨#[120]⟩) c W (by rw [← sz, hx]; simp; omega) (by omega)
  rw [hx, ht.1, ht.2, ha] at h
  exact h

set_option maxHeartbeats 2000000 in
theorem law_any (n col : Int) (w : World) :
    Calls Tryd.prog 7 #[.int .i64 n, .int .i64 col] w fun e w' => e = .returned (.bool true) ∧ Below w.heap.size w w' := by
  have HA := Lib.hid (awake_any w)
  have SC := Lib.hid (fun W => small_any col W)
  have hb := bits_and n 63 (by decide)
  rw [show ((63 : Nat) : Int) = 63 from rfl] at hb
  have hk := msk_le n 63 (by decide)
  have hc := msk_le col 1023 (by decide)
  generalize msk n 63 = k at *
  generalize msk col 1023 = c at *
  obtain ⟨a, ha⟩ : ∃ a, (if k = 0 then 0 else 4 * k - c % 4) = a := ⟨_, rfl⟩
  have TI := Lib.hid (fun W => tab_indent k c a W hk hc ha)
  have HZ : Hid (∀ i, (⟨(List.replicate i (9 : UInt8)).toArray⟩ : ByteArray) ++ ⟨#[9]⟩ = ⟨(List.replicate (i + 1) (9 : UInt8)).toArray⟩) := Lib.hid tabs_snoc
  have Hc4 : Hid ((c : Int) % 4 = ((c % 4 : Nat) : Int)) := Lib.hid (by omega)
  have Ha := Lib.hid ha
  clear ha
  go_enter Tryd.func7, Tryd.ntmps7
  go_wp2_with (first
    | (go_at_call 9; refine HA.out.mono ?_; rintro e w1 ⟨rfl, hb1⟩)
    | (go_at_call 15; refine (SC.out _).mono ?_; rintro e w' ⟨rfl, rfl⟩))
  go_loop [8, 9] (fun v8 v9 => ∃ i : Nat, i ≤ k ∧ v9 = .int .i64 (i : Int) ∧ v8 = tabs i) (fun _ v9 => k - (intOf v9).toNat)
  case atStart => exact ⟨0, Nat.zero_le _, rfl, rfl⟩
  case round =>
    obtain ⟨i, hi, rfl, rfl⟩ := hrel
    unfold tabs
    by_cases hlt : i < k
    · have hz := HZ.out i
      go_wp2
      go_round
      case rel => exact ⟨i + 1, by omega, by go_num, by simpa [tabs] using congrArg Value.string (HZ.out i)⟩
      case measure => simp [intOf]; omega
    · obtain rfl : i = k := by omega
      clear hlt hi
      by_cases hk0 : i = 0
      · subst hk0
        have ha0 : a = 0 := by rw [← Ha.out]; simp
        subst ha0
        by_cases h4 : (c : Int) % 4 = 0
        · have h4b : ((c : Int) % 4 == 0) = true := by simpa using h4
          clear h4
          go_wp2_with (go_at_call 16; refine (from_below (TI.out _) hb1).mono ?_; rintro e w2 ⟨rfl, hb2⟩)
          go_ret
          exact ⟨rfl, hb2⟩
        · have h4b : ((c : Int) % 4 == 0) = false := by simpa using h4
          clear h4
          go_wp2_with (go_at_call 16; refine (from_below (TI.out _) hb1).mono ?_; rintro e w2 ⟨rfl, hb2⟩)
          go_ret
          exact ⟨rfl, hb2⟩
      · have ha0 : a = 4 * i - c % 4 := by rw [← Ha.out, if_neg hk0]
        have hi0 : (0 : Int) < (i : Int) := by omega
        have hi1 : (i : Int) ≤ 63 := by omega
        have hc1 : (c : Int) ≤ 1023 := by omega
        have e1 : 4 * (i : Int) - (c : Int) % 4 = (a : Int) := by omega
        have e2 : ((c : Int) + (a : Int)) % 4 = 0 := by omega
        have e3 : ((c : Int) + (4 * (i : Int) - (c : Int) % 4)) % 4 = 0 := by omega
        rw [← e1] at TI
        clear ha0 hk0 e1 e2
        go_wp2_with (go_at_call 16; refine (from_below (TI.out _) hb1).mono ?_; rintro e w2 ⟨rfl, hb2⟩)
        go_ret
        exact ⟨rfl, hb2⟩
end ColumnTabs
end Go.Proofs.YtmdhamaihpdcdaaDoor
