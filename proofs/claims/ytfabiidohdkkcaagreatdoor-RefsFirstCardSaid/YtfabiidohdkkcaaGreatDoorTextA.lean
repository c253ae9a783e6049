/- Walks of layer 1, the first part: shape, between, good. -/
import Derived.Test.YtfabiidohdkkcaaGreatDoorShelf
import Derived.Test.YtfabiidohdkkcaaGreatDoorTextPure
import Derived.WalkKit
import Derived.BigCall
import Derived.BigQuiet
import Derived.Deep.QuietTactic
import Derived.Lib.Hide
import Derived.Deep.DeepCutAuto
namespace Go.Proofs.YtfabiidohdkkcaaGreatDoor
open Go Go.RowKit
namespace Tx
set_option maxRecDepth 100000
set_option linter.unusedVariables false

/-- What 'shape' tells of a first byte. -/
def shS (c : Nat) : Nat := if c < 128 then 1 else if c < 194 then 0 else if c ≤ 223 then 2 else if c ≤ 239 then 3 else if c ≤ 244 then 4 else 0
def shLo (c : Nat) : Nat := if c < 194 then 0 else if c ≤ 223 then 128 else if c = 224 then 160 else if c ≤ 239 then 128 else if c = 240 then 144 else if c ≤ 244 then 128 else 0
def shHi (c : Nat) : Nat := if c < 194 then 0 else if c = 237 then 159 else if c ≤ 243 then 191 else if c = 244 then 143 else 0

theorem tup3 {a b c : Int} {x y z : Nat} (h1 : (x : Int) = a) (h2 : (y : Int) = b) (h3 : (z : Int) = c) : (.tuple #[.int .i64 a, .int .u8 b, .int .u8 c] : Value) = .tuple #[.int .i64 x, .int .u8 y, .int .u8 z] := by rw [h1, h2, h3]

set_option maxHeartbeats 1000000 in
theorem shape_any (c : Nat) (hc : c < 256) (w : World) :
    Calls Tryz.prog 114 #[.int .u8 (c : Int)] w fun e w' => e = .returned (.tuple #[.int .i64 (shS c : Nat), .int .u8 (shLo c : Nat), .int .u8 (shHi c : Nat)]) ∧ w = w' := by
  have e1 : 0 ≤ (c : Int) := by omega
  have e2 : (c : Int) ≤ 255 := by omega
  go_enter Tryz.func114, Tryz.ntmps114
  go_wp2
  all_goals (
    go_ret3
    refine ⟨congrArg Ending.returned (tup3 ?_ ?_ ?_), rfl⟩
    all_goals try simp only [beq_iff_eq, beq_eq_false_iff_ne] at *
    · unfold shS; (repeat' split) <;> omega
    · unfold shLo; (repeat' split) <;> omega
    · unfold shHi; (repeat' split) <;> omega)

/-- A slice of bytes in memory. -/
def Row (w : World) (b off : Nat) (l : List UInt8) : Prop := ∀ i, i < l.length → w.cell? ⟨b, off + i, none⟩ = some (.int .u8 (at' l i : Nat))

theorem Row.one {w : World} {b off : Nat} {l : List UInt8} (h : Row w b off l) (i : Nat) (hi : i < l.length) : w.cell? ⟨b, off + i, none⟩ = some (.int .u8 (at' l i : Nat)) := h i hi
theorem at_drop (l : List UInt8) (n i : Nat) : at' (l.drop n) i = at' l (n + i) := by simp [at', List.getD]
theorem Row.drop {w : World} {b off : Nat} {l : List UInt8} (h : Row w b off l) (n : Nat) : Row w b (off + n) (l.drop n) := by
  intro i hi
  rw [List.length_drop] at hi
  rw [at_drop, Nat.add_assoc]
  exact h (n + i) (by omega)

theorem btw_of (l : List UInt8) (k : Nat) (lo hi : Int) (hlo : 0 ≤ lo) (hhi : 0 ≤ hi) (hlt : k < l.length) : btw l k lo.toNat hi.toNat = (decide (lo ≤ (at' l k : Int)) && decide ((at' l k : Int) ≤ hi)) := by
  rw [btw_at, decide_eq_true hlt, Bool.true_and]
  congr 1 <;> rw [decide_eq_decide] <;> omega
theorem ret_bool {a b : Bool} (h : a = b) : Ending.returned (.bool a) = .returned (.bool b) := by rw [h]

set_option maxHeartbeats 1000000 in
theorem between_any (l : List UInt8) (ao : Option Addr) (cap : Nat) (k : Int) (lo hi : Int) (w : World) (hrow : ∀ a, ao = some a → ∃ b off, a = ⟨b, off, none⟩ ∧ Row w b off l) (hnone : ao = none → l = [])
    (hl : l.length ≤ 140737488355328) (hk0 : 0 ≤ k) (hk : k ≤ 10) (hlo : 0 ≤ lo) (hlo2 : lo ≤ 255) (hhi : 0 ≤ hi) (hhi2 : hi ≤ 255) :
    Calls Tryz.prog 118 #[.slice ao l.length cap, .int .i64 k, .int .u8 lo, .int .u8 hi] w fun e w' => e = .returned (.bool (btw l k.toNat lo.toNat hi.toNat)) ∧ w = w' := by
  obtain ⟨k, rfl⟩ := Int.eq_ofNat_of_zero_le hk0
  rw [Int.toNat_natCast]
  by_cases hlt : k < l.length
  · obtain ⟨a, rfl⟩ : ∃ a, ao = some a := by
      cases ao with
      | none => have := hnone rfl; subst this; simp at hlt
      | some a => exact ⟨a, rfl⟩
    obtain ⟨b, off, rfl, hr⟩ := hrow a rfl
    have hc := hr.one k hlt
    have hb := at_lt l k
    clear hrow hnone hr
    have Hv := Lib.hid (btw_of l k lo hi hlo hhi hlt)
    generalize at' l k = c at *
    go_enter Tryz.func118, Tryz.ntmps118
    go_wp2
    all_goals (go_ret; rw [Hv.out]; refine ⟨ret_bool ?_, rfl⟩; simp; try omega)
  · have Hv := Lib.hid (show btw l k lo.toNat hi.toNat = false by rw [btw_at, decide_eq_false hlt, Bool.false_and])
    go_enter Tryz.func118, Tryz.ntmps118
    go_wp2
    go_ret
    rw [Hv.out]
    exact ⟨rfl, rfl⟩

theorem ret_int {k : IntKind} {a b : Int} (h : a = b) : Ending.returned (.int k a) = .returned (.int k b) := by rw [h]

set_option maxHeartbeats 2000000 in
theorem rgood_any (l : List UInt8) (ao : Option Addr) (cap : Nat) (w : World) (hrow : ∀ a, ao = some a → ∃ b off, a = ⟨b, off, none⟩ ∧ Row w b off l) (hnone : ao = none → l = [])
    (hl : l.length ≤ 140737488355328) :
    Calls Tryz.prog 97 #[.slice ao l.length cap] w fun e w' => e = .returned (.int .i64 (good l : Nat)) ∧ w = w' := by
  have BC := Lib.hid (fun (k lo hi : Int) hk0 hk hlo hlo2 hhi hhi2 => between_any l ao cap k lo hi w hrow hnone hl hk0 hk hlo hlo2 hhi hhi2)
  clear hrow hnone hl
  go_enter Tryz.func97, Tryz.ntmps97
  go_upto_region 3 with (go_at_call 118; refine (BC.out _ _ _ (by decide) (by decide) (by decide) (by decide) (by decide) (by decide)).mono ?_; rintro e w' ⟨rfl, rfl⟩)
  all_goals first | (go_ret; refine ⟨ret_int ?_, rfl⟩; unfold good; simp [*]; done) | skip
  go_cut [3, 6] (fun _ s wx => s = .bool (btw l 0 194 223 && btw l 1 128 191) ∧ w = wx)
  case first =>
    go_wp2_with (go_at_call 118; refine (BC.out _ _ _ (by decide) (by decide) (by decide) (by decide) (by decide) (by decide)).mono ?_; rintro e w' ⟨rfl, rfl⟩)
    all_goals (go_meet; exact ⟨by simp [*], rfl⟩)
  obtain ⟨rfl, rfl⟩ := hcut
  cases h0 : (btw l 0 194 223 && btw l 1 128 191)
  go_upto_region 5 with (go_at_call 118; refine (BC.out _ _ _ (by decide) (by decide) (by decide) (by decide) (by decide) (by decide)).mono ?_; rintro e w' ⟨rfl, rfl⟩)
  all_goals first | (go_ret; refine ⟨ret_int ?_, rfl⟩; unfold good; simp [*]; done) | skip
  go_cut [3, 6, 13] (fun _ _ s wx => s = .bool (!btw l 2 128 191) ∧ w = wx)
  case first =>
    go_wp2_with (go_at_call 118; refine (BC.out _ _ _ (by decide) (by decide) (by decide) (by decide) (by decide) (by decide)).mono ?_; rintro e w' ⟨rfl, rfl⟩)
    all_goals (go_meet; exact ⟨by simp [*], rfl⟩)
  obtain ⟨rfl, rfl⟩ := hcut
  cases h1 : (!btw l 2 128 191)
  go_upto_region 7 with (go_at_call 118; refine (BC.out _ _ _ (by decide) (by decide) (by decide) (by decide) (by decide) (by decide)).mono ?_; rintro e w' ⟨rfl, rfl⟩)
  all_goals first | (go_ret; refine ⟨ret_int ?_, rfl⟩; unfold good; simp [*]; done) | skip
  go_cut [3, 6, 13, 17] (fun _ _ _ s wx => s = .bool (btw l 0 224 224 && btw l 1 160 191) ∧ w = wx)
  case first =>
    go_wp2_with (go_at_call 118; refine (BC.out _ _ _ (by decide) (by decide) (by decide) (by decide) (by decide) (by decide)).mono ?_; rintro e w' ⟨rfl, rfl⟩)
    all_goals (go_meet; exact ⟨by simp [*], rfl⟩)
  obtain ⟨rfl, rfl⟩ := hcut
  cases h2 : (btw l 0 224 224 && btw l 1 160 191)
  go_upto_region 8 with (go_at_call 118; refine (BC.out _ _ _ (by decide) (by decide) (by decide) (by decide) (by decide) (by decide)).mono ?_; rintro e w' ⟨rfl, rfl⟩)
  all_goals first | (go_ret; refine ⟨ret_int ?_, rfl⟩; unfold good; simp [*]; done) | skip
  go_cut [3, 6, 13, 17] (fun _ _ _ s wx => s = .bool (btw l 0 237 237 && btw l 1 128 159) ∧ w = wx)
  case first =>
    go_wp2_with (go_at_call 118; refine (BC.out _ _ _ (by decide) (by decide) (by decide) (by decide) (by decide) (by decide)).mono ?_; rintro e w' ⟨rfl, rfl⟩)
    all_goals (go_meet; exact ⟨by simp [*], rfl⟩)
  obtain ⟨rfl, rfl⟩ := hcut
  cases h3 : (btw l 0 237 237 && btw l 1 128 159)
  go_upto_region 10 with (go_at_call 118; refine (BC.out _ _ _ (by decide) (by decide) (by decide) (by decide) (by decide) (by decide)).mono ?_; rintro e w' ⟨rfl, rfl⟩)
  all_goals first | (go_ret; refine ⟨ret_int ?_, rfl⟩; unfold good; simp [*]; done) | skip
  go_cut [3, 6, 13, 17, 30] (fun _ _ _ _ s wx => s = .bool ((btw l 0 225 236 || btw l 0 238 239) && btw l 1 128 191) ∧ w = wx)
  case first =>
    go_wp2_with (go_at_call 118; refine (BC.out _ _ _ (by decide) (by decide) (by decide) (by decide) (by decide) (by decide)).mono ?_; rintro e w' ⟨rfl, rfl⟩)
    all_goals (go_meet; exact ⟨by simp [*], rfl⟩)
  obtain ⟨rfl, rfl⟩ := hcut
  cases h4 : ((btw l 0 225 236 || btw l 0 238 239) && btw l 1 128 191)
  go_upto_region 12 with (go_at_call 118; refine (BC.out _ _ _ (by decide) (by decide) (by decide) (by decide) (by decide) (by decide)).mono ?_; rintro e w' ⟨rfl, rfl⟩)
  all_goals first | (go_ret; refine ⟨ret_int ?_, rfl⟩; unfold good; simp [*]; done) | skip
  go_cut [3, 6, 13, 17, 30, 41] (fun _ _ _ _ _ s wx => s = .bool (!btw l 3 128 191) ∧ w = wx)
  case first =>
    go_wp2_with (go_at_call 118; refine (BC.out _ _ _ (by decide) (by decide) (by decide) (by decide) (by decide) (by decide)).mono ?_; rintro e w' ⟨rfl, rfl⟩)
    all_goals (go_meet; exact ⟨by simp [*], rfl⟩)
  obtain ⟨rfl, rfl⟩ := hcut
  cases h5 : (!btw l 3 128 191)
  go_upto_region 14 with (go_at_call 118; refine (BC.out _ _ _ (by decide) (by decide) (by decide) (by decide) (by decide) (by decide)).mono ?_; rintro e w' ⟨rfl, rfl⟩)
  all_goals first | (go_ret; refine ⟨ret_int ?_, rfl⟩; unfold good; simp [*]; done) | skip
  go_cut [3, 6, 13, 17, 30, 41, 45] (fun _ _ _ _ _ _ s wx => s = .bool (btw l 0 240 240 && btw l 1 144 191) ∧ w = wx)
  case first =>
    go_wp2_with (go_at_call 118; refine (BC.out _ _ _ (by decide) (by decide) (by decide) (by decide) (by decide) (by decide)).mono ?_; rintro e w' ⟨rfl, rfl⟩)
    all_goals (go_meet; exact ⟨by simp [*], rfl⟩)
  obtain ⟨rfl, rfl⟩ := hcut
  cases h6 : (btw l 0 240 240 && btw l 1 144 191)
  go_upto_region 15 with (go_at_call 118; refine (BC.out _ _ _ (by decide) (by decide) (by decide) (by decide) (by decide) (by decide)).mono ?_; rintro e w' ⟨rfl, rfl⟩)
  all_goals first | (go_ret; refine ⟨ret_int ?_, rfl⟩; unfold good; simp [*]; done) | skip
  go_cut [3, 6, 13, 17, 30, 41, 45] (fun _ _ _ _ _ _ s wx => s = .bool (btw l 0 241 243 && btw l 1 128 191) ∧ w = wx)
  case first =>
    go_wp2_with (go_at_call 118; refine (BC.out _ _ _ (by decide) (by decide) (by decide) (by decide) (by decide) (by decide)).mono ?_; rintro e w' ⟨rfl, rfl⟩)
    all_goals (go_meet; exact ⟨by simp [*], rfl⟩)
  obtain ⟨rfl, rfl⟩ := hcut
  cases h7 : (btw l 0 241 243 && btw l 1 128 191)
  go_upto_region 16 with (go_at_call 118; refine (BC.out _ _ _ (by decide) (by decide) (by decide) (by decide) (by decide) (by decide)).mono ?_; rintro e w' ⟨rfl, rfl⟩)
  all_goals first | (go_ret; refine ⟨ret_int ?_, rfl⟩; unfold good; simp [*]; done) | skip
  go_cut [3, 6, 13, 17, 30, 41, 45] (fun _ _ _ _ _ _ s wx => s = .bool (btw l 0 244 244 && btw l 1 128 143) ∧ w = wx)
  case first =>
    go_wp2_with (go_at_call 118; refine (BC.out _ _ _ (by decide) (by decide) (by decide) (by decide) (by decide) (by decide)).mono ?_; rintro e w' ⟨rfl, rfl⟩)
    all_goals (go_meet; exact ⟨by simp [*], rfl⟩)
  obtain ⟨rfl, rfl⟩ := hcut
  cases h8 : (btw l 0 244 244 && btw l 1 128 143)
  all_goals (go_wp2_with fail; go_ret; refine ⟨ret_int ?_, rfl⟩; unfold good; simp [*])
end Tx
end Go.Proofs.YtfabiidohdkkcaaGreatDoor
