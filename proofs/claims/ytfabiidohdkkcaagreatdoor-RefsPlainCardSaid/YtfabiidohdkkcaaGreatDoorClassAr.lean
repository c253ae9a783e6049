/- Walks of layer 3, the first part: kinds of characters, small letters. -/
import Derived.Test.YtfabiidohdkkcaaGreatDoorTextRc
import Derived.Test.YtfabiidohdkkcaaGreatDoorClassPure
namespace Go.Proofs.YtfabiidohdkkcaaGreatDoor
open Go Go.RowKit
namespace Ks
open Tx
set_option maxRecDepth 100000
set_option linter.unusedVariables false
set_option linter.unusedSimpArgs false

/-- A table in memory, three cells a row. -/
def TabAt (w : World) (g : Nat) (q : IntKind) (T : Tab) : Prop := ∀ (i : Nat) (x : Int × Int × Int), T[i]? = some x →
  w.cell? ⟨g, i * 3, none⟩ = some (.int .i32 x.1) ∧ w.cell? ⟨g, i * 3 + 1, none⟩ = some (.int .i32 x.2.1) ∧ w.cell? ⟨g, i * 3 + 2, none⟩ = some (.int q x.2.2)
/-- The program's two tables are there. -/
structure Laid (w : World) : Prop where
  kinds : TabAt w 4 .i64 kinds
  caps : TabAt w 1 .i32 caps
theorem TabAt.below {w w' : World} {g : Nat} {q : IntKind} {T : Tab} (h : TabAt w g q T) (hB : Below w.heap.size w w') : TabAt w' g q T := by
  intro i x hx
  obtain ⟨h1, h2, h3⟩ := h i x hx
  have hl := cell_lt h1
  exact ⟨(hB.cell (p := ⟨g, i * 3, none⟩) hl).trans h1, (hB.cell (p := ⟨g, i * 3 + 1, none⟩) hl).trans h2, (hB.cell (p := ⟨g, i * 3 + 2, none⟩) hl).trans h3⟩
theorem Laid.below {w w' : World} (h : Laid w) (hB : Below w.heap.size w w') : Laid w' := ⟨h.kinds.below hB, h.caps.below hB⟩

theorem tab_at {T : Tab} {k : Nat} (h : k < T.length) : ∃ a b m, T[k]? = some (a, b, m) ∧ T.drop k = (a, b, m) :: T.drop (k + 1) ∧ (a, b, m) ∈ T := by
  refine ⟨T[k].1, T[k].2.1, T[k].2.2, List.getElem?_eq_getElem h, ?_, List.getElem_mem h⟩
  exact List.drop_eq_getElem_cons h

theorem ret_int' {k : IntKind} {a b : Int} (h : a = b) : Ending.returned (.int k a) = .returned (.int k b) := by rw [h]

set_option maxHeartbeats 1000000 in
theorem kind_any (r : Int) (w : World) (hL : Laid w) :
    Calls Tryz.prog 122 #[.int .i32 r] w fun e w' => e = .returned (.int .i64 (kd r)) ∧ w = w' := by
  have HL := Lib.hid hL.kinds
  clear hL
  go_enter Tryz.func122, Tryz.ntmps122
  go_wp2
  go_loop [4] (fun i => ∃ k : Nat, k ≤ 28 ∧ i = .int .i64 k ∧ Hid (kdF (kinds.drop k) r = kd r)) (fun i => 28 - (intOf i).toNat)
  case atStart => exact ⟨0, by omega, rfl, Lib.hid rfl⟩
  case round =>
    obtain ⟨k, hk, rfl, HK⟩ := hrel
    by_cases hlt : k < 28
    · obtain ⟨a, b, m, hx, hd, _⟩ := tab_at (T := kinds) (k := k) hlt
      obtain ⟨c0, c1, c2⟩ := HL.out k _ hx
      have HD := Lib.hid hd
      clear hx hd
      have hlt' : (k : Int) < 28 := by omega
      have HE : Hid (kdF ((a, b, m) :: kinds.drop (k + 1)) r = if r ≤ b then (if r < a then 0 else m) else kdF (kinds.drop (k + 1)) r) := Lib.hid rfl
      rw [← HD.out] at HE
      by_cases hb : r ≤ b
      · by_cases ha : r < a
        · have HV : Hid (kd r = 0) := Lib.hid (by rw [← HK.out, HE.out, if_pos hb, if_pos ha])
          go_wp2
          go_ret
          exact ⟨ret_int' HV.out.symm, rfl⟩
        · have HV : Hid (kd r = m) := Lib.hid (by rw [← HK.out, HE.out, if_pos hb, if_neg ha])
          go_wp2
          go_ret
          exact ⟨ret_int' HV.out.symm, rfl⟩
      · have HV : Hid (kdF (kinds.drop (k + 1)) r = kd r) := Lib.hid (by rw [← HK.out, HE.out, if_neg hb])
        go_wp2
        go_round
        case rel => exact ⟨k + 1, by omega, by go_num, HV⟩
        case measure => simp [intOf]; omega
    · obtain rfl : k = 28 := by omega
      go_wp2
      go_ret
      exact ⟨ret_int' (by rw [← HK.out]; rfl), rfl⟩

theorem caps_range : ∀ x ∈ caps, 0 ≤ x.1 ∧ x.2.1 ≤ 2000 ∧ 0 ≤ x.2.2 ∧ x.2.2 ≤ 100 := by decide

set_option maxHeartbeats 1000000 in
theorem small_any (r : Int) (w : World) (hL : Laid w) :
    Calls Tryz.prog 72 #[.int .i32 r] w fun e w' => e = .returned (.int .i32 (smI r)) ∧ w = w' := by
  have HL := Lib.hid hL.caps
  clear hL
  go_enter Tryz.func72, Tryz.ntmps72
  go_wp2
  go_loop [4] (fun i => ∃ k : Nat, k ≤ 8 ∧ i = .int .i64 k ∧ Hid (smF (caps.drop k) r = smI r)) (fun i => 8 - (intOf i).toNat)
  case atStart => exact ⟨0, by omega, rfl, Lib.hid rfl⟩
  case round =>
    obtain ⟨k, hk, rfl, HK⟩ := hrel
    by_cases hlt : k < 8
    · obtain ⟨a, b, m, hx, hd, hm⟩ := tab_at (T := caps) (k := k) hlt
      obtain ⟨c0, c1, c2⟩ := HL.out k _ hx
      obtain ⟨r1, r2, r3, r4⟩ := caps_range _ hm
      simp only at r1 r2 r3 r4
      have HD := Lib.hid hd
      clear hx hd hm
      have hlt' : (k : Int) < 8 := by omega
      have HE : Hid (smF ((a, b, m) :: caps.drop (k + 1)) r = if a ≤ r ∧ r ≤ b then r + m else smF (caps.drop (k + 1)) r) := Lib.hid rfl
      rw [← HD.out] at HE
      by_cases ha : a ≤ r
      · by_cases hb : r ≤ b
        · have HV : Hid (smI r = r + m) := Lib.hid (by rw [← HK.out, HE.out, if_pos ⟨ha, hb⟩])
          go_wp2
          go_ret
          exact ⟨ret_int' HV.out.symm, rfl⟩
        · have HV : Hid (smF (caps.drop (k + 1)) r = smI r) := Lib.hid (by rw [← HK.out, HE.out, if_neg (fun h => hb h.2)])
          go_wp2
          go_round
          case rel => exact ⟨k + 1, by omega, by go_num, HV⟩
          case measure => simp [intOf]; omega
      · have HV : Hid (smF (caps.drop (k + 1)) r = smI r) := Lib.hid (by rw [← HK.out, HE.out, if_neg (fun h => ha h.1)])
        go_wp2
        go_round
        case rel => exact ⟨k + 1, by omega, by go_num, HV⟩
        case measure => simp [intOf]; omega
    · obtain rfl : k = 8 := by omega
      go_wp2
      go_ret
      exact ⟨ret_int' (by rw [← HK.out]; rfl), rfl⟩

theorem ret_bool' {a b : Bool} (h : a = b) : Ending.returned (.bool a) = .returned (.bool b) := by rw [h]
theorem beq_dec (a b : Int) : (a == b) = decide (a = b) := by rw [Bool.eq_iff_iff, beq_iff_eq, decide_eq_true_iff]

theorem punct_any (r : Int) (w : World) (hL : Laid w) :
    Calls Tryz.prog 109 #[.int .i32 r] w fun e w' => e = .returned (.bool (amg signs r)) ∧ w = w' := by
  have HK := Lib.hid (kind_any r w hL)
  have HW := Lib.hid (sign_amg r)
  clear hL
  go_enter Tryz.func109, Tryz.ntmps109
  go_wp2_with (go_at_call 122; refine HK.out.mono ?_; rintro e w' ⟨rfl, rfl⟩)
  go_ret
  exact ⟨ret_bool' (by rw [← HW.out, beq_dec]), rfl⟩

/-- A letter, a digit: over numbers. -/
def lett (b : Int) : Bool := (decide (97 ≤ b) && decide (b ≤ 122)) || (decide (65 ≤ b) && decide (b ≤ 90))
def digi (b : Int) : Bool := decide (48 ≤ b) && decide (b ≤ 57)
def gapI (b : Int) : Bool := (decide (9 ≤ b) && decide (b ≤ 13)) || decide (b = 32)
theorem gapI_nat (n : Nat) : gapI (n : Int) = gapN n := by
  rw [Bool.eq_iff_iff, gapN_iff]; simp [gapI]; omega

theorem letter_any (b : Int) (w : World) :
    Calls Tryz.prog 126 #[.int .u8 b] w fun e w' => e = .returned (.bool (lett b)) ∧ w = w' := by
  go_enter Tryz.func126, Tryz.ntmps126
  go_wp2
  all_goals (go_ret; refine ⟨ret_bool' ?_, rfl⟩; unfold lett; simp [*] <;> omega)
theorem digit_any (b : Int) (w : World) :
    Calls Tryz.prog 127 #[.int .u8 b] w fun e w' => e = .returned (.bool (digi b)) ∧ w = w' := by
  go_enter Tryz.func127, Tryz.ntmps127
  go_wp2
  all_goals (go_ret; refine ⟨ret_bool' ?_, rfl⟩; unfold digi; simp [*] <;> omega)
theorem gap_any (b : Int) (w : World) :
    Calls Tryz.prog 46 #[.int .i32 b] w fun e w' => e = .returned (.bool (gapI b)) ∧ w = w' := by
  have HG := Lib.hid (show ∀ x, x = gapI b → x = gapI b from fun _ h => h)
  by_cases h1 : 9 ≤ b
  · by_cases h2 : b ≤ 13
    · have hV : gapI b = true := by unfold gapI; rw [decide_eq_true h1, decide_eq_true h2]; rfl
      rw [hV]
      go_enter Tryz.func46, Tryz.ntmps46
      go_wp2
      go_ret
      exact ⟨rfl, rfl⟩
    · have hV : gapI b = (b == 32) := by unfold gapI; rw [decide_eq_false h2, Bool.and_false, Bool.false_or, beq_dec]
      rw [hV]
      clear hV HG
      go_enter Tryz.func46, Tryz.ntmps46
      go_wp2
      go_ret
      exact ⟨rfl, rfl⟩
  · have hV : gapI b = (b == 32) := by unfold gapI; rw [decide_eq_false h1, Bool.false_and, Bool.false_or, beq_dec]
    rw [hV]
    clear hV HG
    go_enter Tryz.func46, Tryz.ntmps46
    go_wp2
    go_ret
    exact ⟨rfl, rfl⟩
end Ks
end Go.Proofs.YtfabiidohdkkcaaGreatDoor
