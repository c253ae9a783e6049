/- Walks of layer 5, the first part: kinds, signs. -/
import Derived.Test.YtfabiidohdkkcaaGreatDoorEntA
import Derived.Test.YtfabiidohdkkcaaGreatDoorEscPure
namespace Go.Proofs.YtfabiidohdkkcaaGreatDoor
open Go Go.RowKit
namespace Es
open En
set_option maxRecDepth 100000
set_option linter.unusedVariables false
set_option linter.unusedSimpArgs false

theorem u8_ne {c : UInt8} {n : Nat} (hn : n < 256) (h : c ≠ UInt8.ofNat n) : ((c.toNat : Int) == (n : Int)) = false := by
  simp only [beq_eq_false_iff_ne]
  intro e
  apply h
  rw [← UInt8.ofNat_toNat (x := c)]
  congr 1
  omega
/-- A table in memory, three cells a row. -/
def TabAt (w : World) (g : Nat) (q : IntKind) (T : Tab) : Prop := ∀ (i : Nat) (x : Int × Int × Int), T[i]? = some x →
  w.cell? ⟨g, i * 3, none⟩ = some (.int .i32 x.1) ∧ w.cell? ⟨g, i * 3 + 1, none⟩ = some (.int .i32 x.2.1) ∧ w.cell? ⟨g, i * 3 + 2, none⟩ = some (.int q x.2.2)
theorem cell_lt {w : World} {b o : Nat} {x : Value} (h : w.cell? ⟨b, o, none⟩ = some x) : b < w.heap.size := by
  rcases Nat.lt_or_ge b w.heap.size with h' | h'
  · exact h'
  · simp [World.cell?, Array.getElem?_eq_none h'] at h
theorem TabAt.below {w w' : World} {g : Nat} {q : IntKind} {T : Tab} (h : TabAt w g q T) (hB : Below w.heap.size w w') : TabAt w' g q T := by
  intro i x hx
  obtain ⟨h1, h2, h3⟩ := h i x hx
  have hl := cell_lt h1
  exact ⟨(hB.cell (p := ⟨g, i * 3, none⟩) hl).trans h1, (hB.cell (p := ⟨g, i * 3 + 1, none⟩) hl).trans h2, (hB.cell (p := ⟨g, i * 3 + 2, none⟩) hl).trans h3⟩
/-- The program's table of kinds is there. -/
def LaidK (w : World) : Prop := TabAt w 4 .i64 kinds
theorem LaidK.below {w w' : World} (h : LaidK w) (hB : Below w.heap.size w w') : LaidK w' := TabAt.below h hB

theorem tab_at {T : Tab} {k : Nat} (h : k < T.length) : ∃ a b m, T[k]? = some (a, b, m) ∧ T.drop k = (a, b, m) :: T.drop (k + 1) := by
  refine ⟨T[k].1, T[k].2.1, T[k].2.2, List.getElem?_eq_getElem h, ?_⟩
  exact List.drop_eq_getElem_cons h

set_option maxHeartbeats 1000000 in
theorem kind_any (r : Int) (w : World) (hL : LaidK w) :
    Calls Tryz.prog 122 #[.int .i32 r] w fun e w' => e = .returned (.int .i64 (kd r)) ∧ w = w' := by
  have HL := Lib.hid hL
  clear hL
  go_enter Tryz.func122, Tryz.ntmps122
  go_wp2
  go_loop [4] (fun i => ∃ k : Nat, k ≤ 28 ∧ i = .int .i64 k ∧ Hid (kdF (kinds.drop k) r = kd r)) (fun i => 28 - (intOf i).toNat)
  case atStart => exact ⟨0, by omega, rfl, Lib.hid rfl⟩
  case round =>
    obtain ⟨k, hk, rfl, HK⟩ := hrel
    by_cases hlt : k < 28
    · obtain ⟨a, b, m, hx, hd⟩ := tab_at (T := kinds) (k := k) hlt
      obtain ⟨c0, c1, c2⟩ := HL.out k _ hx
      have HD := Lib.hid hd
      clear hx hd
      have hlt' : (k : Int) < 28 := by omega
      have HE : Hid (kdF ((a, b, m) :: kinds.drop (k + 1)) r = if r ≤ b then (if r < a then 0 else m) else kdF (kinds.drop (k + 1)) r) := Lib.hid rfl
      rw [← HD.out] at HE
      by_cases hb : r ≤ b
      · by_cases ha : r < a
        · have HV : Hid (kd r = 0) := Lib.hid (by rw [← HK.out, HE.out, if_pos hb, if_pos ha])
          go_wp2
          go_ret
          exact ⟨ret_int' HV.out.symm, rfl⟩
        · have HV : Hid (kd r = m) := Lib.hid (by rw [← HK.out, HE.out, if_pos hb, if_neg ha])
          go_wp2
          go_ret
          exact ⟨ret_int' HV.out.symm, rfl⟩
      · have HV : Hid (kdF (kinds.drop (k + 1)) r = kd r) := Lib.hid (by rw [← HK.out, HE.out, if_neg hb])
        go_wp2
        go_round
        case rel => exact ⟨k + 1, by omega, by go_num, HV⟩
        case measure => simp [intOf]; omega
    · obtain rfl : k = 28 := by omega
      go_wp2
      go_ret
      exact ⟨ret_int' (by rw [← HK.out]; rfl), rfl⟩

theorem beq_dec (a b : Int) : (a == b) = decide (a = b) := by rw [Bool.eq_iff_iff, beq_iff_eq, decide_eq_true_iff]
theorem punct_any (r : Int) (w : World) (hL : LaidK w) :
    Calls Tryz.prog 109 #[.int .i32 r] w fun e w' => e = .returned (.bool (decide (kd r = 2))) ∧ w = w' := by
  have HK := Lib.hid (kind_any r w hL)
  have HW : Hid (decide (kd r = 2) = (kd r == 2)) := Lib.hid (beq_dec _ _).symm
  clear hL
  go_enter Tryz.func109, Tryz.ntmps109
  go_wp2_with (go_at_call 122; refine HK.out.mono ?_; rintro e w' ⟨rfl, rfl⟩)
  go_ret
  exact ⟨ret_bool' HW.out.symm, rfl⟩
theorem sign_any (b : Int) (w : World) (h0 : 0 ≤ b) (h1 : b ≤ 255) (hL : LaidK w) :
    Calls Tryz.prog 88 #[.int .u8 b] w fun e w' => e = .returned (.bool (sgI b)) ∧ w = w' := by
  by_cases hb : b < 128
  · have HP := Lib.hid (punct_any b w hL)
    rw [kd_sg h0 hb] at HP
    clear hL
    generalize sgI b = x at *
    go_enter Tryz.func88, Tryz.ntmps88
    go_wp2_with (go_at_call 109; refine HP.out.mono ?_; rintro e w' ⟨rfl, rfl⟩)
    go_ret
    exact ⟨rfl, rfl⟩
  · have HV := Lib.hid (sg_high (b := b) (by omega))
    clear hL
    go_enter Tryz.func88, Tryz.ntmps88
    go_wp2
    go_ret
    exact ⟨ret_bool' HV.out.symm, rfl⟩
end Es
end Go.Proofs.YtfabiidohdkkcaaGreatDoor
