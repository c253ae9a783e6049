/- Walks of layer 3, the second part: the reference's kinds. -/
import Derived.Test.YtfabiidohdkkcaaGreatDoorClassAr
namespace Go.Proofs.YtfabiidohdkkcaaGreatDoor
open Go Go.RowKit
namespace Ks
open Tx
set_option maxRecDepth 100000
set_option linter.unusedVariables false
set_option linter.unusedSimpArgs false

def flat : List (Int × Int) → List Int
  | [] => []
  | (a, b) :: t => a :: b :: flat t
theorem flat_at : ∀ (ps : List (Int × Int)) (j : Nat) (x : Int × Int), ps[j]? = some x → (flat ps)[2 * j]? = some x.1 ∧ (flat ps)[2 * j + 1]? = some x.2
  | [], j, x, h => by simp at h
  | (a, b) :: t, 0, x, h => by simp at h; subst h; exact ⟨rfl, rfl⟩
  | (a, b) :: t, j + 1, x, h => by
    have := flat_at t j x (by simpa using h)
    rw [show 2 * (j + 1) = 2 * j + 1 + 1 from by omega]
    simpa [flat] using this
def ints (zs : List Int) : List Value := zs.map (Value.int .i32)
/-- Pairs in memory. -/
def Pairs (w : World) (g : Nat) (ps : List (Int × Int)) : Prop := ∀ (j : Nat) (x : Int × Int), ps[j]? = some x → w.cell? ⟨g, 2 * j, none⟩ = some (.int .i32 x.1) ∧ w.cell? ⟨g, 2 * j + 1, none⟩ = some (.int .i32 x.2)
theorem pairs_new (w : World) (ps : List (Int × Int)) (t : TypeId) : Pairs (w.alloc (.cells (ints (flat ps)).toArray t)) w.heap.size ps := by
  intro j x hx
  obtain ⟨h1, h2⟩ := flat_at ps j x hx
  rw [World.cell?_alloc_new, World.cell?_alloc_new]
  simp [ints, h1, h2]

set_option maxHeartbeats 1000000 in
theorem among_any (r : Int) (ps : List (Int × Int)) (g cap : Nat) (w : World) (hP : Pairs w g ps) (hl : ps.length ≤ 1000) :
    Calls Tryz.prog 98 #[.int .i32 r, .slice (some ⟨g, 0, none⟩) (2 * ps.length) cap] w fun e w' => e = .returned (.bool (amg ps r)) ∧ w = w' := by
  have HP := Lib.hid hP
  clear hP
  obtain ⟨n, hn⟩ : ∃ n, ps.length = n := ⟨_, rfl⟩
  have HN := Lib.hid hn
  rw [hn] at hl ⊢
  clear hn
  go_enter Tryz.func98, Tryz.ntmps98
  go_wp2
  go_loop [5] (fun i => ∃ j : Nat, j ≤ n ∧ i = .int .i64 ((2 * j : Nat) : Int) ∧ Hid (amg (ps.drop j) r = amg ps r)) (fun i => 2 * n - (intOf i).toNat)
  case atStart => exact ⟨0, by omega, rfl, Lib.hid rfl⟩
  case round =>
    obtain ⟨j, hj, rfl, HK⟩ := hrel
    by_cases hlt : j < n
    · obtain ⟨x, hx⟩ : ∃ x, ps[j]? = some x := ⟨_, List.getElem?_eq_getElem (by rw [HN.out]; exact hlt)⟩
      obtain ⟨c0, c1⟩ := HP.out j x hx
      have HD : Hid (ps.drop j = x :: ps.drop (j + 1)) := Lib.hid (by
        have := List.drop_eq_getElem_cons (show j < ps.length by rw [HN.out]; exact hlt)
        rw [this]; rw [List.getElem?_eq_getElem (by rw [HN.out]; exact hlt)] at hx; rw [Option.some.inj hx])
      obtain ⟨a, b⟩ := x
      simp only at c0 c1
      have HE : Hid (amg ps r = (decide (a ≤ r) && decide (r ≤ b) || amg (ps.drop (j + 1)) r)) := Lib.hid (by rw [← HK.out, HD.out, amg_cons])
      have HJ : Hid (2 * (j + 1) = 2 * j + 2) := Lib.hid (by omega)
      obtain ⟨k, hk⟩ : ∃ k, 2 * j = k := ⟨_, rfl⟩
      have hkn : (k : Int) + 1 < 2 * (n : Int) := by omega
      have hkn2 : k + 1 < 2 * n := by omega
      have HKJ := Lib.hid hk
      rw [hk] at c0 c1 HJ ⊢
      clear hx hk
      by_cases ha : a ≤ r
      · by_cases hb : r ≤ b
        · have HV : Hid (amg ps r = true) := Lib.hid (by rw [HE.out, decide_eq_true ha, decide_eq_true hb]; rfl)
          go_wp2
          go_ret
          exact ⟨ret_bool' HV.out.symm, rfl⟩
        · have HV : Hid (amg (ps.drop (j + 1)) r = amg ps r) := Lib.hid (by rw [HE.out, decide_eq_false hb, Bool.and_false, Bool.false_or])
          go_wp2
          go_round
          case rel => exact ⟨j + 1, by omega, by rw [HJ.out]; go_num, HV⟩
          case measure => simp [intOf]; omega
      · have HV : Hid (amg (ps.drop (j + 1)) r = amg ps r) := Lib.hid (by rw [HE.out, decide_eq_false ha, Bool.false_and, Bool.false_or])
        go_wp2
        go_round
        case rel => exact ⟨j + 1, by omega, by rw [HJ.out]; go_num, HV⟩
        case measure => simp [intOf]; omega
    · obtain rfl : j = n := by omega
      have hkn : ¬ (((2 * j : Nat) : Int) + 1 < ((2 * j : Nat) : Int)) := by omega
      have HV : Hid (amg ps r = false) := Lib.hid (by rw [← HK.out, List.drop_eq_nil_of_le (by rw [HN.out]; omega)]; rfl)
      go_wp2
      go_ret
      exact ⟨ret_bool' HV.out.symm, rfl⟩

end Ks
end Go.Proofs.YtfabiidohdkkcaaGreatDoor
