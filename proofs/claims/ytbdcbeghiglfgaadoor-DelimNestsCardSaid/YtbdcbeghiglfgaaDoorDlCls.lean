/- Walks of layer 13: white, signs: the program's, and the reference's (from layer 3). -/
import Derived.Test.YtbdcbeghiglfgaaDoorDlMem
import Derived.Test.YtbdcbeghiglfgaaDoorDlKind
namespace Go.Proofs.YtbdcbeghiglfgaaDoor
open Go Go.RowKit
namespace Dl
set_option maxRecDepth 100000
set_option linter.unusedVariables false
set_option linter.unusedSimpArgs false

theorem cell_ltD {w : World} {b o : Nat} {x : Value} (h : w.cell? ⟨b, o, none⟩ = some x) : b < w.heap.size := by
  rcases Nat.lt_or_ge b w.heap.size with h' | h'
  · exact h'
  · simp [World.cell?, Array.getElem?_eq_none h'] at h
/-- A table in memory, three cells a row. -/
def TabAt (w : World) (g : Nat) (q : IntKind) (T : Tab) : Prop := ∀ (i : Nat) (x : Int × Int × Int), T[i]? = some x →
  w.cell? ⟨g, i * 3, none⟩ = some (.int .i32 x.1) ∧ w.cell? ⟨g, i * 3 + 1, none⟩ = some (.int .i32 x.2.1) ∧ w.cell? ⟨g, i * 3 + 2, none⟩ = some (.int q x.2.2)
/-- The program's table of kinds is there. -/
structure Laid (w : World) : Prop where
  kinds : TabAt w 0 .i64 kinds
theorem TabAt.below {w w' : World} {g : Nat} {q : IntKind} {T : Tab} (h : TabAt w g q T) (hB : Below w.heap.size w w') : TabAt w' g q T := by
  intro i x hx
  obtain ⟨h1, h2, h3⟩ := h i x hx
  have hl := cell_ltD h1
  exact ⟨(hB.cell (p := ⟨g, i * 3, none⟩) hl).trans h1, (hB.cell (p := ⟨g, i * 3 + 1, none⟩) hl).trans h2, (hB.cell (p := ⟨g, i * 3 + 2, none⟩) hl).trans h3⟩
theorem Laid.below {w w' : World} (h : Laid w) (hB : Below w.heap.size w w') : Laid w' := ⟨h.kinds.below hB⟩
theorem tab_at {T : Tab} {k : Nat} (h : k < T.length) : ∃ a b m, T[k]? = some (a, b, m) ∧ T.drop k = (a, b, m) :: T.drop (k + 1) ∧ (a, b, m) ∈ T := by
  refine ⟨T[k].1, T[k].2.1, T[k].2.2, List.getElem?_eq_getElem h, ?_, List.getElem_mem h⟩
  exact List.drop_eq_getElem_cons h

theorem ret_int' {k : IntKind} {a b : Int} (h : a = b) : Ending.returned (.int k a) = .returned (.int k b) := by rw [h]

set_option maxHeartbeats 1000000 in
theorem kind_any (r : Int) (w : World) (hL : Laid w) :
    Calls Tryd.prog 27 #[.int .i32 r] w fun e w' => e = .returned (.int .i64 (kd r)) ∧ w = w' := by
  have HL := Lib.hid hL.kinds
  clear hL
  go_enter Tryd.func27, Tryd.ntmps27
  go_wp2
  go_loop [4] (fun i => ∃ k : Nat, k ≤ 28 ∧ i = .int .i64 k ∧ Hid (kdF (kinds.drop k) r = kd r)) (fun i => 28 - (intOf i).toNat)
  case atStart => exact ⟨0, by omega, rfl, Lib.hid rfl⟩
  case round =>
    obtain ⟨k, hk, rfl, HK⟩ := hrel
    by_cases hlt : k < 28
    · obtain ⟨a, b, m, hx, hd, _⟩ := tab_at (T := kinds) (k := k) hlt
      obtain ⟨c0, c1, c2⟩ := HL.out k _ hx
      have HD := Lib.hid hd
      clear hx hd
      have hlt' : (k : Int) < 28 := by omega
      have HE : Hid (kdF ((a, b, m) :: kinds.drop (k + 1)) r = if r ≤ b then (if r < a then 0 else m) else kdF (kinds.drop (k + 1)) r) := Lib.hid rfl
      rw [← HD.out] at HE
      by_cases hb : r ≤ b
      · by_cases ha : r < a
        · have HV : Hid (kd r = 0) := Lib.hid (by rw [← HK.out, HE.out, if_pos hb, if_pos ha])
          go_wp2
          go_ret
          exact ⟨ret_int' HV.out.symm, rfl⟩
        · have HV : Hid (kd r = m) := Lib.hid (by rw [← HK.out, HE.out, if_pos hb, if_neg ha])
          go_wp2
          go_ret
          exact ⟨ret_int' HV.out.symm, rfl⟩
      · have HV : Hid (kdF (kinds.drop (k + 1)) r = kd r) := Lib.hid (by rw [← HK.out, HE.out, if_neg hb])
        go_wp2
        go_round
        case rel => exact ⟨k + 1, by omega, by go_num, HV⟩
        case measure => simp [intOf]; omega
    · obtain rfl : k = 28 := by omega
      go_wp2
      go_ret
      exact ⟨ret_int' (by rw [← HK.out]; rfl), rfl⟩

theorem ret_bool' {a b : Bool} (h : a = b) : Ending.returned (.bool a) = .returned (.bool b) := by rw [h]
theorem beq_dec (a b : Int) : (a == b) = decide (a = b) := by rw [Bool.eq_iff_iff, beq_iff_eq, decide_eq_true_iff]

theorem space_any (r : Int) (w : World) (hL : Laid w) :
    Calls Tryd.prog 33 #[.int .i32 r] w fun e w' => e = .returned (.bool (amg whites r)) ∧ w = w' := by
  have HK := Lib.hid (kind_any r w hL)
  have HW := Lib.hid (white_amg r)
  clear hL
  go_enter Tryd.func33, Tryd.ntmps33
  go_wp2_with (go_at_call 27; refine HK.out.mono ?_; rintro e w' ⟨rfl, rfl⟩)
  go_ret
  exact ⟨ret_bool' (by rw [← HW.out, beq_dec]), rfl⟩
theorem punct_any (r : Int) (w : World) (hL : Laid w) :
    Calls Tryd.prog 19 #[.int .i32 r] w fun e w' => e = .returned (.bool (amg signs r)) ∧ w = w' := by
  have HK := Lib.hid (kind_any r w hL)
  have HW := Lib.hid (sign_amg r)
  clear hL
  go_enter Tryd.func19, Tryd.ntmps19
  go_wp2_with (go_at_call 27; refine HK.out.mono ?_; rintro e w' ⟨rfl, rfl⟩)
  go_ret
  exact ⟨ret_bool' (by rw [← HW.out, beq_dec]), rfl⟩

def flat : List (Int × Int) → List Int
  | [] => []
  | (a, b) :: t => a :: b :: flat t
theorem flat_at : ∀ (ps : List (Int × Int)) (j : Nat) (x : Int × Int), ps[j]? = some x → (flat ps)[2 * j]? = some x.1 ∧ (flat ps)[2 * j + 1]? = some x.2
  | [], j, x, h => by simp at h
  | (a, b) :: t, 0, x, h => by simp at h; subst h; exact ⟨rfl, rfl⟩
  | (a, b) :: t, j + 1, x, h => by
    have := flat_at t j x (by simpa using h)
    rw [show 2 * (j + 1) = 2 * j + 1 + 1 from by omega]
    simpa [flat] using this
def ints (zs : List Int) : List Value := zs.map (Value.int .i32)
/-- Pairs in memory. -/
def Pairs (w : World) (g : Nat) (ps : List (Int × Int)) : Prop := ∀ (j : Nat) (x : Int × Int), ps[j]? = some x → w.cell? ⟨g, 2 * j, none⟩ = some (.int .i32 x.1) ∧ w.cell? ⟨g, 2 * j + 1, none⟩ = some (.int .i32 x.2)
theorem pairs_new (w : World) (ps : List (Int × Int)) (t : TypeId) : Pairs (w.alloc (.cells (ints (flat ps)).toArray t)) w.heap.size ps := by
  intro j x hx
  obtain ⟨h1, h2⟩ := flat_at ps j x hx
  rw [World.cell?_alloc_new, World.cell?_alloc_new]
  simp [ints, h1, h2]

set_option maxHeartbeats 1000000 in
theorem among_any (r : Int) (ps : List (Int × Int)) (g cap : Nat) (w : World) (hP : Pairs w g ps) (hl : ps.length ≤ 1000) :
    Calls Tryd.prog 28 #[.int .i32 r, .slice (some ⟨g, 0, none⟩) (2 * ps.length) cap] w fun e w' => e = .returned (.bool (amg ps r)) ∧ w = w' := by
  have HP := Lib.hid hP
  clear hP
  obtain ⟨n, hn⟩ : ∃ n, ps.length = n := ⟨_, rfl⟩
  have HN := Lib.hid hn
  rw [hn] at hl ⊢
  clear hn
  go_enter Tryd.func28, Tryd.ntmps28
  go_wp2
  go_loop [5] (fun i => ∃ j : Nat, j ≤ n ∧ i = .int .i64 ((2 * j : Nat) : Int) ∧ Hid (amg (ps.drop j) r = amg ps r)) (fun i => 2 * n - (intOf i).toNat)
  case atStart => exact ⟨0, by omega, rfl, Lib.hid rfl⟩
  case round =>
    obtain ⟨j, hj, rfl, HK⟩ := hrel
    by_cases hlt : j < n
    · obtain ⟨x, hx⟩ : ∃ x, ps[j]? = some x := ⟨_, List.getElem?_eq_getElem (by rw [HN.out]; exact hlt)⟩
      obtain ⟨c0, c1⟩ := HP.out j x hx
      have HD : Hid (ps.drop j = x :: ps.drop (j + 1)) := Lib.hid (by
        have := List.drop_eq_getElem_cons (show j < ps.length by rw [HN.out]; exact hlt)
        rw [this]; rw [List.getElem?_eq_getElem (by rw [HN.out]; exact hlt)] at hx; rw [Option.some.inj hx])
      obtain ⟨a, b⟩ := x
      simp only at c0 c1
      have HE : Hid (amg ps r = (decide (a ≤ r) && decide (r ≤ b) || amg (ps.drop (j + 1)) r)) := Lib.hid (by rw [← HK.out, HD.out, amg_cons])
      have HJ : Hid (2 * (j + 1) = 2 * j + 2) := Lib.hid (by omega)
      obtain ⟨k, hk⟩ : ∃ k, 2 * j = k := ⟨_, rfl⟩
      have hkn : (k : Int) + 1 < 2 * (n : Int) := by omega
      have hkn2 : k + 1 < 2 * n := by omega
      have HKJ := Lib.hid hk
      rw [hk] at c0 c1 HJ ⊢
      clear hx hk
      by_cases ha : a ≤ r
      · by_cases hb : r ≤ b
        · have HV : Hid (amg ps r = true) := Lib.hid (by rw [HE.out, decide_eq_true ha, decide_eq_true hb]; rfl)
          go_wp2
          go_ret
          exact ⟨ret_bool' HV.out.symm, rfl⟩
        · have HV : Hid (amg (ps.drop (j + 1)) r = amg ps r) := Lib.hid (by rw [HE.out, decide_eq_false hb, Bool.and_false, Bool.false_or])
          go_wp2
          go_round
          case rel => exact ⟨j + 1, by omega, by rw [HJ.out]; go_num, HV⟩
          case measure => simp [intOf]; omega
      · have HV : Hid (amg (ps.drop (j + 1)) r = amg ps r) := Lib.hid (by rw [HE.out, decide_eq_false ha, Bool.false_and, Bool.false_or])
        go_wp2
        go_round
        case rel => exact ⟨j + 1, by omega, by rw [HJ.out]; go_num, HV⟩
        case measure => simp [intOf]; omega
    · obtain rfl : j = n := by omega
      have hkn : ¬ (((2 * j : Nat) : Int) + 1 < ((2 * j : Nat) : Int)) := by omega
      have HV : Hid (amg ps r = false) := Lib.hid (by rw [← HK.out, List.drop_eq_nil_of_le (by rw [HN.out]; omega)]; rfl)
      go_wp2
      go_ret
      exact ⟨ret_bool' HV.out.symm, rfl⟩

set_option maxHeartbeats 1000000 in
theorem rspace_any (r : Int) (w : World) :
    Calls Tryd.prog 20 #[.int .i32 r] w fun e w' => e = .returned (.bool (amg whites r)) ∧ Below w.heap.size w w' := by
  have HA := Lib.hid (among_any r whites w.heap.size 18 _ (pairs_new w whites 21) (by decide))
  go_enter Tryd.func20, Tryd.ntmps20
  go_wp2_with (go_at_call 28; refine HA.out.mono ?_; rintro e w' ⟨rfl, rfl⟩)
  go_ret
  exact ⟨rfl, (Below.refl _ w).alloc (Nat.le_refl _) _⟩
set_option maxHeartbeats 1000000 in
theorem rpunct_any (r : Int) (w : World) :
    Calls Tryd.prog 21 #[.int .i32 r] w fun e w' => e = .returned (.bool (amg signs r)) ∧ Below w.heap.size w w' := by
  have HA := Lib.hid (among_any r signs w.heap.size 38 _ (pairs_new w signs 21) (by decide))
  go_enter Tryd.func21, Tryd.ntmps21
  go_wp2_with (go_at_call 28; refine HA.out.mono ?_; rintro e w' ⟨rfl, rfl⟩)
  go_ret
  exact ⟨rfl, (Below.refl _ w).alloc (Nat.le_refl _) _⟩
end Dl
end Go.Proofs.YtbdcbeghiglfgaaDoor
