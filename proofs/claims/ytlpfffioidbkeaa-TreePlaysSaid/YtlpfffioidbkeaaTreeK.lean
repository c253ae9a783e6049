/- Layer 6: kinds: which may stand in which. -/
import Derived.Test.YtlpfffioidbkeaaTreeA
namespace Go.Proofs.Ytlpfffioidbkeaa
open Go Go.RowKit
namespace Tr
set_option maxRecDepth 100000
set_option linter.unusedVariables false
set_option linter.unusedSimpArgs false

set_option maxHeartbeats 2000000 in
theorem block_any (k : Int) (w : World) :
    Calls Try.prog 59 #[.int .i64 k] w fun e w' => e = .returned (.bool (block k)) ∧ w = w' := by
  go_enter Try.func59, Try.ntmps59
  go_wp2
  all_goals go_ret
  all_goals refine ⟨?_, rfl⟩
  all_goals (show Ending.returned (Value.bool _) = _; congr 2; simp [block, *])

set_option maxHeartbeats 2000000 in
theorem inline_any (k : Int) (w : World) :
    Calls Try.prog 60 #[.int .i64 k] w fun e w' => e = .returned (.bool (inline k)) ∧ w = w' := by
  go_enter Try.func60, Try.ntmps60
  go_wp2
  all_goals go_ret
  all_goals refine ⟨?_, rfl⟩
  all_goals (show Ending.returned (Value.bool _) = _; congr 2; simp [inline, *])

set_option maxHeartbeats 2000000 in
theorem may_any (k j : Int) (w : World) :
    Calls Try.prog 55 #[.int .i64 k, .int .i64 j] w fun e w' => e = .returned (.bool (may k j)) ∧ w = w' := by
  have H1 := Lib.hid (block_any k w)
  have H2 := Lib.hid (inline_any k w)
  go_enter Try.func55, Try.ntmps55
  go_wp2_with first | (go_at_call 59; refine H1.out.mono ?_; rintro e w2 ⟨rfl, rfl⟩) | (go_at_call 60; refine H2.out.mono ?_; rintro e w2 ⟨rfl, rfl⟩)
  all_goals go_ret
  all_goals refine ⟨?_, rfl⟩
  all_goals (show Ending.returned (Value.bool _) = _; congr 2; simp [may, *])

set_option maxHeartbeats 2000000 in
theorem holds_any (k : Int) (w : World) :
    Calls Try.prog 56 #[.int .i64 k] w fun e w' => e = .returned (.int .i64 (holds k)) ∧ w = w' := by
  go_enter Try.func56, Try.ntmps56
  go_wp2
  all_goals go_ret
  all_goals refine ⟨?_, rfl⟩
  all_goals (show Ending.returned (Value.int _ _) = _; congr 2; simp [holds, *])

def sortL : List Int := [0, 0, 1, 1, 3, 1, 1, 1, 1, 1, 1, 4, 5, 1, 2, 2, 2, 2, 2, 2, 2, 2, 2, 2, 2, 2]
theorem sort_get (n : Nat) (h : n < 26) : (sortL.map (Value.int .i64))[n]'(by simpa [sortL] using h) = .int .i64 (sort n) := by
  rw [List.getElem_map]
  unfold sort
  show Value.int .i64 _ = .int .i64 (sortL.getD _ 0)
  rw [List.getD, List.getElem?_eq_getElem (by simpa [sortL] using h)]
  rfl
set_option maxHeartbeats 2000000 in
theorem sort_any (k : Int) (w : World) :
    Calls Try.prog 57 #[.int .i64 k] w fun e w' => e = .returned (.int .i64 (sort k)) ∧ Below w.heap.size w w' := by
  by_cases h0 : k < 0
  · have hs : sort k = 0 := by unfold sort; rw [show k.toNat = 0 by omega]; rfl
    rw [hs]
    go_enter Try.func57, Try.ntmps57
    go_wp2
    go_ret
    exact ⟨rfl, (Below.refl _ w).alloc (Nat.le_refl _) _⟩
  · by_cases h1 : 26 ≤ k
    · have hs : sort k = 0 := by
        unfold sort
        rw [List.getD, List.getElem?_eq_none (by simp; omega)]
        rfl
      rw [hs]
      go_enter Try.func57, Try.ntmps57
      go_wp2
      go_ret
      exact ⟨rfl, (Below.refl _ w).alloc (Nat.le_refl _) _⟩
    · obtain ⟨n, rfl⟩ : ∃ n : Nat, k = n := ⟨k.toNat, by omega⟩
      have hn : n < 26 := by omega
      clear h0 h1
      have hlt : (n : Int) < 26 := by omega
      go_enter Try.func57, Try.ntmps57
      go_wp2
      go_ret
      exact ⟨congrArg Ending.returned (sort_get n hn), (Below.refl _ w).alloc (Nat.le_refl _) _⟩
end Tr
end Go.Proofs.Ytlpfffioidbkeaa
