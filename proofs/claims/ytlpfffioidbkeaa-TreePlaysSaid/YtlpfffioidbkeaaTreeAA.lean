/- Layer 6: within, Move. -/
import Derived.Test.YtlpfffioidbkeaaTreeZ
import Derived.ScopeJumps
import Derived.WalkMore
namespace Go.Proofs.Ytlpfffioidbkeaa
open Go Go.RowKit
namespace Tr
set_option maxRecDepth 100000
set_option linter.unusedVariables false
set_option linter.unusedSimpArgs false

/-- A node stands at another one, or somewhere below it. -/
inductive Sub (n : Nat) (ch : Nat → List Nat) (top : Nat) : Nat → Prop where
  | refl : Sub n ch top top
  | step {p c : Nat} : p < n → c ∈ ch p → Sub n ch top p → Sub n ch top c
theorem Sub.back {S : Ar} {ch : Nat → List Nat} (hI : Inv S ch) {top c p : Nat} (hp : p < S.n) (hc : c ∈ ch p) (hne : c ≠ top) (h : Sub S.n ch top c) : Sub S.n ch top p := by
  cases h with
  | refl => exact absurd rfl hne
  | step hq hcq hs =>
    have := hI.uniq hp hq hc hcq
    subst this
    exact hs

set_option maxHeartbeats 4000000 in
theorem within_any {S : Ar} {ch : Nat → List Nat} (hI : Inv S ch) {ht : Nat → Nat} {M : Nat} (hht : ∀ p, p < S.n → ∀ c ∈ ch p, ht c < ht p) (hM : ∀ p, p < S.n → ht p ≤ M) {w : World} {A g cap : Nat} (h : AR w A g cap S) {id top : Nat} (hid : id < S.n) :
    Calls Try.prog 47 #[.pointer (some ⟨A, 0, none⟩), .int .i64 id, .int .i64 top] w fun e w' => (∃ b, e = .returned (.bool b) ∧ (b = true ↔ Sub S.n ch top id)) ∧ w' = w := by
  go_enter Try.func47, Try.ntmps47
  go_wp2
  refine wp_scope_jumps 0 (fun a' w' => w = w' ∧ ∃ (c : Nat) (u7 u8 u9 u10 u11 u12 u13 u14 u15 u16 u17 u18 u19 : Value), a' = { tmps := #[.pointer (some ⟨A, 0, none⟩), .int .i64 c, .int .i64 top, undef, undef, undef, .bool false, u7, u8, u9, u10, u11, u12, u13, u14, u15, u16, u17, u18, u19], defers := [] } ∧ c < S.n ∧ (Sub S.n ch top c ↔ Sub S.n ch top id)) (fun a' _ => M - ht (intOf (a'.tmps.getD 1 undef)).toNat) rfl ?_ ?_
  · skip
    by_cases hct : id = top
    · have hs : Hid (Sub S.n ch top id) := Lib.hid (by rw [hct]; exact Sub.refl)
      have e1 : ((id : Int) == (top : Int)) = true := by simp [hct]
      have e2 : (id : Int) = (top : Int) := by omega
      clear hct
      go_wp2
      go_step3
      go_wp2
      simp only [Exit.jump]
      go_ret
      exact ⟨⟨true, rfl, by simpa using hs.out⟩, rfl⟩
    · have e1 : ((id : Int) == (top : Int)) = false := by simp; omega
      have e2 : ¬ (id : Int) = (top : Int) := by omega
      have b1 : (id : Int) < (S.n : Int) := by omega
      have cA := h.cellA
      have c7 : w.cell? ⟨g, id * 12 + 7, none⟩ = some (.int .i64 (S.par id)) := h.cellg hid (by omega)
      rcases Classical.em (S.par id = -1) with hp | hp
      · rw [hp] at c7
        have hs : Hid (¬ Sub S.n ch top id) := Lib.hid (fun hsub => by
          have hsub := hsub
          cases hsub with
          | refl => exact hct rfl
          | step hq hcq _ => have := hI.par _ hq _ hcq; omega)
        clear hct
        go_wp2
        go_step3
        go_wp2
        simp only [Exit.jump]
        go_ret
        exact ⟨⟨false, rfl, by simpa using hs.out⟩, rfl⟩
      · obtain ⟨q, j, hq, hpq, hj⟩ := hI.parent hid hp
        have hm := List.mem_of_getElem? hj
        rw [hpq] at c7
        have p1 : ¬ (q : Int) = -1 := by omega
        have p2 : ((q : Int) != -1) = true := by simp
        have HQ : Hid (Sub S.n ch top q ↔ Sub S.n ch top id) := Lib.hid ⟨fun hs => Sub.step hq hm hs, fun hs => Sub.back hI hq hm hct hs⟩
        have HM : Hid (M - ht q < M - ht id) := Lib.hid (by have := hht q hq id hm; have := hM q hq; omega)
        clear hct hp hpq
        go_wp2
        go_step3
        go_wp2
        go_step3
        refine ⟨rfl, rfl, q, _, _, _, _, _, _, _, _, _, _, _, _, _, rfl, hq, HQ.out⟩
  · rintro a' w' ⟨rfl, c, u7, u8, u9, u10, u11, u12, u13, u14, u15, u16, u17, u18, u19, rfl, hid', hs'⟩
    have HS := Lib.hid hs'
    clear hs'
    by_cases hct : c = top
    · have hs : Hid (Sub S.n ch top id) := Lib.hid (HS.out.1 (by rw [hct]; exact Sub.refl))
      have e1 : ((c : Int) == (top : Int)) = true := by simp [hct]
      have e2 : (c : Int) = (top : Int) := by omega
      clear hct HS
      go_wp2
      simp only [Exit.jump]
      go_ret
      exact ⟨⟨true, rfl, by simpa using hs.out⟩, rfl⟩
    · have e1 : ((c : Int) == (top : Int)) = false := by simp; omega
      have e2 : ¬ (c : Int) = (top : Int) := by omega
      have b1 : (c : Int) < (S.n : Int) := by omega
      have cA := h.cellA
      have c7 : w.cell? ⟨g, c * 12 + 7, none⟩ = some (.int .i64 (S.par c)) := h.cellg hid' (by omega)
      rcases Classical.em (S.par c = -1) with hp | hp
      · rw [hp] at c7
        have hs : Hid (¬ Sub S.n ch top id) := Lib.hid (fun hsub => by
          have hsub := HS.out.2 hsub
          cases hsub with
          | refl => exact hct rfl
          | step hq hcq _ => have := hI.par _ hq _ hcq; omega)
        clear hct HS
        go_wp2
        simp only [Exit.jump]
        go_ret
        exact ⟨⟨false, rfl, by simpa using hs.out⟩, rfl⟩
      · obtain ⟨q, j, hq, hpq, hj⟩ := hI.parent hid' hp
        have hm := List.mem_of_getElem? hj
        rw [hpq] at c7
        have p1 : ¬ (q : Int) = -1 := by omega
        have p2 : ((q : Int) != -1) = true := by simp
        have HQ : Hid (Sub S.n ch top q ↔ Sub S.n ch top id) := Lib.hid ⟨fun hs => HS.out.1 (Sub.step hq hm hs), fun hs => Sub.back hI hq hm hct (HS.out.2 hs)⟩
        have HM : Hid (M - ht q < M - ht c) := Lib.hid (by have := hht q hq c hm; have := hM q hq; omega)
        clear hct hp hpq HS
        go_wp2
        go_step3
        refine ⟨rfl, ⟨rfl, q, _, _, _, _, _, _, _, _, _, _, _, _, _, rfl, hq, HQ.out⟩, ?_⟩
        exact HM.out
end Tr
end Go.Proofs.Ytlpfffioidbkeaa
