/- Layer 6: Move. -/
import Derived.Test.YtlpfffioidbkeaaTreeAA
import Derived.Test.YtlpfffioidbkeaaTreeH
namespace Go.Proofs.Ytlpfffioidbkeaa
open Go Go.RowKit
namespace Tr
set_option maxRecDepth 100000
set_option linter.unusedVariables false
set_option linter.unusedSimpArgs false

theorem Sub.up {n : Nat} {ch : Nat → List Nat} {q c p : Nat} (hq : q < n) (hc : c ∈ ch q) (h : Sub n ch c p) : Sub n ch q p := by
  induction h with
  | refl => exact .step hq hc .refl
  | step h1 h2 _ ih => exact .step h1 h2 ih
/-- An arena in order: who is whose child, and that nothing stands below itself. -/
structure Good (S : Ar) (ch : Nat → List Nat) : Prop where
  inv : Inv S ch
  rank : ∃ ht : Nat → Nat, ∀ p, p < S.n → ∀ c ∈ ch p, ht c < ht p
theorem bound (f : Nat → Nat) : ∀ n : Nat, ∃ M, ∀ p, p < n → f p ≤ M
  | 0 => ⟨0, fun p h => by omega⟩
  | n + 1 => by
    obtain ⟨M, hM⟩ := bound f n
    refine ⟨max M (f n), fun p hp => ?_⟩
    rcases Nat.lt_or_ge p n with h | h
    · have := hM p h; omega
    · have : p = n := by omega
      subst this; omega
/-- Children without one of them. -/
def cut (ch : Nat → List Nat) (id : Nat) : Nat → List Nat := fun q => (ch q).filter (· ≠ id)
def moved (ch : Nat → List Nat) (id p : Nat) : Nat → List Nat := upd (cut ch id) p (cut ch id p ++ [id])
section
variable {S : Ar} {ch : Nat → List Nat}
theorem cut_none (hI : Inv S ch) {id : Nat} (h : ∀ p, p < S.n → id ∉ ch p) : cut ch id = ch := by
  funext q
  rcases Nat.lt_or_ge q S.n with hq | hq
  · exact filter_self (h q hq)
  · unfold cut; rw [hI.out q hq]; rfl
theorem Good.cut {S' : Ar} (h : Good S ch) (id : Nat) (hn : S'.n = S.n) (hI : Inv S' (cut ch id)) : Good S' (Tr.cut ch id) := by
  obtain ⟨ht, hr⟩ := h.rank
  exact ⟨hI, ht, fun p hp c hc => hr p (by rw [← hn]; exact hp) c (List.mem_filter.1 hc).1⟩
theorem Good.move {S1 : Ar} (h : Good S ch) {id p : Nat} (hid : id < S.n) (hp : p < S.n) (hns : ¬ Sub S.n ch id p) (hn : S1.n = S.n) (hI : Inv S1 (Tr.cut ch id)) : Good (S1.hang id p) (moved ch id p) := by
  classical
  obtain ⟨ht, hr⟩ := h.rank
  have hgone : ∀ q, q < S1.n → id ∉ Tr.cut ch id q := fun q _ hm => by have := (List.mem_filter.1 hm).2; simp at this
  refine ⟨hI.hang (by omega) (by omega) hgone, fun x => if Sub S.n ch x p then ht x + ht id + 1 else ht x, ?_⟩
  intro q hq c hc
  rw [hang_n, hn] at hq
  have old : c ∈ Tr.cut ch id q → (if Sub S.n ch c p then ht c + ht id + 1 else ht c) < (if Sub S.n ch q p then ht q + ht id + 1 else ht q) := by
    intro hc
    have hc := (List.mem_filter.1 hc).1
    have := hr q hq c hc
    by_cases h1 : Sub S.n ch c p
    · rw [if_pos h1, if_pos (Sub.up hq hc h1)]; omega
    · rw [if_neg h1]; split <;> omega
  unfold moved at hc
  by_cases e : q = p
  · subst e
    rw [upd_same, List.mem_append] at hc
    rcases hc with hc | hc
    · exact old hc
    · simp at hc; subst hc
      dsimp only
      rw [if_neg hns, if_pos .refl]; omega
  · rw [upd_other _ _ e] at hc
    exact old hc
/-- Unlink: whatever the node. -/
theorem unlink_step {w : World} {A g cap : Nat} (hG : Good S ch) (h : AR w A g cap S) {id : Nat} (hid : id < S.n) :
    Calls Try.prog 17 #[ptr A, .int .i64 id] w fun e w' => (∃ b, e = .returned (.bool b) ∧ (b = true ↔ S.par id ≠ -1)) ∧ ∃ S', AR w' A g cap S' ∧ Only (two A g) w w' ∧ S'.n = S.n ∧ S'.o = S.o ∧ Inv S' (cut ch id) := by
  rcases Classical.em (S.par id = -1) with hp | hp
  · refine (unlink_false h (.inr ⟨id, rfl, hid, hp⟩)).mono ?_
    rintro e w' ⟨rfl, rfl⟩
    have hno : ∀ p, p < S.n → id ∉ ch p := fun p hp2 hm => by have := hG.inv.par p hp2 id hm; omega
    refine ⟨⟨false, rfl, by simp [hp]⟩, S, h, Only.refl _ _, rfl, rfl, ?_⟩
    rw [cut_none hG.inv hno]; exact hG.inv
  · obtain ⟨p, j, hp1, hp2, hj⟩ := hG.inv.parent hid hp
    refine (unlink_true hG.inv h hp1 hj).mono ?_
    rintro e w' ⟨rfl, h', ho⟩
    exact ⟨⟨true, rfl, by simp [hp]⟩, _, h', ho, unlink_n _ _, unlink_o _ _, hG.inv.unlink hp1 hj⟩

/-- When a node is moved. -/
def can (S : Ar) (ch : Nat → List Nat) (id p : Int) : Prop := (0 ≤ id ∧ id < (S.n : Int)) ∧ (0 ≤ p ∧ p < (S.n : Int)) ∧ id ≠ 0 ∧ ¬ Sub S.n ch id.toNat p.toNat
def MoveEnd (w w' : World) (A g cap : Nat) (S : Ar) (ch : Nat → List Nat) (id p : Int) (b : Bool) : Prop :=
  (b = false ∧ ¬ can S ch id p ∧ w = w') ∨ (b = true ∧ can S ch id p ∧ ∃ S', AR w' A g cap S' ∧ Only (two A g) w w' ∧ S'.n = S.n ∧ S'.o = S.o ∧ Good S' (moved ch id.toNat p.toNat))
set_option maxHeartbeats 4000000 in
theorem move_any {w : World} {A g cap : Nat} (hG : Good S ch) (h : AR w A g cap S) (id p : Int) :
    Calls Try.prog 20 #[ptr A, .int .i64 id, .int .i64 p] w fun e w' => ∃ b, e = .returned (.bool b) ∧ MoveEnd w w' A g cap S ch id p b := by
  have HA := Lib.hid (has_any h id)
  have HB := Lib.hid (has_any h p)
  rcases Classical.em (0 ≤ id ∧ id < (S.n : Int)) with hi | hi
  case inr =>
    have HE : Hid (MoveEnd w w A g cap S ch id p false) := Lib.hid (.inl ⟨rfl, fun hc => hi hc.1, rfl⟩)
    rw [in_false hi] at HA
    clear hi HB
    unfold ptr at *
    go_enter Try.func20, Try.ntmps20
    go_wp2_with fail
    refine HA.out.mono ?_
    rintro e w1 ⟨rfl, rfl⟩
    go_wp2
    go_ret
    exact ⟨false, rfl, HE.out⟩
  rw [in_true hi] at HA
  rcases Classical.em (0 ≤ p ∧ p < (S.n : Int)) with hp | hp
  case inr =>
    have HE : Hid (MoveEnd w w A g cap S ch id p false) := Lib.hid (.inl ⟨rfl, fun hc => hp hc.2.1, rfl⟩)
    rw [in_false hp] at HB
    clear hp hi
    unfold ptr at *
    go_enter Try.func20, Try.ntmps20
    go_wp2_with fail
    refine HA.out.mono ?_
    rintro e w1 ⟨rfl, rfl⟩
    go_wp2_with fail
    refine HB.out.mono ?_
    rintro e w1 ⟨rfl, rfl⟩
    go_wp2
    go_ret
    exact ⟨false, rfl, HE.out⟩
  rw [in_true hp] at HB
  by_cases h0 : id = 0
  · subst h0
    have HE : Hid (MoveEnd w w A g cap S ch 0 p false) := Lib.hid (.inl ⟨rfl, fun hc => hc.2.2.1 rfl, rfl⟩)
    clear hp hi
    unfold ptr at *
    go_enter Try.func20, Try.ntmps20
    go_wp2_with fail
    refine HA.out.mono ?_
    rintro e w1 ⟨rfl, rfl⟩
    go_wp2_with fail
    refine HB.out.mono ?_
    rintro e w1 ⟨rfl, rfl⟩
    go_wp2
    go_ret
    exact ⟨false, rfl, HE.out⟩
  obtain ⟨i, rfl⟩ : ∃ i : Nat, id = i := ⟨id.toNat, by omega⟩
  obtain ⟨q, rfl⟩ : ∃ q : Nat, p = q := ⟨p.toNat, by omega⟩
  have hi' : i < S.n := by omega
  have hq' : q < S.n := by omega
  have e0 : ((i : Int) == 0) = false := by simpa using h0
  have e0' : ¬ (i : Int) = 0 := h0
  obtain ⟨ht, hr⟩ := hG.rank
  obtain ⟨M, hM⟩ := bound ht S.n
  have HW := Lib.hid (within_any hG.inv hr hM h (id := q) (top := i) hq')
  have HU := Lib.hid (unlink_step hG h hi')
  have HG := Lib.hid hG
  have HC : Hid (∀ b : Bool, (b = true ↔ Sub S.n ch i q) → (b = true ∧ ¬ can S ch i q) ∨ (b = false ∧ ¬ Sub S.n ch i q ∧ can S ch i q)) := Lib.hid (fun b hb => by
    cases b with
    | true => exact .inl ⟨rfl, fun hc => hc.2.2.2 (by simpa using hb.1 rfl)⟩
    | false =>
      have hn : ¬ Sub S.n ch i q := fun hs => by have := hb.2 hs; cases this
      exact .inr ⟨rfl, hn, hi, hp, h0, by simpa using hn⟩)
  clear hi hp h0 hr hM hG h
  unfold ptr at *
  go_enter Try.func20, Try.ntmps20
  go_wp2_with fail
  refine HA.out.mono ?_
  rintro e w1 ⟨rfl, rfl⟩
  go_wp2_with fail
  refine HB.out.mono ?_
  rintro e w1 ⟨rfl, rfl⟩
  go_wp2_with fail
  refine HW.out.mono ?_
  rintro e w1 ⟨⟨b, rfl, hb⟩, rfl⟩
  rcases HC.out b hb with ⟨rfl, hcan⟩ | ⟨rfl, hns, hcan⟩
  · clear hb
    have HE : Hid (MoveEnd w1 w1 A g cap S ch i q false) := Lib.hid (.inl ⟨rfl, hcan, rfl⟩)
    clear hcan
    go_wp2
    go_ret
    exact ⟨false, rfl, HE.out⟩
  · clear hb HW HC
    have HN := Lib.hid hns
    have HCan := Lib.hid hcan
    clear hns hcan
    go_wp2_with fail
    refine HU.out.mono ?_
    rintro e w2 ⟨⟨b2, rfl, _⟩, S1, h1, o1, n1, e1, I1⟩
    have HH := Lib.hid (hang_any (id := i) (p := q) h1 (by omega) (by omega) (I1.lastOk (by omega)))
    have HGd := Lib.hid (HG.out.move hi' hq' HN.out n1 I1)
    have HO1 := Lib.hid o1
    have HE1 := Lib.hid e1
    have HN1 := Lib.hid n1
    clear h1 o1 n1 e1 I1 HU
    go_wp2_with fail
    refine HH.out.mono ?_
    rintro e w3 ⟨rfl, h3, o3⟩
    go_wp2
    go_ret
    exact ⟨true, rfl, .inr ⟨rfl, HCan.out, _, h3, HO1.out.trans' o3, by rw [hang_n]; exact HN1.out, by rw [hang_o]; exact HE1.out, by simpa using HGd.out⟩⟩
end
end Tr
end Go.Proofs.Ytlpfffioidbkeaa
