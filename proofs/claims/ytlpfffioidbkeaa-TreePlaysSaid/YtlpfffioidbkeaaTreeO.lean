/- Layer 6: Tree; awake. -/
import Derived.Test.YtlpfffioidbkeaaTreeN
import Derived.Test.YtlpfffioidbkeaaTreeC
import Derived.Test.YtlpfffioidbkeaaTreeS
import Derived.Test.YtlpfffioidbkeaaTreeW
namespace Go.Proofs.Ytlpfffioidbkeaa
open Go Go.RowKit
namespace Tr
set_option maxRecDepth 100000
set_option linter.unusedVariables false
set_option linter.unusedSimpArgs false

set_option maxHeartbeats 2000000 in
theorem tree_any {S : Ar} {ch : Nat → List Nat} {ht : Nat → Nat} (K : Kids S ch) (hs : Sized S) (hd : ∀ p, p < S.n → ∀ c ∈ ch p, ht c < ht p) (f : Nat) (h0 : 0 < S.n) (hf : ht 0 < f) {w : World} {A g cap : Nat} (h : AR w A g cap S) :
    Calls Try.prog 31 #[ptr A] w fun e w' => ∃ a n c, e = .returned (nodeV (S.o 0) (.slice a n c)) ∧ In w' (fun b => w.heap.size ≤ b) (tr S.o ch f 0) (.slice a n c) ∧ Below w.heap.size w w' := by
  have hb0 : Below w.heap.size w (w.alloc (.cells (nodeC nilO (.slice none 0 0)) 24)) := (Below.refl _ w).alloc (Nat.le_refl _) _
  have HL := Lib.hid (has_any (h.below hb0) 0)
  rw [in_true ⟨by omega, by omega⟩] at HL
  have HW := Lib.hid (whole_any K hs hd f 0 h0 hf _ A g cap (h.below hb0))
  have HB := Lib.hid (Blk.new w (nodeC nilO (.slice none 0 0)) 24)
  have HB0 := Lib.hid hb0
  clear hb0
  unfold ptr nodeC nilO at HL
  unfold ptr nodeV nodeC nilO at HW
  unfold ptr nodeV
  go_enter Try.func31, Try.ntmps31
  go_wp2_with fail
  refine HL.out.mono ?_
  rintro e w1 ⟨rfl, rfl⟩
  go_wp2_with fail
  refine HW.out.mono ?_
  rintro e w2 ⟨a, n, c, rfl, hin, hb2⟩
  have K2 : Blk w2 w.heap.size (nodeC nilO (.slice none 0 0)) 24 := HB.out.below hb2
  have hbw2 : Below w.heap.size w w2 := below_later HB0.out hb2
  have d0 : w2.cell? ⟨w.heap.size, 0, none⟩ = _ := K2.node.c0
  have d1 : w2.cell? ⟨w.heap.size, 1, none⟩ = _ := K2.node.c1
  have d2 : w2.cell? ⟨w.heap.size, 2, none⟩ = _ := K2.node.c2
  have d3 : w2.cell? ⟨w.heap.size, 3, none⟩ = _ := K2.node.c3
  have d4 : w2.cell? ⟨w.heap.size, 4, none⟩ = _ := K2.node.c4
  have d5 : w2.cell? ⟨w.heap.size, 5, none⟩ = _ := K2.node.c5
  have d6 : w2.cell? ⟨w.heap.size, 6, none⟩ = _ := K2.node.c6
  have fk := fun k => K2.fr k
  have HK := Lib.hid K2
  have HI := Lib.hid hin
  clear K2 hin hb2
  go_wp2
  refine bodyPost_ret (v := nodeV (S.o 0) (.slice a n c)) (results_cell_row rfl _ _ w.heap.size _ (nodeC (S.o 0) (.slice a n c)) (0, 0) _ rfl (HK.out.renode (S.o 0) (.slice a n c)) Try.underlying24 rfl infoNode) rfl ⟨a, n, c, rfl, ?_, ?_⟩
  · have hz : ∀ b, (w.alloc (.cells (nodeC nilO (.slice none 0 0)) 24)).heap.size ≤ b → w.heap.size < b := fun b hb => by simp at hb; omega
    exact In.carry_all (fun b off u hq _ => Nat.le_of_lt (hz b hq)) (fun b off u hq hc => hc) _ (HI.out.renode (R := w.heap.size) (fun b hb => by have := hz b hb; omega) (S.o 0) (.slice a n c))
  · iterate 7 (refine Below.setCell ?_ (by exact Nat.le_refl _) _)
    exact hbw2
theorem tree_nil (w : World) :
    Calls Try.prog 31 #[.pointer none] w fun e w' => e = .returned (nodeV nilO (.slice none 0 0)) ∧ Below w.heap.size w w' := by
  have hb0 : Below w.heap.size w (w.alloc (.cells (nodeC nilO (.slice none 0 0)) 24)) := (Below.refl _ w).alloc (Nat.le_refl _) _
  have HB := Lib.hid (Blk.new w (nodeC nilO (.slice none 0 0)) 24)
  have HB0 := Lib.hid hb0
  have HL := Lib.hid (has_nil (w.alloc (.cells (nodeC nilO (.slice none 0 0)) 24)) 0)
  unfold nodeC nilO at HL
  clear hb0
  unfold nodeV nilO
  go_enter Try.func31, Try.ntmps31
  go_wp2_with fail
  refine HL.out.mono ?_
  rintro e w1 ⟨rfl, rfl⟩
  go_wp2
  refine bodyPost_ret (v := nodeV nilO (.slice none 0 0)) (results_cell_row rfl _ _ w.heap.size _ (nodeC nilO (.slice none 0 0)) (0, 0) _ rfl HB.out Try.underlying24 rfl infoNode) rfl ⟨rfl, HB0.out⟩

theorem same_refl (T : Tree) : same T T = true := by
  induction T using Tree.ind with
  | h o kids ih =>
    rw [same, (Own.eq_iff o o).2 rfl]
    simp only [BEq.rfl, Bool.true_and]
    induction kids with
    | nil => rw [sameL]; intros; simp_all
    | cons t ts ih2 => rw [sameL, ih t (by simp), ih2 (fun u hu => ih u (by simp [hu]))]; rfl

def dO : Own := ⟨1, ⟨#[]⟩, ⟨#[]⟩, 0, 0, false⟩
def pO : Own := ⟨7, ⟨#[]⟩, ⟨#[]⟩, 0, 0, false⟩
def xO : Own := ⟨14, ⟨#[97]⟩, ⟨#[]⟩, 0, 0, false⟩
def S1 : Ar := ((Ar.one dO).push pO).hang 1 0
def S2 : Ar := (S1.push xO).hang 2 1
def ch2 : Nat → List Nat | 0 => [1] | 1 => [2] | _ => []
def ht2 : Nat → Nat | 0 => 2 | 1 => 1 | _ => 0
theorem S1_n : S1.n = 2 := rfl
theorem S2_n : S2.n = 3 := rfl
theorem lt3 {P : Nat → Prop} (h0 : P 0) (h1 : P 1) (h2 : P 2) (p : Nat) (h : p < 3) : P p := by
  match p with
  | 0 => exact h0
  | 1 => exact h1
  | 2 => exact h2
  | p + 3 => omega
theorem kids2 : Kids S2 ch2 := by
  refine ⟨?_, ?_, ?_, ?_⟩
  · exact fun p hp => lt3 (P := fun p => ∀ c ∈ ch2 p, c < S2.n) (by decide) (by decide) (by decide) p hp
  · exact fun p hp => lt3 (P := fun p => S2.first p = opt (ch2 p)[0]?) rfl rfl rfl p hp
  · refine fun p hp => lt3 (P := fun p => ∀ i c, (ch2 p)[i]? = some c → S2.behind c = opt (ch2 p)[i + 1]?) ?_ ?_ ?_ p hp
    · intro i c h; match i with
      | 0 => simp [ch2] at h; subst h; rfl
      | i + 1 => simp [ch2] at h
    · intro i c h; match i with
      | 0 => simp [ch2] at h; subst h; rfl
      | i + 1 => simp [ch2] at h
    · intro i c h; simp [ch2] at h
  · exact fun p hp => lt3 (P := fun p => (ch2 p).length ≤ 1000000000) (by decide) (by decide) (by decide) p hp
theorem sized2 : Sized S2 := fun p hp => lt3 (P := fun p => (S2.o p).s.size ≤ 281474976710656 ∧ (S2.o p).t.size ≤ 281474976710656) (by decide) (by decide) (by decide) p hp
theorem ht2_lt : ∀ p, p < S2.n → ∀ c ∈ ch2 p, ht2 c < ht2 p := fun p hp => lt3 (P := fun p => ∀ c ∈ ch2 p, ht2 c < ht2 p) (by decide) (by decide) (by decide) p hp
theorem tr2 : tr S2.o ch2 3 0 = .mk dO [.mk pO [.mk xO []]] := rfl
end Tr
end Go.Proofs.Ytlpfffioidbkeaa
