/- Layer 6: Unlink. -/
import Derived.Test.YtlpfffioidbkeaaTreeY
import Derived.Test.YtlpfffioidbkeaaTreeI
import Derived.Deep.RegionHeld3
import Derived.Deep.DrawnRows
namespace Go.Proofs.Ytlpfffioidbkeaa
open Go Go.RowKit
namespace Tr
set_option maxRecDepth 100000
set_option linter.unusedVariables false
set_option linter.unusedSimpArgs false
attribute [local go_sem ↓] Go.wp_at_zero Go.wp_at_succ

theorem AR.drew {w : World} {A g cap : Nat} {S : Ar} (h : AR w A g cap S) : AR w.drew A g cap S := h.keep rfl rfl
/-- The twelve cells of a place. -/
def Ar.row (S : Ar) (i : Nat) : Array Value := #[.int .i64 (S.o i).kind, .string (S.o i).s, .string (S.o i).t, .int .i64 (S.o i).n, .int .i64 (S.o i).m, .bool (S.o i).flag, .slice none 0 0, .int .i64 (S.par i), .int .i64 (S.first i), .int .i64 (S.last i), .int .i64 (S.behind i), .int .i64 (S.before i)]

set_option maxHeartbeats 1000000 in
theorem unlink_false {w : World} {A g cap : Nat} {S : Ar} (h : AR w A g cap S) {id : Int} (hi : ¬ (0 ≤ id ∧ id < (S.n : Int)) ∨ ∃ i : Nat, id = (i : Int) ∧ i < S.n ∧ S.par i = -1) :
    Calls Try.prog 17 #[ptr A, .int .i64 id] w fun e w' => e = .returned (.bool false) ∧ w = w' := by
  have HP : Hid (Calls Try.prog 24 #[ptr A, .int .i64 id] w fun e w' => e = .returned (.int .i64 (-1)) ∧ w = w') := Lib.hid (by
    rcases hi with hi | ⟨i, rfl, hi, hp⟩
    · exact parent_out h hi
    · have := parent_in h hi; rwa [hp] at this)
  clear hi
  unfold ptr at *
  go_enter Try.func17, Try.ntmps17
  go_wp2_with fail
  refine HP.out.mono ?_
  rintro e w1 ⟨rfl, rfl⟩
  go_wp2
  go_ret
  exact ⟨rfl, rfl⟩
theorem unlink_nil (w : World) (id : Int) :
    Calls Try.prog 17 #[.pointer none, .int .i64 id] w fun e w' => e = .returned (.bool false) ∧ w = w' := by
  have HP := Lib.hid (parent_nil w id)
  go_enter Try.func17, Try.ntmps17
  go_wp2_with fail
  refine HP.out.mono ?_
  rintro e w1 ⟨rfl, rfl⟩
  go_wp2
  go_ret
  exact ⟨rfl, rfl⟩

set_option maxHeartbeats 8000000 in
theorem unlink_nn {w : World} {A g cap : Nat} {S : Ar} {id p : Nat} (h : AR w A g cap S) (hid : id < S.n) (hp : p < S.n) (hpar : S.par id = (p : Int)) (hb : S.before id = -1) (hk : S.behind id = -1) :
    Calls Try.prog 17 #[.pointer (some ⟨A, 0, none⟩), .int .i64 id] w fun e w' => e = .returned (.bool true) ∧ AR w' A g cap (S.unlink id) ∧ Only (two A g) w w' := by
  have HE : S.unlink id = ({ ({ ({ ({ ({ S with first := upd S.first p (-1) } : Ar) with last := upd S.last p (-1) } : Ar) with par := upd S.par id (-1) } : Ar) with behind := upd S.behind id (-1) } : Ar) with before := upd S.before id (-1) } : Ar) := by
    unfold Ar.unlink
    simp only [hb, hk, hpar, if_true, Int.toNat_natCast]
  rw [HE]
  clear HE
  have HP := Lib.hid (parent_in h hid)
  rw [hpar] at HP
  unfold ptr at HP
  have c0 : w.cell? ⟨g, id * 12, none⟩ = some (.int .i64 (S.o id).kind) := h.cellg (i := id) (j := 0) hid (by omega)
  have c1 : w.cell? ⟨g, id * 12 + 1, none⟩ = some (.string (S.o id).s) := by rw [h.cellg (i := id) (j := 1) hid (by omega)]; rfl
  have c2 : w.cell? ⟨g, id * 12 + 2, none⟩ = some (.string (S.o id).t) := by rw [h.cellg (i := id) (j := 2) hid (by omega)]; rfl
  have c3 : w.cell? ⟨g, id * 12 + 3, none⟩ = some (.int .i64 (S.o id).n) := by rw [h.cellg (i := id) (j := 3) hid (by omega)]; rfl
  have c4 : w.cell? ⟨g, id * 12 + 4, none⟩ = some (.int .i64 (S.o id).m) := by rw [h.cellg (i := id) (j := 4) hid (by omega)]; rfl
  have c5 : w.cell? ⟨g, id * 12 + 5, none⟩ = some (.bool (S.o id).flag) := by rw [h.cellg (i := id) (j := 5) hid (by omega)]; rfl
  have c6 : w.cell? ⟨g, id * 12 + 6, none⟩ = some (.slice none 0 0) := by rw [h.cellg (i := id) (j := 6) hid (by omega)]; rfl
  have c7 : w.cell? ⟨g, id * 12 + 7, none⟩ = some (.int .i64 p) := by rw [h.cellg (i := id) (j := 7) hid (by omega)]; show some (Value.int _ (S.par id)) = _; rw [hpar]
  have c8 : w.cell? ⟨g, id * 12 + 8, none⟩ = some (.int .i64 (S.first id)) := by rw [h.cellg (i := id) (j := 8) hid (by omega)]; rfl
  have c9 : w.cell? ⟨g, id * 12 + 9, none⟩ = some (.int .i64 (S.last id)) := by rw [h.cellg (i := id) (j := 9) hid (by omega)]; rfl
  have c10 : w.cell? ⟨g, id * 12 + 10, none⟩ = some (.int .i64 (-1)) := by rw [h.cellg (i := id) (j := 10) hid (by omega)]; show some (Value.int _ (S.behind id)) = _; rw [hk]
  have c11 : w.cell? ⟨g, id * 12 + 11, none⟩ = some (.int .i64 (-1)) := by rw [h.cellg (i := id) (j := 11) hid (by omega)]; show some (Value.int _ (S.before id)) = _; rw [hb]
  have cA := h.cellA
  have hA := h.ltA
  have hg := h.ltg
  have b0 : (id : Int) < (S.n : Int) := by omega
  have b1 : (p : Int) < (S.n : Int) := by omega
  have p1 : ¬ (p : Int) = -1 := by omega
  have p2 : ((p : Int) == -1) = false := by simp
  clear hpar hb hk
  obtain ⟨P, hPn⟩ : ∃ P, Hid (w.heap.size = P) := ⟨_, rfl⟩
  have HPA : P ≠ A ∧ P ≠ g := by have := hPn.out; omega
  go_enter Try.func17, Try.ntmps17
  go_wp2_with fail
  refine HP.out.mono ?_
  rintro e w1 ⟨rfl, rfl⟩
  go_upto_region 3 with fail
  go_cut [5] (fun s5 wx => s5 = .pointer (some ⟨P, 0, none⟩) ∧ Blk wx P #[.int .i64 (S.o id).kind, .string (S.o id).s, .string (S.o id).t, .int .i64 (S.o id).n, .int .i64 (S.o id).m, .bool (S.o id).flag, .slice none 0 0, .int .i64 p, .int .i64 (S.first id), .int .i64 (S.last id), .int .i64 (-1), .int .i64 (-1)] 56 ∧ AR wx A g cap S ∧ Only (two A g) w wx)
  case first =>
    go_wp2
    go_meet
    have e := hPn.out
    subst e
    exact ⟨rfl, Blk.new _ _ _, h.below ((Below.refl _ _).alloc (Nat.le_refl _) _), Only.of_below ((Below.refl _ _).alloc (Nat.le_refl _) _)⟩
  obtain ⟨rfl, K0, h0, o0⟩ := hcut
  clear c0 c1 c2 c3 c4 c5 c6 c7 c8 c9 c10 c11 cA hA hg HP
  have cA : wc.cell? ⟨A, 0, none⟩ = some (.slice (some ⟨g, 0, none⟩) S.n cap) := h0.cellA
  have d7 : wc.cell? ⟨P, 7, none⟩ = some (.int .i64 p) := K0.cell 7 rfl
  have d10 : wc.cell? ⟨P, 10, none⟩ = some (.int .i64 (-1)) := K0.cell 10 rfl
  have d11 : wc.cell? ⟨P, 11, none⟩ = some (.int .i64 (-1)) := K0.cell 11 rfl
  have cX := h0.cellg (i := p) (j := 8) hp (by omega)
  have fX := h0.frg (p * 12 + 8)
  go_upto_region 5 with fail
  go_cut [] (fun wx => Blk wx P #[.int .i64 (S.o id).kind, .string (S.o id).s, .string (S.o id).t, .int .i64 (S.o id).n, .int .i64 (S.o id).m, .bool (S.o id).flag, .slice none 0 0, .int .i64 p, .int .i64 (S.first id), .int .i64 (S.last id), .int .i64 (-1), .int .i64 (-1)] 56 ∧ AR wx A g cap ({ S with first := upd S.first p (-1) } : Ar) ∧ Only (two A g) w wx)
  case first =>
    go_region
    all_goals (go_wp2_with fail; go_meet; exact ⟨K0.other (p := ⟨g, p * 12 + 8, none⟩) _ HPA.2, (h0.st_first (-1) hp).drew, (o0.setCell (p := ⟨g, p * 12 + 8, none⟩) (Or.inr rfl) _).drew⟩)
  obtain ⟨K1, h1, o1⟩ := hcut
  clear cA d7 d10 d11 cX fX
  have cA : wc.cell? ⟨A, 0, none⟩ = some (.slice (some ⟨g, 0, none⟩) S.n cap) := h1.cellA
  have d7 : wc.cell? ⟨P, 7, none⟩ = some (.int .i64 p) := K1.cell 7 rfl
  have d10 : wc.cell? ⟨P, 10, none⟩ = some (.int .i64 (-1)) := K1.cell 10 rfl
  have d11 : wc.cell? ⟨P, 11, none⟩ = some (.int .i64 (-1)) := K1.cell 11 rfl
  have cX := h1.cellg (i := p) (j := 9) hp (by omega)
  have fX := h1.frg (p * 12 + 9)
  go_upto_region 8 with fail
  go_cut [] (fun wx => Blk wx P #[.int .i64 (S.o id).kind, .string (S.o id).s, .string (S.o id).t, .int .i64 (S.o id).n, .int .i64 (S.o id).m, .bool (S.o id).flag, .slice none 0 0, .int .i64 p, .int .i64 (S.first id), .int .i64 (S.last id), .int .i64 (-1), .int .i64 (-1)] 56 ∧ AR wx A g cap ({ ({ S with first := upd S.first p (-1) } : Ar) with last := upd S.last p (-1) } : Ar) ∧ Only (two A g) w wx)
  case first =>
    go_region
    all_goals (go_wp2_with fail; go_meet; exact ⟨K1.other (p := ⟨g, p * 12 + 9, none⟩) _ HPA.2, (h1.st_last (-1) hp).drew, (o1.setCell (p := ⟨g, p * 12 + 9, none⟩) (Or.inr rfl) _).drew⟩)
  obtain ⟨K2, h2, o2⟩ := hcut
  clear cA d7 d10 d11 cX fX
  have cA : wc.cell? ⟨A, 0, none⟩ = some (.slice (some ⟨g, 0, none⟩) S.n cap) := h2.cellA
  have cX := h2.cellg (i := id) (j := 7) hid (by omega)
  have fX := h2.frg (id * 12 + 7)
  go_upto_region 10 with fail
  go_cut [] (fun wx => AR wx A g cap ({ ({ ({ S with first := upd S.first p (-1) } : Ar) with last := upd S.last p (-1) } : Ar) with par := upd S.par id (-1) } : Ar) ∧ Only (two A g) w wx)
  case first =>
    go_wp2
    go_meet
    exact ⟨h2.st_par (-1) hid, o2.setCell (p := ⟨g, id * 12 + 7, none⟩) (Or.inr rfl) _⟩
  obtain ⟨h3, o3⟩ := hcut
  clear cA cX fX
  have cA : wc.cell? ⟨A, 0, none⟩ = some (.slice (some ⟨g, 0, none⟩) S.n cap) := h3.cellA
  have cX := h3.cellg (i := id) (j := 10) hid (by omega)
  have fX := h3.frg (id * 12 + 10)
  go_upto_region 11 with fail
  go_cut [] (fun wx => AR wx A g cap ({ ({ ({ ({ S with first := upd S.first p (-1) } : Ar) with last := upd S.last p (-1) } : Ar) with par := upd S.par id (-1) } : Ar) with behind := upd S.behind id (-1) } : Ar) ∧ Only (two A g) w wx)
  case first =>
    go_wp2
    go_meet
    exact ⟨h3.st_behind (-1) hid, o3.setCell (p := ⟨g, id * 12 + 10, none⟩) (Or.inr rfl) _⟩
  obtain ⟨h4, o4⟩ := hcut
  clear cA cX fX
  have cA : wc.cell? ⟨A, 0, none⟩ = some (.slice (some ⟨g, 0, none⟩) S.n cap) := h4.cellA
  have cX := h4.cellg (i := id) (j := 11) hid (by omega)
  have fX := h4.frg (id * 12 + 11)
  go_upto_region 12 with fail
  go_cut [] (fun wx => AR wx A g cap ({ ({ ({ ({ ({ S with first := upd S.first p (-1) } : Ar) with last := upd S.last p (-1) } : Ar) with par := upd S.par id (-1) } : Ar) with behind := upd S.behind id (-1) } : Ar) with before := upd S.before id (-1) } : Ar) ∧ Only (two A g) w wx)
  case first =>
    go_wp2
    go_meet
    exact ⟨h4.st_before (-1) hid, o4.setCell (p := ⟨g, id * 12 + 11, none⟩) (Or.inr rfl) _⟩
  obtain ⟨h5, o5⟩ := hcut
  clear cA cX fX
  go_wp2
  go_ret
  exact ⟨rfl, h5, o5⟩

set_option maxHeartbeats 8000000 in
theorem unlink_ny {w : World} {A g cap : Nat} {S : Ar} {id p : Nat} {y : Nat} (h : AR w A g cap S) (hid : id < S.n) (hp : p < S.n) (hpar : S.par id = (p : Int)) (hb : S.before id = -1) (hk : S.behind id = (y : Int)) (hy : y < S.n) :
    Calls Try.prog 17 #[.pointer (some ⟨A, 0, none⟩), .int .i64 id] w fun e w' => e = .returned (.bool true) ∧ AR w' A g cap (S.unlink id) ∧ Only (two A g) w w' := by
  have HE : S.unlink id = ({ ({ ({ ({ ({ S with first := upd S.first p (y : Int) } : Ar) with before := upd S.before y (-1) } : Ar) with par := upd S.par id (-1) } : Ar) with behind := upd S.behind id (-1) } : Ar) with before := upd (upd S.before y (-1)) id (-1) } : Ar) := by
    unfold Ar.unlink
    have e2 : ¬ (y : Int) = -1 := by omega
    simp only [hb, hk, hpar, if_true, if_neg e2, Int.toNat_natCast]
  rw [HE]
  clear HE
  have HP := Lib.hid (parent_in h hid)
  rw [hpar] at HP
  unfold ptr at HP
  have c0 : w.cell? ⟨g, id * 12, none⟩ = some (.int .i64 (S.o id).kind) := h.cellg (i := id) (j := 0) hid (by omega)
  have c1 : w.cell? ⟨g, id * 12 + 1, none⟩ = some (.string (S.o id).s) := by rw [h.cellg (i := id) (j := 1) hid (by omega)]; rfl
  have c2 : w.cell? ⟨g, id * 12 + 2, none⟩ = some (.string (S.o id).t) := by rw [h.cellg (i := id) (j := 2) hid (by omega)]; rfl
  have c3 : w.cell? ⟨g, id * 12 + 3, none⟩ = some (.int .i64 (S.o id).n) := by rw [h.cellg (i := id) (j := 3) hid (by omega)]; rfl
  have c4 : w.cell? ⟨g, id * 12 + 4, none⟩ = some (.int .i64 (S.o id).m) := by rw [h.cellg (i := id) (j := 4) hid (by omega)]; rfl
  have c5 : w.cell? ⟨g, id * 12 + 5, none⟩ = some (.bool (S.o id).flag) := by rw [h.cellg (i := id) (j := 5) hid (by omega)]; rfl
  have c6 : w.cell? ⟨g, id * 12 + 6, none⟩ = some (.slice none 0 0) := by rw [h.cellg (i := id) (j := 6) hid (by omega)]; rfl
  have c7 : w.cell? ⟨g, id * 12 + 7, none⟩ = some (.int .i64 p) := by rw [h.cellg (i := id) (j := 7) hid (by omega)]; show some (Value.int _ (S.par id)) = _; rw [hpar]
  have c8 : w.cell? ⟨g, id * 12 + 8, none⟩ = some (.int .i64 (S.first id)) := by rw [h.cellg (i := id) (j := 8) hid (by omega)]; rfl
  have c9 : w.cell? ⟨g, id * 12 + 9, none⟩ = some (.int .i64 (S.last id)) := by rw [h.cellg (i := id) (j := 9) hid (by omega)]; rfl
  have c10 : w.cell? ⟨g, id * 12 + 10, none⟩ = some (.int .i64 (y : Int)) := by rw [h.cellg (i := id) (j := 10) hid (by omega)]; show some (Value.int _ (S.behind id)) = _; rw [hk]
  have c11 : w.cell? ⟨g, id * 12 + 11, none⟩ = some (.int .i64 (-1)) := by rw [h.cellg (i := id) (j := 11) hid (by omega)]; show some (Value.int _ (S.before id)) = _; rw [hb]
  have cA := h.cellA
  have hA := h.ltA
  have hg := h.ltg
  have b0 : (id : Int) < (S.n : Int) := by omega
  have b1 : (p : Int) < (S.n : Int) := by omega
  have p1 : ¬ (p : Int) = -1 := by omega
  have p2 : ((p : Int) == -1) = false := by simp
  have b5 : (y : Int) < (S.n : Int) := by omega
  have b6 : ¬ (y : Int) = -1 := by omega
  have b7 : ((y : Int) == -1) = false := by simp
  clear hpar hb hk
  obtain ⟨P, hPn⟩ : ∃ P, Hid (w.heap.size = P) := ⟨_, rfl⟩
  have HPA : P ≠ A ∧ P ≠ g := by have := hPn.out; omega
  go_enter Try.func17, Try.ntmps17
  go_wp2_with fail
  refine HP.out.mono ?_
  rintro e w1 ⟨rfl, rfl⟩
  go_upto_region 3 with fail
  go_cut [5] (fun s5 wx => s5 = .pointer (some ⟨P, 0, none⟩) ∧ Blk wx P #[.int .i64 (S.o id).kind, .string (S.o id).s, .string (S.o id).t, .int .i64 (S.o id).n, .int .i64 (S.o id).m, .bool (S.o id).flag, .slice none 0 0, .int .i64 p, .int .i64 (S.first id), .int .i64 (S.last id), .int .i64 (y : Int), .int .i64 (-1)] 56 ∧ AR wx A g cap S ∧ Only (two A g) w wx)
  case first =>
    go_wp2
    go_meet
    have e := hPn.out
    subst e
    exact ⟨rfl, Blk.new _ _ _, h.below ((Below.refl _ _).alloc (Nat.le_refl _) _), Only.of_below ((Below.refl _ _).alloc (Nat.le_refl _) _)⟩
  obtain ⟨rfl, K0, h0, o0⟩ := hcut
  clear c0 c1 c2 c3 c4 c5 c6 c7 c8 c9 c10 c11 cA hA hg HP
  have cA : wc.cell? ⟨A, 0, none⟩ = some (.slice (some ⟨g, 0, none⟩) S.n cap) := h0.cellA
  have d7 : wc.cell? ⟨P, 7, none⟩ = some (.int .i64 p) := K0.cell 7 rfl
  have d10 : wc.cell? ⟨P, 10, none⟩ = some (.int .i64 (y : Int)) := K0.cell 10 rfl
  have d11 : wc.cell? ⟨P, 11, none⟩ = some (.int .i64 (-1)) := K0.cell 11 rfl
  have cX := h0.cellg (i := p) (j := 8) hp (by omega)
  have fX := h0.frg (p * 12 + 8)
  go_upto_region 5 with fail
  go_cut [] (fun wx => Blk wx P #[.int .i64 (S.o id).kind, .string (S.o id).s, .string (S.o id).t, .int .i64 (S.o id).n, .int .i64 (S.o id).m, .bool (S.o id).flag, .slice none 0 0, .int .i64 p, .int .i64 (S.first id), .int .i64 (S.last id), .int .i64 (y : Int), .int .i64 (-1)] 56 ∧ AR wx A g cap ({ S with first := upd S.first p (y : Int) } : Ar) ∧ Only (two A g) w wx)
  case first =>
    go_region
    all_goals (go_wp2_with fail; go_meet; exact ⟨K0.other (p := ⟨g, p * 12 + 8, none⟩) _ HPA.2, (h0.st_first (y : Int) hp).drew, (o0.setCell (p := ⟨g, p * 12 + 8, none⟩) (Or.inr rfl) _).drew⟩)
  obtain ⟨K1, h1, o1⟩ := hcut
  clear cA d7 d10 d11 cX fX
  have cA : wc.cell? ⟨A, 0, none⟩ = some (.slice (some ⟨g, 0, none⟩) S.n cap) := h1.cellA
  have d7 : wc.cell? ⟨P, 7, none⟩ = some (.int .i64 p) := K1.cell 7 rfl
  have d10 : wc.cell? ⟨P, 10, none⟩ = some (.int .i64 (y : Int)) := K1.cell 10 rfl
  have d11 : wc.cell? ⟨P, 11, none⟩ = some (.int .i64 (-1)) := K1.cell 11 rfl
  have cX := h1.cellg (i := y) (j := 11) hy (by omega)
  have fX := h1.frg (y * 12 + 11)
  go_upto_region 9 with fail
  go_cut [] (fun wx => Blk wx P #[.int .i64 (S.o id).kind, .string (S.o id).s, .string (S.o id).t, .int .i64 (S.o id).n, .int .i64 (S.o id).m, .bool (S.o id).flag, .slice none 0 0, .int .i64 p, .int .i64 (S.first id), .int .i64 (S.last id), .int .i64 (y : Int), .int .i64 (-1)] 56 ∧ AR wx A g cap ({ ({ S with first := upd S.first p (y : Int) } : Ar) with before := upd S.before y (-1) } : Ar) ∧ Only (two A g) w wx)
  case first =>
    go_region
    all_goals (go_wp2_with fail; go_meet; exact ⟨K1.other (p := ⟨g, y * 12 + 11, none⟩) _ HPA.2, (h1.st_before (-1) hy).drew, (o1.setCell (p := ⟨g, y * 12 + 11, none⟩) (Or.inr rfl) _).drew⟩)
  obtain ⟨K2, h2, o2⟩ := hcut
  clear cA d7 d10 d11 cX fX
  have cA : wc.cell? ⟨A, 0, none⟩ = some (.slice (some ⟨g, 0, none⟩) S.n cap) := h2.cellA
  have cX := h2.cellg (i := id) (j := 7) hid (by omega)
  have fX := h2.frg (id * 12 + 7)
  go_upto_region 10 with fail
  go_cut [] (fun wx => AR wx A g cap ({ ({ ({ S with first := upd S.first p (y : Int) } : Ar) with before := upd S.before y (-1) } : Ar) with par := upd S.par id (-1) } : Ar) ∧ Only (two A g) w wx)
  case first =>
    go_wp2
    go_meet
    exact ⟨h2.st_par (-1) hid, o2.setCell (p := ⟨g, id * 12 + 7, none⟩) (Or.inr rfl) _⟩
  obtain ⟨h3, o3⟩ := hcut
  clear cA cX fX
  have cA : wc.cell? ⟨A, 0, none⟩ = some (.slice (some ⟨g, 0, none⟩) S.n cap) := h3.cellA
  have cX := h3.cellg (i := id) (j := 10) hid (by omega)
  have fX := h3.frg (id * 12 + 10)
  go_upto_region 11 with fail
  go_cut [] (fun wx => AR wx A g cap ({ ({ ({ ({ S with first := upd S.first p (y : Int) } : Ar) with before := upd S.before y (-1) } : Ar) with par := upd S.par id (-1) } : Ar) with behind := upd S.behind id (-1) } : Ar) ∧ Only (two A g) w wx)
  case first =>
    go_wp2
    go_meet
    exact ⟨h3.st_behind (-1) hid, o3.setCell (p := ⟨g, id * 12 + 10, none⟩) (Or.inr rfl) _⟩
  obtain ⟨h4, o4⟩ := hcut
  clear cA cX fX
  have cA : wc.cell? ⟨A, 0, none⟩ = some (.slice (some ⟨g, 0, none⟩) S.n cap) := h4.cellA
  have cX := h4.cellg (i := id) (j := 11) hid (by omega)
  have fX := h4.frg (id * 12 + 11)
  go_upto_region 12 with fail
  go_cut [] (fun wx => AR wx A g cap ({ ({ ({ ({ ({ S with first := upd S.first p (y : Int) } : Ar) with before := upd S.before y (-1) } : Ar) with par := upd S.par id (-1) } : Ar) with behind := upd S.behind id (-1) } : Ar) with before := upd (upd S.before y (-1)) id (-1) } : Ar) ∧ Only (two A g) w wx)
  case first =>
    go_wp2
    go_meet
    exact ⟨h4.st_before (-1) hid, o4.setCell (p := ⟨g, id * 12 + 11, none⟩) (Or.inr rfl) _⟩
  obtain ⟨h5, o5⟩ := hcut
  clear cA cX fX
  go_wp2
  go_ret
  exact ⟨rfl, h5, o5⟩

set_option maxHeartbeats 8000000 in
theorem unlink_xn {w : World} {A g cap : Nat} {S : Ar} {id p : Nat} {x : Nat} (h : AR w A g cap S) (hid : id < S.n) (hp : p < S.n) (hpar : S.par id = (p : Int)) (hb : S.before id = (x : Int)) (hx : x < S.n) (hk : S.behind id = -1) :
    Calls Try.prog 17 #[.pointer (some ⟨A, 0, none⟩), .int .i64 id] w fun e w' => e = .returned (.bool true) ∧ AR w' A g cap (S.unlink id) ∧ Only (two A g) w w' := by
  have HE : S.unlink id = ({ ({ ({ ({ ({ S with behind := upd S.behind x (-1) } : Ar) with last := upd S.last p (x : Int) } : Ar) with par := upd S.par id (-1) } : Ar) with behind := upd (upd S.behind x (-1)) id (-1) } : Ar) with before := upd S.before id (-1) } : Ar) := by
    unfold Ar.unlink
    have e1 : ¬ (x : Int) = -1 := by omega
    simp only [hb, hk, hpar, if_true, if_neg e1, Int.toNat_natCast]
  rw [HE]
  clear HE
  have HP := Lib.hid (parent_in h hid)
  rw [hpar] at HP
  unfold ptr at HP
  have c0 : w.cell? ⟨g, id * 12, none⟩ = some (.int .i64 (S.o id).kind) := h.cellg (i := id) (j := 0) hid (by omega)
  have c1 : w.cell? ⟨g, id * 12 + 1, none⟩ = some (.string (S.o id).s) := by rw [h.cellg (i := id) (j := 1) hid (by omega)]; rfl
  have c2 : w.cell? ⟨g, id * 12 + 2, none⟩ = some (.string (S.o id).t) := by rw [h.cellg (i := id) (j := 2) hid (by omega)]; rfl
  have c3 : w.cell? ⟨g, id * 12 + 3, none⟩ = some (.int .i64 (S.o id).n) := by rw [h.cellg (i := id) (j := 3) hid (by omega)]; rfl
  have c4 : w.cell? ⟨g, id * 12 + 4, none⟩ = some (.int .i64 (S.o id).m) := by rw [h.cellg (i := id) (j := 4) hid (by omega)]; rfl
  have c5 : w.cell? ⟨g, id * 12 + 5, none⟩ = some (.bool (S.o id).flag) := by rw [h.cellg (i := id) (j := 5) hid (by omega)]; rfl
  have c6 : w.cell? ⟨g, id * 12 + 6, none⟩ = some (.slice none 0 0) := by rw [h.cellg (i := id) (j := 6) hid (by omega)]; rfl
  have c7 : w.cell? ⟨g, id * 12 + 7, none⟩ = some (.int .i64 p) := by rw [h.cellg (i := id) (j := 7) hid (by omega)]; show some (Value.int _ (S.par id)) = _; rw [hpar]
  have c8 : w.cell? ⟨g, id * 12 + 8, none⟩ = some (.int .i64 (S.first id)) := by rw [h.cellg (i := id) (j := 8) hid (by omega)]; rfl
  have c9 : w.cell? ⟨g, id * 12 + 9, none⟩ = some (.int .i64 (S.last id)) := by rw [h.cellg (i := id) (j := 9) hid (by omega)]; rfl
  have c10 : w.cell? ⟨g, id * 12 + 10, none⟩ = some (.int .i64 (-1)) := by rw [h.cellg (i := id) (j := 10) hid (by omega)]; show some (Value.int _ (S.behind id)) = _; rw [hk]
  have c11 : w.cell? ⟨g, id * 12 + 11, none⟩ = some (.int .i64 (x : Int)) := by rw [h.cellg (i := id) (j := 11) hid (by omega)]; show some (Value.int _ (S.before id)) = _; rw [hb]
  have cA := h.cellA
  have hA := h.ltA
  have hg := h.ltg
  have b0 : (id : Int) < (S.n : Int) := by omega
  have b1 : (p : Int) < (S.n : Int) := by omega
  have p1 : ¬ (p : Int) = -1 := by omega
  have p2 : ((p : Int) == -1) = false := by simp
  have b2 : (x : Int) < (S.n : Int) := by omega
  have b3 : ¬ (x : Int) = -1 := by omega
  have b4 : ((x : Int) == -1) = false := by simp
  clear hpar hb hk
  obtain ⟨P, hPn⟩ : ∃ P, Hid (w.heap.size = P) := ⟨_, rfl⟩
  have HPA : P ≠ A ∧ P ≠ g := by have := hPn.out; omega
  go_enter Try.func17, Try.ntmps17
  go_wp2_with fail
  refine HP.out.mono ?_
  rintro e w1 ⟨rfl, rfl⟩
  go_upto_region 3 with fail
  go_cut [5] (fun s5 wx => s5 = .pointer (some ⟨P, 0, none⟩) ∧ Blk wx P #[.int .i64 (S.o id).kind, .string (S.o id).s, .string (S.o id).t, .int .i64 (S.o id).n, .int .i64 (S.o id).m, .bool (S.o id).flag, .slice none 0 0, .int .i64 p, .int .i64 (S.first id), .int .i64 (S.last id), .int .i64 (-1), .int .i64 (x : Int)] 56 ∧ AR wx A g cap S ∧ Only (two A g) w wx)
  case first =>
    go_wp2
    go_meet
    have e := hPn.out
    subst e
    exact ⟨rfl, Blk.new _ _ _, h.below ((Below.refl _ _).alloc (Nat.le_refl _) _), Only.of_below ((Below.refl _ _).alloc (Nat.le_refl _) _)⟩
  obtain ⟨rfl, K0, h0, o0⟩ := hcut
  clear c0 c1 c2 c3 c4 c5 c6 c7 c8 c9 c10 c11 cA hA hg HP
  have cA : wc.cell? ⟨A, 0, none⟩ = some (.slice (some ⟨g, 0, none⟩) S.n cap) := h0.cellA
  have d7 : wc.cell? ⟨P, 7, none⟩ = some (.int .i64 p) := K0.cell 7 rfl
  have d10 : wc.cell? ⟨P, 10, none⟩ = some (.int .i64 (-1)) := K0.cell 10 rfl
  have d11 : wc.cell? ⟨P, 11, none⟩ = some (.int .i64 (x : Int)) := K0.cell 11 rfl
  have cX := h0.cellg (i := x) (j := 10) hx (by omega)
  have fX := h0.frg (x * 12 + 10)
  go_upto_region 6 with fail
  go_cut [] (fun wx => Blk wx P #[.int .i64 (S.o id).kind, .string (S.o id).s, .string (S.o id).t, .int .i64 (S.o id).n, .int .i64 (S.o id).m, .bool (S.o id).flag, .slice none 0 0, .int .i64 p, .int .i64 (S.first id), .int .i64 (S.last id), .int .i64 (-1), .int .i64 (x : Int)] 56 ∧ AR wx A g cap ({ S with behind := upd S.behind x (-1) } : Ar) ∧ Only (two A g) w wx)
  case first =>
    go_region
    all_goals (go_wp2_with fail; go_meet; exact ⟨K0.other (p := ⟨g, x * 12 + 10, none⟩) _ HPA.2, (h0.st_behind (-1) hx).drew, (o0.setCell (p := ⟨g, x * 12 + 10, none⟩) (Or.inr rfl) _).drew⟩)
  obtain ⟨K1, h1, o1⟩ := hcut
  clear cA d7 d10 d11 cX fX
  have cA : wc.cell? ⟨A, 0, none⟩ = some (.slice (some ⟨g, 0, none⟩) S.n cap) := h1.cellA
  have d7 : wc.cell? ⟨P, 7, none⟩ = some (.int .i64 p) := K1.cell 7 rfl
  have d10 : wc.cell? ⟨P, 10, none⟩ = some (.int .i64 (-1)) := K1.cell 10 rfl
  have d11 : wc.cell? ⟨P, 11, none⟩ = some (.int .i64 (x : Int)) := K1.cell 11 rfl
  have cX := h1.cellg (i := p) (j := 9) hp (by omega)
  have fX := h1.frg (p * 12 + 9)
  go_upto_region 8 with fail
  go_cut [] (fun wx => Blk wx P #[.int .i64 (S.o id).kind, .string (S.o id).s, .string (S.o id).t, .int .i64 (S.o id).n, .int .i64 (S.o id).m, .bool (S.o id).flag, .slice none 0 0, .int .i64 p, .int .i64 (S.first id), .int .i64 (S.last id), .int .i64 (-1), .int .i64 (x : Int)] 56 ∧ AR wx A g cap ({ ({ S with behind := upd S.behind x (-1) } : Ar) with last := upd S.last p (x : Int) } : Ar) ∧ Only (two A g) w wx)
  case first =>
    go_region
    all_goals (go_wp2_with fail; go_meet; exact ⟨K1.other (p := ⟨g, p * 12 + 9, none⟩) _ HPA.2, (h1.st_last (x : Int) hp).drew, (o1.setCell (p := ⟨g, p * 12 + 9, none⟩) (Or.inr rfl) _).drew⟩)
  obtain ⟨K2, h2, o2⟩ := hcut
  clear cA d7 d10 d11 cX fX
  have cA : wc.cell? ⟨A, 0, none⟩ = some (.slice (some ⟨g, 0, none⟩) S.n cap) := h2.cellA
  have cX := h2.cellg (i := id) (j := 7) hid (by omega)
  have fX := h2.frg (id * 12 + 7)
  go_upto_region 10 with fail
  go_cut [] (fun wx => AR wx A g cap ({ ({ ({ S with behind := upd S.behind x (-1) } : Ar) with last := upd S.last p (x : Int) } : Ar) with par := upd S.par id (-1) } : Ar) ∧ Only (two A g) w wx)
  case first =>
    go_wp2
    go_meet
    exact ⟨h2.st_par (-1) hid, o2.setCell (p := ⟨g, id * 12 + 7, none⟩) (Or.inr rfl) _⟩
  obtain ⟨h3, o3⟩ := hcut
  clear cA cX fX
  have cA : wc.cell? ⟨A, 0, none⟩ = some (.slice (some ⟨g, 0, none⟩) S.n cap) := h3.cellA
  have cX := h3.cellg (i := id) (j := 10) hid (by omega)
  have fX := h3.frg (id * 12 + 10)
  go_upto_region 11 with fail
  go_cut [] (fun wx => AR wx A g cap ({ ({ ({ ({ S with behind := upd S.behind x (-1) } : Ar) with last := upd S.last p (x : Int) } : Ar) with par := upd S.par id (-1) } : Ar) with behind := upd (upd S.behind x (-1)) id (-1) } : Ar) ∧ Only (two A g) w wx)
  case first =>
    go_wp2
    go_meet
    exact ⟨h3.st_behind (-1) hid, o3.setCell (p := ⟨g, id * 12 + 10, none⟩) (Or.inr rfl) _⟩
  obtain ⟨h4, o4⟩ := hcut
  clear cA cX fX
  have cA : wc.cell? ⟨A, 0, none⟩ = some (.slice (some ⟨g, 0, none⟩) S.n cap) := h4.cellA
  have cX := h4.cellg (i := id) (j := 11) hid (by omega)
  have fX := h4.frg (id * 12 + 11)
  go_upto_region 12 with fail
  go_cut [] (fun wx => AR wx A g cap ({ ({ ({ ({ ({ S with behind := upd S.behind x (-1) } : Ar) with last := upd S.last p (x : Int) } : Ar) with par := upd S.par id (-1) } : Ar) with behind := upd (upd S.behind x (-1)) id (-1) } : Ar) with before := upd S.before id (-1) } : Ar) ∧ Only (two A g) w wx)
  case first =>
    go_wp2
    go_meet
    exact ⟨h4.st_before (-1) hid, o4.setCell (p := ⟨g, id * 12 + 11, none⟩) (Or.inr rfl) _⟩
  obtain ⟨h5, o5⟩ := hcut
  clear cA cX fX
  go_wp2
  go_ret
  exact ⟨rfl, h5, o5⟩

set_option maxHeartbeats 8000000 in
theorem unlink_xy {w : World} {A g cap : Nat} {S : Ar} {id p : Nat} {x : Nat} {y : Nat} (h : AR w A g cap S) (hid : id < S.n) (hp : p < S.n) (hpar : S.par id = (p : Int)) (hb : S.before id = (x : Int)) (hx : x < S.n) (hk : S.behind id = (y : Int)) (hy : y < S.n) :
    Calls Try.prog 17 #[.pointer (some ⟨A, 0, none⟩), .int .i64 id] w fun e w' => e = .returned (.bool true) ∧ AR w' A g cap (S.unlink id) ∧ Only (two A g) w w' := by
  have HE : S.unlink id = ({ ({ ({ ({ ({ S with behind := upd S.behind x (y : Int) } : Ar) with before := upd S.before y (x : Int) } : Ar) with par := upd S.par id (-1) } : Ar) with behind := upd (upd S.behind x (y : Int)) id (-1) } : Ar) with before := upd (upd S.before y (x : Int)) id (-1) } : Ar) := by
    unfold Ar.unlink
    have e1 : ¬ (x : Int) = -1 := by omega
    have e2 : ¬ (y : Int) = -1 := by omega
    simp only [hb, hk, hpar, if_neg e1, if_neg e2, Int.toNat_natCast]
  rw [HE]
  clear HE
  have HP := Lib.hid (parent_in h hid)
  rw [hpar] at HP
  unfold ptr at HP
  have c0 : w.cell? ⟨g, id * 12, none⟩ = some (.int .i64 (S.o id).kind) := h.cellg (i := id) (j := 0) hid (by omega)
  have c1 : w.cell? ⟨g, id * 12 + 1, none⟩ = some (.string (S.o id).s) := by rw [h.cellg (i := id) (j := 1) hid (by omega)]; rfl
  have c2 : w.cell? ⟨g, id * 12 + 2, none⟩ = some (.string (S.o id).t) := by rw [h.cellg (i := id) (j := 2) hid (by omega)]; rfl
  have c3 : w.cell? ⟨g, id * 12 + 3, none⟩ = some (.int .i64 (S.o id).n) := by rw [h.cellg (i := id) (j := 3) hid (by omega)]; rfl
  have c4 : w.cell? ⟨g, id * 12 + 4, none⟩ = some (.int .i64 (S.o id).m) := by rw [h.cellg (i := id) (j := 4) hid (by omega)]; rfl
  have c5 : w.cell? ⟨g, id * 12 + 5, none⟩ = some (.bool (S.o id).flag) := by rw [h.cellg (i := id) (j := 5) hid (by omega)]; rfl
  have c6 : w.cell? ⟨g, id * 12 + 6, none⟩ = some (.slice none 0 0) := by rw [h.cellg (i := id) (j := 6) hid (by omega)]; rfl
  have c7 : w.cell? ⟨g, id * 12 + 7, none⟩ = some (.int .i64 p) := by rw [h.cellg (i := id) (j := 7) hid (by omega)]; show some (Value.int _ (S.par id)) = _; rw [hpar]
  have c8 : w.cell? ⟨g, id * 12 + 8, none⟩ = some (.int .i64 (S.first id)) := by rw [h.cellg (i := id) (j := 8) hid (by omega)]; rfl
  have c9 : w.cell? ⟨g, id * 12 + 9, none⟩ = some (.int .i64 (S.last id)) := by rw [h.cellg (i := id) (j := 9) hid (by omega)]; rfl
  have c10 : w.cell? ⟨g, id * 12 + 10, none⟩ = some (.int .i64 (y : Int)) := by rw [h.cellg (i := id) (j := 10) hid (by omega)]; show some (Value.int _ (S.behind id)) = _; rw [hk]
  have c11 : w.cell? ⟨g, id * 12 + 11, none⟩ = some (.int .i64 (x : Int)) := by rw [h.cellg (i := id) (j := 11) hid (by omega)]; show some (Value.int _ (S.before id)) = _; rw [hb]
  have cA := h.cellA
  have hA := h.ltA
  have hg := h.ltg
  have b0 : (id : Int) < (S.n : Int) := by omega
  have b1 : (p : Int) < (S.n : Int) := by omega
  have p1 : ¬ (p : Int) = -1 := by omega
  have p2 : ((p : Int) == -1) = false := by simp
  have b2 : (x : Int) < (S.n : Int) := by omega
  have b3 : ¬ (x : Int) = -1 := by omega
  have b4 : ((x : Int) == -1) = false := by simp
  have b5 : (y : Int) < (S.n : Int) := by omega
  have b6 : ¬ (y : Int) = -1 := by omega
  have b7 : ((y : Int) == -1) = false := by simp
  clear hpar hb hk
  obtain ⟨P, hPn⟩ : ∃ P, Hid (w.heap.size = P) := ⟨_, rfl⟩
  have HPA : P ≠ A ∧ P ≠ g := by have := hPn.out; omega
  go_enter Try.func17, Try.ntmps17
  go_wp2_with fail
  refine HP.out.mono ?_
  rintro e w1 ⟨rfl, rfl⟩
  go_upto_region 3 with fail
  go_cut [5] (fun s5 wx => s5 = .pointer (some ⟨P, 0, none⟩) ∧ Blk wx P #[.int .i64 (S.o id).kind, .string (S.o id).s, .string (S.o id).t, .int .i64 (S.o id).n, .int .i64 (S.o id).m, .bool (S.o id).flag, .slice none 0 0, .int .i64 p, .int .i64 (S.first id), .int .i64 (S.last id), .int .i64 (y : Int), .int .i64 (x : Int)] 56 ∧ AR wx A g cap S ∧ Only (two A g) w wx)
  case first =>
    go_wp2
    go_meet
    have e := hPn.out
    subst e
    exact ⟨rfl, Blk.new _ _ _, h.below ((Below.refl _ _).alloc (Nat.le_refl _) _), Only.of_below ((Below.refl _ _).alloc (Nat.le_refl _) _)⟩
  obtain ⟨rfl, K0, h0, o0⟩ := hcut
  clear c0 c1 c2 c3 c4 c5 c6 c7 c8 c9 c10 c11 cA hA hg HP
  have cA : wc.cell? ⟨A, 0, none⟩ = some (.slice (some ⟨g, 0, none⟩) S.n cap) := h0.cellA
  have d7 : wc.cell? ⟨P, 7, none⟩ = some (.int .i64 p) := K0.cell 7 rfl
  have d10 : wc.cell? ⟨P, 10, none⟩ = some (.int .i64 (y : Int)) := K0.cell 10 rfl
  have d11 : wc.cell? ⟨P, 11, none⟩ = some (.int .i64 (x : Int)) := K0.cell 11 rfl
  have cX := h0.cellg (i := x) (j := 10) hx (by omega)
  have fX := h0.frg (x * 12 + 10)
  go_upto_region 6 with fail
  go_cut [] (fun wx => Blk wx P #[.int .i64 (S.o id).kind, .string (S.o id).s, .string (S.o id).t, .int .i64 (S.o id).n, .int .i64 (S.o id).m, .bool (S.o id).flag, .slice none 0 0, .int .i64 p, .int .i64 (S.first id), .int .i64 (S.last id), .int .i64 (y : Int), .int .i64 (x : Int)] 56 ∧ AR wx A g cap ({ S with behind := upd S.behind x (y : Int) } : Ar) ∧ Only (two A g) w wx)
  case first =>
    go_region
    all_goals (go_wp2_with fail; go_meet; exact ⟨K0.other (p := ⟨g, x * 12 + 10, none⟩) _ HPA.2, (h0.st_behind (y : Int) hx).drew, (o0.setCell (p := ⟨g, x * 12 + 10, none⟩) (Or.inr rfl) _).drew⟩)
  obtain ⟨K1, h1, o1⟩ := hcut
  clear cA d7 d10 d11 cX fX
  have cA : wc.cell? ⟨A, 0, none⟩ = some (.slice (some ⟨g, 0, none⟩) S.n cap) := h1.cellA
  have d7 : wc.cell? ⟨P, 7, none⟩ = some (.int .i64 p) := K1.cell 7 rfl
  have d10 : wc.cell? ⟨P, 10, none⟩ = some (.int .i64 (y : Int)) := K1.cell 10 rfl
  have d11 : wc.cell? ⟨P, 11, none⟩ = some (.int .i64 (x : Int)) := K1.cell 11 rfl
  have cX := h1.cellg (i := y) (j := 11) hy (by omega)
  have fX := h1.frg (y * 12 + 11)
  go_upto_region 9 with fail
  go_cut [] (fun wx => Blk wx P #[.int .i64 (S.o id).kind, .string (S.o id).s, .string (S.o id).t, .int .i64 (S.o id).n, .int .i64 (S.o id).m, .bool (S.o id).flag, .slice none 0 0, .int .i64 p, .int .i64 (S.first id), .int .i64 (S.last id), .int .i64 (y : Int), .int .i64 (x : Int)] 56 ∧ AR wx A g cap ({ ({ S with behind := upd S.behind x (y : Int) } : Ar) with before := upd S.before y (x : Int) } : Ar) ∧ Only (two A g) w wx)
  case first =>
    go_region
    all_goals (go_wp2_with fail; go_meet; exact ⟨K1.other (p := ⟨g, y * 12 + 11, none⟩) _ HPA.2, (h1.st_before (x : Int) hy).drew, (o1.setCell (p := ⟨g, y * 12 + 11, none⟩) (Or.inr rfl) _).drew⟩)
  obtain ⟨K2, h2, o2⟩ := hcut
  clear cA d7 d10 d11 cX fX
  have cA : wc.cell? ⟨A, 0, none⟩ = some (.slice (some ⟨g, 0, none⟩) S.n cap) := h2.cellA
  have cX := h2.cellg (i := id) (j := 7) hid (by omega)
  have fX := h2.frg (id * 12 + 7)
  go_upto_region 10 with fail
  go_cut [] (fun wx => AR wx A g cap ({ ({ ({ S with behind := upd S.behind x (y : Int) } : Ar) with before := upd S.before y (x : Int) } : Ar) with par := upd S.par id (-1) } : Ar) ∧ Only (two A g) w wx)
  case first =>
    go_wp2
    go_meet
    exact ⟨h2.st_par (-1) hid, o2.setCell (p := ⟨g, id * 12 + 7, none⟩) (Or.inr rfl) _⟩
  obtain ⟨h3, o3⟩ := hcut
  clear cA cX fX
  have cA : wc.cell? ⟨A, 0, none⟩ = some (.slice (some ⟨g, 0, none⟩) S.n cap) := h3.cellA
  have cX := h3.cellg (i := id) (j := 10) hid (by omega)
  have fX := h3.frg (id * 12 + 10)
  go_upto_region 11 with fail
  go_cut [] (fun wx => AR wx A g cap ({ ({ ({ ({ S with behind := upd S.behind x (y : Int) } : Ar) with before := upd S.before y (x : Int) } : Ar) with par := upd S.par id (-1) } : Ar) with behind := upd (upd S.behind x (y : Int)) id (-1) } : Ar) ∧ Only (two A g) w wx)
  case first =>
    go_wp2
    go_meet
    exact ⟨h3.st_behind (-1) hid, o3.setCell (p := ⟨g, id * 12 + 10, none⟩) (Or.inr rfl) _⟩
  obtain ⟨h4, o4⟩ := hcut
  clear cA cX fX
  have cA : wc.cell? ⟨A, 0, none⟩ = some (.slice (some ⟨g, 0, none⟩) S.n cap) := h4.cellA
  have cX := h4.cellg (i := id) (j := 11) hid (by omega)
  have fX := h4.frg (id * 12 + 11)
  go_upto_region 12 with fail
  go_cut [] (fun wx => AR wx A g cap ({ ({ ({ ({ ({ S with behind := upd S.behind x (y : Int) } : Ar) with before := upd S.before y (x : Int) } : Ar) with par := upd S.par id (-1) } : Ar) with behind := upd (upd S.behind x (y : Int)) id (-1) } : Ar) with before := upd (upd S.before y (x : Int)) id (-1) } : Ar) ∧ Only (two A g) w wx)
  case first =>
    go_wp2
    go_meet
    exact ⟨h4.st_before (-1) hid, o4.setCell (p := ⟨g, id * 12 + 11, none⟩) (Or.inr rfl) _⟩
  obtain ⟨h5, o5⟩ := hcut
  clear cA cX fX
  go_wp2
  go_ret
  exact ⟨rfl, h5, o5⟩

theorem unlink_true {w : World} {A g cap : Nat} {S : Ar} {ch : Nat → List Nat} (hI : Inv S ch) (h : AR w A g cap S) {id p j : Nat} (hp : p < S.n) (hj : (ch p)[j]? = some id) :
    Calls Try.prog 17 #[ptr A, .int .i64 id] w fun e w' => e = .returned (.bool true) ∧ AR w' A g cap (S.unlink id) ∧ Only (two A g) w w' := by
  have hm := List.mem_of_getElem? hj
  have hid := hI.lt p hp id hm
  have hpar := hI.par p hp id hm
  have eb := hI.before p hp j id hj
  have ek := hI.behind p hp j id hj
  have hB : S.before id = -1 ∨ ∃ x : Nat, S.before id = (x : Int) ∧ x < S.n := by
    rw [eb]
    split
    · exact .inl rfl
    · rcases opt_nat (l := ch p) (i := j - 1) with e | ⟨x, e, ex⟩
      · exact .inl e
      · exact .inr ⟨x, e, hI.lt p hp x (List.mem_of_getElem? ex)⟩
  have hK : S.behind id = -1 ∨ ∃ y : Nat, S.behind id = (y : Int) ∧ y < S.n := by
    rw [ek]
    rcases opt_nat (l := ch p) (i := j + 1) with e | ⟨x, e, ex⟩
    · exact .inl e
    · exact .inr ⟨x, e, hI.lt p hp x (List.mem_of_getElem? ex)⟩
  rcases hB with hb | ⟨x, hb, hx⟩ <;> rcases hK with hk | ⟨y, hk, hy⟩
  · exact unlink_nn h hid hp hpar hb hk
  · exact unlink_ny h hid hp hpar hb hk hy
  · exact unlink_xn h hid hp hpar hb hx hk
  · exact unlink_xy h hid hp hpar hb hx hk hy
end Tr
end Go.Proofs.Ytlpfffioidbkeaa
