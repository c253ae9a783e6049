/- Layer 6: the arena's small calls. -/
import Derived.Test.YtlpfffioidbkeaaTreeG
namespace Go.Proofs.Ytlpfffioidbkeaa
open Go Go.RowKit
namespace Tr
set_option maxRecDepth 100000
set_option linter.unusedVariables false
set_option linter.unusedSimpArgs false

def ptr (A : Nat) : Value := .pointer (some ⟨A, 0, none⟩)
theorem len_any {w : World} {A g cap : Nat} {S : Ar} (h : AR w A g cap S) :
    Calls Try.prog 29 #[ptr A] w fun e w' => e = .returned (.int .i64 S.n) ∧ w = w' := by
  have cA := h.cellA
  unfold ptr
  go_enter Try.func29, Try.ntmps29
  go_wp2
  go_ret
  exact ⟨rfl, rfl⟩
theorem len_nil (w : World) :
    Calls Try.prog 29 #[.pointer none] w fun e w' => e = .returned (.int .i64 0) ∧ w = w' := by
  go_enter Try.func29, Try.ntmps29
  go_wp2
  go_ret
  exact ⟨rfl, rfl⟩
theorem has_any {w : World} {A g cap : Nat} {S : Ar} (h : AR w A g cap S) (id : Int) :
    Calls Try.prog 44 #[ptr A, .int .i64 id] w fun e w' => e = .returned (.bool (decide (0 ≤ id) && decide (id < (S.n : Int)))) ∧ w = w' := by
  have HL := Lib.hid (len_any h)
  unfold ptr at *
  by_cases h0 : 0 ≤ id
  · have h0' : decide (0 ≤ id) = true := by simpa using h0
    rw [h0', Bool.true_and]
    go_enter Try.func44, Try.ntmps44
    go_wp2_with fail
    refine HL.out.mono ?_
    rintro e w1 ⟨rfl, rfl⟩
    go_wp2
    go_ret
    exact ⟨rfl, rfl⟩
  · have h0' : decide (0 ≤ id) = false := by simpa using h0
    rw [h0', Bool.false_and]
    go_enter Try.func44, Try.ntmps44
    go_wp2
    go_ret
    exact ⟨rfl, rfl⟩
theorem has_nil (w : World) (id : Int) :
    Calls Try.prog 44 #[.pointer none, .int .i64 id] w fun e w' => e = .returned (.bool false) ∧ w = w' := by
  have HL := Lib.hid (len_nil w)
  by_cases h0 : 0 ≤ id
  · have h0' : decide (0 ≤ id) = true := by simpa using h0
    have h1' : ¬ id < 0 := by omega
    go_enter Try.func44, Try.ntmps44
    go_wp2_with fail
    refine HL.out.mono ?_
    rintro e w1 ⟨rfl, rfl⟩
    go_wp2
    go_ret
    exact ⟨ret_bool (by simpa using h0), rfl⟩
  · have h0' : decide (0 ≤ id) = false := by simpa using h0
    go_enter Try.func44, Try.ntmps44
    go_wp2
    go_ret
    exact ⟨rfl, rfl⟩
theorem in_true {id : Int} {n : Nat} (h : 0 ≤ id ∧ id < (n : Int)) : (decide (0 ≤ id) && decide (id < (n : Int))) = true := by simpa using h
theorem in_false {id : Int} {n : Nat} (h : ¬ (0 ≤ id ∧ id < (n : Int))) : (decide (0 ≤ id) && decide (id < (n : Int))) = false := by
  rw [Bool.eq_false_iff]; simpa using h
theorem parent_in {w : World} {A g cap : Nat} {S : Ar} (h : AR w A g cap S) {i : Nat} (hi : i < S.n) :
    Calls Try.prog 24 #[ptr A, .int .i64 i] w fun e w' => e = .returned (.int .i64 (S.par i)) ∧ w = w' := by
  have HL := Lib.hid (has_any h i)
  rw [in_true ⟨by omega, by omega⟩] at HL
  have cA := h.cellA
  have c7 : w.cell? ⟨g, i * 12 + 7, none⟩ = some (.int .i64 (S.par i)) := h.cellg hi (by omega)
  have b1 : (i : Int) < (S.n : Int) := by omega
  unfold ptr at *
  go_enter Try.func24, Try.ntmps24
  go_wp2_with fail
  refine HL.out.mono ?_
  rintro e w1 ⟨rfl, rfl⟩
  go_wp2
  go_ret
  exact ⟨rfl, rfl⟩
theorem parent_out {w : World} {A g cap : Nat} {S : Ar} (h : AR w A g cap S) {id : Int} (hi : ¬ (0 ≤ id ∧ id < (S.n : Int))) :
    Calls Try.prog 24 #[ptr A, .int .i64 id] w fun e w' => e = .returned (.int .i64 (-1)) ∧ w = w' := by
  have HL := Lib.hid (has_any h id)
  rw [in_false hi] at HL
  clear hi
  unfold ptr at *
  go_enter Try.func24, Try.ntmps24
  go_wp2_with fail
  refine HL.out.mono ?_
  rintro e w1 ⟨rfl, rfl⟩
  go_wp2
  go_ret
  exact ⟨rfl, rfl⟩
theorem parent_nil (w : World) (id : Int) :
    Calls Try.prog 24 #[.pointer none, .int .i64 id] w fun e w' => e = .returned (.int .i64 (-1)) ∧ w = w' := by
  have HL := Lib.hid (has_nil w id)
  go_enter Try.func24, Try.ntmps24
  go_wp2_with fail
  refine HL.out.mono ?_
  rintro e w1 ⟨rfl, rfl⟩
  go_wp2
  go_ret
  exact ⟨rfl, rfl⟩

/-- A struct that lies in a block as the call's result. -/
theorem results_cell {P : Program} {fn : Func} {tmps : Array Value} {v : Value} {w : World} (t : Tmp) (ty : TypeId) (g : Nat) (hr : fn.results = #[.cell t ty]) (ht : tmps.getD t undef = .pointer (some ⟨g, 0, none⟩))
    (hl : (loadVar ty ⟨g, 0, none⟩).run P w = .ok v w) : (results fn tmps).run P w = .ok v w := by
  have ht2 : tmps[t]?.getD undef = .pointer (some ⟨g, 0, none⟩) := by simpa using ht
  unfold results
  rw [hr]
  simp [ht2, asAddr, hl]

/-- A whole block. -/
def Blk (w : World) (B : Nat) (cs : Array Value) (t : TypeId) : Prop := w.heap[B]? = some (.cells cs t (0, 0))
theorem Blk.lt {w : World} {B : Nat} {cs : Array Value} {t : TypeId} (h : Blk w B cs t) : B < w.heap.size := (Array.getElem?_eq_some_iff.1 h).1
theorem Blk.below {w w' : World} {B : Nat} {cs : Array Value} {t : TypeId} (h : Blk w B cs t) (hb : Below w.heap.size w w') : Blk w' B cs t := (hb.block B h.lt).trans h
theorem Blk.cell {w : World} {B : Nat} {cs : Array Value} {t : TypeId} (h : Blk w B cs t) (k : Nat) {v : Value} (hk : cs[k]? = some v) : w.cell? ⟨B, k, none⟩ = some v := by rw [cell_of_row w B k _ _ _ h]; exact hk
theorem Blk.fr {w : World} {B : Nat} {cs : Array Value} {t : TypeId} (h : Blk w B cs t) (k : Nat) : w.frozen? ⟨B, k, none⟩ = false := frozen_of_row w B k _ _ h
theorem Blk.set {w : World} {B : Nat} {cs cs' : Array Value} {t : TypeId} (h : Blk w B cs t) (k : Nat) (v : Value) (e : cs.setIfInBounds k v = cs') : Blk (w.setCell ⟨B, k, none⟩ v) B cs' t := by
  subst e; exact heap_setCell_same w B k cs t v h
theorem Blk.other {w : World} {B : Nat} {cs : Array Value} {t : TypeId} (h : Blk w B cs t) {p : Addr} (v : Value) (e : B ≠ p.block) : Blk (w.setCell p v) B cs t := (heap_setCell_other w p B v e).trans h
theorem Blk.new (w : World) (cs : Array Value) (t : TypeId) : Blk (w.alloc (.cells cs t)) w.heap.size cs t := heap_alloc_new w _
theorem Blk.alloc {w : World} {B : Nat} {cs : Array Value} {t : TypeId} (h : Blk w B cs t) (o : Obj) : Blk (w.alloc o) B cs t := (Below.heap_alloc w o B h.lt).trans h
def nodeC (o : Own) (L : Value) : Array Value := #[.int .i64 o.kind, .string o.s, .string o.t, .int .i64 o.n, .int .i64 o.m, .bool o.flag, L]
theorem Blk.node {w : World} {B : Nat} {o : Own} {L : Value} {t : TypeId} (h : Blk w B (nodeC o L) t) : CellsAt w B 0 o L :=
  ⟨h.cell 0 rfl, h.cell 1 rfl, h.cell 2 rfl, h.cell 3 rfl, h.cell 4 rfl, h.cell 5 rfl, h.cell 6 rfl⟩
theorem infoNode : (Try.prog.info? 24).map (·.size) = some 7 := by kernel_rfl
def nilO : Own := ⟨0, ⟨#[]⟩, ⟨#[]⟩, 0, 0, false⟩

set_option maxHeartbeats 2000000 in
theorem bare_any (o : Own) (a : Option Addr) (len cap : Nat) (w : World) (h1 : o.s.size ≤ 281474976710656) (h2 : o.t.size ≤ 281474976710656) :
    Calls Try.prog 46 #[nodeV o (.slice a len cap)] w fun e w' => e = .returned (nodeV o (.slice none 0 0)) ∧ Below w.heap.size w w' := by
  have HS := Lib.hid (fun W => clone_any o.s W h1)
  have HT := Lib.hid (fun W => clone_any o.t W h2)
  have HB1 : Blk ((w.alloc (.cells (nodeC o (.slice a len cap)) 24)).alloc (.cells (nodeC nilO (.slice none 0 0)) 24)) w.heap.size (nodeC o (.slice a len cap)) 24 := (Blk.new _ _ _).alloc _
  have HB2 : Blk ((w.alloc (.cells (nodeC o (.slice a len cap)) 24)).alloc (.cells (nodeC nilO (.slice none 0 0)) 24)) (w.heap.size + 1) (nodeC nilO (.slice none 0 0)) 24 := by
    have := Blk.new (w.alloc (.cells (nodeC o (.slice a len cap)) 24)) (nodeC nilO (.slice none 0 0)) 24
    rwa [World.size_alloc] at this
  have HB1 := Lib.hid HB1
  have HB2 := Lib.hid HB2
  have hbw : Below w.heap.size w ((w.alloc (.cells (nodeC o (.slice a len cap)) 24)).alloc (.cells (nodeC nilO (.slice none 0 0)) 24)) := ((Below.refl _ w).alloc (Nat.le_refl _) _).alloc (by simp) _
  have hszw : ((w.alloc (.cells (nodeC o (.slice a len cap)) 24)).alloc (.cells (nodeC nilO (.slice none 0 0)) 24)).heap.size = w.heap.size + 2 := by simp
  have HW := Lib.hid hbw
  have HZ := Lib.hid hszw
  clear hbw hszw
  unfold nodeV
  go_enter Try.func46, Try.ntmps46
  go_wp2_with fail
  refine (HS.out _).mono ?_
  rintro e w1 ⟨rfl, hb1⟩
  have K1 : Blk w1 w.heap.size _ _ := HB1.out.below hb1
  have K2 : Blk w1 (w.heap.size + 1) _ _ := HB2.out.below hb1
  have hbw1 : Below w.heap.size w w1 := HW.out.trans (hb1.mono (HW.out.size))
  have c1 : w1.cell? ⟨w.heap.size, 1, none⟩ = some (.string o.s) := K1.cell 1 rfl
  have c2 : w1.cell? ⟨w.heap.size, 2, none⟩ = some (.string o.t) := K1.cell 2 rfl
  have f1 := fun k => K1.fr k
  have HK1 := Lib.hid K1
  have HK2 := Lib.hid K2
  clear K1 K2 hb1
  go_wp2_with fail
  refine (HT.out _).mono ?_
  rintro e w2 ⟨rfl, hb2⟩
  have K1 : Blk w2 w.heap.size (nodeC o (.slice a len cap)) _ := (HK1.out.set 1 (.string o.s) rfl).below hb2
  have K2 : Blk w2 (w.heap.size + 1) _ _ := (HK2.out.other _ (by simp)).below hb2
  have hbw2 : Below w.heap.size w w2 := (hbw1.setCell (Nat.le_refl _) _).trans (hb2.mono (by simp; exact hbw1.size))
  clear hb2 c1 c2 f1 hbw1
  have c0 : w2.cell? ⟨w.heap.size, 0, none⟩ = _ := K1.node.c0
  have c1 : w2.cell? ⟨w.heap.size, 1, none⟩ = _ := K1.node.c1
  have c2 : w2.cell? ⟨w.heap.size, 2, none⟩ = _ := K1.node.c2
  have c3 : w2.cell? ⟨w.heap.size, 3, none⟩ = _ := K1.node.c3
  have c4 : w2.cell? ⟨w.heap.size, 4, none⟩ = _ := K1.node.c4
  have c5 : w2.cell? ⟨w.heap.size, 5, none⟩ = _ := K1.node.c5
  have c6 : w2.cell? ⟨w.heap.size, 6, none⟩ = _ := K1.node.c6
  have d0 : w2.cell? ⟨w.heap.size + 1, 0, none⟩ = _ := K2.node.c0
  have d1 : w2.cell? ⟨w.heap.size + 1, 1, none⟩ = _ := K2.node.c1
  have d2 : w2.cell? ⟨w.heap.size + 1, 2, none⟩ = _ := K2.node.c2
  have d3 : w2.cell? ⟨w.heap.size + 1, 3, none⟩ = _ := K2.node.c3
  have d4 : w2.cell? ⟨w.heap.size + 1, 4, none⟩ = _ := K2.node.c4
  have d5 : w2.cell? ⟨w.heap.size + 1, 5, none⟩ = _ := K2.node.c5
  have d6 : w2.cell? ⟨w.heap.size + 1, 6, none⟩ = _ := K2.node.c6
  have f1 := fun k => K1.fr k
  have f2 := fun k => K2.fr k
  have HK1 := Lib.hid K1
  have HK2 := Lib.hid K2
  clear K1 K2
  go_wp2
  have R := ((((((((HK2.out.other (p := ⟨w.heap.size, 2, none⟩) (.string o.t) (by simp)).other (p := ⟨w.heap.size, 6, none⟩) (.slice none 0 0) (by simp)).set 0 (.int .i64 o.kind) rfl).set 1 (.string o.s) rfl).set 2 (.string o.t) rfl).set 3 (.int .i64 o.n) rfl).set 4 (.int .i64 o.m) rfl).set 5 (.bool o.flag) rfl).set 6 (.slice none 0 0) rfl
  refine bodyPost_ret (v := nodeV o (.slice none 0 0)) (results_cell_row rfl _ _ (w.heap.size + 1) _ (nodeC o (.slice none 0 0)) (0, 0) _ rfl R Try.underlying24 rfl infoNode) rfl ⟨rfl, ?_⟩
  iterate 9 (refine Below.setCell ?_ (by first | exact Nat.le_refl _ | exact Nat.le_succ _) _)
  exact hbw2

end Tr
end Go.Proofs.Ytlpfffioidbkeaa
