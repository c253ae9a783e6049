/- Layer 6: a place that stands alone. -/
import Derived.Test.YtlpfffioidbkeaaTreeH
namespace Go.Proofs.Ytlpfffioidbkeaa
open Go Go.RowKit
namespace Tr
set_option maxRecDepth 100000
set_option linter.unusedVariables false
set_option linter.unusedSimpArgs false

/-- The twelve cells of a place that stands alone. -/
def placeC (o : Own) : Array Value := #[.int .i64 o.kind, .string o.s, .string o.t, .int .i64 o.n, .int .i64 o.m, .bool o.flag, .slice none 0 0, .int .i64 (-1), .int .i64 (-1), .int .i64 (-1), .int .i64 (-1), .int .i64 (-1)]
def placeZ : Array Value := #[.int .i64 0, .string ⟨#[]⟩, .string ⟨#[]⟩, .int .i64 0, .int .i64 0, .bool false, .slice none 0 0, .int .i64 0, .int .i64 0, .int .i64 0, .int .i64 0, .int .i64 0]
theorem infoPlace : (Try.prog.info? 56).map (·.size) = some 12 := by kernel_rfl
set_option maxHeartbeats 2000000 in
theorem alone_any (o : Own) (a : Option Addr) (len cap : Nat) (w : World) (h1 : o.s.size ≤ 281474976710656) (h2 : o.t.size ≤ 281474976710656) :
    Calls Try.prog 42 #[nodeV o (.slice a len cap)] w fun e w' => e = .returned (.agg (placeC o)) ∧ Below w.heap.size w w' := by
  have HS := Lib.hid (fun W => bare_any o a len cap W h1 h2)
  have HB2 : Blk ((w.alloc (.cells (nodeC o (.slice a len cap)) 24)).alloc (.cells placeZ 56)) (w.heap.size + 1) placeZ 56 := by
    have := Blk.new (w.alloc (.cells (nodeC o (.slice a len cap)) 24)) placeZ 56
    rwa [World.size_alloc] at this
  have HB3 := Lib.hid HB2
  clear HB2
  have hbw : Below w.heap.size w ((w.alloc (.cells (nodeC o (.slice a len cap)) 24)).alloc (.cells placeZ 56)) := ((Below.refl _ w).alloc (Nat.le_refl _) _).alloc (by simp) _
  have HW := Lib.hid hbw
  clear hbw
  unfold nodeV at *
  go_enter Try.func42, Try.ntmps42
  go_wp2_with fail
  refine (HS.out _).mono ?_
  rintro e w2 ⟨rfl, hb2⟩
  have K2 : Blk w2 (w.heap.size + 1) _ _ := HB3.out.below hb2
  have hbw2 : Below w.heap.size w w2 := HW.out.trans (hb2.mono (HW.out.size))
  have d0 : w2.cell? ⟨w.heap.size + 1, 0, none⟩ = some (.int .i64 0) := K2.cell 0 rfl
  have d1 : w2.cell? ⟨w.heap.size + 1, 1, none⟩ = some (.string ⟨#[]⟩) := K2.cell 1 rfl
  have d2 : w2.cell? ⟨w.heap.size + 1, 2, none⟩ = some (.string ⟨#[]⟩) := K2.cell 2 rfl
  have d3 : w2.cell? ⟨w.heap.size + 1, 3, none⟩ = some (.int .i64 0) := K2.cell 3 rfl
  have d4 : w2.cell? ⟨w.heap.size + 1, 4, none⟩ = some (.int .i64 0) := K2.cell 4 rfl
  have d5 : w2.cell? ⟨w.heap.size + 1, 5, none⟩ = some (.bool false) := K2.cell 5 rfl
  have d6 : w2.cell? ⟨w.heap.size + 1, 6, none⟩ = some (.slice none 0 0) := K2.cell 6 rfl
  have d7 : w2.cell? ⟨w.heap.size + 1, 7, none⟩ = some (.int .i64 0) := K2.cell 7 rfl
  have d8 : w2.cell? ⟨w.heap.size + 1, 8, none⟩ = some (.int .i64 0) := K2.cell 8 rfl
  have d9 : w2.cell? ⟨w.heap.size + 1, 9, none⟩ = some (.int .i64 0) := K2.cell 9 rfl
  have d10 : w2.cell? ⟨w.heap.size + 1, 10, none⟩ = some (.int .i64 0) := K2.cell 10 rfl
  have d11 : w2.cell? ⟨w.heap.size + 1, 11, none⟩ = some (.int .i64 0) := K2.cell 11 rfl
  have f2 := fun k => K2.fr k
  have HK2 := Lib.hid K2
  clear K2
  go_wp2
  have R0 := Blk.set (cs' := #[.int .i64 o.kind, .string ⟨#[]⟩, .string ⟨#[]⟩, .int .i64 0, .int .i64 0, .bool false, .slice none 0 0, .int .i64 0, .int .i64 0, .int .i64 0, .int .i64 0, .int .i64 0]) HK2.out 0 (.int .i64 o.kind) rfl
  have R1 := Blk.set (cs' := #[.int .i64 o.kind, .string o.s, .string ⟨#[]⟩, .int .i64 0, .int .i64 0, .bool false, .slice none 0 0, .int .i64 0, .int .i64 0, .int .i64 0, .int .i64 0, .int .i64 0]) R0 1 (.string o.s) rfl
  have R2 := Blk.set (cs' := #[.int .i64 o.kind, .string o.s, .string o.t, .int .i64 0, .int .i64 0, .bool false, .slice none 0 0, .int .i64 0, .int .i64 0, .int .i64 0, .int .i64 0, .int .i64 0]) R1 2 (.string o.t) rfl
  have R3 := Blk.set (cs' := #[.int .i64 o.kind, .string o.s, .string o.t, .int .i64 o.n, .int .i64 0, .bool false, .slice none 0 0, .int .i64 0, .int .i64 0, .int .i64 0, .int .i64 0, .int .i64 0]) R2 3 (.int .i64 o.n) rfl
  have R4 := Blk.set (cs' := #[.int .i64 o.kind, .string o.s, .string o.t, .int .i64 o.n, .int .i64 o.m, .bool false, .slice none 0 0, .int .i64 0, .int .i64 0, .int .i64 0, .int .i64 0, .int .i64 0]) R3 4 (.int .i64 o.m) rfl
  have R5 := Blk.set (cs' := #[.int .i64 o.kind, .string o.s, .string o.t, .int .i64 o.n, .int .i64 o.m, .bool o.flag, .slice none 0 0, .int .i64 0, .int .i64 0, .int .i64 0, .int .i64 0, .int .i64 0]) R4 5 (.bool o.flag) rfl
  have R6 := Blk.set (cs' := #[.int .i64 o.kind, .string o.s, .string o.t, .int .i64 o.n, .int .i64 o.m, .bool o.flag, .slice none 0 0, .int .i64 0, .int .i64 0, .int .i64 0, .int .i64 0, .int .i64 0]) R5 6 (.slice none 0 0) rfl
  have R7 := Blk.set (cs' := #[.int .i64 o.kind, .string o.s, .string o.t, .int .i64 o.n, .int .i64 o.m, .bool o.flag, .slice none 0 0, .int .i64 (-1), .int .i64 0, .int .i64 0, .int .i64 0, .int .i64 0]) R6 7 (.int .i64 (-1)) rfl
  have R8 := Blk.set (cs' := #[.int .i64 o.kind, .string o.s, .string o.t, .int .i64 o.n, .int .i64 o.m, .bool o.flag, .slice none 0 0, .int .i64 (-1), .int .i64 (-1), .int .i64 0, .int .i64 0, .int .i64 0]) R7 8 (.int .i64 (-1)) rfl
  have R9 := Blk.set (cs' := #[.int .i64 o.kind, .string o.s, .string o.t, .int .i64 o.n, .int .i64 o.m, .bool o.flag, .slice none 0 0, .int .i64 (-1), .int .i64 (-1), .int .i64 (-1), .int .i64 0, .int .i64 0]) R8 9 (.int .i64 (-1)) rfl
  have R10 := Blk.set (cs' := #[.int .i64 o.kind, .string o.s, .string o.t, .int .i64 o.n, .int .i64 o.m, .bool o.flag, .slice none 0 0, .int .i64 (-1), .int .i64 (-1), .int .i64 (-1), .int .i64 (-1), .int .i64 0]) R9 10 (.int .i64 (-1)) rfl
  have R11 := Blk.set (cs' := #[.int .i64 o.kind, .string o.s, .string o.t, .int .i64 o.n, .int .i64 o.m, .bool o.flag, .slice none 0 0, .int .i64 (-1), .int .i64 (-1), .int .i64 (-1), .int .i64 (-1), .int .i64 (-1)]) R10 11 (.int .i64 (-1)) rfl
  refine bodyPost_ret (v := .agg (placeC o)) (results_cell_row rfl _ _ (w.heap.size + 1) _ (placeC o) (0, 0) _ rfl R11 Try.underlying56 rfl infoPlace) rfl ⟨rfl, ?_⟩
  iterate 12 (refine Below.setCell ?_ (by first | exact Nat.le_refl _ | exact Nat.le_succ _) _)
  exact hbw2
end Tr
end Go.Proofs.Ytlpfffioidbkeaa
