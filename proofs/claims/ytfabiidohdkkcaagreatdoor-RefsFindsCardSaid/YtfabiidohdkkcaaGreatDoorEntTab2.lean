/- The second table of layer 4: an array of 183 structs. -/
import Derived.Test.YtfabiidohdkkcaaGreatDoorShelf
import Derived.Test.YtfabiidohdkkcaaGreatDoorEntTab
import Derived.WalkKit
import Derived.BigCall
import Derived.Below
import Derived.Great.BuildSlice
import Derived.Great.Walk
import Derived.Deep.WholeRow
namespace Go.Proofs.YtfabiidohdkkcaaGreatDoor
open Go Go.RowKit Go.Great
namespace En
set_option maxRecDepth 1000000
set_option linter.unusedVariables false


attribute [local irreducible] wpList Code.wp cellsT builtAll

/-- The cells of a table that holds nothing yet. -/
noncomputable def zerosT : Array Value := match (Tryz.prog.info? 141).bind (·.zero) with
  | some z => z.cells
  | none => #[]

theorem results_cell {P : Program} {fn : Func} {tmps : Array Value} {v : Value} {w : World} (t : Tmp) (ty : TypeId) (g : Nat) (hr : fn.results = #[.cell t ty]) (ht : tmps.getD t undef = .pointer (some ⟨g, 0, none⟩))
    (hl : (loadVar ty ⟨g, 0, none⟩).run P w = .ok v w) : (results fn tmps).run P w = .ok v w := by
  have ht2 : tmps[t]?.getD undef = .pointer (some ⟨g, 0, none⟩) := by simpa using ht
  unfold results
  rw [hr]
  simp [ht2, asAddr, hl]

set_option maxHeartbeats 4000000 in
theorem table_any (w : World) :
    Calls Tryz.prog 134 #[] w fun e w' => e = .returned (.agg cellsT) ∧ w' = w.alloc (.cells cellsT 141) := by
  have hi : (Tryz.prog.info? 141).map (·.size) = some cellsT.size := by as_aux_lemma => kernel_rfl
  refine calls_of_wp Tryz.func134 rfl ?_
  apply wp_seq_k; intro K hK
  apply wp_region_lit
  refine wpList_allocTo rfl (some 0) rfl (.pointer (some ⟨w.heap.size, 0, none⟩)) (.cells zerosT 141) (by as_aux_lemma => kernel_rfl) ?_
  apply wpList_nil
  refine hK _ _ ?_
  clear hK K
  apply wp_seq_k; intro K hK
  apply wp_region_lit
  refine wpList_builtN 184 (by as_aux_lemma => kernel_rfl) ?_
  refine wpList_store_rowTo rfl 141 _ _ rfl rfl w.heap.size cellsT (by as_aux_lemma => kernel_rfl) (by as_aux_lemma => kernel_rfl) 141 zerosT (heap_alloc_last w _) hi (by as_aux_lemma => kernel_rfl) (by as_aux_lemma => kernel_rfl) ?_
  rw [World.setRow_alloc_new]
  apply wpList_nil
  refine hK _ _ ?_
  clear hK K
  apply wp_ret
  refine bodyPost_ret (v := .agg cellsT) ?_ (by as_aux_lemma => kernel_rfl) ⟨rfl, rfl⟩
  exact results_cell 0 141 w.heap.size rfl (by as_aux_lemma => kernel_rfl) (run_loadVar_new (P := Tryz.prog) w 141 cellsT 183 140 Tryz.underlying141 hi)
end En
end Go.Proofs.YtfabiidohdkkcaaGreatDoor
