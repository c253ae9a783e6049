/- Walks of layer 4, the thirteenth part: Names. -/
import Derived.Test.YtgdgaagfambliaaEntL
import Derived.Laws.Tables
import Derived.Laws.Rows
namespace Go.Proofs.Ytgdgaagfambliaa
open Go Go.RowKit Go.Great
namespace En
set_option maxRecDepth 100000
set_option linter.unusedVariables false
set_option linter.unusedSimpArgs false
attribute [local irreducible] cellsT zerosT

/-- So many names that are empty. -/
def emps : Array Value := Array.replicate 183 (.string ⟨#[]⟩)
theorem emps_size : emps.size = 183 := by unfold emps; simp
theorem make_names (w : World) : (Instr.makeSlice 32 (.int .i64 183) (.int .i64 183)).run Try.prog w = .ok (.slice (some ⟨w.heap.size, 0, none⟩) 183 183) (w.alloc (.cells emps 9)) := by kernel_rfl
attribute [local irreducible] emps

/-- A block of names, the first k written. -/
def NB (w : World) (h k : Nat) : Prop := ∃ cs : Array Value, w.heap[h]? = some (.cells cs 9 (0, 0)) ∧ cs.size = 183 ∧ ∀ i, i < k → i < 183 → cs[i]? = some (.string ⟨(rw i).1.toArray⟩)
theorem nb_new (w : World) : NB (w.alloc (.cells emps 9)) w.heap.size 0 := ⟨emps, heap_alloc_last w _, emps_size, fun i h => by omega⟩
theorem nb_old {w : World} {h k : Nat} (hn : NB w h k) (i : Nat) (hi : i < 183) : ∃ u, w.cell? ⟨h, i, none⟩ = some u ∧ w.frozen? ⟨h, i, none⟩ = false := by
  obtain ⟨cs, h1, h2, _⟩ := hn
  refine ⟨cs[i]'(by omega), ?_, frozen_of_row w h i cs _ h1⟩
  rw [cell_of_row w h i cs _ _ h1, Array.getElem?_eq_getElem (by omega)]
theorem nb_set {w : World} {h k : Nat} (hn : NB w h k) (hk : k < 183) : NB (w.setCell ⟨h, k, none⟩ (.string ⟨(rw k).1.toArray⟩)) h (k + 1) := by
  obtain ⟨cs, h1, h2, h3⟩ := hn
  refine ⟨cs.setIfInBounds k (.string ⟨(rw k).1.toArray⟩), ?_, by simpa using h2, fun i hi hi2 => ?_⟩
  · rw [setCell_eq_setRow w h k cs _ _ _ h1]
    exact setRow_heap w h cs _ _ _ h1
  · by_cases e : i = k
    · subst e
      rw [Array.getElem?_setIfInBounds_self_of_lt (by omega)]
    · rw [Array.getElem?_setIfInBounds_ne (Ne.symm e)]
      exact h3 i (by omega) hi2
/-- All names, in a slice. -/
def NamesV (w : World) (e : Ending) : Prop := ∃ h, e = .returned (.slice (some ⟨h, 0, none⟩) 183 183) ∧ ∀ k, k < 183 → w.cell? ⟨h, k, none⟩ = some (.string ⟨(rw k).1.toArray⟩)
theorem nb_end {w : World} {h : Nat} (hn : NB w h 183) : NamesV w (.returned (.slice (some ⟨h, 0, none⟩) 183 183)) := by
  obtain ⟨cs, h1, h2, h3⟩ := hn
  exact ⟨h, rfl, fun k hk => by rw [cell_of_row w h k cs _ _ h1]; exact h3 k hk hk⟩

set_option maxHeartbeats 2000000 in
theorem names_any (w : World) :
    Calls Try.prog 15 #[] w fun e w' => NamesV w' e ∧ Below w.heap.size w w' := by
  have HTab := Lib.hid (fun w => table_any w)
  go_enter Try.func15, Try.ntmps15
  go_wp2_with fail
  refine (HTab.out _).mono ?_
  rintro e w1 ⟨rfl, hw1⟩
  have hb1 : Below w.heap.size w w1 := by rw [hw1]; exact (Below.refl _ w).alloc (Nat.le_refl _) _
  clear hw1
  rename_i K1 hK1 K2 hK2
  show K2 _ _
  refine hK2 _ _ ?_
  refine wpList_allocTo rfl (some 1) rfl (.pointer (some ⟨w1.heap.size, 0, none⟩)) (.cells zerosT 45) (by kernel_rfl) ?_
  refine wpList_store_rowTo rfl 45 _ _ rfl rfl w1.heap.size cellsT rfl rfl 45 zerosT (heap_alloc_last w1 _) tab_info tab_zero tab_one ?_
  rw [World.setRow_alloc_new]
  apply wpList_nil
  refine hK1 _ _ ?_
  clear hK1 hK2 K1 K2
  have HT2 := Lib.hid (tab_new w1 45)
  have HB2 := Lib.hid (hb1.alloc (hb1.size) (.cells cellsT 45))
  have HG := Lib.hid (show w1.heap.size < (w1.alloc (.cells cellsT 45)).heap.size by simp)
  clear hb1 HTab
  generalize w1.alloc (.cells cellsT 45) = w2 at *
  generalize w1.heap.size = g at *
  have hmk := make_names w2
  go_upto_region 3 with fail
  clear hmk
  go_wp2_with fail
  go_loopw [6] (fun v6 wr => ∃ k : Nat, k ≤ 183 ∧ v6 = .int .i64 (k : Int) ∧ Hid (NB wr w2.heap.size k) ∧ Hid (Below w2.heap.size w2 wr)) (fun v6 _ => 183 - (intOf v6).toNat)
  case atStart => exact ⟨0, by decide, rfl, Lib.hid (nb_new w2), Lib.hid ((Below.refl _ w2).alloc (Nat.le_refl _) _)⟩
  case round =>
    obtain ⟨k, hk, rfl, HN, HW⟩ := hrel
    by_cases hlt : k < 183
    · have hlt' : (k : Int) < 183 := by omega
      obtain ⟨u, hu, hf⟩ := nb_old HN.out k hlt
      obtain ⟨hc1, hc2⟩ := HT2.out.below HG.out HW.out k hlt
      have HN2 := Lib.hid (nb_set HN.out hlt)
      have HW2 := Lib.hid (Below.setCell (p := ⟨w2.heap.size, k, none⟩) HW.out (Nat.le_refl _) (.string ⟨(rw k).1.toArray⟩))
      clear hc2
      go_wp2
      go_roundw
      case rel => exact ⟨k + 1, by omega, by go_num, HN2, HW2⟩
      case measure => simp [intOf]; omega
    · obtain rfl : k = 183 := by omega
      have HE := Lib.hid (nb_end HN.out)
      go_wp2
      go_ret
      exact ⟨HE.out, HB2.out.trans (HW.out.mono HB2.out.size)⟩

theorem less_all : ∀ i : Fin 182, Op.bytesLess (rowsT.getD i.val ([], 0)).1 (rowsT.getD (i.val + 1) ([], 0)).1 = true := by decide +kernel
theorem less_at {i : Nat} (h0 : 0 < i) (hi : i < 183) : Op.bytesLess (rw (i - 1)).1 (rw i).1 = true := by
  have := less_all ⟨i - 1, by omega⟩
  unfold En.rw
  simp only at this
  rwa [show i - 1 + 1 = i by omega] at this
end En
end Go.Proofs.Ytgdgaagfambliaa
