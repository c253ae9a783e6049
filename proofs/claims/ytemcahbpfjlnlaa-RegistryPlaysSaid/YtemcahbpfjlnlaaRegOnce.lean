/- Layer 7: sync.Once around the function that seals a registry. -/
import Derived.Test.YtemcahbpfjlnlaaRegA
import Derived.Test.YtemcahbpfjlnlaaRegLock
import Derived.Defers
import Derived.RegionTactic
import Derived.RegionCalls
import Derived.ChangeAlike
namespace Go.Proofs.Ytemcahbpfjlnlaa
open Go Go.RowKit Go.MuLone
namespace Rg
set_option maxRecDepth 100000
set_option linter.unusedVariables false
set_option linter.unusedSimpArgs false

/-- Done is stored, by a deferred call. -/
theorem store_deferred (a : Addr) (x : Value) (u : FrameMode) (w : World) (hc : w.cell? a = some x) (hz : w.frozen? a = false) :
    CallsD Try.prog 76 #[.pointer (some a), .bool true] u w fun e u' w' => u' = u ∧ (e = .returned (.tuple #[]) ∧ w' = w.drew.setCell a (.int .u32 1)) := by
  have hc' : w.drew.cell? a = some x := by go_simp
  have hz' : w.drew.frozen? a = false := by go_simp
  have hst := run_call_store (P := Try.prog) Try.func89 (by kernel_rfl) (by kernel_rfl) (by kernel_rfl) (by kernel_rfl) (k := .u32) (y := 1) hc' hz'
  go_enter_d Try.func76, Try.ntmps76
  go_wp2
  go_region_calls
  all_goals (go_end0; exact ⟨rfl, rfl⟩)
theorem done_any (a : Addr) (d : Int) (w : World) (h : w.cell? a = some (.int .u32 d)) :
    Calls Try.prog 61 #[.pointer (some a)] w fun e w' => e = .returned (.bool (d != 0)) ∧ w = w' := by
  have hl := run_call_load (P := Try.prog) Try.func75 (by kernel_rfl) (by kernel_rfl) (by kernel_rfl) .u32 (by kernel_rfl) h
  go_enter Try.func61, Try.ntmps61
  go_wp2
  go_ret
  exact ⟨rfl, rfl⟩
/-- What the sealing function must leave of the once. -/
def Once (w : World) (A : Nat) : Prop := w.cell? ⟨A, 4, none⟩ = some (.int .u32 0) ∧ w.cell? ⟨A, 5, none⟩ = some (.int .i32 1) ∧ w.frozen? ⟨A, 4, none⟩ = false ∧ w.frozen? ⟨A, 5, none⟩ = false

theorem slow_any (A x : Nat) (w : World) (Q : World → Prop) (h0 : w.cell? ⟨A, 4, none⟩ = some (.int .u32 0)) (h1 : w.cell? ⟨A, 5, none⟩ = some (.int .i32 0))
    (f1 : w.frozen? ⟨A, 5, none⟩ = false)
    (HF : Calls Try.prog 46 #[ptr x] (w.setCell ⟨A, 5, none⟩ (.int .i32 1)) fun e w' => e = .returned (.tuple #[]) ∧ Once w' A ∧ Q w') :
    Calls Try.prog 62 #[.pointer (some ⟨A, 4, none⟩), .func (.func 46) #[] #[ptr x]] w fun e w' => e = .returned (.tuple #[]) ∧
      ∃ w1, Q w1 ∧ w' = (w1.drew.setCell ⟨A, 4, none⟩ (.int .u32 1)).setCell ⟨A, 5, none⟩ (.int .i32 0) := by
  have HL := Lib.hid (lock_free Try.muLib ⟨A, 5, none⟩ w h1 f1)
  have h0' : (w.setCell ⟨A, 5, none⟩ (.int .i32 1)).cell? ⟨A, 4, none⟩ = some (.int .u32 0) := (World.cell?_setCell_other _ ⟨A, 5, none⟩ ⟨A, 4, none⟩ _ (by simp)).trans h0
  have HD := Lib.hid (done_any ⟨A, 4, none⟩ 0 _ h0')
  have HF := Lib.hid HF
  clear h0 h1 f1 h0'
  unfold ptr at *
  go_enter_defers Try.func62, Try.ntmps62
  go_wp2_with fail
  refine HL.out.mono ?_
  rintro e W1 ⟨rfl, rfl⟩
  go_wp2_with fail
  refine HD.out.mono ?_
  rintro e W2 ⟨rfl, rfl⟩
  go_wp2_with fail
  refine HF.out.mono ?_
  rintro e W3 ⟨rfl, hO, hQ⟩
  go_wp2
  obtain ⟨o0, o1, o2, o3⟩ := hO
  refine leaves_cons (f := 76) (args := #[.pointer (some ⟨A, 4, none⟩), .bool true]) (by simp) (by simp [go_sem]) ?_
  refine (store_deferred ⟨A, 4, none⟩ (.int .u32 0) .returning _ o0 o2).mono ?_
  rintro e u' w'' ⟨rfl, rfl, rfl⟩
  refine leaves_cons (f := 28) (args := #[.pointer (some ⟨A, 5, none⟩)]) (by simp [settle]) (by simp [go_sem]) ?_
  refine (unlock_deferred Try.muLib ⟨A, 5, none⟩ _ _ ?_ (by simp [o3])).mono ?_
  · refine (World.cell?_setCell_other _ ⟨A, 4, none⟩ ⟨A, 5, none⟩ _ (by simp)).trans ?_
    rw [World.cell?_drew]
    exact o1
  rintro e u' w'' ⟨rfl, rfl, rfl⟩
  simp [Leaves, settle, results]
  exact ⟨W3, hQ, rfl⟩
theorem do_first (A x : Nat) (w : World) (Q : World → Prop) (h0 : w.cell? ⟨A, 4, none⟩ = some (.int .u32 0)) (h1 : w.cell? ⟨A, 5, none⟩ = some (.int .i32 0))
    (f1 : w.frozen? ⟨A, 5, none⟩ = false)
    (HF : Calls Try.prog 46 #[ptr x] (w.setCell ⟨A, 5, none⟩ (.int .i32 1)) fun e w' => e = .returned (.tuple #[]) ∧ Once w' A ∧ Q w') :
    Calls Try.prog 45 #[.pointer (some ⟨A, 4, none⟩), .func (.func 46) #[] #[ptr x]] w fun e w' => e = .returned (.tuple #[]) ∧
      ∃ w1, Q w1 ∧ w' = (w1.drew.setCell ⟨A, 4, none⟩ (.int .u32 1)).setCell ⟨A, 5, none⟩ (.int .i32 0) := by
  have HD := Lib.hid (done_any ⟨A, 4, none⟩ 0 w h0)
  have HS := Lib.hid (slow_any A x w Q h0 h1 f1 HF)
  clear h0 h1 f1 HF
  unfold ptr at *
  go_enter Try.func45, Try.ntmps45
  go_wp2_with fail
  refine HD.out.mono ?_
  rintro e W1 ⟨rfl, rfl⟩
  go_wp2_with fail
  refine HS.out.mono ?_
  rintro e W2 ⟨rfl, h⟩
  go_wp2
  first | go_end0 | refine bodyPost_ret (results_none rfl _ _ _) rfl ?_
  exact ⟨rfl, h⟩
theorem do_again (A x : Nat) (w : World) (h0 : w.cell? ⟨A, 4, none⟩ = some (.int .u32 1)) :
    Calls Try.prog 45 #[.pointer (some ⟨A, 4, none⟩), .func (.func 46) #[] #[ptr x]] w fun e w' => e = .returned (.tuple #[]) ∧ w = w' := by
  have HD := Lib.hid (done_any ⟨A, 4, none⟩ 1 w h0)
  clear h0
  unfold ptr at *
  go_enter Try.func45, Try.ntmps45
  go_wp2_with fail
  refine HD.out.mono ?_
  rintro e W1 ⟨rfl, rfl⟩
  go_wp2
  first | go_end0 | refine bodyPost_ret (results_none rfl _ _ _) rfl ?_
  exact ⟨rfl, rfl⟩
/-- seal, the first time. -/
theorem seal_first (A : Nat) (w : World) (Q : World → Prop) (h0 : w.cell? ⟨A, 4, none⟩ = some (.int .u32 0)) (h1 : w.cell? ⟨A, 5, none⟩ = some (.int .i32 0))
    (f1 : w.frozen? ⟨A, 5, none⟩ = false)
    (HF : Calls Try.prog 46 #[ptr w.heap.size] ((w.alloc (.cells #[ptr A] 24)).setCell ⟨A, 5, none⟩ (.int .i32 1)) fun e w' => e = .returned (.tuple #[]) ∧ Once w' A ∧ Q w') :
    Calls Try.prog 36 #[ptr A] w fun e w' => e = .returned (.tuple #[]) ∧
      ∃ w1, Q w1 ∧ w' = (w1.drew.setCell ⟨A, 4, none⟩ (.int .u32 1)).setCell ⟨A, 5, none⟩ (.int .i32 0) := by
  have hb0 : Below w.heap.size w (w.alloc (.cells #[ptr A] 24)) := (Below.refl _ w).alloc (Nat.le_refl _) _
  have hA := World.block_lt_of_cell? w _ h1
  have g1 : (w.alloc (.cells #[ptr A] 24)).frozen? ⟨A, 5, none⟩ = false := by rw [← f1]; exact World.frozen?_of_block (hb0.block _ hA)
  have HD := Lib.hid (do_first A w.heap.size _ Q (keep_cell hb0 h0) (keep_cell hb0 h1) g1 HF)
  have c0 : (w.alloc (.cells #[ptr A] 24)).cell? ⟨w.heap.size, 0, none⟩ = some (ptr A) := (Blk.new w #[ptr A] _).cell 0 rfl
  clear h0 h1 f1 HF g1 hb0
  unfold ptr at *
  go_enter Try.func36, Try.ntmps36
  go_wp2_with fail
  refine HD.out.mono ?_
  rintro e W2 ⟨rfl, h⟩
  go_wp2
  first | go_end0 | refine bodyPost_ret (results_none rfl _ _ _) rfl ?_
  exact ⟨rfl, h⟩
theorem seal_again (A : Nat) (w : World) (h0 : w.cell? ⟨A, 4, none⟩ = some (.int .u32 1)) :
    Calls Try.prog 36 #[ptr A] w fun e w' => e = .returned (.tuple #[]) ∧ Below w.heap.size w w' := by
  have hb0 : Below w.heap.size w (w.alloc (.cells #[ptr A] 24)) := (Below.refl _ w).alloc (Nat.le_refl _) _
  have HD := Lib.hid (do_again A w.heap.size _ (keep_cell hb0 h0))
  have c0 : (w.alloc (.cells #[ptr A] 24)).cell? ⟨w.heap.size, 0, none⟩ = some (ptr A) := (Blk.new w #[ptr A] _).cell 0 rfl
  have HB := Lib.hid hb0
  clear h0 hb0
  unfold ptr at *
  go_enter Try.func36, Try.ntmps36
  go_wp2_with fail
  refine HD.out.mono ?_
  rintro e W2 ⟨rfl, rfl⟩
  go_wp2
  first | go_end0 | refine bodyPost_ret (results_none rfl _ _ _) rfl ?_
  exact ⟨rfl, HB.out⟩
end Rg
end Go.Proofs.Ytemcahbpfjlnlaa
