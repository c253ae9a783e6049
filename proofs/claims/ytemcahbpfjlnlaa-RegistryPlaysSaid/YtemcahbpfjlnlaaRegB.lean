/- Layer 7: the order of hooks, for the library's sort. -/
import Derived.Test.YtemcahbpfjlnlaaRegA
import Derived.Test.YtemcahbpfjlnlaaSortLay
import Derived.Deep.RegionHeld3
import Derived.Deep.DrawnRows
import Derived.Deep.RegionLaw
namespace Go.Proofs.Ytemcahbpfjlnlaa
open Go Go.RowKit Go.Shelf
namespace Rg
attribute [local go_sem ↓] Go.wp_at_zero Go.wp_at_succ
set_option maxRecDepth 100000
set_option linter.unusedVariables false
set_option linter.unusedSimpArgs false

set_option maxHeartbeats 1000000 in
theorem or_any (x y : Int) (g : Nat) (w : World) (c0 : w.cell? ⟨g, 0, none⟩ = some (.int .i64 x)) (c1 : w.cell? ⟨g, 1, none⟩ = some (.int .i64 y)) :
    Calls Try.prog 65 #[.slice (some ⟨g, 0, none⟩) 2 2] w fun e w' => e = .returned (.int .i64 (orI x y)) ∧ w = w' := by
  unfold orI
  go_enter Try.func65, Try.ntmps65
  go_wp2
  refine wp_loop_rounds 3 ?_
  by_cases hx : x = 0
  · have e0 : (x != 0) = false := by simp [hx]
    by_cases hy : y = 0
    · have e1 : (y != 0) = false := by simp [hy]
      rw [rounds_succ]
      go_wp2
      rw [rounds_succ]
      go_wp2
      rw [rounds_succ]
      go_wp2
      go_ret
      exact ⟨by simp [hx, hy], rfl⟩
    · have e1 : (y != 0) = true := by simp [hy]
      rw [rounds_succ]
      go_wp2
      rw [rounds_succ]
      go_wp2
      go_ret
      exact ⟨by simp [hx], rfl⟩
  · have e0 : (x != 0) = true := by simp [hx]
    rw [rounds_succ]
    go_wp2
    go_ret
    exact ⟨by simp [hx], rfl⟩

set_option maxHeartbeats 2000000 in
theorem order_any (a b : Hk) (w : World) :
    Calls Try.prog 48 #[hookV a, hookV b] w fun e w' => e = .returned (.int .i64 (cmpH a b)) ∧ ∃ q os', w' = Go.Sort.grow (w.drewN q) os' := by
  have HC := Lib.hid (fun W => Try.cmp_Compare_int a.pri b.pri W)
  have HS := Lib.hid (fun W => Try.strings_Compare a.name b.name W)
  have HE : Hid (orI (Lib.compareInt a.pri b.pri) (Lib.compareBytes a.name.data.toList b.name.data.toList) = cmpH a b) := Lib.hid rfl
  generalize Lib.compareInt a.pri b.pri = x at *
  generalize Lib.compareBytes a.name.data.toList b.name.data.toList = y at *
  have HW : Hid (∀ W, Below (w.heap.size + 2) ((w.alloc (.cells (hookC a) 29)).alloc (.cells (hookC b) 29)) W → (W.cell? ⟨w.heap.size, 0, none⟩ = some (.string a.name) ∧ W.cell? ⟨w.heap.size, 2, none⟩ = some (.int .i64 a.pri)) ∧ (W.cell? ⟨w.heap.size + 1, 0, none⟩ = some (.string b.name) ∧ W.cell? ⟨w.heap.size + 1, 2, none⟩ = some (.int .i64 b.pri))) := Lib.hid (by
    intro W hW
    have B1 : Blk ((w.alloc (.cells (hookC a) 29)).alloc (.cells (hookC b) 29)) w.heap.size (hookC a) 29 := (Blk.new _ _ _).alloc _
    have B2 : Blk ((w.alloc (.cells (hookC a) 29)).alloc (.cells (hookC b) 29)) (w.heap.size + 1) (hookC b) 29 := by
      have := Blk.new (w.alloc (.cells (hookC a) 29)) (hookC b) 29
      rwa [World.size_alloc] at this
    have hs : ((w.alloc (.cells (hookC a) 29)).alloc (.cells (hookC b) 29)).heap.size = w.heap.size + 2 := by simp
    rw [← hs] at hW
    have K1 := (B1.below hW).hook
    have K2 := (B2.below hW).hook
    exact ⟨⟨K1.c0, K1.c2⟩, ⟨K2.c0, K2.c2⟩⟩)
  have HO := Lib.hid (or_any x y (w.heap.size + 1 + 1) ((((w.alloc (.cells (hookC a) 29)).alloc (.cells (hookC b) 29)).alloc (.cells #[.int .i64 x, .int .i64 y] 3)).drew)
    (by
      have := (Blk.new ((w.alloc (.cells (hookC a) 29)).alloc (.cells (hookC b) 29)) #[.int .i64 x, .int .i64 y] 3).cell 0 rfl
      simp only [World.size_alloc] at this
      exact this)
    (by
      have := (Blk.new ((w.alloc (.cells (hookC a) 29)).alloc (.cells (hookC b) 29)) #[.int .i64 x, .int .i64 y] 3).cell 1 rfl
      simp only [World.size_alloc] at this
      exact this))
  unfold hookC at HW HO
  unfold hookV hookC
  go_enter Try.func48, Try.ntmps48
  go_wp2_with fail
  go_region_held3 (fun W => (W.cell? ⟨w.heap.size, 0, none⟩ = some (.string a.name) ∧ W.cell? ⟨w.heap.size, 2, none⟩ = some (.int .i64 a.pri)) ∧ (W.cell? ⟨w.heap.size + 1, 0, none⟩ = some (.string b.name) ∧ W.cell? ⟨w.heap.size + 1, 2, none⟩ = some (.int .i64 b.pri))) (first | exact HW.out _ (Below.refl _ _).drew | exact HW.out _ ((Below.refl _ _).drew.alloc (by simp) _)) (first
    | (go_at_call 66; refine (HC.out _).mono ?_; rintro e w1 ⟨rfl, rfl⟩)
    | (go_at_call 67; refine (HS.out _).mono ?_; rintro e w1 ⟨rfl, rfl⟩)
    | (go_at_call 65; refine HO.out.mono ?_; rintro e w1 ⟨rfl, rfl⟩))
  all_goals go_wp2
  all_goals go_ret
  all_goals exact ⟨ret_int HE.out, 1, _, by rw [Go.Sort.alloc_eq_grow, Go.Sort.alloc_eq_grow, Go.Sort.alloc_eq_grow, Go.Sort.grow_grow, Go.Sort.grow_grow]; rfl⟩

def encH (h : Hk) : List Value := (hookC h).toList
theorem cmpLays (blk off size : Nat) (w : World) : CmpLays Try.prog 48 #[] encH 5 cmpH blk off size w :=
  fun _ _ _ _ x y => order_any x y _
theorem sort_any (blk cap : Nat) (d : Array Hk) (w : World) (hH : Go.Sort.HoldsK encH 5 w blk 0 d) (hblk : blk < w.heap.size) (hsz : d.size < 4611686018427387904) :
    Calls Try.prog 47 #[.slice (some ⟨blk, 0, none⟩) d.size cap, .func (.func 48) #[] #[]] w fun e w' =>
      e = .returned (.tuple #[]) ∧ ∃ d' n os, Go.Sort.PermIn 0 d.size d d' ∧ Go.Sort.SortedIn (ltOf cmpH) 0 d.size d' ∧ w' = Go.Proofs.sortWorldK encH 5 w blk 0 n d' os := by
  have eg : ∀ args w, (callFunc 48 args).run Try.prog w = .ok (.enter 48 args) w := enters_of Try.func48 (by kernel_rfl) rfl
  exact AnyQ.slices_SortFunc Try.laysSort 5 Try.isAgg29 Try.sizeOf29 encH (fun _ => rfl) (fun x v hv => hookC_one x v hv) cmpH swo 48 #[] blk 0 cap d w eg (cmpLays blk 0 d.size w) hH hblk hsz
end Rg
end Go.Proofs.Ytemcahbpfjlnlaa
