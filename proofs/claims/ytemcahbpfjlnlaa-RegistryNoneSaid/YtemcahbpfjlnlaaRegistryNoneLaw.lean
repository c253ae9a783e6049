/- RegistryNone: calls on a registry that is none. -/
import Derived.Test.YtemcahbpfjlnlaaRegM
namespace Go.Proofs.Ytemcahbpfjlnlaa
open Go Go.RowKit Rg
namespace RegistryNone
set_option maxRecDepth 100000
set_option linter.unusedVariables false
set_option linter.unusedSimpArgs false

set_option maxHeartbeats 4000000 in
theorem law_any (k : Hk) (n b : Int) (w : World) (hk : HkIn k) (hn : wfI n) (hb0 : 0 ≤ b) (hb1 : b ≤ 255) :
    Calls Try.prog 7 #[hookV k, .int .i64 n, .int .u8 b] w fun e w' => e = .returned (.bool true) ∧ Below w.heap.size w w' := by
  have HA := Lib.hid (fun W => awake_any W)
  have H1 := Lib.hid (fun W => step_nil n W)
  have H2 := Lib.hid (fun W => add_nil k W)
  have H3 := Lib.hid (fun W => sorted_nil n W)
  have H4 := Lib.hid (fun W => for_nil n b W)
  have H5 := Lib.hid (fun s W => has_nil s W)
  have H6 := Lib.hid (fun W => steps_nil W)
  have hb0 : Below w.heap.size w (w.alloc (.cells (hookC k) 29)) := (Below.refl _ w).alloc (Nat.le_refl _) _
  have hB := Blk.new w (hookC k) 29
  have HB0 := Lib.hid hb0
  have HBx := Lib.hid hB
  clear hb0 hB
  unfold nilP hookV hookC at H2
  unfold nilP at H1 H3 H4 H5 H6
  unfold hookV hookC
  unfold hookC at HB0 HBx
  go_enter Try.func7, Try.ntmps7
  go_wp2_with fail
  refine (HA.out _).mono ?_
  rintro e w1 ⟨rfl, hb1⟩
  have hw1 : Below w.heap.size w w1 := below_later HB0.out hb1
  have K : Blk w1 w.heap.size _ _ := HBx.out.below hb1
  have k0 : w1.cell? ⟨w.heap.size, 0, none⟩ = some (.string k.name) := K.cell 0 rfl
  have k1 : w1.cell? ⟨w.heap.size, 1, none⟩ = some (.int .i64 k.ph) := K.cell 1 rfl
  have k2 : w1.cell? ⟨w.heap.size, 2, none⟩ = some (.int .i64 k.pri) := K.cell 2 rfl
  have k3 : w1.cell? ⟨w.heap.size, 3, none⟩ = some (.string k.trig) := K.cell 3 rfl
  have k4 : w1.cell? ⟨w.heap.size, 4, none⟩ = some (.int .i64 k.bit) := K.cell 4 rfl
  have HW := Lib.hid hw1
  clear hb1 hw1 HBx K
  have hd0 : ∀ W, Below w1.heap.size w1 W → W.cell? ⟨w.heap.size, 0, none⟩ = some (.string k.name) := fun W hW => keep_cell hW k0
  have HD := Lib.hid hd0
  clear hd0
  by_cases h1 : (300 : Int) < (k.name.size : Int)
  · go_wp2
    go_ret
    exact ⟨rfl, HW.out⟩
  by_cases h2 : (300 : Int) < (k.trig.size : Int)
  · go_wp2
    go_ret
    exact ⟨rfl, HW.out⟩
  go_wp2_with fail
  refine (H1.out _).mono ?_
  rintro e w2 ⟨rfl, rfl⟩
  go_wp2_with fail
  refine (H2.out _).mono ?_
  rintro e w3 ⟨rfl, hb3⟩
  go_wp2_with fail
  refine (H3.out _).mono ?_
  rintro e w4 ⟨rfl, rfl⟩
  go_wp2_with fail
  refine (H4.out _).mono ?_
  rintro e w5 ⟨rfl, hb5⟩
  have hb35 := below_later hb3 hb5
  have e0 := HD.out _ hb35
  go_wp2_with fail
  refine (H5.out _ _).mono ?_
  rintro e w6 ⟨rfl, rfl⟩
  go_wp2_with fail
  refine (H6.out _).mono ?_
  rintro e w7 ⟨rfl, rfl⟩
  have hb := below_later HW.out hb35
  go_wp2
  go_ret
  exact ⟨rfl, hb⟩
end RegistryNone
end Go.Proofs.Ytemcahbpfjlnlaa
