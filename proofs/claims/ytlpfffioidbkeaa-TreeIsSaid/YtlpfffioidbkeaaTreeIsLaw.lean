/- TreeIs: the law's walk. -/
import Derived.Test.YtlpfffioidbkeaaTreeX
import Derived.Test.YtlpfffioidbkeaaTreeQ
import Derived.Test.YtlpfffioidbkeaaTreeF
import Derived.Deep.DrawnRows
namespace Go.Proofs.Ytlpfffioidbkeaa
open Go Go.RowKit
namespace TreeIs
open Tr
set_option maxRecDepth 100000
set_option linter.unusedVariables false
set_option linter.unusedSimpArgs false

set_option maxHeartbeats 16000000 in
theorem law_any (T : Tree) (L : Value) (U : Tree) (L' : Value) (w : World) (hin : In w (fun b => b < w.heap.size) T L) (hz : Sz T) (hin' : In w (fun b => b < w.heap.size) U L') (hz' : Sz U) :
    Calls Try.prog 4 #[nodeV T.own L, nodeV U.own L'] w fun e w' => e = .returned (.bool true) ∧ Below w.heap.size w w' := by
  obtain ⟨a, cap, hL, _, _⟩ := hin.slice
  obtain ⟨n, hn⟩ : ∃ n, T.kids.length = n := ⟨_, rfl⟩
  rw [hn] at hL
  subst hL
  obtain ⟨a', cap', hL', _, _⟩ := hin'.slice
  obtain ⟨n', hn'⟩ : ∃ n, U.kids.length = n := ⟨_, rfl⟩
  rw [hn'] at hL'
  subst hL'
  clear hn hn'
  obtain ⟨w0, hw0⟩ : ∃ w0, w0 = (w.alloc (.cells (nodeC T.own (.slice a n cap)) 24)).alloc (.cells (nodeC U.own (.slice a' n' cap')) 24) := ⟨_, rfl⟩
  have hb0 : Below w.heap.size w w0 := by rw [hw0]; exact ((Below.refl _ w).alloc (Nat.le_refl _) _).alloc (by simp) _
  have HX : Hid (Blk w0 w.heap.size (nodeC T.own (.slice a n cap)) 24) := Lib.hid (by rw [hw0]; exact (Blk.new _ _ _).alloc _)
  have HY : Hid (Blk w0 (w.heap.size + 1) (nodeC U.own (.slice a' n' cap')) 24) := Lib.hid (by
    rw [hw0]
    have := Blk.new (w.alloc (.cells (nodeC T.own (.slice a n cap)) 24)) (nodeC U.own (.slice a' n' cap')) 24
    rwa [World.size_alloc] at this)
  have HA := Lib.hid (awake_any w0)
  rw [hw0] at HA
  have HI := Lib.hid (fun W (hW : Below w.heap.size w W) => hin.keep hW)
  have HJ := Lib.hid (fun W (hW : Below w.heap.size w W) => hin'.keep hW)
  have HF := Lib.hid (fun W (hW : Below w.heap.size w W) => few_any (left := 2000) (hin.keep hW) hz (by decide) (by decide))
  have HG := Lib.hid (fun W (hW : Below w.heap.size w W) => few_any (left := 2000) (hin'.keep hW) hz' (by decide) (by decide))
  have HB0 := Lib.hid hb0
  have HCnt := Lib.hid (few_cnt T 2000)
  have HW0 := Lib.hid hw0
  clear hin hz hin' hz' hb0 hw0
  unfold nodeV at HF HG
  unfold nodeC at HA
  unfold nodeV
  generalize few T 2000 = fa at *
  generalize few U 2000 = fb at *
  go_enter Try.func4, Try.ntmps4
  go_wp2_with fail
  refine HA.out.mono ?_
  rintro e w1 ⟨rfl, hb1'⟩
  have hb1 : Below w0.heap.size w0 w1 := by rw [HW0.out]; exact hb1'
  have K1 := HX.out.below hb1
  have M1 := HY.out.below hb1
  have HB1 := Lib.hid (below_later HB0.out hb1)
  have x0 : w1.cell? ⟨w.heap.size, 0, none⟩ = _ := K1.node.c0
  have x1 : w1.cell? ⟨w.heap.size, 1, none⟩ = _ := K1.node.c1
  have x2 : w1.cell? ⟨w.heap.size, 2, none⟩ = _ := K1.node.c2
  have x3 : w1.cell? ⟨w.heap.size, 3, none⟩ = _ := K1.node.c3
  have x4 : w1.cell? ⟨w.heap.size, 4, none⟩ = _ := K1.node.c4
  have x5 : w1.cell? ⟨w.heap.size, 5, none⟩ = _ := K1.node.c5
  have x6 : w1.cell? ⟨w.heap.size, 6, none⟩ = _ := K1.node.c6
  have y0 : w1.cell? ⟨w.heap.size + 1, 0, none⟩ = _ := M1.node.c0
  have y1 : w1.cell? ⟨w.heap.size + 1, 1, none⟩ = _ := M1.node.c1
  have y2 : w1.cell? ⟨w.heap.size + 1, 2, none⟩ = _ := M1.node.c2
  have y3 : w1.cell? ⟨w.heap.size + 1, 3, none⟩ = _ := M1.node.c3
  have y4 : w1.cell? ⟨w.heap.size + 1, 4, none⟩ = _ := M1.node.c4
  have y5 : w1.cell? ⟨w.heap.size + 1, 5, none⟩ = _ := M1.node.c5
  have y6 : w1.cell? ⟨w.heap.size + 1, 6, none⟩ = _ := M1.node.c6
  have HK1 := Lib.hid K1
  have HM1 := Lib.hid M1
  clear K1 M1 hb1 hb1' HA HW0 HX HY
  go_wp2_with fail
  refine (HF.out _ HB1.out).mono ?_
  rintro e w2 ⟨rfl, hb2⟩
  have HB2 := Lib.hid (below_later HB1.out hb2)
  rcases Classical.em (¬ 0 ≤ fa) with hfa | hfa
  · have hd : decide (0 ≤ fa) = false := by simpa using hfa
    rw [hd]
    clear hd hfa
    go_wp2
    go_ret
    exact ⟨rfl, HB2.out⟩
  have hfa : 0 ≤ fa := by omega
  have hd : decide (0 ≤ fa) = true := by simpa using hfa
  rw [hd]
  have hcnt := HCnt.out hfa
  have hdep := dep_le_cnt T
  have hC : T.cnt ≤ 2000 := by omega
  have hD : T.dep ≤ 2000 := by omega
  clear hd hfa hcnt hdep HCnt
  have K2 := HK1.out.below hb2
  have M2 := HM1.out.below hb2
  have x'0 : w2.cell? ⟨w.heap.size, 0, none⟩ = _ := K2.node.c0
  have x'1 : w2.cell? ⟨w.heap.size, 1, none⟩ = _ := K2.node.c1
  have x'2 : w2.cell? ⟨w.heap.size, 2, none⟩ = _ := K2.node.c2
  have x'3 : w2.cell? ⟨w.heap.size, 3, none⟩ = _ := K2.node.c3
  have x'4 : w2.cell? ⟨w.heap.size, 4, none⟩ = _ := K2.node.c4
  have x'5 : w2.cell? ⟨w.heap.size, 5, none⟩ = _ := K2.node.c5
  have x'6 : w2.cell? ⟨w.heap.size, 6, none⟩ = _ := K2.node.c6
  have y'0 : w2.cell? ⟨w.heap.size + 1, 0, none⟩ = _ := M2.node.c0
  have y'1 : w2.cell? ⟨w.heap.size + 1, 1, none⟩ = _ := M2.node.c1
  have y'2 : w2.cell? ⟨w.heap.size + 1, 2, none⟩ = _ := M2.node.c2
  have y'3 : w2.cell? ⟨w.heap.size + 1, 3, none⟩ = _ := M2.node.c3
  have y'4 : w2.cell? ⟨w.heap.size + 1, 4, none⟩ = _ := M2.node.c4
  have y'5 : w2.cell? ⟨w.heap.size + 1, 5, none⟩ = _ := M2.node.c5
  have y'6 : w2.cell? ⟨w.heap.size + 1, 6, none⟩ = _ := M2.node.c6
  have HK2 := Lib.hid K2
  have HM2 := Lib.hid M2
  clear K2 M2 hb2 x0 x1 x2 x3 x4 x5 x6 y0 y1 y2 y3 y4 y5 y6 HK1 HM1 HF
  go_wp2_with fail
  refine (HG.out _ HB2.out).mono ?_
  rintro e w3 ⟨rfl, hb3⟩
  have HB3 := Lib.hid (below_later HB2.out hb3)
  rcases Classical.em (¬ 0 ≤ fb) with hfb | hfb
  · have hd : decide (0 ≤ fb) = false := by simpa using hfb
    rw [hd]
    clear hd hfb
    go_wp2
    go_ret
    exact ⟨rfl, HB3.out⟩
  have hd : decide (0 ≤ fb) = true := by simpa using (show 0 ≤ fb by omega)
  rw [hd]
  clear hd hfb
  have K3 := HK2.out.below hb3
  have M3 := HM2.out.below hb3
  have x0 : w3.cell? ⟨w.heap.size, 0, none⟩ = _ := K3.node.c0
  have x1 : w3.cell? ⟨w.heap.size, 1, none⟩ = _ := K3.node.c1
  have x2 : w3.cell? ⟨w.heap.size, 2, none⟩ = _ := K3.node.c2
  have x3 : w3.cell? ⟨w.heap.size, 3, none⟩ = _ := K3.node.c3
  have x4 : w3.cell? ⟨w.heap.size, 4, none⟩ = _ := K3.node.c4
  have x5 : w3.cell? ⟨w.heap.size, 5, none⟩ = _ := K3.node.c5
  have x6 : w3.cell? ⟨w.heap.size, 6, none⟩ = _ := K3.node.c6
  have y0 : w3.cell? ⟨w.heap.size + 1, 0, none⟩ = _ := M3.node.c0
  have y1 : w3.cell? ⟨w.heap.size + 1, 1, none⟩ = _ := M3.node.c1
  have y2 : w3.cell? ⟨w.heap.size + 1, 2, none⟩ = _ := M3.node.c2
  have y3 : w3.cell? ⟨w.heap.size + 1, 3, none⟩ = _ := M3.node.c3
  have y4 : w3.cell? ⟨w.heap.size + 1, 4, none⟩ = _ := M3.node.c4
  have y5 : w3.cell? ⟨w.heap.size + 1, 5, none⟩ = _ := M3.node.c5
  have y6 : w3.cell? ⟨w.heap.size + 1, 6, none⟩ = _ := M3.node.c6
  have HI3 := Lib.hid (fun W (hW : Below w3.heap.size w3 W) => (HI.out w3 HB3.out).keep hW)
  have HJ3 := Lib.hid (fun W (hW : Below w3.heap.size w3 W) => (HJ.out w3 HB3.out).keep hW)
  have H34 : Hid (∀ W, Below w3.heap.size w3 W → Calls Try.prog 34 #[nodeV T.own (.slice a n cap), nodeV U.own (.slice a' n' cap')] W fun e w' => e = .returned (.bool (same T U)) ∧ Below w3.heap.size w3 w') :=
    Lib.hid (fun W hW => (same_any T U W _ _ (HI3.out W hW) (HJ3.out W hW)).mono fun e w' ⟨h1, h2⟩ => ⟨h1, below_later hW h2⟩)
  have H30 : Hid (∀ W, Below w3.heap.size w3 W → Calls Try.prog 30 #[nodeV T.own (.slice a n cap), nodeV U.own (.slice a' n' cap')] W fun e w' => e = .returned (.bool (same T U)) ∧ Below w3.heap.size w3 w') :=
    Lib.hid (fun W hW => (rsame_any T U W _ _ (HI3.out W hW) (HJ3.out W hW)).mono fun e w' ⟨h1, h2⟩ => ⟨h1, below_later hW h2⟩)
  have H34b : Hid (∀ W, Below w3.heap.size w3 W → Calls Try.prog 34 #[nodeV T.own (.slice a n cap), nodeV T.own (.slice a n cap)] W fun e w' => e = .returned (.bool true) ∧ Below w3.heap.size w3 w') :=
    Lib.hid (fun W hW => (same_any T T W _ _ (HI3.out W hW) (HI3.out W hW)).mono fun e w' ⟨h1, h2⟩ => ⟨h1.trans (ret_bool (same_refl T)), below_later hW h2⟩)
  have H35 : Hid (∀ W, Below w3.heap.size w3 W → Calls Try.prog 35 #[nodeV T.own (.slice a n cap)] W fun e w' => e = .returned (.int .i64 T.cnt) ∧ Below w3.heap.size w3 w') :=
    Lib.hid (fun W hW => (count_any T W _ (HI3.out W hW) (by omega)).mono fun e w' ⟨h1, h2⟩ => ⟨h1, below_later hW h2⟩)
  have H36 : Hid (∀ W, Below w3.heap.size w3 W → Calls Try.prog 36 #[nodeV T.own (.slice a n cap)] W fun e w' => e = .returned (.int .i64 T.cnt) ∧ Below w3.heap.size w3 w') :=
    Lib.hid (fun W hW => (rcount_any T W _ (HI3.out W hW) (by omega)).mono fun e w' ⟨h1, h2⟩ => ⟨h1, below_later hW h2⟩)
  have H37 : Hid (∀ W, Below w3.heap.size w3 W → Calls Try.prog 37 #[nodeV T.own (.slice a n cap)] W fun e w' => e = .returned (.int .i64 T.dep) ∧ Below w3.heap.size w3 w') :=
    Lib.hid (fun W hW => (depth_any T W _ (HI3.out W hW) (by omega)).mono fun e w' ⟨h1, h2⟩ => ⟨h1, below_later hW h2⟩)
  have H38 : Hid (∀ W, Below w3.heap.size w3 W → Calls Try.prog 38 #[nodeV T.own (.slice a n cap)] W fun e w' => e = .returned (.int .i64 T.dep) ∧ Below w3.heap.size w3 w') :=
    Lib.hid (fun W hW => (rdepth_any T W _ (HI3.out W hW) (by omega)).mono fun e w' ⟨h1, h2⟩ => ⟨h1, below_later hW h2⟩)
  have H39 : Hid (∀ W, Below w3.heap.size w3 W → Calls Try.prog 39 #[nodeV T.own (.slice a n cap)] W fun e w' => e = .returned (.bool T.well) ∧ Below w3.heap.size w3 w') :=
    Lib.hid (fun W hW => (well_any (HI3.out W hW)).mono fun e w' ⟨h1, h2⟩ => ⟨h1, below_later hW h2⟩)
  have H40 : Hid (∀ W, Below w3.heap.size w3 W → Calls Try.prog 40 #[nodeV T.own (.slice a n cap)] W fun e w' => e = .returned (.bool T.well) ∧ Below w3.heap.size w3 w') :=
    Lib.hid (fun W hW => (rwell_any (HI3.out W hW)).mono fun e w' ⟨h1, h2⟩ => ⟨h1, below_later hW h2⟩)
  have HS0 : Hid (∀ W, Below w3.heap.size w3 W → (W.cell? ⟨w.heap.size, 0, none⟩ = some (.int .i64 T.own.kind) ∧ W.cell? ⟨w.heap.size, 1, none⟩ = some (.string T.own.s) ∧ W.cell? ⟨w.heap.size, 2, none⟩ = some (.string T.own.t) ∧ W.cell? ⟨w.heap.size, 3, none⟩ = some (.int .i64 T.own.n) ∧ W.cell? ⟨w.heap.size, 4, none⟩ = some (.int .i64 T.own.m) ∧ W.cell? ⟨w.heap.size, 5, none⟩ = some (.bool T.own.flag) ∧ W.cell? ⟨w.heap.size, 6, none⟩ = some (.slice a n cap) ∧ W.cell? ⟨w.heap.size + 1, 0, none⟩ = some (.int .i64 U.own.kind) ∧ W.cell? ⟨w.heap.size + 1, 1, none⟩ = some (.string U.own.s) ∧ W.cell? ⟨w.heap.size + 1, 2, none⟩ = some (.string U.own.t) ∧ W.cell? ⟨w.heap.size + 1, 3, none⟩ = some (.int .i64 U.own.n) ∧ W.cell? ⟨w.heap.size + 1, 4, none⟩ = some (.int .i64 U.own.m) ∧ W.cell? ⟨w.heap.size + 1, 5, none⟩ = some (.bool U.own.flag) ∧ W.cell? ⟨w.heap.size + 1, 6, none⟩ = some (.slice a' n' cap'))) := Lib.hid (fun W hW => ⟨keep_cell hW x0, keep_cell hW x1, keep_cell hW x2, keep_cell hW x3, keep_cell hW x4, keep_cell hW x5, keep_cell hW x6, keep_cell hW y0, keep_cell hW y1, keep_cell hW y2, keep_cell hW y3, keep_cell hW y4, keep_cell hW y5, keep_cell hW y6⟩)
  have HR3 := Lib.hid (Below.refl w3.heap.size w3)
  have hs3 := HB3.out.size
  unfold nodeV at H34 H34b H30 H35 H36 H37 H38 H39 H40
  clear hC hD HI HJ HI3 HJ3 K3 M3 hb3 HK2 HM2 HG HB2 x'0 x'1 x'2 x'3 x'4 x'5 x'6 y'0 y'1 y'2 y'3 y'4 y'5 y'6 x0 x1 x2 x3 x4 x5 x6 y0 y1 y2 y3 y4 y5 y6
  generalize same T U = sm at *
  generalize T.well = tw at *
  generalize T.cnt = tc at *
  generalize T.dep = td at *
  generalize T.own = oT at *
  generalize U.own = oU at *
  go_wp2_with fail
  refine wp_region_quietC (C := fun W => Below w3.heap.size w3 W) (by kernel_rfl) (by kernel_rfl) HR3.out.drew ?_
  iterate 37 (first
    | go_big_quiet_skip
    | (go_big_quiet_want; go_big_quiet_op; go_big_quiet_on)
    | (refine BigFrame.wpQuiet_want rfl (fun K hK => ?_)
       apply Exists.intro
       refine ⟨fun W hW => ?_, hK _ ?_⟩
       · obtain ⟨q0, q1, q2, q3, q4, q5, q6, r0, r1, r2, r3, r4, r5, r6⟩ := HS0.out W hW
         unfold Oper.quietAt
         go_simp
         first
           | exact rfl
           | exact ⟨rfl, rfl⟩
           | (go_at_call_of 34 a'; refine (H34.out W hW).mono ?_; rintro e w2 ⟨rfl, hb2⟩; exact ⟨rfl, hb2⟩)
           | (go_at_call 34; refine (H34b.out W hW).mono ?_; rintro e w2 ⟨rfl, hb2⟩; exact ⟨rfl, hb2⟩)
           | (go_at_call 30; refine (H30.out W hW).mono ?_; rintro e w2 ⟨rfl, hb2⟩; exact ⟨rfl, hb2⟩)
           | (go_at_call 35; refine (H35.out W hW).mono ?_; rintro e w2 ⟨rfl, hb2⟩; exact ⟨rfl, hb2⟩)
           | (go_at_call 36; refine (H36.out W hW).mono ?_; rintro e w2 ⟨rfl, hb2⟩; exact ⟨rfl, hb2⟩)
           | (go_at_call 37; refine (H37.out W hW).mono ?_; rintro e w2 ⟨rfl, hb2⟩; exact ⟨rfl, hb2⟩)
           | (go_at_call 38; refine (H38.out W hW).mono ?_; rintro e w2 ⟨rfl, hb2⟩; exact ⟨rfl, hb2⟩)
           | (go_at_call 39; refine (H39.out W hW).mono ?_; rintro e w2 ⟨rfl, hb2⟩; exact ⟨rfl, hb2⟩)
           | (go_at_call 40; refine (H40.out W hW).mono ?_; rintro e w2 ⟨rfl, hb2⟩; exact ⟨rfl, hb2⟩)
       clear hK K
       try simp only [Act.put, List.setIfInBounds_toArray, List.set_cons_zero, List.set_cons_succ]))
  refine wpQuiet_nil ?_
  intro W hW
  go_wp2
  go_ret
  exact ⟨rfl, HB3.out.trans (hW.mono hs3)⟩
end TreeIs
end Go.Proofs.Ytlpfffioidbkeaa
