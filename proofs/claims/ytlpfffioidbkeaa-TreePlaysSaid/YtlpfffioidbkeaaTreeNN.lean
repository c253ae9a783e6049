/- Layer 6: the reference's Add. -/
import Derived.Test.YtlpfffioidbkeaaTreeOO
import Derived.Deep.DrawnRows
namespace Go.Proofs.Ytlpfffioidbkeaa
open Go Go.RowKit
namespace Tr
attribute [local go_sem ↓] Go.wp_at_zero Go.wp_at_succ
set_option maxRecDepth 100000
set_option linter.unusedVariables false
set_option linter.unusedSimpArgs false

section
variable {w : World} {R h cap n : Nat} {o : Nat → Own} {kv : Value} {K : List (Nat × Nat)}
/-- Behind the append onto the nodes. -/
def Grn (w W : World) (h cap n : Nat) (o : Nat → Own) (g cp : Nat) : Prop := ∃ w1 xs, xs.length = n * 7 ∧ (∀ i, i < n → ∀ j, j < 7 → xs[i * 7 + j]? = (nodeC (o i) (.slice none 0 0))[j]?) ∧ Below w.heap.size w w1 ∧
  W.ownsRow 0 24 7 (.slice (some ⟨g, 0, none⟩) (n + 1) cp) (n + 1) (xs ++ (nodeC nilO (.slice none 0 0)).toList) ∧ w1.grownBy W (Value.ownBlock (.slice (some ⟨h, 0, none⟩) n cap)) ∧ (Value.ownBlock (.slice (some ⟨h, 0, none⟩) n cap) = some g ∨ g = w1.heap.size)
theorem Grn.below {W W' : World} {g cp : Nat} (H : Grn w W h cap n o g cp) (hb : Below W.heap.size W W') : Grn w W' h cap n o g cp := by
  obtain ⟨w1, xs, h1, h2, h3, h4, h5, h6⟩ := H
  refine ⟨w1, xs, h1, h2, h3, owns_below h4 hb, ⟨hb.os.trans h5.os, hb.tape.trans h5.tape, hb.output.trans h5.output, Nat.le_trans h5.size hb.size, fun i hi hn => ?_⟩, h6⟩
  rw [hb.block i (Nat.lt_of_lt_of_le hi h5.size)]
  exact h5.block i hi hn
theorem Grn.cells {W : World} {g cp : Nat} (H : Grn w W h cap n o g cp) : CellsAt W g (n * 7) nilO (.slice none 0 0) ∧ ∀ k, W.frozen? ⟨g, k, none⟩ = false := by
  obtain ⟨w1, xs, h1, h2, h3, h4, h5, h6⟩ := H
  exact new_cells h1 h4
theorem Grn.blkR {W : World} {g cp : Nat} (G : Grn w W h cap n o g cp) (H : RR w R h cap n o kv K) : Blk W R #[.slice (some ⟨h, 0, none⟩) n cap, kv] 39 := by
  obtain ⟨w1, xs, h1, h2, h3, h4, h5, h6⟩ := G
  exact H.after h3 h5
theorem Grn.ne {W : World} {g cp : Nat} (G : Grn w W h cap n o g cp) (H : RR w R h cap n o kv K) : R ≠ g ∧ g < W.heap.size := by
  obtain ⟨w1, xs, h1, h2, h3, h4, h5, h6⟩ := G
  refine ⟨?_, (h4.lt g rfl).2⟩
  have := H.ltR
  have := h3.size
  rcases h6 with e | e
  · simp only [Value.ownBlock] at e; injection e with e; rw [← e]; exact H.ne
  · omega
theorem Grn.done {W : World} {g cp : Nat} (G : Grn w W h cap n o g cp) (H : RR w R h cap n o kv K) (q : Own) :
    RR ((((((((W.setCell ⟨g, n * 7, none⟩ (.int .i64 q.kind)).setCell ⟨g, n * 7 + 1, none⟩ (.string q.s)).setCell ⟨g, n * 7 + 2, none⟩ (.string q.t)).setCell ⟨g, n * 7 + 3, none⟩ (.int .i64 q.n)).setCell ⟨g, n * 7 + 4, none⟩ (.int .i64 q.m)).setCell ⟨g, n * 7 + 5, none⟩ (.bool q.flag)).setCell ⟨g, n * 7 + 6, none⟩ (.slice none 0 0)).setCell ⟨R, 0, none⟩ (.slice (some ⟨g, 0, none⟩) (n + 1) cp)) R g cp (n + 1) (upd o n q) kv K ∧ (g = h ∨ w.heap.size ≤ g) ∧
    Only (three R h kv) w ((((((((W.setCell ⟨g, n * 7, none⟩ (.int .i64 q.kind)).setCell ⟨g, n * 7 + 1, none⟩ (.string q.s)).setCell ⟨g, n * 7 + 2, none⟩ (.string q.t)).setCell ⟨g, n * 7 + 3, none⟩ (.int .i64 q.n)).setCell ⟨g, n * 7 + 4, none⟩ (.int .i64 q.m)).setCell ⟨g, n * 7 + 5, none⟩ (.bool q.flag)).setCell ⟨g, n * 7 + 6, none⟩ (.slice none 0 0)).setCell ⟨R, 0, none⟩ (.slice (some ⟨g, 0, none⟩) (n + 1) cp)) := by
  obtain ⟨w1, xs, h1, h2, h3, h4, h5, h6⟩ := G
  exact H.grown h1 h2 q h3 h4 h5 h6
theorem RR.afterK (H : RR w R h cap n o kv K) {w1 w3 : World} (hb : Below w.heap.size w w1) (hg : w1.grownBy w3 kv.ownBlock) : Only (fun k => kv.ownBlock = some k) w w3 ∧ Blk w3 R #[.slice (some ⟨h, 0, none⟩) n cap, kv] 39 := H.afterK' hb hg
theorem OpR.after {w wx w' : World} {R h h1 n : Nat} {o : Nat → Own} {kv : Value} {K : List (Nat × Nat)} (o1 : Only (three R h kv) w wx) (hh : h1 = h ∨ w.heap.size ≤ h1) (H : OpR wx w' R h1 kv n o K) : OpR w w' R h kv n o K :=
  OpR.then_ o1 hh (fun k hk => .inl hk) H

theorem blk_grown {W W' : World} {B h n cap : Nat} {cs : Array Value} {t : TypeId} (hb : Blk W B cs t) (hg : W.grownBy W' (Value.ownBlock (.slice (some ⟨h, 0, none⟩) n cap))) (hne : B ≠ h) : Blk W' B cs t :=
  (hg.block B hb.lt (by simp only [Value.ownBlock]; intro e; injection e with e; exact hne e)).trans hb
theorem Grn.far {w1 : World} {g B : Nat} (hat : Value.ownBlock (.slice (some ⟨h, 0, none⟩) n cap) = some g ∨ g = w1.heap.size) (hB : B < w1.heap.size) (hne : B ≠ h) : g ≠ B := by
  rcases hat with e | e
  · simp only [Value.ownBlock] at e; injection e with e; omega
  · omega
set_option maxHeartbeats 40000000 in
theorem radd_in (H : RR w R h cap n o kv K) {p : Nat} (hp : p < n) (hn9 : n ≤ 1000000000) (hfew : K.length ≤ 1000000000) (q : Own) (a : Option Addr) (len cp : Nat) :
    Calls Try.prog 14 #[ptr R, .int .i64 p, nodeV q (.slice a len cp)] w fun e w' => e = .returned (.int .i64 n) ∧ OpR w w' R h kv (n + 1) (upd o n q) (K ++ [(p, n)]) := by
  have HS := Lib.hid (fun W => rbare_any q a len cp W)
  have hb0 : Below w.heap.size w (w.alloc (.cells (nodeC q (.slice a len cp)) 24)) := (Below.refl _ w).alloc (Nat.le_refl _) _
  have HL := Lib.hid (rhas_any (H.below hb0) p)
  rw [in_true ⟨by omega, by omega⟩] at HL
  have HB0 := Lib.hid hb0
  have HX0 : Hid (Blk (w.alloc (.cells (nodeC q (.slice a len cp)) 24)) w.heap.size (nodeC q (.slice a len cp)) 24) := Lib.hid (Blk.new _ _ _)
  have HB1 : Hid (Below w.heap.size w ((w.alloc (.cells (nodeC q (.slice a len cp)) 24)).drew.alloc (.cells (nodeC nilO (.slice none 0 0)) 24))) := Lib.hid (hb0.drew.alloc (by simp) _)
  have HX1 : Hid (Blk ((w.alloc (.cells (nodeC q (.slice a len cp)) 24)).drew.alloc (.cells (nodeC nilO (.slice none 0 0)) 24)) w.heap.size (nodeC q (.slice a len cp)) 24) := Lib.hid (Blk.alloc (Blk.new _ _ _) _)
  have HZ1 : Hid (Blk ((w.alloc (.cells (nodeC q (.slice a len cp)) 24)).drew.alloc (.cells (nodeC nilO (.slice none 0 0)) 24)) (w.heap.size + 1) (nodeC nilO (.slice none 0 0)) 24) := Lib.hid (by
    have := Blk.new (w.alloc (.cells (nodeC q (.slice a len cp)) 24)).drew (nodeC nilO (.slice none 0 0)) 24
    rwa [show (w.alloc (.cells (nodeC q (.slice a len cp)) 24)).drew.heap.size = w.heap.size + 1 by simp [World.drew]] at this)
  have hR0 := (H.below hb0).cell0
  have hRlt := H.ltR
  have hRN : R ≠ w.heap.size := by omega
  have hnn : (n : Int) < (n : Int) + 1 := by omega
  have hhN : w.heap.size ≠ h := by have := H.lth; omega
  obtain ⟨xs, hown, hlen, hxs⟩ := H.owns
  have HO := Lib.hid (fun W (hW : Below w.heap.size w W) => owns_below hown hW)
  have HG : Hid (∀ (w1 w3 : World) (g cp : Nat), Below w.heap.size w w1 → w3.ownsRow 0 24 7 (.slice (some ⟨g, 0, none⟩) (n + 1) cp) (n + 1) (xs ++ (nodeC nilO (.slice none 0 0)).toList) → w1.grownBy w3 (Value.ownBlock (.slice (some ⟨h, 0, none⟩) n cap)) → (Value.ownBlock (.slice (some ⟨h, 0, none⟩) n cap) = some g ∨ g = w1.heap.size) → Grn w w3 h cap n o g cp) := Lib.hid (fun w1 w3 g cp h1 h2 h3 h4 => ⟨w1, xs, hlen, hxs, h1, h2, h3, h4⟩)
  have HQ : Hid (∀ W (g cp : Nat), Grn w W h cap n o g cp → (CellsAt W g (n * 7) nilO (.slice none 0 0) ∧ ∀ k, W.frozen? ⟨g, k, none⟩ = false) ∧ Blk W R #[.slice (some ⟨h, 0, none⟩) n cap, kv] 39 ∧ R ≠ g) := Lib.hid (fun W g cp G => ⟨G.cells, G.blkR H, (G.ne H).1⟩)
  have HRw := Lib.hid H
  have HSb : Hid (∀ W, Blk W w.heap.size (nodeC q (.slice a len cp)) 24 → W.cell? ⟨w.heap.size, 0, none⟩ = some (.int .i64 q.kind) ∧ W.cell? ⟨w.heap.size, 1, none⟩ = some (.string q.s) ∧ W.cell? ⟨w.heap.size, 2, none⟩ = some (.string q.t) ∧ W.cell? ⟨w.heap.size, 3, none⟩ = some (.int .i64 q.n) ∧ W.cell? ⟨w.heap.size, 4, none⟩ = some (.int .i64 q.m) ∧ W.cell? ⟨w.heap.size, 5, none⟩ = some (.bool q.flag) ∧ W.cell? ⟨w.heap.size, 6, none⟩ = some (.slice a len cp)) := Lib.hid (fun W hb => ⟨hb.node.c0, hb.node.c1, hb.node.c2, hb.node.c3, hb.node.c4, hb.node.c5, hb.node.c6⟩)
  obtain ⟨i0, hi, hz0, hz1, hz2⟩ := info_parts nodeInfo
  unfold nodeC nilO at hz0
  obtain ⟨j0, hj, hy0, hy1, hy2⟩ := info_parts pairInfo
  have b0 := HX0.out.node.c0
  have b1 := HX0.out.node.c1
  have b2 := HX0.out.node.c2
  have b3 := HX0.out.node.c3
  have b4 := HX0.out.node.c4
  have b5 := HX0.out.node.c5
  have b6 := HX0.out.node.c6
  clear hb0 H hown hlen hxs
  unfold ptr nodeC at HL
  unfold nodeC at HB0 HX0 hR0 b0 b1 b2 b3 b4 b5 b6
  unfold nodeC nilO at HB1 HX1 HZ1
  unfold nodeV at HS
  unfold ptr nodeV
  go_enter Try.func14, Try.ntmps14
  go_wp2_with fail
  refine HL.out.mono ?_
  rintro e w1 ⟨rfl, rfl⟩
  go_upto_region 3 with fail
  go_cut [] (fun wx => ∃ h' cap', RR wx R h' cap' (n + 1) (upd o n q) kv K ∧ (h' = h ∨ w.heap.size ≤ h') ∧ Only (three R h kv) w wx)
  case first =>
    go_region_law (first
        | (go_simp; go_at_call 43; refine (HS.out _).mono ?_; rintro e w2 ⟨rfl, hb2⟩; first | (have hbw2 := below_later HB0.out.drew hb2; have hbx2 := Blk.below (show Blk (w.alloc _).drew w.heap.size _ _ from HX0.out) hb2; have cA2 := keep_cell hb2 hR0; have hA2 : R < w2.heap.size := Nat.lt_of_lt_of_le hRlt hbw2.size) | (have hbw2 := below_later HB1.out hb2; have hbx2 := HX1.out.below hb2; have hzb2 := HZ1.out.below hb2; have cA2 := (HRw.out.below hbw2).cell0; have hA2 : R < w2.heap.size := Nat.lt_of_lt_of_le hRlt hbw2.size) | (have hgr4 := hgr.below hb2; have hbx4 := hbx3.below hb2; clear hgr hbx3 dd ff hbR cA3 fA3 d0 d1 d2 d3 d4 d5 d6; have hgr := hgr4; have hbx3 := hbx4; obtain ⟨⟨dd, ff⟩, hbR, _⟩ := HQ.out _ _ _ hgr; have cA3 := hbR.cell 0 rfl; have fA3 := hbR.fr 0; have d0 := dd.c0; have d1 := dd.c1; have d2 := dd.c2; have d3 := dd.c3; have d4 := dd.c4; have d5 := dd.c5; have d6 := dd.c6))
        | (refine step_append_lies _ rfl (.tmp 14) (.tmp 18) 22 rfl 0 24 i0 (.agg #[.int .i64 0, .string ⟨#[]⟩, .string ⟨#[]⟩, .int .i64 0, .int .i64 0, .bool false, .slice none 0 0]) 7 88 Try.underlying22 hi hz0 hz1 hz2 rfl (by decide) (.slice (some ⟨h, 0, none⟩) n cap) n xs (by simp [Act.eval, Act.put]) (HO.out _ (hbw2.alloc hbw2.size _)) ⟨w2.heap.size, 0, none⟩ 1 1 (nodeC nilO (.slice none 0 0)).toList (by simp [Act.eval, Act.put]) rfl (World.news_of_block (heap_alloc_new w2 _)) (nodeC_one _ _ _ _) (by decide) (by unfold maxLen; omega) (by omega) (Nat.zero_le _) _ rfl ?_; intro g' cap' w3 hown3 hgrow3 hat3 hlt3; have hgr := HG.out _ _ _ _ (hbw2.alloc hbw2.size _) hown3 hgrow3 hat3; have hbx3 := blk_grown (hbx2.alloc _) hgrow3 hhN; obtain ⟨x0, x1, x2, x3, x4, x5, x6⟩ := HSb.out _ hbx3; have hgN : g' ≠ w.heap.size := Grn.far hat3 (Blk.lt (hbx2.alloc _)) hhN; obtain ⟨⟨dd, ff⟩, hbR, hRg⟩ := HQ.out _ _ _ hgr; have cA3 := hbR.cell 0 rfl; have fA3 := hbR.fr 0; have d0 := dd.c0; have d1 := dd.c1; have d2 := dd.c2; have d3 := dd.c3; have d4 := dd.c4; have d5 := dd.c5; have d6 := dd.c6)
        | (refine step_append_lies _ rfl (.tmp 14) (.tmp 18) 22 rfl 0 24 i0 (.agg #[.int .i64 0, .string ⟨#[]⟩, .string ⟨#[]⟩, .int .i64 0, .int .i64 0, .bool false, .slice none 0 0]) 7 88 Try.underlying22 hi hz0 hz1 hz2 rfl (by decide) (.slice (some ⟨h, 0, none⟩) n cap) n xs (by simp [Act.eval, Act.put]) (HO.out _ hbw2) ⟨w.heap.size + 1, 0, none⟩ 1 1 (nodeC nilO (.slice none 0 0)).toList (by simp [Act.eval, Act.put]) rfl (World.news_of_block (hzb2)) (nodeC_one _ _ _ _) (by decide) (by unfold maxLen; omega) (by omega) (Nat.zero_le _) _ rfl ?_; intro g' cap' w3 hown3 hgrow3 hat3 hlt3; have hgr := HG.out _ _ _ _ (hbw2) hown3 hgrow3 hat3; have hbx3 := blk_grown (hbx2) hgrow3 hhN; obtain ⟨x0, x1, x2, x3, x4, x5, x6⟩ := HSb.out _ hbx3; have hgN : g' ≠ w.heap.size := Grn.far hat3 (Blk.lt (hbx2)) hhN; obtain ⟨⟨dd, ff⟩, hbR, hRg⟩ := HQ.out _ _ _ hgr; have cA3 := hbR.cell 0 rfl; have fA3 := hbR.fr 0; have d0 := dd.c0; have d1 := dd.c1; have d2 := dd.c2; have d3 := dd.c3; have d4 := dd.c4; have d5 := dd.c5; have d6 := dd.c6)
        | (refine step_append_lies _ rfl (.tmp 14) (.tmp 18) 22 rfl 0 24 i0 (.agg #[.int .i64 0, .string ⟨#[]⟩, .string ⟨#[]⟩, .int .i64 0, .int .i64 0, .bool false, .slice none 0 0]) 7 88 Try.underlying22 hi hz0 hz1 hz2 rfl (by decide) (.slice (some ⟨h, 0, none⟩) n cap) n xs (by simp [Act.eval, Act.put]) (HO.out _ HB1.out) ⟨w.heap.size + 1, 0, none⟩ 1 1 (nodeC nilO (.slice none 0 0)).toList (by simp [Act.eval, Act.put]) rfl (World.news_of_block (HZ1.out)) (nodeC_one _ _ _ _) (by decide) (by unfold maxLen; omega) (by omega) (Nat.zero_le _) _ rfl ?_; intro g' cap' w3 hown3 hgrow3 hat3 hlt3; have hgr := HG.out _ _ _ _ (HB1.out) hown3 hgrow3 hat3; have hbx3 := blk_grown (HX1.out) hgrow3 hhN; obtain ⟨x0, x1, x2, x3, x4, x5, x6⟩ := HSb.out _ hbx3; have hgN : g' ≠ w.heap.size := Grn.far hat3 (Blk.lt (HX1.out)) hhN; obtain ⟨⟨dd, ff⟩, hbR, hRg⟩ := HQ.out _ _ _ hgr; have cA3 := hbR.cell 0 rfl; have fA3 := hbR.fr 0; have d0 := dd.c0; have d1 := dd.c1; have d2 := dd.c2; have d3 := dd.c3; have d4 := dd.c4; have d5 := dd.c5; have d6 := dd.c6))
    all_goals
      have hG := Lib.hid (hgr.done HRw.out q)
      clear hgr hown3 hgrow3 hat3 hbx3 dd ff hbR cA3 fA3 d0 d1 d2 d3 d4 d5 d6 x0 x1 x2 x3 x4 x5 x6 HS HO HG HQ HSb HX0 HX1 HZ1 HB1
      go_wp2_with fail
      go_meet
      first
        | with_reducible exact ⟨g', cap', hG.out⟩
        | (rw [setCell_last]; with_reducible exact ⟨g', cap', hG.out⟩; all_goals exact hRg)
  obtain ⟨h1, cap1, H1, hh1, o1⟩ := hcut
  have HR1 := Lib.hid H1
  have HO1 := Lib.hid o1
  have HH1 := Lib.hid hh1
  have hwn : IntKind.i64.wrap (n : Int) = (n : Int) := IntWalk.i64_in _ (by omega)
  have c0 := H1.cell0
  have c1 := H1.cell1
  have hR1 := H1.ltR
  clear HS HL HB0 HB1 HX0 HX1 HZ1 HO HG HQ HSb HRw hR0 b0 b1 b2 b3 b4 b5 b6 H1 hh1 o1
  have HKo : Hid (∀ W, Below wc.heap.size wc W → W.ownsRow 0 53 2 kv K.length (prs K)) := Lib.hid (fun W hW => owns_below HR1.out.hk hW)
  go_upto_region 4 with fail
  go_cut [] (fun wy => OpR w wy R h kv (n + 1) (upd o n q) (K ++ [(p, n)]))
  case first =>
    go_region_law (refine step_append_lies _ rfl (.tmp 27) (.tmp 36) 37 rfl 0 53 j0 (.agg #[.int .i64 0, .int .i64 0]) 2 16 Try.underlying37 hj hy0 hy1 hy2 rfl (by decide) kv K.length (prs K) (by simp [Act.eval, Act.put]) (HKo.out _ ((Below.refl _ _).alloc (Nat.le_refl _) _).drew) ⟨wc.heap.size, 0, none⟩ 1 1 [.int .i64 (p : Int), .int .i64 (n : Int)] (by simp [Act.eval, Act.put]) rfl (World.news_of_block (heap_alloc_new _ _)) (by intro u hu; simp at hu; rcases hu with rfl | rfl <;> rfl) (by decide) (by unfold maxLen; omega) (by omega) (Nat.zero_le _) _ rfl ?_; intro g' cap' w3 hown3 hgrow3 hat3 hlt3; have hblk := (HR1.out.afterK ((Below.refl _ _).alloc (Nat.le_refl _) _).drew hgrow3).2; have cA3 := hblk.cell 1 rfl; have fA3 := hblk.fr 1)
    all_goals
      have HE := Lib.hid (HR1.out.pushK' ((Below.refl _ _).alloc (Nat.le_refl _) _).drew hgrow3 hown3 hat3)
      go_wp2_with fail
      go_meet
      exact OpR.after HO1.out HH1.out HE.out
  have HE := Lib.hid hcut
  obtain ⟨h2, cap2, kv2, H2, _⟩ := hcut
  have c0 := H2.cell0
  clear H2
  go_wp2
  go_ret
  exact ⟨ret_num (by omega), HE.out⟩
end
end Tr
end Go.Proofs.Ytlpfffioidbkeaa
