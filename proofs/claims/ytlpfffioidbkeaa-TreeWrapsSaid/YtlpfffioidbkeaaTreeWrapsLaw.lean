/- TreeWraps: the law's walk. -/
import Derived.Test.YtlpfffioidbkeaaTreeQ
import Derived.Test.YtlpfffioidbkeaaTreeF
import Derived.Deep.DrawnRows
import Derived.Deep.RegionHeld3
namespace Go.Proofs.Ytlpfffioidbkeaa
open Go Go.RowKit
namespace TreeWraps
open Tr
set_option maxRecDepth 100000
set_option linter.unusedVariables false
set_option linter.unusedSimpArgs false
attribute [local go_sem ↓] Go.wp_at_zero Go.wp_at_succ

def qO : Own := ⟨2, ⟨#[]⟩, ⟨#[]⟩, 0, 0, false⟩
theorem fitsL_quote (ts : List Tree) : ∀ l, fitsL 2 ts l = fitsL 1 ts l := by
  induction ts with
  | nil => intro l; rw [fitsL, fitsL]
  | cons t ts ih =>
    intro l
    rw [fitsL, fitsL, ih]
    have : may t.own.kind 2 = may t.own.kind 1 := rfl
    rw [this]
theorem well_wrap (kids : List Tree) : (Tree.mk dO [.mk qO kids]).well = (Tree.mk dO kids).well := by
  unfold Tree.well
  show (true && fits (.mk dO [.mk qO kids]) false) = (true && fits (.mk dO kids) false)
  rw [fits, fits]
  show (true && fitsL 1 [.mk qO kids] false) = (true && fitsL 1 kids false)
  rw [fitsL, fitsL]
  show (true && (true && true && fits (.mk qO kids) false && true)) = _
  rw [fits]
  show (true && (true && true && fitsL 2 kids false && true)) = _
  rw [fitsL_quote]
  simp
theorem well_quote (kids : List Tree) : (Tree.mk qO kids).well = false := rfl
theorem In_own {w : World} {Q : Nat → Prop} {o o' : Own} {kids : List Tree} {L : Value} (h : In w Q (.mk o kids) L) : In w Q (.mk o' kids) L := by rw [In] at h ⊢; exact h
theorem In_one {w : World} {Q : Nat → Prop} {o o1 : Own} {kids : List Tree} {L : Value} {g : Nat} (hb : Blk w g (nodeC o1 L) 24) (hQ : Q g) (h : In w Q (.mk o1 kids) L) : In w Q (.mk o [.mk o1 kids]) (.slice (some ⟨g, 0, none⟩) 1 1) := by
  rw [In]
  refine ⟨_, 1, rfl, Nat.le_refl _, by decide, .inr ⟨g, 0, rfl, hQ, ?_⟩⟩
  rw [InL, InL]
  exact ⟨⟨L, hb.node, h⟩, trivial⟩
theorem blk_at {w : World} {n : Nat} (h : w.heap.size = n) (cs : Array Value) (t : TypeId) : Blk (w.alloc (.cells cs t)) n cs t := by subst h; exact Blk.new _ _ _

set_option maxHeartbeats 8000000 in
theorem law_any (T : Tree) (L : Value) (w : World) (hin : In w (fun b => b < w.heap.size) T L) (hz : Sz T) :
    Calls Try.prog 9 #[nodeV T.own L] w fun e w' => e = .returned (.bool true) ∧ Below w.heap.size w w' := by
  obtain ⟨o, kids⟩ := T
  obtain ⟨a, cap, hL, _, _⟩ := hin.slice
  obtain ⟨n, hn⟩ : ∃ n, (Tree.mk o kids).kids.length = n := ⟨_, rfl⟩
  rw [hn] at hL
  subst hL
  clear hn
  simp only [Tree.own] at *
  have hb0 : Below w.heap.size w (w.alloc (.cells (nodeC o (.slice a n cap)) 24)) := (Below.refl _ w).alloc (Nat.le_refl _) _
  have HX := Lib.hid (Blk.new w (nodeC o (.slice a n cap)) 24)
  have HA := Lib.hid (awake_any (w.alloc (.cells (nodeC o (.slice a n cap)) 24)))
  have HI := Lib.hid (fun W (hW : Below w.heap.size w W) => hin.keep hW)
  have HF := Lib.hid (fun W (hW : Below w.heap.size w W) => few_any (left := 2000) (hin.keep hW) hz (by decide) (by decide))
  have HB0 := Lib.hid hb0
  have HCnt := Lib.hid (few_cnt (.mk o kids) 2000)
  clear hin hz hb0
  unfold nodeV at HF
  unfold nodeC at HA
  unfold nodeV
  simp only [Tree.own] at HF
  generalize few (.mk o kids) 2000 = fw at *
  go_enter Try.func9, Try.ntmps9
  go_wp2_with fail
  refine HA.out.mono ?_
  rintro e w1 ⟨rfl, hb1⟩
  have K1 := HX.out.below hb1
  have HB1 := Lib.hid (below_later HB0.out hb1)
  have x0 : w1.cell? ⟨w.heap.size, 0, none⟩ = _ := K1.node.c0
  have x1 : w1.cell? ⟨w.heap.size, 1, none⟩ = _ := K1.node.c1
  have x2 : w1.cell? ⟨w.heap.size, 2, none⟩ = _ := K1.node.c2
  have x3 : w1.cell? ⟨w.heap.size, 3, none⟩ = _ := K1.node.c3
  have x4 : w1.cell? ⟨w.heap.size, 4, none⟩ = _ := K1.node.c4
  have x5 : w1.cell? ⟨w.heap.size, 5, none⟩ = _ := K1.node.c5
  have x6 : w1.cell? ⟨w.heap.size, 6, none⟩ = _ := K1.node.c6
  have HK1 := Lib.hid K1
  clear K1 hb1
  go_wp2_with fail
  refine (HF.out _ HB1.out).mono ?_
  rintro e w2 ⟨rfl, hb2⟩
  have hbw2 : Below w.heap.size w w2 := below_later HB1.out hb2
  rcases Classical.em (¬ 0 ≤ fw) with hfw | hfw
  · have hd : decide (0 ≤ fw) = false := by simpa using hfw
    rw [hd]
    clear hd hfw
    go_wp2
    go_ret
    exact ⟨rfl, hbw2⟩
  have hfw : 0 ≤ fw := by omega
  have hd : decide (0 ≤ fw) = true := by simpa using hfw
  rw [hd]
  have hcnt := HCnt.out hfw
  have hdep := dep_le_cnt (.mk o kids)
  rw [Tree.cnt] at hcnt hdep
  rw [Tree.dep] at hdep
  have hdL : depL kids ≤ 2000 := by omega
  have hcL : cntL kids ≤ 2000 := by omega
  clear hd hfw hcnt hdep HCnt
  have K2 := HK1.out.below hb2
  have HI2 := Lib.hid (HI.out w2 hbw2)
  have y0 : w2.cell? ⟨w.heap.size, 0, none⟩ = _ := K2.node.c0
  have y1 : w2.cell? ⟨w.heap.size, 1, none⟩ = _ := K2.node.c1
  have y2 : w2.cell? ⟨w.heap.size, 2, none⟩ = _ := K2.node.c2
  have y3 : w2.cell? ⟨w.heap.size, 3, none⟩ = _ := K2.node.c3
  have y4 : w2.cell? ⟨w.heap.size, 4, none⟩ = _ := K2.node.c4
  have y5 : w2.cell? ⟨w.heap.size, 5, none⟩ = _ := K2.node.c5
  have y6 : w2.cell? ⟨w.heap.size, 6, none⟩ = _ := K2.node.c6
  have hwlt := K2.lt
  have hwlt1 : w.heap.size < w2.heap.size + 1 := by omega
  have hwlt2 : w.heap.size < w2.heap.size + 1 + 1 := by omega
  have hwlt3 : w.heap.size < w2.heap.size + 1 + 1 + 1 := by omega
  have HBW2 := Lib.hid hbw2
  clear K2 hb2 x0 x1 x2 x3 x4 x5 x6 HK1 HF HA HI hbw2
  obtain ⟨s, hs⟩ : ∃ s, Hid (w2.heap.size = s) := ⟨_, rfl⟩
  go_upto_region 6 with fail
  go_cut [4, 5, 6] (fun s4 s5 s6 wx => s4 = .pointer (some ⟨s, 0, none⟩) ∧ s5 = .pointer (some ⟨s + 2, 0, none⟩) ∧ s6 = .pointer (some ⟨s + 3, 0, none⟩) ∧ Blk wx s (nodeC qO (.slice a n cap)) 24 ∧ Blk wx (s + 1) (nodeC qO (.slice a n cap)) 24 ∧ Blk wx (s + 2) (nodeC dO (.slice (some ⟨s + 1, 0, none⟩) 1 1)) 24 ∧ Blk wx (s + 3) (nodeC dO (.slice a n cap)) 24 ∧ Below w2.heap.size w2 wx)
  case first =>
    go_wp2
    go_meet
    have e := hs.out
    subst e
    exact ⟨rfl, rfl, rfl, (((Blk.new w2 (nodeC qO (.slice a n cap)) 24).alloc _).alloc _).alloc _, ((blk_at (by simp) (nodeC qO (.slice a n cap)) 24).alloc _).alloc _, (blk_at (by simp) (nodeC dO (.slice (some ⟨w2.heap.size + 1, 0, none⟩) 1 1)) 24).alloc _, blk_at (by simp) (nodeC dO (.slice a n cap)) 24, (((((Below.refl _ w2).alloc (Nat.le_refl _) _).alloc (by simp) _).alloc (by simp; omega) _).alloc (by simp; omega) _)⟩
  obtain ⟨rfl, rfl, rfl, k4, kr, k5, k6, hbx⟩ := hcut
  have K4 := Lib.hid k4
  have KR := Lib.hid kr
  have K5 := Lib.hid k5
  have K6 := Lib.hid k6
  have HQ := Lib.hid (fun W (hW : Below wc.heap.size wc W) => In.carry_all (B' := fun _ => True) (fun _ _ _ _ _ => trivial) (fun b off v _ hc => hc) _ (In_own (o' := qO) ((HI2.out.keep hbx).keep hW)))
  have HE := Lib.hid (fun W (hW : Below wc.heap.size wc W) => In_own (o' := dO) (HQ.out W hW))
  have HD := Lib.hid (fun W (hW : Below wc.heap.size wc W) => In_one (o := dO) (KR.out.below hW) trivial (HQ.out W hW))
  have HDd : Hid (∀ W, Below wc.heap.size wc W → Calls Try.prog 37 #[nodeV dO (.slice (some ⟨s + 1, 0, none⟩) 1 1)] W fun e w' => e = .returned (.int .i64 (((1 + depL kids : Nat) : Int) + 1)) ∧ Below wc.heap.size wc w') :=
    Lib.hid (fun W hW => (depth_any _ W _ (HD.out W hW) (by rw [Tree.dep, depL, depL, Tree.dep]; omega)).mono fun e w' ⟨h1, h2⟩ => ⟨h1.trans (ret_int (by rw [Tree.dep, depL, depL, Tree.dep]; omega)), below_later hW h2⟩)
  have HDe : Hid (∀ W, Below wc.heap.size wc W → Calls Try.prog 37 #[nodeV dO (.slice a n cap)] W fun e w' => e = .returned (.int .i64 ((1 + depL kids : Nat) : Int)) ∧ Below wc.heap.size wc w') :=
    Lib.hid (fun W hW => (depth_any _ W _ (HE.out W hW) (by rw [Tree.dep]; omega)).mono fun e w' ⟨h1, h2⟩ => ⟨h1.trans (ret_int (by rw [Tree.dep])), below_later hW h2⟩)
  have HCd : Hid (∀ W, Below wc.heap.size wc W → Calls Try.prog 35 #[nodeV dO (.slice (some ⟨s + 1, 0, none⟩) 1 1)] W fun e w' => e = .returned (.int .i64 (((1 + cntL kids : Nat) : Int) + 1)) ∧ Below wc.heap.size wc w') :=
    Lib.hid (fun W hW => (count_any _ W _ (HD.out W hW) (by rw [Tree.cnt, cntL, cntL, Tree.cnt]; omega)).mono fun e w' ⟨h1, h2⟩ => ⟨h1.trans (ret_int (by rw [Tree.cnt, cntL, cntL, Tree.cnt]; omega)), below_later hW h2⟩)
  have HCe : Hid (∀ W, Below wc.heap.size wc W → Calls Try.prog 35 #[nodeV dO (.slice a n cap)] W fun e w' => e = .returned (.int .i64 ((1 + cntL kids : Nat) : Int)) ∧ Below wc.heap.size wc w') :=
    Lib.hid (fun W hW => (count_any _ W _ (HE.out W hW) (by rw [Tree.cnt]; omega)).mono fun e w' ⟨h1, h2⟩ => ⟨h1.trans (ret_int (by rw [Tree.cnt])), below_later hW h2⟩)
  have HWd : Hid (∀ W, Below wc.heap.size wc W → Calls Try.prog 39 #[nodeV dO (.slice (some ⟨s + 1, 0, none⟩) 1 1)] W fun e w' => e = .returned (.bool (Tree.mk dO kids).well) ∧ Below wc.heap.size wc w') :=
    Lib.hid (fun W hW => (well_any (HD.out W hW)).mono fun e w' ⟨h1, h2⟩ => ⟨h1.trans (ret_bool (well_wrap kids)), below_later hW h2⟩)
  have HWe : Hid (∀ W, Below wc.heap.size wc W → Calls Try.prog 39 #[nodeV dO (.slice a n cap)] W fun e w' => e = .returned (.bool (Tree.mk dO kids).well) ∧ Below wc.heap.size wc w') :=
    Lib.hid (fun W hW => (well_any (HE.out W hW)).mono fun e w' ⟨h1, h2⟩ => ⟨h1, below_later hW h2⟩)
  have HWq : Hid (∀ W, Below wc.heap.size wc W → Calls Try.prog 39 #[nodeV qO (.slice a n cap)] W fun e w' => e = .returned (.bool false) ∧ Below wc.heap.size wc w') :=
    Lib.hid (fun W hW => (well_any (HQ.out W hW)).mono fun e w' ⟨h1, h2⟩ => ⟨h1.trans (ret_bool (well_quote kids)), below_later hW h2⟩)
  have HS0 : Hid (∀ W, Below wc.heap.size wc W → (Below wc.heap.size wc W ∧ W.cell? ⟨s, 0, none⟩ = some (.int .i64 2) ∧ W.cell? ⟨s, 1, none⟩ = some (.string ⟨#[]⟩) ∧ W.cell? ⟨s, 2, none⟩ = some (.string ⟨#[]⟩) ∧ W.cell? ⟨s, 3, none⟩ = some (.int .i64 0) ∧ W.cell? ⟨s, 4, none⟩ = some (.int .i64 0) ∧ W.cell? ⟨s, 5, none⟩ = some (.bool false) ∧ W.cell? ⟨s, 6, none⟩ = some (.slice a n cap) ∧ W.cell? ⟨s + 2, 0, none⟩ = some (.int .i64 1) ∧ W.cell? ⟨s + 2, 1, none⟩ = some (.string ⟨#[]⟩) ∧ W.cell? ⟨s + 2, 2, none⟩ = some (.string ⟨#[]⟩) ∧ W.cell? ⟨s + 2, 3, none⟩ = some (.int .i64 0) ∧ W.cell? ⟨s + 2, 4, none⟩ = some (.int .i64 0) ∧ W.cell? ⟨s + 2, 5, none⟩ = some (.bool false) ∧ W.cell? ⟨s + 2, 6, none⟩ = some (.slice (some ⟨s + 1, 0, none⟩) 1 1) ∧ W.cell? ⟨s + 3, 0, none⟩ = some (.int .i64 1) ∧ W.cell? ⟨s + 3, 1, none⟩ = some (.string ⟨#[]⟩) ∧ W.cell? ⟨s + 3, 2, none⟩ = some (.string ⟨#[]⟩) ∧ W.cell? ⟨s + 3, 3, none⟩ = some (.int .i64 0) ∧ W.cell? ⟨s + 3, 4, none⟩ = some (.int .i64 0) ∧ W.cell? ⟨s + 3, 5, none⟩ = some (.bool false) ∧ W.cell? ⟨s + 3, 6, none⟩ = some (.slice a n cap))) := Lib.hid (fun W hW => ⟨hW, keep_cell hW (K4.out.cell 0 rfl), keep_cell hW (K4.out.cell 1 rfl), keep_cell hW (K4.out.cell 2 rfl), keep_cell hW (K4.out.cell 3 rfl), keep_cell hW (K4.out.cell 4 rfl), keep_cell hW (K4.out.cell 5 rfl), keep_cell hW (K4.out.cell 6 rfl), keep_cell hW (K5.out.cell 0 rfl), keep_cell hW (K5.out.cell 1 rfl), keep_cell hW (K5.out.cell 2 rfl), keep_cell hW (K5.out.cell 3 rfl), keep_cell hW (K5.out.cell 4 rfl), keep_cell hW (K5.out.cell 5 rfl), keep_cell hW (K5.out.cell 6 rfl), keep_cell hW (K6.out.cell 0 rfl), keep_cell hW (K6.out.cell 1 rfl), keep_cell hW (K6.out.cell 2 rfl), keep_cell hW (K6.out.cell 3 rfl), keep_cell hW (K6.out.cell 4 rfl), keep_cell hW (K6.out.cell 5 rfl), keep_cell hW (K6.out.cell 6 rfl)⟩)
  have HBX := Lib.hid (HBW2.out.trans (hbx.mono HBW2.out.size))
  have hszc : w.heap.size ≤ wc.heap.size := HBX.out.size
  clear k4 kr k5 k6 hbx HQ HE HD K4 KR K5 K6 HI2 y0 y1 y2 y3 y4 y5 y6 hwlt
  unfold nodeV dO at HDd HDe HCd HCe HWd HWe
  unfold nodeV qO at HWq
  obtain ⟨D, hD⟩ : ∃ D, 1 + depL kids = D := ⟨_, rfl⟩
  obtain ⟨C, hC⟩ : ∃ C, 1 + cntL kids = C := ⟨_, rfl⟩
  rw [hD] at HDd HDe
  rw [hC] at HCd HCe
  have wr1 : IntKind.i64.wrap ((D : Int) + 1) = (D : Int) + 1 := by
    have : (D : Int) ≤ 2001 := by omega
    rw [IntKind.wrap_i64]; omega
  have wr2 : IntKind.i64.wrap ((C : Int) + 1) = (C : Int) + 1 := by
    have : (C : Int) ≤ 2001 := by omega
    rw [IntKind.wrap_i64]; omega
  clear hD hC hdL hcL
  generalize (Tree.mk dO kids).well = wv at *
  go_wp2_with fail
  go_region_held3 (fun W => Below wc.heap.size wc W ∧ W.cell? ⟨s, 0, none⟩ = some (.int .i64 2) ∧ W.cell? ⟨s, 1, none⟩ = some (.string ⟨#[]⟩) ∧ W.cell? ⟨s, 2, none⟩ = some (.string ⟨#[]⟩) ∧ W.cell? ⟨s, 3, none⟩ = some (.int .i64 0) ∧ W.cell? ⟨s, 4, none⟩ = some (.int .i64 0) ∧ W.cell? ⟨s, 5, none⟩ = some (.bool false) ∧ W.cell? ⟨s, 6, none⟩ = some (.slice a n cap) ∧ W.cell? ⟨s + 2, 0, none⟩ = some (.int .i64 1) ∧ W.cell? ⟨s + 2, 1, none⟩ = some (.string ⟨#[]⟩) ∧ W.cell? ⟨s + 2, 2, none⟩ = some (.string ⟨#[]⟩) ∧ W.cell? ⟨s + 2, 3, none⟩ = some (.int .i64 0) ∧ W.cell? ⟨s + 2, 4, none⟩ = some (.int .i64 0) ∧ W.cell? ⟨s + 2, 5, none⟩ = some (.bool false) ∧ W.cell? ⟨s + 2, 6, none⟩ = some (.slice (some ⟨s + 1, 0, none⟩) 1 1) ∧ W.cell? ⟨s + 3, 0, none⟩ = some (.int .i64 1) ∧ W.cell? ⟨s + 3, 1, none⟩ = some (.string ⟨#[]⟩) ∧ W.cell? ⟨s + 3, 2, none⟩ = some (.string ⟨#[]⟩) ∧ W.cell? ⟨s + 3, 3, none⟩ = some (.int .i64 0) ∧ W.cell? ⟨s + 3, 4, none⟩ = some (.int .i64 0) ∧ W.cell? ⟨s + 3, 5, none⟩ = some (.bool false) ∧ W.cell? ⟨s + 3, 6, none⟩ = some (.slice a n cap)) (first | exact HS0.out _ (Below.refl _ _).drew | exact HS0.out _ (by assumption)) ((first | (go_at_call_of 37 a; refine (HDe.out _ ?_).mono ?_; (first | exact (Below.refl _ _).drew | assumption); rintro e w5 ⟨rfl, hb5⟩) | (go_at_call 37; refine (HDd.out _ ?_).mono ?_; (first | exact (Below.refl _ _).drew | assumption); rintro e w5 ⟨rfl, hb5⟩) | (go_at_call_of 35 a; refine (HCe.out _ ?_).mono ?_; (first | exact (Below.refl _ _).drew | assumption); rintro e w5 ⟨rfl, hb5⟩) | (go_at_call 35; refine (HCd.out _ ?_).mono ?_; (first | exact (Below.refl _ _).drew | assumption); rintro e w5 ⟨rfl, hb5⟩) | (go_at_call_of 39 (2 : Int); refine (HWq.out _ ?_).mono ?_; (first | exact (Below.refl _ _).drew | assumption); rintro e w5 ⟨rfl, hb5⟩) | (go_at_call_of 39 a; refine (HWe.out _ ?_).mono ?_; (first | exact (Below.refl _ _).drew | assumption); rintro e w5 ⟨rfl, hb5⟩) | (go_at_call 39; refine (HWd.out _ ?_).mono ?_; (first | exact (Below.refl _ _).drew | assumption); rintro e w5 ⟨rfl, hb5⟩)))
  clear HS0
  go_wp2
  go_ret
  exact ⟨rfl, HBX.out.trans (hb5.mono hszc)⟩
end TreeWraps
end Go.Proofs.Ytlpfffioidbkeaa
