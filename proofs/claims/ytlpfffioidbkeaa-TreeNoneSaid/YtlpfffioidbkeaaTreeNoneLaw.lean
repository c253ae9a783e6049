/- TreeNone: the law's walk. -/
import Derived.Test.YtlpfffioidbkeaaTreeFF
import Derived.Test.YtlpfffioidbkeaaTreeF
import Derived.Test.YtlpfffioidbkeaaTreeQ
import Derived.Deep.RegionHeld3
import Derived.Deep.DrawnRows
namespace Go.Proofs.Ytlpfffioidbkeaa
open Go Go.RowKit
namespace TreeNone
open Tr
set_option maxRecDepth 100000
set_option linter.unusedVariables false
set_option linter.unusedSimpArgs false
attribute [local go_sem ↓] Go.wp_at_zero Go.wp_at_succ

def rO : Own := ⟨9, ⟨#[]⟩, ⟨#[]⟩, 0, 0, false⟩
def S1 : Ar := ((Ar.one dO).push pO).hang 1 0
def S3 : Ar := (S1.push rO).hang 2 0
def ch1 : Nat → List Nat := upd (fun _ => []) 0 ([] ++ [1])
def ch3 : Nat → List Nat := upd ch1 0 (ch1 0 ++ [2])
theorem good1 : Tr.Good S1 ch1 := (Good.one dO).added (p := 0) (by decide) pO
theorem good3 : Tr.Good S3 ch3 := good1.added (p := 0) (by decide) rO
theorem S3n : S3.n = 3 := rfl
theorem ch3_0 : ch3 0 = [1, 2] := rfl
theorem sized3 : Sized S3 := fun p hp => lt3 (P := fun p => (S3.o p).s.size ≤ 281474976710656 ∧ (S3.o p).t.size ≤ 281474976710656) (by decide) (by decide) (by decide) p hp

theorem Ints_new (w : World) : Ints (w.alloc (.cells #[.int .i64 1, .int .i64 2] 3)) (.slice (some ⟨w.heap.size, 0, none⟩) 2 2) [1, 2] :=
  ⟨_, 2, rfl, by decide, .inr ⟨w.heap.size, 0, rfl, fun i c hc => by
    rw [Nat.zero_add]
    match i with
    | 0 => simp at hc; subst hc; exact (Blk.new w #[.int .i64 1, .int .i64 2] 3).cell 0 rfl
    | 1 => simp at hc; subst hc; exact (Blk.new w #[.int .i64 1, .int .i64 2] 3).cell 1 rfl
    | i + 2 => simp at hc⟩⟩
theorem numbers12 {w : World} {v v' : Value} (h : Ints w v [1, 2]) (h' : Ints w v' [1, 2]) :
    Calls Try.prog 26 #[v, v'] w fun e w' => e = .returned (.bool true) ∧ Below w.heap.size w w' := by
  have := numbers_any [1, 2] [1, 2] v v' w h h'
  rwa [show decide ([1, 2] = [1, 2]) = true from rfl] at this

set_option maxHeartbeats 32000000 in
theorem law_any (T : Tree) (L : Value) (id : Int) (w : World) (hin : In w (fun b => b < w.heap.size) T L) (hz : Sz T) (hid : (Lit.int .i64 id).wf = true) :
    Calls Try.prog 7 #[nodeV T.own L, .int .i64 id] w fun e w' => e = .returned (.bool true) ∧ Below w.heap.size w w' := by
  obtain ⟨a, cap, hL, _, _⟩ := hin.slice
  obtain ⟨n, hn⟩ : ∃ n, T.kids.length = n := ⟨_, rfl⟩
  rw [hn] at hL
  subst hL
  clear hn
  have hb0 : Below w.heap.size w (w.alloc (.cells (nodeC T.own (.slice a n cap)) 24)) := (Below.refl _ w).alloc (Nat.le_refl _) _
  have HX := Lib.hid (Blk.new w (nodeC T.own (.slice a n cap)) 24)
  have HA := Lib.hid (awake_any (w.alloc (.cells (nodeC T.own (.slice a n cap)) 24)))
  have HF := Lib.hid (fun W (hW : Below w.heap.size w W) => few_any (left := 500) (hin.keep hW) hz (by decide) (by decide))
  have HB0 := Lib.hid hb0
  clear hin hz hb0
  unfold nodeV at HF
  unfold nodeC at HA
  unfold nodeV
  generalize few T 500 = fw at *
  generalize T.own = ob at *
  go_enter Try.func7, Try.ntmps7
  go_wp2_with fail
  refine HA.out.mono ?_
  rintro e w1 ⟨rfl, hb1⟩
  have K1 := HX.out.below hb1
  have HB1 := Lib.hid (below_later HB0.out hb1)
  have x0 : w1.cell? ⟨w.heap.size, 0, none⟩ = _ := K1.node.c0
  have x1 : w1.cell? ⟨w.heap.size, 1, none⟩ = _ := K1.node.c1
  have x2 : w1.cell? ⟨w.heap.size, 2, none⟩ = _ := K1.node.c2
  have x3 : w1.cell? ⟨w.heap.size, 3, none⟩ = _ := K1.node.c3
  have x4 : w1.cell? ⟨w.heap.size, 4, none⟩ = _ := K1.node.c4
  have x5 : w1.cell? ⟨w.heap.size, 5, none⟩ = _ := K1.node.c5
  have x6 : w1.cell? ⟨w.heap.size, 6, none⟩ = _ := K1.node.c6
  have HK1 := Lib.hid K1
  clear K1 hb1 HA HX
  go_wp2_with fail
  refine (HF.out _ HB1.out).mono ?_
  rintro e w2 ⟨rfl, hb2⟩
  have HB2 := Lib.hid (below_later HB1.out hb2)
  rcases Classical.em (¬ 0 ≤ fw) with hfw | hfw
  · have hd : decide (0 ≤ fw) = false := by simpa using hfw
    rw [hd]
    clear hd hfw
    go_wp2
    go_ret
    exact ⟨rfl, HB2.out⟩
  have hd : decide (0 ≤ fw) = true := by simpa using (show 0 ≤ fw by omega)
  rw [hd]
  clear hd hfw
  have HK2 := Lib.hid (HK1.out.below hb2)
  have HN := Lib.hid (new_any dO none 0 0 w2 (by decide) (by decide))
  unfold nodeV dO at HN
  clear hb2 x0 x1 x2 x3 x4 x5 x6 HK1 HF HB1
  go_wp2_with fail
  refine HN.out.mono ?_
  rintro e w3 ⟨A, g, rfl, h3, hA, hg, hb3⟩
  have h3' : AR w3 A g 1 (Ar.one dO) := h3
  have HK3 := Lib.hid (HK2.out.below hb3)
  have HB3 := Lib.hid (below_later HB2.out hb3)
  have hxA : w.heap.size < A := Nat.lt_of_lt_of_le HK2.out.lt hA
  have hxg : w.heap.size < g := Nat.lt_of_lt_of_le HK2.out.lt hg
  have HA1 := Lib.hid (add_any h3' (p := 0) (by decide) (by decide) (.inl rfl) pO none 0 0 (by decide) (by decide))
  rw [show (Ar.one dO).n = 1 from rfl] at HA1
  unfold ptr nodeV pO at HA1
  unfold ptr
  clear h3 h3' hA hg hb3 HN HK2 HB2
  go_wp2_with fail
  refine HA1.out.mono ?_
  rintro e w4 ⟨rfl, g4, cap4, h4, hg4, o4⟩
  have h4' : AR w4 A g4 cap4 S1 := h4
  have hw3 := HB3.out.size
  have hx3 := HK3.out.lt
  have hxg4 : w.heap.size < g4 := by omega
  have HK4 : Hid (Blk w4 w.heap.size (nodeC ob (.slice a n cap)) 24) := Lib.hid (by
    show w4.heap[w.heap.size]? = _
    rw [o4.block _ hx3 (by rintro (e | e) <;> omega)]; exact HK3.out)
  have HB4 := Lib.hid (HB3.out.trans (o4.below hw3 (fun k hk => by rcases hk with rfl | rfl <;> omega)))
  have HA2 := Lib.hid (add_any h4' (p := 0) (by decide) (by decide) (hlast := good1.inv.lastOk (by decide)) rO none 0 0 (by decide) (by decide))
  rw [show S1.n = 2 from rfl] at HA2
  unfold ptr nodeV rO at HA2
  clear h4 h4' hg4 o4 HA1 HK3 HB3 hw3 hx3
  go_wp2_with fail
  refine HA2.out.mono ?_
  rintro e w5 ⟨rfl, g5, cap5, h5, hg5, o5⟩
  have h5' : AR w5 A g5 cap5 S3 := h5
  have hw4 := HB4.out.size
  have hx4 := HK4.out.lt
  have hxg5 : w.heap.size < g5 := by omega
  have HK5 : Hid (Blk w5 w.heap.size (nodeC ob (.slice a n cap)) 24) := Lib.hid (by
    show w5.heap[w.heap.size]? = _
    rw [o5.block _ hx4 (by rintro (e | e) <;> omega)]; exact HK4.out)
  have HB5 := Lib.hid (HB4.out.trans (o5.below hw4 (fun k hk => by rcases hk with rfl | rfl <;> omega)))
  have HR5 := Lib.hid h5'
  have HCh := Lib.hid (fun W (h : AR W A g5 cap5 S3) => children_in (good3.inv.kids (by decide)) h (id := 0) (by decide))
  rw [ch3_0] at HCh
  have HC5 := Lib.hid (HCh.out _ h5')
  unfold ptr at HC5 HCh
  clear h5 h5' hg5 o5 HA2 HK4 HB4 hw4 hx4
  go_wp2_with fail
  refine HC5.out.mono ?_
  rintro e w6 ⟨vc, rfl, hown6, hb6⟩
  have hw5 := HB5.out.size
  have HK6 := Lib.hid (HK5.out.below hb6)
  have HR6 := Lib.hid (HR5.out.below hb6)
  have HB6 := Lib.hid (HB5.out.trans (hb6.mono HB5.out.size))
  obtain ⟨gc, cc, curc, rfl, hgc, hcur, hcsz⟩ : ∃ gc cc curc, vc = .slice (some ⟨gc, 0, none⟩) 2 cc ∧ w5.heap.size ≤ gc ∧ w6.heap[gc]? = some (.cells curc 3 (0, 0)) ∧ 0 < curc.size := by
    rcases hown6.2 with ⟨hv, h0⟩ | ⟨gc, cc, cur, hv, hb, hc, hle, _, hs, _⟩
    · simp at h0
    · exact ⟨gc, cc, cur, hv, hb, hc, by simp at hle; omega⟩
  have hA5 := HR5.out.ltA
  have hg5 := HR5.out.ltg
  have hx5 := HK5.out.lt
  have cc0 : w6.cell? ⟨gc, 0, none⟩ = some curc[0] := by rw [cell_of_row w6 gc 0 _ _ _ hcur]; exact Array.getElem?_eq_getElem hcsz
  have fc0 := frozen_of_row w6 gc 0 _ _ hcur
  clear hown6 hb6 hcur HC5 HK5 HR5
  go_upto_region 12 with fail
  obtain ⟨w7, hw7⟩ : ∃ x, x = w6.setCell ⟨gc, 0, none⟩ (.int .i64 2) := ⟨_, rfl⟩
  rw [← hw7]
  have HR7 : Hid (AR w7 A g5 cap5 S3) := Lib.hid (by rw [hw7]; exact HR6.out.keep (heap_setCell_other _ _ _ _ (by show A ≠ gc; omega)) (heap_setCell_other _ _ _ _ (by show g5 ≠ gc; omega)))
  have HK7 : Hid (Blk w7 w.heap.size (nodeC ob (.slice a n cap)) 24) := Lib.hid (by rw [hw7]; exact HK6.out.other _ (by show w.heap.size ≠ gc; omega))
  have HB7 : Hid (Below w.heap.size w w7) := Lib.hid (by rw [hw7]; exact HB6.out.setCell (by show w.heap.size ≤ gc; omega) _)
  clear hw7 cc0 fc0 HR6 HK6 HB6 HB5 hcsz
  obtain ⟨ht, hr⟩ := good3.rank
  have HTr := Lib.hid (tree_own (good3.inv.kids (by decide)) sized3 hr (ht 0) (by decide) (by omega) HR7.out)
  unfold ptr nodeV at HTr
  rw [show S3.o 0 = dO from rfl] at HTr
  clear hr
  go_wp2_with fail
  refine HTr.out.mono ?_
  rintro e w8 ⟨a8, n8, c8, rfl, hin8, hb8, bs8, xs8, hbs8, hown8⟩
  have hn8 : n8 = 2 := by
    obtain ⟨_, _, hv, _⟩ := hin8.slice
    injection hv with _ hv _
  subst hn8
  obtain ⟨gt, curt, rfl, hgt, hcurt, htsz⟩ : ∃ gt curt, a8 = some ⟨gt, 0, none⟩ ∧ bs8 ≤ gt ∧ w8.heap[gt]? = some (.cells curt 24 (0, 0)) ∧ 0 < curt.size := by
    rcases hown8.2 with ⟨hv, h0⟩ | ⟨gt, ct, cur, hv, hb, hc, hle, _, hs, _⟩
    · omega
    · injection hv with hv _ hv3
      exact ⟨gt, cur, hv, hb, hc, by omega⟩
  have HK8 := Lib.hid (HK7.out.below hb8)
  have HR8 := Lib.hid (HR7.out.below hb8)
  have HB8 := Lib.hid (HB7.out.trans (hb8.mono HB7.out.size))
  have hA7 := HR7.out.ltA
  have hg7 := HR7.out.ltg
  have hx7 := HK7.out.lt
  have hgt8 : gt < w8.heap.size := (Array.getElem?_eq_some_iff.1 hcurt).1
  have ct0 : w8.cell? ⟨gt, 0, none⟩ = some curt[0] := by rw [cell_of_row w8 gt 0 _ _ _ hcurt]; exact Array.getElem?_eq_getElem htsz
  have ft0 := frozen_of_row w8 gt 0 _ _ hcurt
  have ft1 : ∀ o, (w8.alloc o).frozen? ⟨gt, 0, none⟩ = false := fun o => by rw [World.frozen?_of_block (w := w8) (Below.heap_alloc w8 o gt hgt8)]; exact ft0
  clear hin8 hb8 hown8 hcurt HTr HK7 HR7 HB7
  go_upto_region 16 with fail
  obtain ⟨w9, hw9⟩ : ∃ x, x = (w8.setCell ⟨gt, 0, none⟩ (.int .i64 9)).alloc (.cells #[.int .i64 dO.kind, .string dO.s, .string dO.t, .int .i64 dO.n, .int .i64 dO.m, .bool dO.flag, .slice (some ⟨gt, 0, none⟩) 2 c8] 24) := ⟨_, rfl⟩
  rw [← hw9]
  have HR9 : Hid (AR w9 A g5 cap5 S3) := Lib.hid (by
    rw [hw9]
    exact AR.below (HR8.out.keep (heap_setCell_other _ _ _ _ (by show A ≠ gt; omega)) (heap_setCell_other _ _ _ _ (by show g5 ≠ gt; omega))) ((Below.refl _ _).alloc (Nat.le_refl _) _))
  have HK9 : Hid (Blk w9 w.heap.size (nodeC ob (.slice a n cap)) 24) := Lib.hid (by rw [hw9]; exact (HK8.out.other _ (by show w.heap.size ≠ gt; omega)).alloc _)
  have HB9 : Hid (Below w.heap.size w w9) := Lib.hid (by
    rw [hw9]
    exact Below.alloc (HB8.out.setCell (by show w.heap.size ≤ gt; omega) _) (by simp; exact HB8.out.size) _)
  have hs9 := HB9.out.size
  have N13 : Hid (∀ W, Below w9.heap.size w9 W → Calls Try.prog 13 #[.pointer none, .int .i64 id, nodeV ob (.slice a n cap)] W fun e w' => e = .returned (.int .i64 (-1)) ∧ Below w9.heap.size w9 w') :=
    Lib.hid (fun W hW => (add_nil W id ob a n cap).mono fun e w' ⟨h1, h2⟩ => ⟨h1, below_later hW h2⟩)
  have N15 : Hid (∀ W, Below w9.heap.size w9 W → Calls Try.prog 15 #[.pointer none, .int .i64 id, nodeV ob (.slice a n cap)] W fun e w' => e = .returned (.bool false) ∧ Below w9.heap.size w9 w') :=
    Lib.hid (fun W hW => (set_nil W id ob a n cap).mono fun e w' ⟨h1, h2⟩ => ⟨h1, below_later hW h2⟩)
  have N23 : Hid (∀ W, Below w9.heap.size w9 W → Calls Try.prog 23 #[.pointer none, .int .i64 id] W fun e w' => e = .returned (nodeV nilO (.slice none 0 0)) ∧ Below w9.heap.size w9 w') :=
    Lib.hid (fun W hW => (get_nil W id).mono fun e w' ⟨h1, h2⟩ => ⟨h1, below_later hW h2⟩)
  have N24 : Hid (∀ W, Below w9.heap.size w9 W → Calls Try.prog 24 #[.pointer none, .int .i64 id] W fun e w' => e = .returned (.int .i64 (-1)) ∧ Below w9.heap.size w9 w') :=
    Lib.hid (fun W hW => (parent_nil W id).mono fun e w' ⟨h1, h2⟩ => ⟨h1, h2 ▸ hW⟩)
  have N27 : Hid (∀ W, Below w9.heap.size w9 W → Calls Try.prog 27 #[.pointer none, .int .i64 id] W fun e w' => e = .returned (.slice none 0 0) ∧ Below w9.heap.size w9 w') :=
    Lib.hid (fun W hW => (children_out (Lib.hid (has_nil W id)) ⟨_, rfl⟩).mono fun e w' ⟨h1, h2⟩ => ⟨h1, h2 ▸ hW⟩)
  have N17 : Hid (∀ W, Below w9.heap.size w9 W → Calls Try.prog 17 #[.pointer none, .int .i64 id] W fun e w' => e = .returned (.bool false) ∧ Below w9.heap.size w9 w') :=
    Lib.hid (fun W hW => (unlink_nil W id).mono fun e w' ⟨h1, h2⟩ => ⟨h1, h2 ▸ hW⟩)
  have N20 : Hid (∀ W, Below w9.heap.size w9 W → Calls Try.prog 20 #[.pointer none, .int .i64 id, .int .i64 id] W fun e w' => e = .returned (.bool false) ∧ Below w9.heap.size w9 w') :=
    Lib.hid (fun W hW => (move_nil W id id).mono fun e w' ⟨h1, h2⟩ => ⟨h1, h2 ▸ hW⟩)
  have N29 : Hid (∀ W, Below w9.heap.size w9 W → Calls Try.prog 29 #[.pointer none] W fun e w' => e = .returned (.int .i64 0) ∧ Below w9.heap.size w9 w') :=
    Lib.hid (fun W hW => (len_nil W).mono fun e w' ⟨h1, h2⟩ => ⟨h1, h2 ▸ hW⟩)
  have N31 : Hid (∀ W, Below w9.heap.size w9 W → Calls Try.prog 31 #[.pointer none] W fun e w' => e = .returned (nodeV nilO (.slice none 0 0)) ∧ Below w9.heap.size w9 w') :=
    Lib.hid (fun W hW => (tree_nil W).mono fun e w' ⟨h1, h2⟩ => ⟨h1, below_later hW h2⟩)
  have B23 : Hid (∀ W, Below w9.heap.size w9 W → Calls Try.prog 23 #[ptr A, .int .i64 1] W fun e w' => e = .returned (nodeV pO (.slice none 0 0)) ∧ Below w9.heap.size w9 w') :=
    Lib.hid (fun W hW => (get_in (HR9.out.below hW) (i := 1) (by decide) sized3).mono fun e w' ⟨h1, h2⟩ => ⟨h1, below_later hW h2⟩)
  have B27 : Hid (∀ W, Below w9.heap.size w9 W → Calls Try.prog 27 #[ptr A, .int .i64 0] W fun e w' => ∃ v, e = .returned v ∧ Ints w' v [1, 2] ∧ Below W.heap.size W w' ∧ Below w9.heap.size w9 w') :=
    Lib.hid (fun W hW => (children_in (good3.inv.kids (by decide)) (HR9.out.below hW) (id := 0) (by decide)).mono fun e w' ⟨v, h1, h2, h3⟩ => ⟨v, h1, Ints.of_owns (l := [1, 2]) h2, h3, below_later hW h3⟩)
  have HS0 : Hid (∀ W, Below w9.heap.size w9 W → (W.cell? ⟨w.heap.size, 0, none⟩ = some (.int .i64 ob.kind) ∧ W.cell? ⟨w.heap.size, 1, none⟩ = some (.string ob.s) ∧ W.cell? ⟨w.heap.size, 2, none⟩ = some (.string ob.t) ∧ W.cell? ⟨w.heap.size, 3, none⟩ = some (.int .i64 ob.n) ∧ W.cell? ⟨w.heap.size, 4, none⟩ = some (.int .i64 ob.m) ∧ W.cell? ⟨w.heap.size, 5, none⟩ = some (.bool ob.flag) ∧ W.cell? ⟨w.heap.size, 6, none⟩ = some (.slice a n cap))) := Lib.hid (fun W hW => ⟨keep_cell hW (HK9.out.node.c0), keep_cell hW (HK9.out.node.c1), keep_cell hW (HK9.out.node.c2), keep_cell hW (HK9.out.node.c3), keep_cell hW (HK9.out.node.c4), keep_cell hW (HK9.out.node.c5), keep_cell hW (HK9.out.node.c6)⟩)
  unfold nodeV at N13 N15
  unfold nodeV nilO at N23 N31
  unfold nodeV pO ptr at B23
  unfold ptr at B27
  dsimp only at N23 N31 B23
  clear hw9 HR8 HK8 HB8 HR9 HK9 HCh hgt8 ct0 ft0 ft1 hA7 hg7 hx7 hA5 hg5 hx5 hw5 hgc hgt htsz hbs8 hxA hxg hxg4 hxg5
  simp only [List.append]
  have hfd0 : ∀ W : World, (Instr.field 24 (.agg #[.int .i64 0, .string ⟨#[]⟩, .string ⟨#[]⟩, .int .i64 0, .int .i64 0, .bool false, .slice none 0 0]) 0).run Try.prog W = .ok (.int .i64 0) W := fun _ => by kernel_rfl
  have hfd7 : ∀ W : World, (Instr.field 24 (.agg #[.int .i64 7, .string ⟨#[]⟩, .string ⟨#[]⟩, .int .i64 0, .int .i64 0, .bool false, .slice none 0 0]) 0).run Try.prog W = .ok (.int .i64 7) W := fun _ => by kernel_rfl
  obtain ⟨q0, q1, q2, q3, q4, q5, q6⟩ := HS0.out _ (Below.refl _ _)
  go_wp2_with fail
  refine (N13.out _ (Below.refl _ _)).mono ?_
  rintro e wa ⟨rfl, ha⟩
  clear q0 q1 q2 q3 q4 q5 q6
  obtain ⟨q0, q1, q2, q3, q4, q5, q6⟩ := HS0.out _ ha
  go_wp2_with fail
  refine (N15.out _ ha).mono ?_
  rintro e wb ⟨rfl, hb⟩
  clear q0 q1 q2 q3 q4 q5 q6
  go_wp2_with fail
  refine (N23.out _ hb).mono ?_
  rintro e wc ⟨rfl, hc⟩
  go_wp2_with fail
  refine (N24.out _ hc).mono ?_
  rintro e wd ⟨rfl, hd⟩
  go_wp2_with fail
  refine (N27.out _ hd).mono ?_
  rintro e we ⟨rfl, he⟩
  go_wp2_with fail
  refine (N17.out _ he).mono ?_
  rintro e wf ⟨rfl, hf⟩
  go_wp2_with fail
  refine (N20.out _ hf).mono ?_
  rintro e wg ⟨rfl, hg⟩
  go_wp2_with fail
  refine (N29.out _ hg).mono ?_
  rintro e wh ⟨rfl, hh⟩
  go_wp2_with fail
  refine (N31.out _ hh).mono ?_
  rintro e wi ⟨rfl, hi⟩
  go_wp2_with fail
  refine (B27.out _ hi).mono ?_
  rintro e wj ⟨vc, rfl, hij, hbj, hj⟩
  go_wp2_with fail
  refine (numbers12 (hij.keep ((Below.refl _ _).alloc (Nat.le_refl _) _)) (Ints_new _)).mono ?_
  rintro e wk ⟨rfl, hbk⟩
  have hk : Below w9.heap.size w9 wk := below_later (below_later hj ((Below.refl _ _).alloc (Nat.le_refl _) _)) hbk
  go_wp2_with fail
  refine (B23.out _ hk).mono ?_
  rintro e wl ⟨rfl, hl⟩
  go_wp2_with fail
  go_ret
  exact ⟨rfl, HB9.out.trans (hl.mono hs9)⟩
end TreeNone
end Go.Proofs.Ytlpfffioidbkeaa
