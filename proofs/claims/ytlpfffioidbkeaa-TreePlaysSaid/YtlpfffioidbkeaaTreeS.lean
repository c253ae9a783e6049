/- Layer 6: Same. -/
import Derived.Test.YtlpfffioidbkeaaTreeA
import Derived.Deep.RegionHeld3
import Derived.Deep.DrawnRows
namespace Go.Proofs.Ytlpfffioidbkeaa
open Go Go.RowKit
namespace Tr
set_option maxRecDepth 100000
set_option linter.unusedVariables false
set_option linter.unusedSimpArgs false
attribute [local go_sem ↓] Go.wp_at_zero Go.wp_at_succ

set_option maxHeartbeats 4000000 in
theorem same_any {B : Nat → Prop} (T : Tree) : ∀ (U : Tree) (w : World) (L L' : Value), In w B T L → In w B U L' →
    Calls Try.prog 34 #[nodeV T.own L, nodeV U.own L'] w fun e w' => e = .returned (.bool (same T U)) ∧ Below w.heap.size w w' := by
  induction T using Tree.ind with
  | h o kids ih =>
    intro U w L L' hin hin'
    obtain ⟨o', kids'⟩ := U
    rw [In] at hin hin'
    obtain ⟨a, cap, rfl, hlc, hcm, hk⟩ := hin
    obtain ⟨a', cap', rfl, hlc', hcm', hk'⟩ := hin'
    unfold maxLen at hcm hcm'
    have HK := Lib.hid hk
    have HK' := Lib.hid hk'
    clear hk hk'
    have IH := Lib.hid ih
    clear ih
    have HA := Lib.hid (fun L L' W => alike_any o o' L L' W)
    unfold nodeV at HA
    rw [same]
    show Calls _ _ #[nodeV o _, nodeV o' _] _ _
    unfold nodeV
    by_cases hown : Own.eq o o' = true
    · rw [hown] at HA ⊢
      clear hown
      by_cases hl : kids.length = kids'.length
      · rw [← hl, show (kids.length == kids.length) = true by simp, Bool.true_and, Bool.true_and]
        rw [← hl] at hlc'
        have HL := Lib.hid hl
        clear hl
        go_enter Try.func34, Try.ntmps34
        go_wp2_with fail
        refine (HA.out _ _ _).mono ?_
        rintro e w1 ⟨rfl, hb1⟩
        clear HA
        have hx1 := cell_at (cell_at (box_cells w o (.slice a kids.length cap) 24) ((Below.refl _ _).alloc (Nat.le_refl _) (.cells #[.int .i64 o'.kind, .string o'.s, .string o'.t, .int .i64 o'.n, .int .i64 o'.m, .bool o'.flag, .slice a' kids.length cap'] 24))) hb1
        have hx2 := cell_at (box_cells (w.alloc (.cells #[.int .i64 o.kind, .string o.s, .string o.t, .int .i64 o.n, .int .i64 o.m, .bool o.flag, .slice a kids.length cap] 24)) o' (.slice a' kids.length cap') 24) hb1
        rw [World.size_alloc] at hx2
        have hbw0 : Below w.heap.size w w1 := (((Below.refl _ w).alloc (Nat.le_refl _) _).alloc (by simp) _).trans (hb1.mono (by simp; omega))
        have b6 : w1.cell? ⟨w.heap.size, 6, none⟩ = _ := hx1.c6
        have d6 : w1.cell? ⟨w.heap.size + 1, 6, none⟩ = _ := hx2.c6
        have HX1 := Lib.hid hx1
        have HX2 := Lib.hid hx2
        clear hx1 hx2 hb1
        go_wp2
        clear b6 d6
        go_loopg [5, 22] kids.length (fun g s5 s22 wr => ∃ (i : Nat), i + g = kids.length ∧ s22 = .int .i64 i ∧ Hid (sameL (kids.drop i) (kids'.drop i) = sameL kids kids') ∧ Below w.heap.size w wr ∧ CellsAt wr w.heap.size 0 o (.slice a kids.length cap) ∧ CellsAt wr (w.heap.size + 1) 0 o' (.slice a' kids.length cap'))
        case atStart => exact ⟨0, by omega, rfl, Lib.hid rfl, hbw0, HX1.out, HX2.out⟩
        case round =>
          obtain ⟨i, hig, rfl, HS, hbw, hx1, hx2⟩ := hrel
          have b6 : wr.cell? ⟨w.heap.size, 6, none⟩ = _ := hx1.c6
          have d6 : wr.cell? ⟨w.heap.size + 1, 6, none⟩ = _ := hx2.c6
          have HX1 := Lib.hid hx1
          have HX2 := Lib.hid hx2
          have hsz := hbw.size
          clear hx1 hx2 hbw0
          cases gk with
          | zero =>
            have hlt : ¬ ((i : Int) < (kids.length : Int)) := by omega
            have HE : Hid (sameL kids kids' = true) := Lib.hid (by rw [← HS.out, List.drop_eq_nil_of_le (by omega)]; rw [sameL]; simp)
            go_wp2
            go_ret
            exact ⟨ret_bool HE.out.symm, hbw⟩
          | succ g =>
            obtain ⟨t, hd, hmem⟩ := drop_cons hig
            obtain ⟨t', hd', _⟩ := drop_cons (l := kids') (i := i) (g := g) (by rw [← HL.out]; exact hig)
            rcases HK.out with rfl | ⟨b, off, rfl, hbB, hkl⟩
            · simp at hd
            rcases HK'.out with rfl | ⟨b', off', rfl, hbB', hkl'⟩
            · simp at hd'
            obtain ⟨L1, hcell, hin1⟩ := hkl.get hd
            obtain ⟨L2, hcell', hin2⟩ := hkl'.get hd'
            obtain ⟨a1, cap1, rfl, _, _⟩ := hin1.slice
            obtain ⟨a2, cap2, rfl, _, _⟩ := hin2.slice
            obtain ⟨c0, c1, c2, c3, c4, c5, c6⟩ := cell_at hcell hbw
            obtain ⟨e0, e1, e2, e3, e4, e5, e6⟩ := cell_at hcell' hbw
            have hi1 : In wr B t _ := hin1.keep hbw
            have hi2 : In wr B t' _ := hin2.keep hbw
            have hlt : (i : Int) < (kids.length : Int) := by omega
            have HS2 : Hid (sameL kids kids' = (same t t' && sameL (kids.drop (i + 1)) (kids'.drop (i + 1)))) := Lib.hid (by rw [← HS.out, hd, hd', sameL])
            have HC := Lib.hid (fun W (hW : Below wr.heap.size wr W) => IH.out t hmem t' W _ _ (hi1.keep hW) (hi2.keep hW))
            unfold nodeV at HC
            clear hd hd' HK HK' hkl hkl' hcell hcell' hin1 hin2 hi1 hi2 IH HS
            generalize same t t' = sm at *
            go_wp2_with fail
            have HS0 : Hid (∀ W, Below wr.heap.size wr W → (Below wr.heap.size wr W ∧ W.cell? ⟨w.heap.size, 6, none⟩ = some (.slice (some ⟨b, off, none⟩) kids.length cap) ∧ W.cell? ⟨w.heap.size + 1, 6, none⟩ = some (.slice (some ⟨b', off', none⟩) kids.length cap') ∧ W.cell? ⟨b, off + i * 7, none⟩ = some (.int .i64 t.own.kind) ∧ W.cell? ⟨b, off + i * 7 + 1, none⟩ = some (.string t.own.s) ∧ W.cell? ⟨b, off + i * 7 + 2, none⟩ = some (.string t.own.t) ∧ W.cell? ⟨b, off + i * 7 + 3, none⟩ = some (.int .i64 t.own.n) ∧ W.cell? ⟨b, off + i * 7 + 4, none⟩ = some (.int .i64 t.own.m) ∧ W.cell? ⟨b, off + i * 7 + 5, none⟩ = some (.bool t.own.flag) ∧ W.cell? ⟨b, off + i * 7 + 6, none⟩ = some (.slice a1 t.kids.length cap1) ∧ W.cell? ⟨b', off' + i * 7, none⟩ = some (.int .i64 t'.own.kind) ∧ W.cell? ⟨b', off' + i * 7 + 1, none⟩ = some (.string t'.own.s) ∧ W.cell? ⟨b', off' + i * 7 + 2, none⟩ = some (.string t'.own.t) ∧ W.cell? ⟨b', off' + i * 7 + 3, none⟩ = some (.int .i64 t'.own.n) ∧ W.cell? ⟨b', off' + i * 7 + 4, none⟩ = some (.int .i64 t'.own.m) ∧ W.cell? ⟨b', off' + i * 7 + 5, none⟩ = some (.bool t'.own.flag) ∧ W.cell? ⟨b', off' + i * 7 + 6, none⟩ = some (.slice a2 t'.kids.length cap2))) := Lib.hid (fun W hW => ⟨hW, keep_cell hW b6, keep_cell hW d6, keep_cell hW c0, keep_cell hW c1, keep_cell hW c2, keep_cell hW c3, keep_cell hW c4, keep_cell hW c5, keep_cell hW c6, keep_cell hW e0, keep_cell hW e1, keep_cell hW e2, keep_cell hW e3, keep_cell hW e4, keep_cell hW e5, keep_cell hW e6⟩)
            clear b6 d6 c0 c1 c2 c3 c4 c5 c6 e0 e1 e2 e3 e4 e5 e6
            go_region_held3 (fun W => Below wr.heap.size wr W ∧ W.cell? ⟨w.heap.size, 6, none⟩ = some (.slice (some ⟨b, off, none⟩) kids.length cap) ∧ W.cell? ⟨w.heap.size + 1, 6, none⟩ = some (.slice (some ⟨b', off', none⟩) kids.length cap') ∧ W.cell? ⟨b, off + i * 7, none⟩ = some (.int .i64 t.own.kind) ∧ W.cell? ⟨b, off + i * 7 + 1, none⟩ = some (.string t.own.s) ∧ W.cell? ⟨b, off + i * 7 + 2, none⟩ = some (.string t.own.t) ∧ W.cell? ⟨b, off + i * 7 + 3, none⟩ = some (.int .i64 t.own.n) ∧ W.cell? ⟨b, off + i * 7 + 4, none⟩ = some (.int .i64 t.own.m) ∧ W.cell? ⟨b, off + i * 7 + 5, none⟩ = some (.bool t.own.flag) ∧ W.cell? ⟨b, off + i * 7 + 6, none⟩ = some (.slice a1 t.kids.length cap1) ∧ W.cell? ⟨b', off' + i * 7, none⟩ = some (.int .i64 t'.own.kind) ∧ W.cell? ⟨b', off' + i * 7 + 1, none⟩ = some (.string t'.own.s) ∧ W.cell? ⟨b', off' + i * 7 + 2, none⟩ = some (.string t'.own.t) ∧ W.cell? ⟨b', off' + i * 7 + 3, none⟩ = some (.int .i64 t'.own.n) ∧ W.cell? ⟨b', off' + i * 7 + 4, none⟩ = some (.int .i64 t'.own.m) ∧ W.cell? ⟨b', off' + i * 7 + 5, none⟩ = some (.bool t'.own.flag) ∧ W.cell? ⟨b', off' + i * 7 + 6, none⟩ = some (.slice a2 t'.kids.length cap2)) (first | exact HS0.out _ (Below.refl _ _).drew | exact HS0.out _ (below_later (Below.refl _ _).drew (by assumption))) ((go_at_call 34; refine (HC.out _ (Below.refl _ _).drew).mono ?_; rintro e w2 ⟨rfl, hb2⟩))
            clear HS0
            have hb3 : Below wr.heap.size wr w2 := below_later (Below.refl _ _).drew hb2
            have hbw2 : Below w.heap.size w w2 := hbw.trans (hb3.mono hsz)
            have HX1' := Lib.hid (cell_at HX1.out hb3)
            have HX2' := Lib.hid (cell_at HX2.out hb3)
            have HS3 := HS2
            cases sm with
            | false =>
              rw [Bool.false_and] at HS3
              go_wp2
              go_ret
              exact ⟨ret_bool HS3.out.symm, hbw2⟩
            | true =>
              rw [Bool.true_and] at HS3
              go_wp2
              go_roundg g
              case rel => exact ⟨i + 1, by omega, by go_num, Lib.hid HS3.out.symm, hbw2, HX1'.out, HX2'.out⟩
              case measure => omega
      · have hl1 : ((kids.length : Int) == (kids'.length : Int)) = false := by simp; omega
        have hl2 : (kids.length == kids'.length) = false := by simpa using hl
        have hl3 : ((kids.length : Int) != (kids'.length : Int)) = true := by simp; omega
        have hl4 : ¬ (kids.length : Int) = (kids'.length : Int) := by omega
        rw [hl2, Bool.and_false, Bool.false_and]
        clear hl2 hl
        go_enter Try.func34, Try.ntmps34
        go_wp2_with fail
        refine (HA.out _ _ _).mono ?_
        rintro e w1 ⟨rfl, hb1⟩
        clear HA
        have hx1 := cell_at (cell_at (box_cells w o (.slice a kids.length cap) 24) ((Below.refl _ _).alloc (Nat.le_refl _) (.cells #[.int .i64 o'.kind, .string o'.s, .string o'.t, .int .i64 o'.n, .int .i64 o'.m, .bool o'.flag, .slice a' kids'.length cap'] 24))) hb1
        have hx2 := cell_at (box_cells (w.alloc (.cells #[.int .i64 o.kind, .string o.s, .string o.t, .int .i64 o.n, .int .i64 o.m, .bool o.flag, .slice a kids.length cap] 24)) o' (.slice a' kids'.length cap') 24) hb1
        rw [World.size_alloc] at hx2
        have hbw0 : Below w.heap.size w w1 := (((Below.refl _ w).alloc (Nat.le_refl _) _).alloc (by simp) _).trans (hb1.mono (by simp; omega))
        have b6 : w1.cell? ⟨w.heap.size, 6, none⟩ = _ := hx1.c6
        have d6 : w1.cell? ⟨w.heap.size + 1, 6, none⟩ = _ := hx2.c6
        clear hx1 hx2 hb1
        go_wp2
        go_ret
        exact ⟨rfl, hbw0⟩
    · have hown2 : Own.eq o o' = false := by simpa using hown
      rw [hown2] at HA ⊢
      rw [Bool.false_and, Bool.false_and]
      clear hown hown2
      go_enter Try.func34, Try.ntmps34
      go_wp2_with fail
      refine (HA.out _ _ _).mono ?_
      rintro e w1 ⟨rfl, hb1⟩
      clear HA
      have hbw0 : Below w.heap.size w w1 := (((Below.refl _ w).alloc (Nat.le_refl _) _).alloc (by simp) _).trans (hb1.mono (by simp; omega))
      go_wp2
      go_ret
      exact ⟨rfl, hbw0⟩

set_option maxHeartbeats 4000000 in
theorem rsame_any {B : Nat → Prop} (T : Tree) : ∀ (U : Tree) (w : World) (L L' : Value), In w B T L → In w B U L' →
    Calls Try.prog 30 #[nodeV T.own L, nodeV U.own L'] w fun e w' => e = .returned (.bool (same T U)) ∧ Below w.heap.size w w' := by
  induction T using Tree.ind with
  | h o kids ih =>
    intro U w L L' hin hin'
    obtain ⟨o', kids'⟩ := U
    rw [In] at hin hin'
    obtain ⟨a, cap, rfl, hlc, hcm, hk⟩ := hin
    obtain ⟨a', cap', rfl, hlc', hcm', hk'⟩ := hin'
    unfold maxLen at hcm hcm'
    have HK := Lib.hid hk
    have HK' := Lib.hid hk'
    clear hk hk'
    have IH := Lib.hid ih
    clear ih
    have HA := Lib.hid (fun L L' W => rown_any o o' L L' W)
    unfold nodeV at HA
    rw [same]
    show Calls _ _ #[nodeV o _, nodeV o' _] _ _
    unfold nodeV
    by_cases hown : Own.eq o o' = true
    · rw [hown] at HA ⊢
      clear hown
      by_cases hl : kids.length = kids'.length
      · rw [← hl, show (kids.length == kids.length) = true by simp, Bool.true_and, Bool.true_and]
        rw [← hl] at hlc'
        have HL := Lib.hid hl
        clear hl
        go_enter Try.func30, Try.ntmps30
        go_wp2_with fail
        refine (HA.out _ _ _).mono ?_
        rintro e w1 ⟨rfl, hb1⟩
        clear HA
        have hx1 := cell_at (cell_at (box_cells w o (.slice a kids.length cap) 24) ((Below.refl _ _).alloc (Nat.le_refl _) (.cells #[.int .i64 o'.kind, .string o'.s, .string o'.t, .int .i64 o'.n, .int .i64 o'.m, .bool o'.flag, .slice a' kids.length cap'] 24))) hb1
        have hx2 := cell_at (box_cells (w.alloc (.cells #[.int .i64 o.kind, .string o.s, .string o.t, .int .i64 o.n, .int .i64 o.m, .bool o.flag, .slice a kids.length cap] 24)) o' (.slice a' kids.length cap') 24) hb1
        rw [World.size_alloc] at hx2
        have hbw0 : Below w.heap.size w w1 := (((Below.refl _ w).alloc (Nat.le_refl _) _).alloc (by simp) _).trans (hb1.mono (by simp; omega))
        have b6 : w1.cell? ⟨w.heap.size, 6, none⟩ = _ := hx1.c6
        have d6 : w1.cell? ⟨w.heap.size + 1, 6, none⟩ = _ := hx2.c6
        have HX1 := Lib.hid hx1
        have HX2 := Lib.hid hx2
        clear hx1 hx2 hb1
        go_wp2
        clear b6 d6
        go_loopg [5] kids.length (fun g s22 wr => ∃ (i : Nat), i + g = kids.length ∧ s22 = .int .i64 i ∧ Hid (sameL (kids.drop i) (kids'.drop i) = sameL kids kids') ∧ Below w.heap.size w wr ∧ CellsAt wr w.heap.size 0 o (.slice a kids.length cap) ∧ CellsAt wr (w.heap.size + 1) 0 o' (.slice a' kids.length cap'))
        case atStart => exact ⟨0, by omega, rfl, Lib.hid rfl, hbw0, HX1.out, HX2.out⟩
        case round =>
          obtain ⟨i, hig, rfl, HS, hbw, hx1, hx2⟩ := hrel
          have b6 : wr.cell? ⟨w.heap.size, 6, none⟩ = _ := hx1.c6
          have d6 : wr.cell? ⟨w.heap.size + 1, 6, none⟩ = _ := hx2.c6
          have HX1 := Lib.hid hx1
          have HX2 := Lib.hid hx2
          have hsz := hbw.size
          clear hx1 hx2 hbw0
          cases gk with
          | zero =>
            have hlt : ¬ ((i : Int) < (kids.length : Int)) := by omega
            have HE : Hid (sameL kids kids' = true) := Lib.hid (by rw [← HS.out, List.drop_eq_nil_of_le (by omega)]; rw [sameL]; simp)
            go_wp2
            go_ret
            exact ⟨ret_bool HE.out.symm, hbw⟩
          | succ g =>
            obtain ⟨t, hd, hmem⟩ := drop_cons hig
            obtain ⟨t', hd', _⟩ := drop_cons (l := kids') (i := i) (g := g) (by rw [← HL.out]; exact hig)
            rcases HK.out with rfl | ⟨b, off, rfl, hbB, hkl⟩
            · simp at hd
            rcases HK'.out with rfl | ⟨b', off', rfl, hbB', hkl'⟩
            · simp at hd'
            obtain ⟨L1, hcell, hin1⟩ := hkl.get hd
            obtain ⟨L2, hcell', hin2⟩ := hkl'.get hd'
            obtain ⟨a1, cap1, rfl, _, _⟩ := hin1.slice
            obtain ⟨a2, cap2, rfl, _, _⟩ := hin2.slice
            obtain ⟨c0, c1, c2, c3, c4, c5, c6⟩ := cell_at hcell hbw
            obtain ⟨e0, e1, e2, e3, e4, e5, e6⟩ := cell_at hcell' hbw
            have hi1 : In wr B t _ := hin1.keep hbw
            have hi2 : In wr B t' _ := hin2.keep hbw
            have hlt : (i : Int) < (kids.length : Int) := by omega
            have HS2 : Hid (sameL kids kids' = (same t t' && sameL (kids.drop (i + 1)) (kids'.drop (i + 1)))) := Lib.hid (by rw [← HS.out, hd, hd', sameL])
            have HC := Lib.hid (fun W (hW : Below wr.heap.size wr W) => IH.out t hmem t' W _ _ (hi1.keep hW) (hi2.keep hW))
            unfold nodeV at HC
            clear hd hd' HK HK' hkl hkl' hcell hcell' hin1 hin2 hi1 hi2 IH HS
            generalize same t t' = sm at *
            go_wp2_with fail
            have HS0 : Hid (∀ W, Below wr.heap.size wr W → (Below wr.heap.size wr W ∧ W.cell? ⟨w.heap.size, 6, none⟩ = some (.slice (some ⟨b, off, none⟩) kids.length cap) ∧ W.cell? ⟨w.heap.size + 1, 6, none⟩ = some (.slice (some ⟨b', off', none⟩) kids.length cap') ∧ W.cell? ⟨b, off + i * 7, none⟩ = some (.int .i64 t.own.kind) ∧ W.cell? ⟨b, off + i * 7 + 1, none⟩ = some (.string t.own.s) ∧ W.cell? ⟨b, off + i * 7 + 2, none⟩ = some (.string t.own.t) ∧ W.cell? ⟨b, off + i * 7 + 3, none⟩ = some (.int .i64 t.own.n) ∧ W.cell? ⟨b, off + i * 7 + 4, none⟩ = some (.int .i64 t.own.m) ∧ W.cell? ⟨b, off + i * 7 + 5, none⟩ = some (.bool t.own.flag) ∧ W.cell? ⟨b, off + i * 7 + 6, none⟩ = some (.slice a1 t.kids.length cap1) ∧ W.cell? ⟨b', off' + i * 7, none⟩ = some (.int .i64 t'.own.kind) ∧ W.cell? ⟨b', off' + i * 7 + 1, none⟩ = some (.string t'.own.s) ∧ W.cell? ⟨b', off' + i * 7 + 2, none⟩ = some (.string t'.own.t) ∧ W.cell? ⟨b', off' + i * 7 + 3, none⟩ = some (.int .i64 t'.own.n) ∧ W.cell? ⟨b', off' + i * 7 + 4, none⟩ = some (.int .i64 t'.own.m) ∧ W.cell? ⟨b', off' + i * 7 + 5, none⟩ = some (.bool t'.own.flag) ∧ W.cell? ⟨b', off' + i * 7 + 6, none⟩ = some (.slice a2 t'.kids.length cap2))) := Lib.hid (fun W hW => ⟨hW, keep_cell hW b6, keep_cell hW d6, keep_cell hW c0, keep_cell hW c1, keep_cell hW c2, keep_cell hW c3, keep_cell hW c4, keep_cell hW c5, keep_cell hW c6, keep_cell hW e0, keep_cell hW e1, keep_cell hW e2, keep_cell hW e3, keep_cell hW e4, keep_cell hW e5, keep_cell hW e6⟩)
            clear b6 d6 c0 c1 c2 c3 c4 c5 c6 e0 e1 e2 e3 e4 e5 e6
            go_region_held3 (fun W => Below wr.heap.size wr W ∧ W.cell? ⟨w.heap.size, 6, none⟩ = some (.slice (some ⟨b, off, none⟩) kids.length cap) ∧ W.cell? ⟨w.heap.size + 1, 6, none⟩ = some (.slice (some ⟨b', off', none⟩) kids.length cap') ∧ W.cell? ⟨b, off + i * 7, none⟩ = some (.int .i64 t.own.kind) ∧ W.cell? ⟨b, off + i * 7 + 1, none⟩ = some (.string t.own.s) ∧ W.cell? ⟨b, off + i * 7 + 2, none⟩ = some (.string t.own.t) ∧ W.cell? ⟨b, off + i * 7 + 3, none⟩ = some (.int .i64 t.own.n) ∧ W.cell? ⟨b, off + i * 7 + 4, none⟩ = some (.int .i64 t.own.m) ∧ W.cell? ⟨b, off + i * 7 + 5, none⟩ = some (.bool t.own.flag) ∧ W.cell? ⟨b, off + i * 7 + 6, none⟩ = some (.slice a1 t.kids.length cap1) ∧ W.cell? ⟨b', off' + i * 7, none⟩ = some (.int .i64 t'.own.kind) ∧ W.cell? ⟨b', off' + i * 7 + 1, none⟩ = some (.string t'.own.s) ∧ W.cell? ⟨b', off' + i * 7 + 2, none⟩ = some (.string t'.own.t) ∧ W.cell? ⟨b', off' + i * 7 + 3, none⟩ = some (.int .i64 t'.own.n) ∧ W.cell? ⟨b', off' + i * 7 + 4, none⟩ = some (.int .i64 t'.own.m) ∧ W.cell? ⟨b', off' + i * 7 + 5, none⟩ = some (.bool t'.own.flag) ∧ W.cell? ⟨b', off' + i * 7 + 6, none⟩ = some (.slice a2 t'.kids.length cap2)) (first | exact HS0.out _ (Below.refl _ _).drew | exact HS0.out _ (below_later (Below.refl _ _).drew (by assumption))) ((go_at_call 30; refine (HC.out _ (Below.refl _ _).drew).mono ?_; rintro e w2 ⟨rfl, hb2⟩))
            clear HS0
            have hb3 : Below wr.heap.size wr w2 := below_later (Below.refl _ _).drew hb2
            have hbw2 : Below w.heap.size w w2 := hbw.trans (hb3.mono hsz)
            have HX1' := Lib.hid (cell_at HX1.out hb3)
            have HX2' := Lib.hid (cell_at HX2.out hb3)
            have HS3 := HS2
            cases sm with
            | false =>
              rw [Bool.false_and] at HS3
              go_wp2
              go_ret
              exact ⟨ret_bool HS3.out.symm, hbw2⟩
            | true =>
              rw [Bool.true_and] at HS3
              go_wp2
              go_roundg g
              case rel => exact ⟨i + 1, by omega, by go_num, Lib.hid HS3.out.symm, hbw2, HX1'.out, HX2'.out⟩
              case measure => omega
      · have hl1 : ((kids.length : Int) == (kids'.length : Int)) = false := by simp; omega
        have hl2 : (kids.length == kids'.length) = false := by simpa using hl
        have hl3 : ((kids.length : Int) != (kids'.length : Int)) = true := by simp; omega
        have hl4 : ¬ (kids.length : Int) = (kids'.length : Int) := by omega
        rw [hl2, Bool.and_false, Bool.false_and]
        clear hl2 hl
        go_enter Try.func30, Try.ntmps30
        go_wp2_with fail
        refine (HA.out _ _ _).mono ?_
        rintro e w1 ⟨rfl, hb1⟩
        clear HA
        have hx1 := cell_at (cell_at (box_cells w o (.slice a kids.length cap) 24) ((Below.refl _ _).alloc (Nat.le_refl _) (.cells #[.int .i64 o'.kind, .string o'.s, .string o'.t, .int .i64 o'.n, .int .i64 o'.m, .bool o'.flag, .slice a' kids'.length cap'] 24))) hb1
        have hx2 := cell_at (box_cells (w.alloc (.cells #[.int .i64 o.kind, .string o.s, .string o.t, .int .i64 o.n, .int .i64 o.m, .bool o.flag, .slice a kids.length cap] 24)) o' (.slice a' kids'.length cap') 24) hb1
        rw [World.size_alloc] at hx2
        have hbw0 : Below w.heap.size w w1 := (((Below.refl _ w).alloc (Nat.le_refl _) _).alloc (by simp) _).trans (hb1.mono (by simp; omega))
        have b6 : w1.cell? ⟨w.heap.size, 6, none⟩ = _ := hx1.c6
        have d6 : w1.cell? ⟨w.heap.size + 1, 6, none⟩ = _ := hx2.c6
        clear hx1 hx2 hb1
        go_wp2
        go_ret
        exact ⟨rfl, hbw0⟩
    · have hown2 : Own.eq o o' = false := by simpa using hown
      rw [hown2] at HA ⊢
      rw [Bool.false_and, Bool.false_and]
      clear hown hown2
      go_enter Try.func30, Try.ntmps30
      go_wp2_with fail
      refine (HA.out _ _ _).mono ?_
      rintro e w1 ⟨rfl, hb1⟩
      clear HA
      have hbw0 : Below w.heap.size w w1 := (((Below.refl _ w).alloc (Nat.le_refl _) _).alloc (by simp) _).trans (hb1.mono (by simp; omega))
      go_wp2
      go_ret
      exact ⟨rfl, hbw0⟩
end Tr
end Go.Proofs.Ytlpfffioidbkeaa
