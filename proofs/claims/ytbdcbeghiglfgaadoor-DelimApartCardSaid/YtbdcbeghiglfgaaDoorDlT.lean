/- Layer 13: the program's pairs and runs as the document's. -/
import Derived.Test.YtbdcbeghiglfgaaDoorDlMem
import Derived.Deep.AppendLies
import Derived.Deep.DrawnRows
import Derived.Deep.RegionHeld3
namespace Go.Proofs.YtbdcbeghiglfgaaDoor
open Go Go.RowKit
namespace Dl
set_option maxRecDepth 100000
set_option linter.unusedVariables false
set_option linter.unusedSimpArgs false

theorem infoRun : (Tryd.prog.info? 55).map (fun i => (i.zero, i.size, i.bytes)) = some (some (.agg (runE ⟨0, 0, false, false⟩).toArray), 4, 24) := by kernel_rfl
theorem infoPair : (Tryd.prog.info? 46).map (fun i => (i.zero, i.size, i.bytes)) = some (some (.agg (pairE (0, 0, 0)).toArray), 3, 24) := by kernel_rfl
theorem take_more {α : Type} {L : List α} {i : Nat} {x : α} (h : L[i]? = some x) : L.take (i + 1) = L.take i ++ [x] := by rw [List.take_add_one, h]; rfl
set_option maxHeartbeats 16000000 in
theorem runs_any (L : List Rn) (w : World) (v : Value) (hL : L.length ≤ 100000) (hin : Runs w v L) :
    Calls Tryd.prog 17 #[v] w fun e w' => ∃ u, e = .returned u ∧ Runs w' u L ∧ Below w.heap.size w w' := by
  obtain ⟨iN, hi, hz0, hz1, hz2⟩ := info_parts infoRun
  obtain ⟨a1, cp, rfl, hlm, hk⟩ := hin
  unfold maxLen at hlm
  have HK := Lib.hid hk
  obtain ⟨N, hN⟩ : ∃ N, L.length = N := ⟨_, rfl⟩
  rw [hN] at hlm hL ⊢
  have HN := Lib.hid hN
  clear hN hk
  go_enter Tryd.func17, Tryd.ntmps17
  go_wp2
  go_loopg [3, 4] N (fun G s3 s4 wr => ∃ i : Nat, i + G = N ∧ s4 = .int .i64 (i : Int) ∧ Hid (OwnG runE 4 55 wr w.heap.size s3 (L.take i)) ∧ Hid (Below w.heap.size w wr))
  case atStart => exact ⟨0, by omega, rfl, Lib.hid (OwnG.nil _ _), Lib.hid (Below.refl _ _)⟩
  case round =>
    obtain ⟨i, hig, rfl, HO, HB⟩ := hrel
    obtain ⟨a3, c3, e3⟩ := HO.out.form
    have hlt' : (L.take i).length = i := by rw [List.length_take, HN.out]; omega
    rw [hlt'] at e3
    subst e3
    have HLi := Lib.hid hlt'
    clear hlt'
    cases gk with
    | zero =>
      have hlt : ¬ (i : Int) < (N : Int) := by omega
      have HE : Hid (Runs wr (.slice a3 i c3) L) := Lib.hid (by
        have h1 := RowsG.of_owns runE_len HO.out
        rw [List.take_of_length_le (by rw [HN.out]; omega)] at h1
        exact h1)
      go_wp2
      go_ret
      exact ⟨_, rfl, HE.out, HB.out⟩
    | succ G =>
      have hlt : (i : Int) < (N : Int) := by omega
      have hil : i < L.length := by rw [HN.out]; omega
      have HTk := Lib.hid (take_more (rn_at hil))
      rcases HK.out with rfl | ⟨b, off, rfl, hcell⟩
      · simp at hil
      have HCl : Hid (∀ W, Below wr.heap.size wr W → W.cell? ⟨b, off + i * 4, none⟩ = some (.int .u8 ((rn L i).c.toNat : Int)) ∧ W.cell? ⟨b, off + i * 4 + 1, none⟩ = some (.int .i64 (rn L i).n) ∧ W.cell? ⟨b, off + i * 4 + 2, none⟩ = some (.bool (rn L i).o) ∧ W.cell? ⟨b, off + i * 4 + 3, none⟩ = some (.bool (rn L i).k)) :=
        Lib.hid (fun W hW => run_cells (((hcell i _ (rn_at hil)).keep HB.out).keep hW))
      have HRow : Hid (∀ W, Below wr.heap.size wr W → W.ownsRow w.heap.size 55 4 (.slice a3 i c3) i (rowG runE (L.take i))) := Lib.hid (fun W hW => by have h1 := owns_keep HO.out hW; rw [HLi.out] at h1; exact h1)
      have hge : ∀ k, (Value.slice a3 i c3).ownBlock = some k → w.heap.size ≤ k := fun k hk => (HO.out.lt k hk).1
      have HKp : Hid (∀ o W, (wr.drew.alloc o).grownBy W (Value.slice a3 i c3).ownBlock → W.cell? ⟨b, off + i * 4, none⟩ = some (.int .u8 ((rn L i).c.toNat : Int)) ∧ W.cell? ⟨b, off + i * 4 + 1, none⟩ = some (.int .i64 (rn L i).n) ∧ W.cell? ⟨b, off + i * 4 + 2, none⟩ = some (.bool (rn L i).o) ∧ W.cell? ⟨b, off + i * 4 + 3, none⟩ = some (.bool (rn L i).k)) :=
        Lib.hid (fun o W hg => run_cells ((hcell i _ (rn_at hil)).keep ((HB.out.drew.alloc (by have := HB.out.size; exact this) o).grown hg (by have := HB.out.size; simp; omega) hge)))
      clear hcell hge
      have HEl : Hid (runE (rn L i) = runE (rn L i)) := Lib.hid rfl
      obtain ⟨r, hr⟩ : ∃ r, rn L i = r := ⟨_, rfl⟩
      rw [hr] at HCl HKp HEl HTk
      clear hr
      obtain ⟨⟨rc, rn, ro, rk⟩, hr⟩ : ∃ x : Rn, r = x := ⟨_, rfl⟩
      subst hr
      have HX : Hid (runE ⟨rc, rn, ro, rk⟩ = [.int .u8 (rc.toNat : Int), .int .i64 rn, .bool ro, .bool rk]) := Lib.hid rfl
      have HN9 : Hid (i ≤ 100000) := Lib.hid (by omega)
      go_wp2_with fail
      go_region_held3 (fun W => W.cell? ⟨b, off + i * 4, none⟩ = some (.int .u8 (rc.toNat : Int)) ∧ W.cell? ⟨b, off + i * 4 + 1, none⟩ = some (.int .i64 rn) ∧ W.cell? ⟨b, off + i * 4 + 2, none⟩ = some (.bool ro) ∧ W.cell? ⟨b, off + i * 4 + 3, none⟩ = some (.bool rk))
        (first | exact hS4 | exact HCl.out _ (Below.refl _ _) | exact HCl.out _ (Below.refl _ _).drew | exact HCl.out _ ((Below.refl _ _).drew.alloc (Nat.le_refl _) _))
        ((refine step_append_lies _ rfl (.tmp 11) (.tmp 33) 35 rfl w.heap.size 55 iN (.agg (runE ⟨0, 0, false, false⟩).toArray) 4 24 Tryd.underlying35 hi hz0 hz1 hz2 rfl (by decide) (.slice a3 i c3) i (rowG runE (L.take i)) (by simp [Act.eval, Act.put]) (HRow.out _ ((Below.refl _ wr).drew.alloc (Nat.le_refl _) _)) ⟨wr.heap.size, 0, none⟩ 1 1 (runE ⟨rc, rn, ro, rk⟩) (by simp [Act.eval, Act.put]) rfl (World.news_of_block (heap_alloc_new wr.drew _)) (runE_one _) (by decide) (by have := HN9.out; unfold maxLen; omega) (by have := HN9.out; omega) (Nat.le_trans HB.out.size ((Below.refl _ wr).drew.alloc (Nat.le_refl _) _).size) _ rfl ?_; intro g' cap' w4 hown4 hgrow4 hat4 hlt4; have hS4 := HKp.out _ w4 hgrow4))
      all_goals
        have hM := OwnG.more (w := w) (w1 := wr.drew) (w2 := w4) (u := .slice a3 i c3) (v' := .slice (some ⟨g', 0, none⟩) (i + 1) cap') (l := L.take i) (x := (⟨rc, rn, ro, rk⟩ : Rn)) (Nat.le_refl _) (HO.out.keep (Below.refl _ wr).drew) HB.out.drew (by rw [HLi.out]; exact hown4) hgrow4
        rw [← HTk.out] at hM
        have HM := Lib.hid hM
        clear hM hown4 hgrow4 hat4 hlt4
        go_wp2
        go_roundg G
        case rel => exact ⟨i + 1, by omega, rfl, HM.out.1, HM.out.2⟩
        case measure => omega
set_option maxHeartbeats 16000000 in
theorem theirs_any (L : List Pr) (w : World) (v : Value) (hL : L.length ≤ 100000) (hin : Prs w v L) :
    Calls Tryd.prog 14 #[v] w fun e w' => ∃ u, e = .returned u ∧ Prs w' u L ∧ Below w.heap.size w w' := by
  obtain ⟨iN, hi, hz0, hz1, hz2⟩ := info_parts infoPair
  obtain ⟨a1, cp, rfl, hlm, hk⟩ := hin
  unfold maxLen at hlm
  have HK := Lib.hid hk
  obtain ⟨N, hN⟩ : ∃ N, L.length = N := ⟨_, rfl⟩
  rw [hN] at hlm hL ⊢
  have HN := Lib.hid hN
  clear hN hk
  go_enter Tryd.func14, Tryd.ntmps14
  go_wp2
  go_loopg [3, 4] N (fun G s3 s4 wr => ∃ i : Nat, i + G = N ∧ s4 = .int .i64 (i : Int) ∧ Hid (OwnG pairE 3 46 wr w.heap.size s3 (L.take i)) ∧ Hid (Below w.heap.size w wr))
  case atStart => exact ⟨0, by omega, rfl, Lib.hid (OwnG.nil _ _), Lib.hid (Below.refl _ _)⟩
  case round =>
    obtain ⟨i, hig, rfl, HO, HB⟩ := hrel
    obtain ⟨a3, c3, e3⟩ := HO.out.form
    have hlt' : (L.take i).length = i := by rw [List.length_take, HN.out]; omega
    rw [hlt'] at e3
    subst e3
    have HLi := Lib.hid hlt'
    clear hlt'
    cases gk with
    | zero =>
      have hlt : ¬ (i : Int) < (N : Int) := by omega
      have HE : Hid (Prs wr (.slice a3 i c3) L) := Lib.hid (by
        have h1 := RowsG.of_owns pairE_len HO.out
        rw [List.take_of_length_le (by rw [HN.out]; omega)] at h1
        exact h1)
      go_wp2
      go_ret
      exact ⟨_, rfl, HE.out, HB.out⟩
    | succ G =>
      have hlt : (i : Int) < (N : Int) := by omega
      have hil : i < L.length := by rw [HN.out]; omega
      obtain ⟨q, hq⟩ : ∃ q, L[i]? = some q := ⟨_, List.getElem?_eq_getElem hil⟩
      have HTk := Lib.hid (take_more hq)
      rcases HK.out with rfl | ⟨b, off, rfl, hcell⟩
      · simp at hil
      have HCl : Hid (∀ W, Below wr.heap.size wr W → W.cell? ⟨b, off + i * 3, none⟩ = some (.int .i64 ((q.1 : Nat) : Int)) ∧ W.cell? ⟨b, off + i * 3 + 1, none⟩ = some (.int .i64 ((q.2.1 : Nat) : Int)) ∧ W.cell? ⟨b, off + i * 3 + 2, none⟩ = some (.int .i64 ((q.2.2 : Nat) : Int))) :=
        Lib.hid (fun W hW => pair_cells (((hcell i _ hq).keep HB.out).keep hW))
      have HRow : Hid (∀ W, Below wr.heap.size wr W → W.ownsRow w.heap.size 46 3 (.slice a3 i c3) i (rowG pairE (L.take i))) := Lib.hid (fun W hW => by have h1 := owns_keep HO.out hW; rw [HLi.out] at h1; exact h1)
      have hge : ∀ k, (Value.slice a3 i c3).ownBlock = some k → w.heap.size ≤ k := fun k hk => (HO.out.lt k hk).1
      have HKp : Hid (∀ o W, (wr.drew.alloc o).grownBy W (Value.slice a3 i c3).ownBlock → W.cell? ⟨b, off + i * 3, none⟩ = some (.int .i64 ((q.1 : Nat) : Int)) ∧ W.cell? ⟨b, off + i * 3 + 1, none⟩ = some (.int .i64 ((q.2.1 : Nat) : Int)) ∧ W.cell? ⟨b, off + i * 3 + 2, none⟩ = some (.int .i64 ((q.2.2 : Nat) : Int))) :=
        Lib.hid (fun o W hg => pair_cells ((hcell i _ hq).keep ((HB.out.drew.alloc (by have := HB.out.size; exact this) o).grown hg (by have := HB.out.size; simp; omega) hge)))
      clear hcell hge
      clear hq
      obtain ⟨x1, x2, x3⟩ := q
      have HN9 : Hid (i ≤ 100000) := Lib.hid (by omega)
      go_wp2_with fail
      go_region_held3 (fun W => W.cell? ⟨b, off + i * 3, none⟩ = some (.int .i64 (x1 : Int)) ∧ W.cell? ⟨b, off + i * 3 + 1, none⟩ = some (.int .i64 (x2 : Int)) ∧ W.cell? ⟨b, off + i * 3 + 2, none⟩ = some (.int .i64 (x3 : Int)))
        (first | exact hS4 | exact HCl.out _ (Below.refl _ _) | exact HCl.out _ (Below.refl _ _).drew | exact HCl.out _ ((Below.refl _ _).drew.alloc (Nat.le_refl _) _))
        ((refine step_append_lies _ rfl (.tmp 11) (.tmp 28) 30 rfl w.heap.size 46 iN (.agg (pairE (0, 0, 0)).toArray) 3 24 Tryd.underlying30 hi hz0 hz1 hz2 rfl (by decide) (.slice a3 i c3) i (rowG pairE (L.take i)) (by simp [Act.eval, Act.put]) (HRow.out _ ((Below.refl _ wr).drew.alloc (Nat.le_refl _) _)) ⟨wr.heap.size, 0, none⟩ 1 1 (pairE (x1, x2, x3)) (by simp [Act.eval, Act.put]) rfl (World.news_of_block (heap_alloc_new wr.drew _)) (pairE_one _) (by decide) (by have := HN9.out; unfold maxLen; omega) (by have := HN9.out; omega) (Nat.le_trans HB.out.size ((Below.refl _ wr).drew.alloc (Nat.le_refl _) _).size) _ rfl ?_; intro g' cap' w4 hown4 hgrow4 hat4 hlt4; have hS4 := HKp.out _ w4 hgrow4))
      all_goals
        have hM := OwnG.more (w := w) (w1 := wr.drew) (w2 := w4) (u := .slice a3 i c3) (v' := .slice (some ⟨g', 0, none⟩) (i + 1) cap') (l := L.take i) (x := ((x1, x2, x3) : Pr)) (Nat.le_refl _) (HO.out.keep (Below.refl _ wr).drew) HB.out.drew (by rw [HLi.out]; exact hown4) hgrow4
        rw [← HTk.out] at hM
        have HM := Lib.hid hM
        clear hM hown4 hgrow4 hat4 hlt4
        go_wp2
        go_roundg G
        case rel => exact ⟨i + 1, by omega, rfl, HM.out.1, HM.out.2⟩
        case measure => omega
end Dl
end Go.Proofs.YtbdcbeghiglfgaaDoor
