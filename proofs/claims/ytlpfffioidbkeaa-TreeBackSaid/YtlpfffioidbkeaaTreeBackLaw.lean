/- TreeBack: the law's walk. -/
import Derived.Test.YtlpfffioidbkeaaTreeV
import Derived.Test.YtlpfffioidbkeaaTreeQ
import Derived.Deep.RegionHeld3
import Derived.Deep.DrawnRows
namespace Go.Proofs.Ytlpfffioidbkeaa
open Go Go.RowKit
namespace TreeBack
open Tr
set_option maxRecDepth 100000
set_option linter.unusedVariables false
set_option linter.unusedSimpArgs false
attribute [local go_sem ↓] Go.wp_at_zero Go.wp_at_succ

theorem In.any {w : World} {Q : Nat → Prop} {T : Tree} {L : Value} (h : In w Q T L) : In w (fun _ => True) T L := In.carry_all (fun _ _ _ _ _ => trivial) (fun _ _ _ _ h => h) T h
theorem laid_at {o : Own} {kids : List Tree} {S : Ar} {ch : Nat → List Nat} {ids : List Nat} (h : Laid (Ar.one o) (fun _ => []) 0 kids S ch ids) : At S.o ch 0 S.n 0 (.mk o kids) := by
  have hn := h.n
  have e1 : (Ar.one o).n = 1 := rfl
  rw [e1] at hn
  rw [At]
  refine ⟨Nat.le_refl _, by omega, h.o 0 (by rw [e1]; omega), ?_⟩
  rw [h.chp, List.nil_append]
  exact h.at'.carry (Nat.zero_le _) (Nat.le_refl _) (fun _ _ _ => ⟨rfl, rfl⟩)

set_option maxHeartbeats 8000000 in
theorem law_any (T : Tree) (L : Value) (w : World) (hin : In w (fun b => b < w.heap.size) T L) (hz : Sz T) :
    Calls Try.prog 5 #[nodeV T.own L] w fun e w' => e = .returned (.bool true) ∧ Below w.heap.size w w' := by
  obtain ⟨a, cap, hL, _, _⟩ := hin.slice
  obtain ⟨n, hn⟩ : ∃ n, T.kids.length = n := ⟨_, rfl⟩
  rw [hn] at hL
  subst hL
  clear hn
  have hb0 : Below w.heap.size w (w.alloc (.cells (nodeC T.own (.slice a n cap)) 24)) := (Below.refl _ w).alloc (Nat.le_refl _) _
  have HX := Lib.hid (Blk.new w (nodeC T.own (.slice a n cap)) 24)
  have HA := Lib.hid (awake_any (w.alloc (.cells (nodeC T.own (.slice a n cap)) 24)))
  have HI := Lib.hid (fun W (hW : Below w.heap.size w W) => hin.keep hW)
  have HF := Lib.hid (fun W (hW : Below w.heap.size w W) => few_any (left := 2000) (hin.keep hW) hz (by decide) (by decide))
  have HB0 := Lib.hid hb0
  have HCnt := Lib.hid (few_cnt T 2000)
  have HZ := Lib.hid hz
  clear hin hz hb0
  unfold nodeV at HF
  unfold nodeC at HA
  unfold nodeV
  generalize few T 2000 = fw at *
  go_enter Try.func5, Try.ntmps5
  go_wp2_with fail
  refine HA.out.mono ?_
  rintro e w1 ⟨rfl, hb1⟩
  have K1 := HX.out.below hb1
  have HB1 := Lib.hid (below_later HB0.out hb1)
  have x0 : w1.cell? ⟨w.heap.size, 0, none⟩ = _ := K1.node.c0
  have x1 : w1.cell? ⟨w.heap.size, 1, none⟩ = _ := K1.node.c1
  have x2 : w1.cell? ⟨w.heap.size, 2, none⟩ = _ := K1.node.c2
  have x3 : w1.cell? ⟨w.heap.size, 3, none⟩ = _ := K1.node.c3
  have x4 : w1.cell? ⟨w.heap.size, 4, none⟩ = _ := K1.node.c4
  have x5 : w1.cell? ⟨w.heap.size, 5, none⟩ = _ := K1.node.c5
  have x6 : w1.cell? ⟨w.heap.size, 6, none⟩ = _ := K1.node.c6
  have HK1 := Lib.hid K1
  clear K1 hb1 HA HX
  go_wp2_with fail
  refine (HF.out _ HB1.out).mono ?_
  rintro e w2 ⟨rfl, hb2⟩
  have HB2 := Lib.hid (below_later HB1.out hb2)
  rcases Classical.em (¬ 0 ≤ fw) with hfw | hfw
  · have hd : decide (0 ≤ fw) = false := by simpa using hfw
    rw [hd]
    clear hd hfw
    go_wp2
    go_ret
    exact ⟨rfl, HB2.out⟩
  have hfw : 0 ≤ fw := by omega
  have hd : decide (0 ≤ fw) = true := by simpa using hfw
  rw [hd]
  have hcnt := HCnt.out hfw
  have hC : T.cnt ≤ 2000 := by omega
  have hDp := dep_le_cnt T
  clear hd hfw hcnt HCnt
  have hos : T.own.s.size ≤ 281474976710656 ∧ T.own.t.size ≤ 281474976710656 := by
    have := HZ.out
    cases T with | mk o k => rw [Sz] at this; exact ⟨by show o.s.size ≤ _; omega, by show o.t.size ≤ _; omega⟩
  have HN := Lib.hid (new_any T.own a n cap w2 hos.1 hos.2)
  have K2 := HK1.out.below hb2
  have HI2 := Lib.hid (HI.out w2 HB2.out)
  have y0 : w2.cell? ⟨w.heap.size, 0, none⟩ = _ := K2.node.c0
  have y1 : w2.cell? ⟨w.heap.size, 1, none⟩ = _ := K2.node.c1
  have y2 : w2.cell? ⟨w.heap.size, 2, none⟩ = _ := K2.node.c2
  have y3 : w2.cell? ⟨w.heap.size, 3, none⟩ = _ := K2.node.c3
  have y4 : w2.cell? ⟨w.heap.size, 4, none⟩ = _ := K2.node.c4
  have y5 : w2.cell? ⟨w.heap.size, 5, none⟩ = _ := K2.node.c5
  have y6 : w2.cell? ⟨w.heap.size, 6, none⟩ = _ := K2.node.c6
  have hwlt := K2.lt
  have HK2 := Lib.hid K2
  unfold nodeV at HN
  clear K2 hb2 x0 x1 x2 x3 x4 x5 x6 HK1 HF HI HB1 hos
  go_wp2_with fail
  refine HN.out.mono ?_
  rintro e w3 ⟨A, g, rfl, h3, hA3, hg3, hb3⟩
  have HB3 := Lib.hid (below_later HB2.out hb3)
  have hbA : w.heap.size + 1 ≤ A := by omega
  have hbg : w.heap.size + 1 ≤ g := by omega
  have hs3 : w.heap.size + 1 ≤ w3.heap.size := Nat.le_trans hwlt hb3.size
  have HI3 := Lib.hid (In.carry_all (B' := fun b => b < w.heap.size + 1) (fun _ _ _ h _ => Nat.lt_succ_of_lt h) (fun _ _ _ _ h => h) T (HI2.out.keep hb3))
  have HLay := Lib.hid (lay_any (w.heap.size + 1) T w3.drew (.slice a n cap) A g 1 (Ar.one T.own) (fun _ => []) 0 (HI3.out.below (Below.refl _ _).drew (fun _ h => h)) HZ.out hbA hbg hs3 (h3.below (Below.refl _ _).drew) (Inv.one _) (fun p _ c hc => by cases hc) (fun i _ => by
      have := HZ.out
      cases T with | mk o k => rw [Sz] at this; exact ⟨by show o.s.size ≤ _; omega, by show o.t.size ≤ _; omega⟩) Nat.zero_lt_one (by
      have : T.cnt = 1 + cntL T.kids := by cases T with | mk o k => rw [Tree.cnt]; rfl
      show 1 + cntL T.kids ≤ _; omega))
  have HBase : Hid (∀ W, LayEnd w3.drew W A g (Ar.one T.own) (fun _ => []) 0 T.kids → Below (w.heap.size + 1) w3 W) := Lib.hid (fun W ⟨_, _, _, _, _, _, _, ho, _⟩ => ((Below.refl _ w3).drew).trans (ho.below hs3 (fun k hk => by rcases hk with rfl | rfl <;> assumption)))
  have HTree : Hid (∀ W, LayEnd w3.drew W A g (Ar.one T.own) (fun _ => []) 0 T.kids → Calls Try.prog 31 #[ptr A] W fun e w' => ∃ a n c, e = .returned (nodeV T.own (.slice a n c)) ∧ In w' (fun _ => True) T (.slice a n c) ∧ Below W.heap.size W w') := Lib.hid (by
    intro W ⟨g', cap', S', ch', ids, h', _, _, hI', hU', hL', hSz'⟩
    have hat := laid_at hL'
    have hn' := hL'.n
    have e1 : (Ar.one T.own).n = 1 := rfl
    rw [e1] at hn'
    have hcn : T.cnt = 1 + cntL T.kids := by cases T with | mk o k => rw [Tree.cnt]; rfl
    have het : Tree.mk T.own T.kids = T := T.eta.symm
    rw [het] at hat
    have htr := At.tr T hat (f := S'.n + 1) (by omega)
    have := tree_any (hI'.kids (by omega)) hSz' (ht := fun x => S'.n - x) (fun p hp c hc => by have := hU' p hp c hc; have := hI'.lt p hp c hc; show S'.n - c < S'.n - p; omega) (S'.n + 1) hI'.pos (by show S'.n - 0 < S'.n + 1; omega) h'
    rw [htr, hL'.o 0 (by rw [e1]; omega)] at this
    exact this.mono fun e w' ⟨a, n, c, h1, h2, h3⟩ => ⟨a, n, c, h1, In.any h2, h3⟩)
  have HSame : Hid (∀ W a6 n6 c6, In W (fun _ => True) T (.slice a6 n6 c6) → Below (w.heap.size + 1) w3 W → Calls Try.prog 34 #[nodeV T.own (.slice a6 n6 c6), nodeV T.own (.slice a n cap)] W fun e w' => e = .returned (.bool true) ∧ Below W.heap.size W w') :=
    Lib.hid (fun W a6 n6 c6 h1 h2 => by have := same_any T T W _ _ h1 (In.any (HI3.out.below h2 (fun _ h => h))); rwa [same_refl] at this)
  have HLen : Hid (∀ W5 W, LayEnd w3.drew W5 A g (Ar.one T.own) (fun _ => []) 0 T.kids → Below W5.heap.size W5 W → Calls Try.prog 29 #[ptr A] W fun e w' => e = .returned (.int .i64 T.cnt) ∧ W = w') := Lib.hid (by
    intro W5 W ⟨g', cap', S', ch', ids, h', _, _, hI', hU', hL', hSz'⟩ hb
    have hn' := hL'.n
    have e1 : (Ar.one T.own).n = 1 := rfl
    rw [e1] at hn'
    have hcn : T.cnt = 1 + cntL T.kids := by cases T with | mk o k => rw [Tree.cnt]; rfl
    have := len_any (h'.below hb)
    rwa [hn', ← hcn] at this)
  have HCount : Hid (∀ W, Below (w.heap.size + 1) w3 W → Calls Try.prog 35 #[nodeV T.own (.slice a n cap)] W fun e w' => e = .returned (.int .i64 T.cnt) ∧ Below W.heap.size W w') :=
    Lib.hid (fun W h2 => count_any T W _ (HI3.out.below h2 (fun _ h => h)) (by omega))
  have K3 := HK2.out.below hb3
  have z0 : w3.cell? ⟨w.heap.size, 0, none⟩ = _ := K3.node.c0
  have z1 : w3.cell? ⟨w.heap.size, 1, none⟩ = _ := K3.node.c1
  have z2 : w3.cell? ⟨w.heap.size, 2, none⟩ = _ := K3.node.c2
  have z3 : w3.cell? ⟨w.heap.size, 3, none⟩ = _ := K3.node.c3
  have z4 : w3.cell? ⟨w.heap.size, 4, none⟩ = _ := K3.node.c4
  have z5 : w3.cell? ⟨w.heap.size, 5, none⟩ = _ := K3.node.c5
  have z6 : w3.cell? ⟨w.heap.size, 6, none⟩ = _ := K3.node.c6
  have HS0 : Hid (∀ W, Below (w.heap.size + 1) w3 W → (W.cell? ⟨w.heap.size, 0, none⟩ = some (.int .i64 T.own.kind) ∧ W.cell? ⟨w.heap.size, 1, none⟩ = some (.string T.own.s) ∧ W.cell? ⟨w.heap.size, 2, none⟩ = some (.string T.own.t) ∧ W.cell? ⟨w.heap.size, 3, none⟩ = some (.int .i64 T.own.n) ∧ W.cell? ⟨w.heap.size, 4, none⟩ = some (.int .i64 T.own.m) ∧ W.cell? ⟨w.heap.size, 5, none⟩ = some (.bool T.own.flag) ∧ W.cell? ⟨w.heap.size, 6, none⟩ = some (.slice a n cap))) := Lib.hid (fun W hW => ⟨(by rw [hW.cell (p := ⟨w.heap.size, 0, none⟩) (Nat.lt_succ_self _)]; exact z0), (by rw [hW.cell (p := ⟨w.heap.size, 1, none⟩) (Nat.lt_succ_self _)]; exact z1), (by rw [hW.cell (p := ⟨w.heap.size, 2, none⟩) (Nat.lt_succ_self _)]; exact z2), (by rw [hW.cell (p := ⟨w.heap.size, 3, none⟩) (Nat.lt_succ_self _)]; exact z3), (by rw [hW.cell (p := ⟨w.heap.size, 4, none⟩) (Nat.lt_succ_self _)]; exact z4), (by rw [hW.cell (p := ⟨w.heap.size, 5, none⟩) (Nat.lt_succ_self _)]; exact z5), (by rw [hW.cell (p := ⟨w.heap.size, 6, none⟩) (Nat.lt_succ_self _)]; exact z6)⟩)
  unfold ptr at HLay HTree HLen
  unfold nodeV at HTree HSame HCount
  unfold ptr
  clear K3 hb3 HK2 HN HI2 HI3 hC hDp HZ y0 y1 y2 y3 y4 y5 y6 z0 z1 z2 z3 z4 z5 z6 hwlt h3
  generalize T.cnt = tc at *
  have hsw : w.heap.size ≤ w3.heap.size := by omega
  go_wp2_with fail
  go_region_held3 (fun W => W.cell? ⟨w.heap.size, 0, none⟩ = some (.int .i64 T.own.kind) ∧ W.cell? ⟨w.heap.size, 1, none⟩ = some (.string T.own.s) ∧ W.cell? ⟨w.heap.size, 2, none⟩ = some (.string T.own.t) ∧ W.cell? ⟨w.heap.size, 3, none⟩ = some (.int .i64 T.own.n) ∧ W.cell? ⟨w.heap.size, 4, none⟩ = some (.int .i64 T.own.m) ∧ W.cell? ⟨w.heap.size, 5, none⟩ = some (.bool T.own.flag) ∧ W.cell? ⟨w.heap.size, 6, none⟩ = some (.slice a n cap)) (first | exact HS0.out _ (Below.refl _ _).drew | exact HS0.out _ hb9 | exact HS0.out _ hb8 | exact HS0.out _ hb7 | exact HS0.out _ hb6 | exact HS0.out _ hb5) ((first
    | (go_at_call 41; refine HLay.out.mono ?_; rintro e w5 ⟨rfl, hE5⟩; have hb5 := HBase.out _ hE5)
    | (go_at_call 31; refine (HTree.out _ hE5).mono ?_; rintro e w6 ⟨a6, n6, c6, rfl, hin6, hbb6⟩; have hb6 := hb5.trans (hbb6.mono (Nat.le_trans hs3 hb5.size)))
    | (go_at_call 34; refine (HSame.out _ _ _ _ hin6 hb6).mono ?_; rintro e w7 ⟨rfl, hbb7⟩; have hb7 := hb6.trans (hbb7.mono (Nat.le_trans hs3 hb6.size)))
    | (go_at_call 29; refine (HLen.out _ _ hE5 (below_later hbb6 hbb7)).mono ?_; rintro e w8 ⟨rfl, rfl⟩; have hb8 := hb7)
    | (go_at_call 35; refine (HCount.out _ hb7).mono ?_; rintro e w9 ⟨rfl, hbb9⟩; have hb9 := hb7.trans (hbb9.mono (Nat.le_trans hs3 hb7.size)))))
  go_wp2
  go_ret
  exact ⟨rfl, HB3.out.trans (hb9.mono (by omega))⟩
end TreeBack
end Go.Proofs.Ytlpfffioidbkeaa
