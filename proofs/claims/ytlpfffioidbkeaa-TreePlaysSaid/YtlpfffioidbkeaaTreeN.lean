/- Layer 6: whole, Tree: the walks. -/
import Derived.Test.YtlpfffioidbkeaaTreeM
namespace Go.Proofs.Ytlpfffioidbkeaa
open Go Go.RowKit
namespace Tr
set_option maxRecDepth 100000
set_option linter.unusedVariables false
set_option linter.unusedSimpArgs false

theorem blk_alloc2 (w : World) (c1 c2 : Array Value) (t1 t2 : TypeId) : Blk ((w.alloc (.cells c1 t1)).alloc (.cells c2 t2)) w.heap.size c1 t1 := (Blk.new _ _ _).alloc _

set_option maxHeartbeats 8000000 in
theorem whole_any {S : Ar} {ch : Nat → List Nat} {ht : Nat → Nat} (K : Kids S ch) (hs : Sized S) (hd : ∀ p, p < S.n → ∀ c ∈ ch p, ht c < ht p) (f : Nat) : ∀ (id : Nat), id < S.n → ht id < f → ∀ (w : World) (A g cap : Nat), AR w A g cap S →
    Calls Try.prog 49 #[ptr A, .int .i64 id] w fun e w' => ∃ a n c, e = .returned (nodeV (S.o id) (.slice a n c)) ∧ In w' (fun b => w.heap.size ≤ b) (tr S.o ch f id) (.slice a n c) ∧ Below w.heap.size w w' := by
  induction f with
  | zero => intro id _ h; omega
  | succ f ih =>
    intro id hid hf w A g cap h
    have hb0 : Below w.heap.size w (w.alloc (.cells (nodeC nilO (.slice none 0 0)) 24)) := (Below.refl _ w).alloc (Nat.le_refl _) _
    have HG := Lib.hid (get_in (h.below hb0) hid hs)
    have HR0 := Lib.hid (Blk.new w (nodeC nilO (.slice none 0 0)) 24)
    have HB0 := Lib.hid hb0
    have HAR := Lib.hid h
    obtain ⟨cs, hcs⟩ : ∃ cs, cs = ch id := ⟨_, rfl⟩
    have Hfirst : Hid (S.first id = opt cs[0]?) := Lib.hid (by rw [hcs]; exact K.first id hid)
    have Hbeh : Hid (∀ i c, cs[i]? = some c → S.behind c = opt cs[i + 1]?) := Lib.hid (by rw [hcs]; exact K.behind id hid)
    have Hlt : Hid (∀ c ∈ cs, c < S.n) := Lib.hid (by rw [hcs]; exact K.lt id hid)
    have Hht : Hid (∀ c ∈ cs, ht c < f) := Lib.hid (by rw [hcs]; intro c hc; have := hd id hid c hc; omega)
    have hfew : cs.length ≤ 1000000000 := by rw [hcs]; exact K.few id hid
    have IH : Hid (∀ c ∈ cs, ∀ W, Below w.heap.size w W → Calls Try.prog 49 #[ptr A, .int .i64 c] W fun e w' => ∃ a n c1, e = .returned (nodeV (S.o c) (.slice a n c1)) ∧ In w' (fun b => W.heap.size ≤ b) (tr S.o ch f c) (.slice a n c1) ∧ Below W.heap.size W w') :=
      Lib.hid (fun c hc W hW => ih c (Hlt.out c hc) (Hht.out c hc) W A g cap (h.below hW))
    have HT : Hid (tr S.o ch (f + 1) id = .mk (S.o id) (cs.map (tr S.o ch f))) := Lib.hid (by rw [tr, hcs])
    rw [HT.out]
    have c8 := h.cellg (i := id) (j := 8) hid (by omega)
    have b1 : (id : Int) < (S.n : Int) := by omega
    clear hb0 ih hcs hf h
    obtain ⟨iN, hi, hz0, hz1, hz2⟩ := info_parts nodeInfo
    unfold ptr nodeC nilO at HG
    unfold nodeV at HG IH ⊢
    unfold ptr at IH ⊢
    generalize S.o id = o at *
    go_enter Try.func49, Try.ntmps49
    go_wp2_with fail
    refine HG.out.mono ?_
    rintro e w1 ⟨rfl, hb1⟩
    have hbw1 : Below w.heap.size w w1 := below_later HB0.out hb1
    have KR : Blk w1 w.heap.size (nodeC nilO (.slice none 0 0)) 24 := HR0.out.below hb1
    have h1 := HAR.out.below hbw1
    have cA := h1.cellA
    have hA := h1.ltA
    have hg := h1.ltg
    have c8 : w1.cell? ⟨g, id * 12 + 8, none⟩ = some (.int .i64 (opt cs[0]?)) := by rw [h1.cellg hid (by omega)]; show some (Value.int _ (S.first id)) = _; rw [Hfirst.out]
    have HKR := Lib.hid KR
    have hN0 : w.heap.size < w1.heap.size := KR.lt
    have HW1 := Lib.hid hbw1
    clear KR h1 hb1 hbw1
    go_wp2
    go_loopg [6] cs.length (fun G s6 wr => ∃ i : Nat, i + G = cs.length ∧ s6 = .int .i64 (opt cs[i]?) ∧ Grow wr w1.heap.size o ((cs.take i).map (tr S.o ch f)) ∧ Below w.heap.size w wr ∧ Blk wr w.heap.size (nodeC nilO (.slice none 0 0)) 24)
    case atStart => exact ⟨0, by omega, rfl, Grow.start (Blk.new w1 (nodeC o (.slice none 0 0)) 24), HW1.out.alloc (by omega) _, HKR.out.alloc _⟩
    case round =>
      obtain ⟨i, hig, rfl, HGr, hbw, hR⟩ := hrel
      clear cA c8 hA hg
      obtain ⟨ts, hts⟩ : ∃ ts, ts = (cs.take i).map (tr S.o ch f) := ⟨_, rfl⟩
      have HTS := Lib.hid hts
      rw [← hts] at HGr
      clear hts
      obtain ⟨v, xs, hN, hown, hrows⟩ := HGr
      obtain ⟨a1, cap1, rfl⟩ := owns_form hown
      have hsz := hbw.size
      have hNlt := hN.lt
      have HN := Lib.hid hN
      have HR := Lib.hid hR
      cases gk with
      | zero =>
        have hnone : cs[i]? = none := List.getElem?_eq_none (by omega)
        rw [hnone, show opt none = -1 from rfl]
        have HT2 : Hid (ts = cs.map (tr S.o ch f)) := Lib.hid (by rw [HTS.out, List.take_of_length_le (by omega)])
        have n0 : wr.cell? ⟨w1.heap.size, 0, none⟩ = _ := hN.node.c0
        have n1 : wr.cell? ⟨w1.heap.size, 1, none⟩ = _ := hN.node.c1
        have n2 : wr.cell? ⟨w1.heap.size, 2, none⟩ = _ := hN.node.c2
        have n3 : wr.cell? ⟨w1.heap.size, 3, none⟩ = _ := hN.node.c3
        have n4 : wr.cell? ⟨w1.heap.size, 4, none⟩ = _ := hN.node.c4
        have n5 : wr.cell? ⟨w1.heap.size, 5, none⟩ = _ := hN.node.c5
        have n6 : wr.cell? ⟨w1.heap.size, 6, none⟩ = _ := hN.node.c6
        have r0 : wr.cell? ⟨w.heap.size, 0, none⟩ = _ := hR.node.c0
        have r1 : wr.cell? ⟨w.heap.size, 1, none⟩ = _ := hR.node.c1
        have r2 : wr.cell? ⟨w.heap.size, 2, none⟩ = _ := hR.node.c2
        have r3 : wr.cell? ⟨w.heap.size, 3, none⟩ = _ := hR.node.c3
        have r4 : wr.cell? ⟨w.heap.size, 4, none⟩ = _ := hR.node.c4
        have r5 : wr.cell? ⟨w.heap.size, 5, none⟩ = _ := hR.node.c5
        have r6 : wr.cell? ⟨w.heap.size, 6, none⟩ = _ := hR.node.c6
        have fR := fun k => hR.fr k
        have HI : Hid (In wr (fun b => w1.heap.size < b) (.mk o ts) (.slice a1 ts.length cap1)) := Lib.hid (Grow.inn hown hrows)
        clear hN hR hown hrows
        go_wp2
        refine bodyPost_ret (v := nodeV o (.slice a1 ts.length cap1)) (results_cell_row rfl _ _ w.heap.size _ (nodeC o (.slice a1 ts.length cap1)) (0, 0) _ rfl (HR.out.renode o (.slice a1 ts.length cap1)) Try.underlying24 rfl infoNode) rfl ⟨a1, ts.length, cap1, rfl, ?_, ?_⟩
        · rw [← HT2.out]
          exact In.carry_all (fun b off u hq _ => by omega) (fun b off u hq hc => hc) _ (HI.out.renode (R := w.heap.size) (fun b hb => by omega) o (.slice a1 ts.length cap1))
        · iterate 7 (refine Below.setCell ?_ (by exact Nat.le_refl _) _)
          exact hbw
      | succ G =>
        obtain ⟨c, hci⟩ : ∃ c, cs[i]? = some c := ⟨_, List.getElem?_eq_getElem (by omega)⟩
        have hmem : c ∈ cs := List.mem_of_getElem? hci
        have HB := Lib.hid (Hbeh.out i c hci)
        have HTK : Hid (ts ++ [tr S.o ch f c] = (cs.take (i + 1)).map (tr S.o ch f)) := Lib.hid (by rw [HTS.out, List.take_add_one, hci]; simp)
        have HLen : Hid (ts.length = i) := Lib.hid (by rw [HTS.out]; simp; omega)
        have hcl := Hlt.out c hmem
        rw [hci, show opt (some c) = (c : Int) from rfl]
        have hc1 : ((c : Int) != -1) = true := by simp
        have hc2 : ¬ (c : Int) = -1 := by omega
        have n6 : wr.cell? ⟨w1.heap.size, 6, none⟩ = _ := hN.node.c6
        have HI := Lib.hid (IH.out c hmem wr.drew hbw.drew)
        have HBD : Hid (Below wr.heap.size wr wr.drew) := Lib.hid (Below.refl _ _).drew
        have HO := Lib.hid hown
        have HRW := Lib.hid hrows
        have hlen : ts.length ≤ 1000000000 := by rw [HLen.out]; omega
        clear hci hmem hN hR hown hrows
        go_upto_region 5 with fail
        have HOC : Hid ((tr S.o ch f c).own = S.o c) := Lib.hid (tr_own _ _ _ _)
        rw [← HOC.out] at HI
        generalize tr S.o ch f c = tc at *
        go_region_law (first
            | (go_simp; go_at_call 49; refine HI.out.mono ?_; rintro e w3 ⟨a2, n2, c2, rfl, hin2, hb2⟩; have hb3 := below_later HBD.out hb2; have m6 := keep_cell hb3 n6; have hN3 : w1.heap.size < w3.heap.size := Nat.lt_of_lt_of_le hNlt hb3.size)
            | (refine step_append_lies _ rfl (.tmp 29) (.tmp 33) 22 rfl (w1.heap.size + 1) 24 iN (.agg (nodeC nilO (.slice none 0 0))) 7 88 Try.underlying22 hi hz0 hz1 hz2 rfl (by decide) (.slice a1 ts.length cap1) ts.length xs (by simp [Act.eval, Act.put]) (owns_keep HO.out (hb3.alloc hb3.size _)) ⟨w3.heap.size, 0, none⟩ 1 1 (nodeC tc.own (.slice a2 n2 c2)).toList (by simp [Act.eval, Act.put]) rfl (World.news_of_block (heap_alloc_new w3 _)) (nodeC_one _ _ _ _) (by decide) (by unfold maxLen; omega) (by omega) (by simp; omega) _ rfl ?_; intro g' cap' w4 hown4 hgrow4 hat4 hlt4; have hblk := HN.out.grown (Nat.lt_succ_self _) HO.out (hb3.alloc hb3.size _) hgrow4; have m6' := hblk.node.c6; have fN' := fun k => hblk.fr k))
        all_goals
          have hbA := hb3.alloc hb3.size (.cells (nodeC tc.own (.slice a2 n2 c2)) 24)
          have HGr2 := Lib.hid (Grow.more HN.out HO.out HRW.out hbA (hin2.keep ((Below.refl _ w3).alloc (Nat.le_refl _) _)) hown4 hgrow4 hat4)
          have hvb := HO.out.lt
          have hbX : Below w.heap.size w (w4.setCell ⟨w1.heap.size, 6, none⟩ (.slice (some ⟨g', 0, none⟩) (ts.length + 1) cap')) :=
            (((hbw.trans (hbA.mono hsz)).grown hgrow4 (by have := hbA.size; omega) (fun k hk => by have := (hvb k hk).1; omega)).setCell (by show w.heap.size ≤ w1.heap.size; omega) _)
          have KRX := Lib.hid (((HR.out.grown (by omega) HO.out hbA hgrow4).other (p := ⟨w1.heap.size, 6, none⟩) (.slice (some ⟨g', 0, none⟩) (ts.length + 1) cap') (by show w.heap.size ≠ w1.heap.size; omega)))
          clear hgrow4 hown4 hat4 hlt4 hbA hblk m6' fN' hin2 hb2 hb3 m6 n6
          obtain ⟨WX, hWX⟩ : ∃ x, x = w4.setCell ⟨w1.heap.size, 6, none⟩ (.slice (some ⟨g', 0, none⟩) (ts.length + 1) cap') := ⟨_, rfl⟩
          rw [← hWX] at HGr2 hbX KRX ⊢
          clear hWX
          have hX := HAR.out.below hbX
          have cA := hX.cellA
          have b2 : (c : Int) < (S.n : Int) := by omega
          have c10 : WX.cell? ⟨g, c * 12 + 10, none⟩ = some (.int .i64 (opt cs[i + 1]?)) := by rw [hX.cellg hcl (by omega)]; show some (Value.int _ (S.behind c)) = _; rw [HB.out]
          have HX := Lib.hid hbX
          clear hX hbX
          go_wp2
          go_roundg G
          case rel => exact ⟨i + 1, by omega, rfl, by rw [← HTK.out]; exact HGr2.out, HX.out, KRX.out⟩
          case measure => omega
end Tr
end Go.Proofs.Ytlpfffioidbkeaa
