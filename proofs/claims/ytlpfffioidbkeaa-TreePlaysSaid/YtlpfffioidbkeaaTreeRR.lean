/- Layer 6: the reference's Tree. -/
import Derived.Test.YtlpfffioidbkeaaTreePP
import Derived.Test.YtlpfffioidbkeaaTreeFF
namespace Go.Proofs.Ytlpfffioidbkeaa
open Go Go.RowKit
namespace Tr
set_option maxRecDepth 100000
set_option linter.unusedVariables false
set_option linter.unusedSimpArgs false

/-- One more tree behind the others: the new slice, by name. -/
theorem Grow.more2 {w w1 w2 : World} {N : Nat} {o : Own} {ts : List Tree} {t : Tree} {v : Value} {xs : List Value} {a1 : Option Addr} {n1 c1 g' cap' : Nat}
    (h1 : Blk w N (nodeC o v) 24) (h2 : w.ownsRow (N + 1) 24 7 v ts.length xs) (h3 : Rows w (fun b => N < b ∧ v.ownBlock ≠ some b) ts xs)
    (hb : Below w.heap.size w w1) (ht : In w1 (fun b => w.heap.size ≤ b) t (.slice a1 n1 c1))
    (hown : w2.ownsRow (N + 1) 24 7 (.slice (some ⟨g', 0, none⟩) (ts.length + 1) cap') (ts.length + 1) (xs ++ (nodeC t.own (.slice a1 n1 c1)).toList))
    (hg : w1.grownBy w2 v.ownBlock) (hat : v.ownBlock = some g' ∨ g' = w1.heap.size) :
    ∃ xs', Blk (w2.setCell ⟨N, 6, none⟩ (.slice (some ⟨g', 0, none⟩) (ts.length + 1) cap')) N (nodeC o (.slice (some ⟨g', 0, none⟩) (ts.length + 1) cap')) 24 ∧
      (w2.setCell ⟨N, 6, none⟩ (.slice (some ⟨g', 0, none⟩) (ts.length + 1) cap')).ownsRow (N + 1) 24 7 (.slice (some ⟨g', 0, none⟩) (ts.length + 1) cap') (ts.length + 1) xs' ∧
      Rows (w2.setCell ⟨N, 6, none⟩ (.slice (some ⟨g', 0, none⟩) (ts.length + 1) cap')) (fun b => N < b ∧ (Value.slice (some ⟨g', 0, none⟩) (ts.length + 1) cap').ownBlock ≠ some b) (ts ++ [t]) xs' := by
  have hN := h1.lt
  have hv := h2.lt
  have hs := hb.size
  have hv1 : ∀ k, v.ownBlock = some k → N + 1 ≤ k ∧ k < w.heap.size := hv
  have hrows : Rows w1 (fun b => N < b ∧ v.ownBlock ≠ some b) (ts ++ [t]) (xs ++ (nodeC t.own (.slice a1 n1 c1)).toList) := by
    refine Rows.snoc (In.carry_all (fun b off u hq _ => ⟨by have : w.heap.size ≤ b := hq; omega, fun e => by have := (hv1 _ e).2; have : w.heap.size ≤ b := hq; omega⟩) (fun b off u hq hc => hc) t ht) ?_
    exact h3.carry (fun _ _ _ h _ => h) (fun b off u hq hc => keep_cell hb hc)
  have hN2 : Blk w2 N (nodeC o v) 24 := by
    show w2.heap[N]? = _
    rw [hg.block N (by omega) (fun e => by have := (hv1 _ e.symm).1; omega), hb.block N hN]
    exact h1
  refine ⟨xs ++ (nodeC t.own (.slice a1 n1 c1)).toList, hN2.set 6 _ rfl, ?_, ?_⟩
  · exact owns_set hown (by show N < N + 1; omega) _
  · refine hrows.carry ?_ ?_
    · intro b off u hq hcell
      refine ⟨hq.1, fun e => ?_⟩
      simp only [Value.ownBlock] at e
      injection e with e
      rcases hat with e2 | e2
      · exact hq.2 (by rw [e2, e])
      · have := World.block_lt_of_cell? w1 _ hcell
        have : b < w1.heap.size := this
        omega
    · intro b off u hq hcell
      have hlt : b < w1.heap.size := World.block_lt_of_cell? w1 _ hcell
      rw [World.cell?_of_block (w := w2) (heap_setCell_other _ _ _ _ (by show b ≠ N; have := hq.1; omega))]
      rw [World.cell?_of_block (w := w1) (hg.block b hlt (fun e => hq.2 e.symm))]
      exact hcell
/-- A row of numbers, whose block lies between two bounds. -/
def Nums (w : World) (lo hi : Nat) (a : Option Addr) (l : List Nat) : Prop := ∀ (i c : Nat), l[i]? = some c → ∃ kb, a = some ⟨kb, 0, none⟩ ∧ lo ≤ kb ∧ kb < hi ∧ w.cell? ⟨kb, i, none⟩ = some (.int .i64 (c : Int))
theorem Nums.of_owns {w : World} {base : Nat} {v : Value} {l : List Nat} (h : w.ownsRow base 3 1 v l.length (ints l)) : ∃ a cap, v = .slice a l.length cap ∧ Nums w base w.heap.size a l := by
  have hc := fun g => h.cells (g := g)
  have hl := h.lt
  rcases h.2 with ⟨rfl, h0⟩ | ⟨g, cap, cur, rfl, _, _, hle, hm, _⟩
  · have : l = [] := List.length_eq_zero_iff.1 h0
    subst this
    exact ⟨none, 0, rfl, fun i c hi => by simp at hi⟩
  · refine ⟨some ⟨g, 0, none⟩, cap, rfl, fun i c hi => ⟨g, rfl, (hl g rfl).1, (hl g rfl).2, ?_⟩⟩
    have := hc g rfl i _ (ints_get hi)
    rwa [add_off, Nat.zero_add] at this
theorem Nums.carry {w w' : World} {lo hi : Nat} {a : Option Addr} {l : List Nat} (h : Nums w lo hi a l) (hb : ∀ k, lo ≤ k → k < hi → w'.heap[k]? = w.heap[k]?) : Nums w' lo hi a l := fun i c hi' => by
  obtain ⟨kb, e, h1, h2, h3⟩ := h i c hi'
  exact ⟨kb, e, h1, h2, by rw [World.cell?_of_block (w := w) (hb kb h1 h2)]; exact h3⟩

set_option maxHeartbeats 8000000 in
theorem rtree_any {S : Ar} {ch : Nat → List Nat} {K : List (Nat × Nat)} {ht : Nat → Nat} {n : Nat} (hI : Inv S ch) (HL : Lk S ch K) (hn : n = S.n) (hfewK : K.length ≤ 1000000000) (hd : ∀ p, p < S.n → ∀ c ∈ ch p, ht c < ht p) (f : Nat) : ∀ (id : Nat), id < n → ht id < f → ∀ (w : World) (R h cap : Nat) (oo : Nat → Own) (kv : Value), RR w R h cap n oo kv K →
    Calls Try.prog 32 #[ptr R, .int .i64 id] w fun e w' => ∃ a m c, e = .returned (nodeV (oo id) (.slice a m c)) ∧ In w' (fun b => w.heap.size ≤ b) (tr oo ch f id) (.slice a m c) ∧ Below w.heap.size w w' := by
  induction f with
  | zero => intro id _ h; omega
  | succ f ih =>
    intro id hid hf w R h cap oo kv H
    have HAR := Lib.hid H
    have hb0 : Below w.heap.size w (w.alloc (.cells (nodeC nilO (.slice none 0 0)) 24)) := (Below.refl _ w).alloc (Nat.le_refl _) _
    have hb1 : Below w.heap.size w ((w.alloc (.cells (nodeC nilO (.slice none 0 0)) 24)).alloc (.cells (nodeC nilO (.slice none 0 0)) 24)) := hb0.alloc (by simp) _
    have HB1 := Lib.hid hb1
    have K1 : Hid (Blk ((w.alloc (.cells (nodeC nilO (.slice none 0 0)) 24)).alloc (.cells (nodeC nilO (.slice none 0 0)) 24)) w.heap.size (nodeC nilO (.slice none 0 0)) 24) := Lib.hid ((Blk.new _ _ _).alloc _)
    have K2 : Hid (Blk ((w.alloc (.cells (nodeC nilO (.slice none 0 0)) 24)).alloc (.cells (nodeC nilO (.slice none 0 0)) 24)) (w.heap.size + 1) (nodeC nilO (.slice none 0 0)) 24) := Lib.hid (by
      have := Blk.new (w.alloc (.cells (nodeC nilO (.slice none 0 0)) 24)) (nodeC nilO (.slice none 0 0)) 24
      rwa [World.size_alloc] at this)
    obtain ⟨cs, hcs⟩ : ∃ cs, cs = ch id := ⟨_, rfl⟩
    have Hund : Hid (under K (id : Int) = cs) := Lib.hid (by rw [hcs]; exact HL.kids id (by omega))
    have Hlt : Hid (∀ c ∈ cs, c < n) := Lib.hid (by rw [hcs, hn]; exact hI.lt id (by omega))
    have Hht : Hid (∀ c ∈ cs, ht c < f) := Lib.hid (by rw [hcs]; intro c hc; have := hd id (by omega) c hc; omega)
    have hfew : cs.length ≤ 1000000000 := by rw [← Hund.out]; exact Nat.le_trans (under_len _ _) hfewK
    have IH : Hid (∀ c ∈ cs, ∀ W, Below w.heap.size w W → Calls Try.prog 32 #[ptr R, .int .i64 c] W fun e w' => ∃ a m c1, e = .returned (nodeV (oo c) (.slice a m c1)) ∧ In w' (fun b => W.heap.size ≤ b) (tr oo ch f c) (.slice a m c1) ∧ Below W.heap.size W w') :=
      Lib.hid (fun c hc W hW => ih c (Hlt.out c hc) (Hht.out c hc) W R h cap oo kv (H.below hW))
    have HCh : Hid (∀ W, Below w.heap.size w W → Calls Try.prog 28 #[ptr R, .int .i64 id] W fun e w' => ∃ a cap, e = .returned (.slice a cs.length cap) ∧ Nums w' W.heap.size w'.heap.size a cs ∧ Below W.heap.size W w') :=
      Lib.hid (fun W hW => (rchildren_any (H.below hW) hfewK id).mono fun e w' ⟨v, h1, h2, h3⟩ => by
        rw [Hund.out] at h2
        obtain ⟨a, cap, rfl, hn⟩ := Nums.of_owns h2
        exact ⟨a, cap, h1, hn, h3⟩)
    have HT : Hid (tr oo ch (f + 1) id = .mk (oo id) (cs.map (tr oo ch f))) := Lib.hid (by rw [tr, hcs])
    rw [HT.out]
    have b1 : (id : Int) < (n : Int) := by omega
    have q0 := (H.below hb0).cell0
    have qd := (H.below hb0).node hid
    have n0 := qd.c0
    have n1 := qd.c1
    have n2 := qd.c2
    have n3 := qd.c3
    have n4 := qd.c4
    have n5 := qd.c5
    have n6 := qd.c6
    have d0 := K2.out.node.c0
    have d1 := K2.out.node.c1
    have d2 := K2.out.node.c2
    have d3 := K2.out.node.c3
    have d4 := K2.out.node.c4
    have d5 := K2.out.node.c5
    have d6 := K2.out.node.c6
    have fd := fun k => K2.out.fr k
    clear ih hcs hf H hI HL hd hb0 hb1 qd
    obtain ⟨iN, hi, hz0, hz1, hz2⟩ := info_parts nodeInfo
    unfold nodeC nilO at q0 n0 n1 n2 n3 n4 n5 n6 d0 d1 d2 d3 d4 d5 d6 fd
    unfold nodeV at IH ⊢
    unfold ptr at IH HCh ⊢
    generalize oo id = o at *
    go_enter Try.func32, Try.ntmps32
    go_upto_region 1 with fail
    go_cut [5] (fun s5 wx => s5 = .pointer (some ⟨w.heap.size + 1, 0, none⟩) ∧ Blk wx w.heap.size (nodeC nilO (.slice none 0 0)) 24 ∧ Blk wx (w.heap.size + 1) (nodeC o (.slice none 0 0)) 24 ∧ Below w.heap.size w wx)
    case first =>
      go_wp2
      go_meet
      refine ⟨rfl, (Blk.new w (nodeC nilO (.slice none 0 0)) 24).alloc _, ?_, ((Below.refl _ w).alloc (Nat.le_refl _) _).alloc (by simp) _⟩
      have := Blk.new (w.alloc (.cells (nodeC nilO (.slice none 0 0)) 24)) (nodeC o (.slice none 0 0)) 24
      rwa [World.size_alloc] at this
    obtain ⟨rfl, k1, k2, kb⟩ := hcut
    have HK1 := Lib.hid k1
    have HK2 := Lib.hid k2
    have HKB := Lib.hid kb
    have HC := Lib.hid (HCh.out _ kb)
    clear k1 k2 kb q0 n0 n1 n2 n3 n4 n5 n6 d0 d1 d2 d3 d4 d5 d6 fd K1 K2 HB1
    go_wp2_with fail
    refine HC.out.mono ?_
    rintro e w1 ⟨ak, capk, rfl, hnums, hbc⟩
    have hbw1 : Below w.heap.size w w1 := HKB.out.trans (hbc.mono HKB.out.size)
    have hKR1 : Blk w1 w.heap.size (nodeC nilO (.slice none 0 0)) 24 := HK1.out.below hbc
    have hKN1 : Blk w1 (w.heap.size + 1) (nodeC o (.slice none 0 0)) 24 := HK2.out.below hbc
    have hNc := HK2.out.lt
    obtain ⟨N, hN⟩ : ∃ N, N = w.heap.size + 1 := ⟨_, rfl⟩
    have HNe := Lib.hid hN
    rw [← hN] at hKN1 hNc ⊢
    have HKR1 := Lib.hid hKR1
    have HKN1 := Lib.hid hKN1
    have HNm := Lib.hid hnums
    have HW1 := Lib.hid hbw1
    have HLo := Lib.hid hNc
    have HS1 := Lib.hid hbc.size
    clear hKR1 hKN1 hnums hbw1 hbc hNc HK1 HK2 HKB HC HCh hN
    go_wp2_with fail
    go_loopg [7] cs.length (fun G s7 wr => ∃ i : Nat, i + G = cs.length ∧ s7 = .int .i64 (i : Int) ∧ (∃ v xs, Blk wr N (nodeC o v) 24 ∧ wr.ownsRow (N + 1) 24 7 v ((cs.take i).map (tr oo ch f)).length xs ∧ Rows wr (fun b => N < b ∧ v.ownBlock ≠ some b) ((cs.take i).map (tr oo ch f)) xs ∧ ∀ k, v.ownBlock = some k → w1.heap.size ≤ k) ∧ Below w.heap.size w wr ∧ Blk wr w.heap.size (nodeC nilO (.slice none 0 0)) 24 ∧ Hid (Nums wr wc.heap.size w1.heap.size ak cs) ∧ w1.heap.size ≤ wr.heap.size)
    case atStart => exact ⟨0, by omega, rfl, ⟨_, [], HKN1.out, World.ownsRow_nil _ _ _ _, rfl, fun k e => by cases e⟩, HW1.out, HKR1.out, HNm, Nat.le_refl _⟩
    case round =>
      obtain ⟨i, hig, rfl, ⟨v, xs, hN, hown, hrows, hvk⟩, hbw, hR, HNr, hw1r⟩ := hrel
      clear HKR1 HKN1 HNm HW1
      obtain ⟨ts, hts⟩ : ∃ ts, ts = (cs.take i).map (tr oo ch f) := ⟨_, rfl⟩
      have HTS := Lib.hid hts
      rw [← hts] at hown hrows
      clear hts
      obtain ⟨a1, cap1, rfl⟩ := owns_form hown
      have hsz := hbw.size
      have hNlt := hN.lt
      have HN := Lib.hid hN
      have HR := Lib.hid hR
      cases gk with
      | zero =>
        have hlt : ¬ (i : Int) < (cs.length : Int) := by omega
        have HT2 : Hid (ts = cs.map (tr oo ch f)) := Lib.hid (by rw [HTS.out, List.take_of_length_le (by omega)])
        have n0 : wr.cell? ⟨N, 0, none⟩ = _ := hN.node.c0
        have n1 : wr.cell? ⟨N, 1, none⟩ = _ := hN.node.c1
        have n2 : wr.cell? ⟨N, 2, none⟩ = _ := hN.node.c2
        have n3 : wr.cell? ⟨N, 3, none⟩ = _ := hN.node.c3
        have n4 : wr.cell? ⟨N, 4, none⟩ = _ := hN.node.c4
        have n5 : wr.cell? ⟨N, 5, none⟩ = _ := hN.node.c5
        have n6 : wr.cell? ⟨N, 6, none⟩ = _ := hN.node.c6
        have r0 : wr.cell? ⟨w.heap.size, 0, none⟩ = _ := hR.node.c0
        have r1 : wr.cell? ⟨w.heap.size, 1, none⟩ = _ := hR.node.c1
        have r2 : wr.cell? ⟨w.heap.size, 2, none⟩ = _ := hR.node.c2
        have r3 : wr.cell? ⟨w.heap.size, 3, none⟩ = _ := hR.node.c3
        have r4 : wr.cell? ⟨w.heap.size, 4, none⟩ = _ := hR.node.c4
        have r5 : wr.cell? ⟨w.heap.size, 5, none⟩ = _ := hR.node.c5
        have r6 : wr.cell? ⟨w.heap.size, 6, none⟩ = _ := hR.node.c6
        have fR := fun k => hR.fr k
        have HI : Hid (In wr (fun b => N < b) (.mk o ts) (.slice a1 ts.length cap1)) := Lib.hid (Grow.inn hown hrows)
        clear hN hR hown hrows hvk
        go_wp2
        refine bodyPost_ret (v := nodeV o (.slice a1 ts.length cap1)) (results_cell_row rfl _ _ w.heap.size _ (nodeC o (.slice a1 ts.length cap1)) (0, 0) _ rfl (HR.out.renode o (.slice a1 ts.length cap1)) Try.underlying24 rfl infoNode) rfl ⟨a1, ts.length, cap1, rfl, ?_, ?_⟩
        · rw [← HT2.out]
          exact In.carry_all (fun b off u hq _ => by have := HNe.out; omega) (fun b off u hq hc => hc) _ (HI.out.renode (R := w.heap.size) (fun b hb => by have := HNe.out; omega) o (.slice a1 ts.length cap1))
        · iterate 7 (refine Below.setCell ?_ (by exact Nat.le_refl _) _)
          exact hbw
      | succ G =>
        have hlt : (i : Int) < (cs.length : Int) := by omega
        obtain ⟨c, hci⟩ : ∃ c, cs[i]? = some c := ⟨_, List.getElem?_eq_getElem (by omega)⟩
        have hmem : c ∈ cs := List.mem_of_getElem? hci
        obtain ⟨kb, rfl, hk1, hk2, hkc⟩ := HNr.out i c hci
        have HTK : Hid (ts ++ [tr oo ch f c] = (cs.take (i + 1)).map (tr oo ch f)) := Lib.hid (by rw [HTS.out, List.take_add_one, hci]; simp)
        have HLen : Hid (ts.length = i) := Lib.hid (by rw [HTS.out]; simp; omega)
        have n6 : wr.cell? ⟨N, 6, none⟩ = _ := hN.node.c6
        have HI := Lib.hid (IH.out c hmem wr.drew hbw.drew)
        have HBD : Hid (Below wr.heap.size wr wr.drew) := Lib.hid (Below.refl _ _).drew
        have HO := Lib.hid hown
        have HRW := Lib.hid hrows
        have HVK := Lib.hid hvk
        have hlen : ts.length ≤ 1000000000 := by rw [HLen.out]; omega
        clear hci hmem hN hR hown hrows hvk
        go_upto_region 6 with fail
        have HOC : Hid ((tr oo ch f c).own = oo c) := Lib.hid (tr_own _ _ _ _)
        rw [← HOC.out] at HI
        generalize tr oo ch f c = tc at *
        go_region_law (first
            | (go_simp; go_at_call 32; refine HI.out.mono ?_; rintro e w3 ⟨a2, n2, c2, rfl, hin2, hb2⟩; have hb3 := below_later HBD.out hb2; have m6 := keep_cell hb3 n6; have hN3 : N < w3.heap.size := Nat.lt_of_lt_of_le hNlt hb3.size)
            | (refine step_append_lies _ rfl (.tmp 25) (.tmp 32) 22 rfl (N + 1) 24 iN (.agg (nodeC nilO (.slice none 0 0))) 7 88 Try.underlying22 hi hz0 hz1 hz2 rfl (by decide) (.slice a1 ts.length cap1) ts.length xs (by simp [Act.eval, Act.put]) (owns_keep HO.out (hb3.alloc hb3.size _)) ⟨w3.heap.size, 0, none⟩ 1 1 (nodeC tc.own (.slice a2 n2 c2)).toList (by simp [Act.eval, Act.put]) rfl (World.news_of_block (heap_alloc_new w3 _)) (nodeC_one _ _ _ _) (by decide) (by unfold maxLen; omega) (by omega) (by simp; omega) _ rfl ?_; intro g' cap' w4 hown4 hgrow4 hat4 hlt4; have hblk := HN.out.grown (Nat.lt_succ_self _) HO.out (hb3.alloc hb3.size _) hgrow4; have m6' := hblk.node.c6; have fN' := fun k => hblk.fr k))
        all_goals
          have hbA : Below wr.heap.size wr (w3.alloc (.cells #[.int .i64 tc.own.kind, .string tc.own.s, .string tc.own.t, .int .i64 tc.own.n, .int .i64 tc.own.m, .bool tc.own.flag, .slice a2 n2 c2] 24)) := hb3.alloc hb3.size _
          have hVK := HVK.out
          obtain ⟨xs', g1, g2, g3⟩ := Grow.more2 HN.out HO.out HRW.out hbA (hin2.keep ((Below.refl _ w3).alloc (Nat.le_refl _) _)) hown4 hgrow4 hat4
          have hvb := HO.out.lt
          have hsA := hbA.size
          have hgk : ∀ k, (Value.slice (some ⟨g', 0, none⟩) (ts.length + 1) cap').ownBlock = some k → w1.heap.size ≤ k := fun k e => by
            simp only [Value.ownBlock] at e
            injection e with e
            rcases hat4 with e2 | e2
            · exact hVK k (by rw [e2, e])
            · omega
          have hbX : Below w.heap.size w (w4.setCell ⟨N, 6, none⟩ (.slice (some ⟨g', 0, none⟩) (ts.length + 1) cap')) :=
            (((hbw.trans (hbA.mono hsz)).grown hgrow4 (by omega) (fun k hk => by have := (hvb k hk).1; have := HNe.out; omega)).setCell (by show w.heap.size ≤ N; have := HNe.out; omega) _)
          have KRX := Lib.hid (((HR.out.grown (by have := HNe.out; omega) HO.out hbA hgrow4).other (p := ⟨N, 6, none⟩) (.slice (some ⟨g', 0, none⟩) (ts.length + 1) cap') (by show w.heap.size ≠ N; have := HNe.out; omega)))
          have hNm2 : Nums (w4.setCell ⟨N, 6, none⟩ (.slice (some ⟨g', 0, none⟩) (ts.length + 1) cap')) wc.heap.size w1.heap.size (some ⟨kb, 0, none⟩) cs := HNr.out.carry fun k k1 k2 => by
            have := HLo.out
            rw [heap_setCell_other _ _ _ _ (by show k ≠ N; omega), hgrow4.block k (by omega) (fun e => by have := hVK k e.symm; omega), hbA.block k (by omega)]
          have hws : w1.heap.size ≤ (w4.setCell ⟨N, 6, none⟩ (.slice (some ⟨g', 0, none⟩) (ts.length + 1) cap')).heap.size := by
            have := hgrow4.size
            simp only [World.setCell, Array.size_modify]
            omega
          have HG1 := Lib.hid g1
          have HG2 := Lib.hid g2
          have HG3 := Lib.hid g3
          have HGK := Lib.hid hgk
          have HNM := Lib.hid hNm2
          have HBX := Lib.hid hbX
          clear hgrow4 hown4 hat4 hlt4 hbA hblk m6' fN' hin2 hb2 hb3 m6 n6 g1 g2 g3 hgk hNm2 hbX hVK hvb
          go_wp2
          go_roundg G
          case rel =>
            refine ⟨i + 1, by omega, by go_num, ⟨_, xs', HG1.out, ?_, ?_, HGK.out⟩, HBX.out, KRX.out, HNM.out, hws⟩
            · rw [← HTK.out, show (ts ++ [tc]).length = ts.length + 1 by simp]; exact HG2.out
            · rw [← HTK.out]; exact HG3.out
          case measure => omega
end Tr
end Go.Proofs.Ytlpfffioidbkeaa
