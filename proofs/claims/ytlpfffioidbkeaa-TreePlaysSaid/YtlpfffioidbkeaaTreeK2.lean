/- Layer 6: Add. -/
import Derived.Test.YtlpfffioidbkeaaTreeJ
namespace Go.Proofs.Ytlpfffioidbkeaa
open Go Go.RowKit
namespace Tr
set_option maxRecDepth 100000
set_option linter.unusedVariables false
set_option linter.unusedSimpArgs false

theorem owns_below {w w' : World} {e : TypeId} {size n : Nat} {v : Value} {xs : List Value} (h : w.ownsRow 0 e size v n xs) (hb : Below w.heap.size w w') : w'.ownsRow 0 e size v n xs :=
  h.kept (row := none) ⟨hb.os, hb.tape, hb.output, hb.size, fun k hk _ => hb.block k hk⟩ (by cases hv : v.ownBlock <;> simp)
theorem AR.blkA {w : World} {A g cap : Nat} {S : Ar} (h : AR w A g cap S) : Blk w A #[.slice (some ⟨g, 0, none⟩) S.n cap] 60 := h.hA

/-- Behind an append onto an arena's places. -/
theorem AR.after {w w1 w2 : World} {A g cap : Nat} {S : Ar} (h : AR w A g cap S) (hb : Below w.heap.size w w1) (hg : w1.grownBy w2 (Value.ownBlock (.slice (some ⟨g, 0, none⟩) S.n cap))) :
    Blk w2 A #[.slice (some ⟨g, 0, none⟩) S.n cap] 60 := by
  have hA := h.ltA
  have hs := hb.size
  show w2.heap[A]? = _
  rw [hg.block A (by omega) (by simp only [Value.ownBlock]; intro e; injection e with e; exact h.ne e), hb.block A hA]
  exact h.hA
/-- .. and the store of the new slice. -/
theorem AR.grown {w w1 w2 : World} {A g cap g' cap' : Nat} {S : Ar} {o : Own} {xs : List Value} (h : AR w A g cap S) (hl : xs.length = S.n * 12) (hx : ∀ i, i < S.n → ∀ j, j < 12 → xs[i * 12 + j]? = some (S.cell i j))
    (hb : Below w.heap.size w w1) (hown : w2.ownsRow 0 56 12 (.slice (some ⟨g', 0, none⟩) (S.n + 1) cap') (S.n + 1) (xs ++ (placeC o).toList))
    (hg : w1.grownBy w2 (Value.ownBlock (.slice (some ⟨g, 0, none⟩) S.n cap))) (hat : Value.ownBlock (.slice (some ⟨g, 0, none⟩) S.n cap) = some g' ∨ g' = w1.heap.size) :
    AR (w2.setCell ⟨A, 0, none⟩ (.slice (some ⟨g', 0, none⟩) (S.n + 1) cap')) A g' cap' (S.push o) ∧ (g' = g ∨ w.heap.size ≤ g') ∧ Only (two A g) w (w2.setCell ⟨A, 0, none⟩ (.slice (some ⟨g', 0, none⟩) (S.n + 1) cap')) := by
  have hA := h.ltA
  have hs := hb.size
  have hgg : g' = g ∨ w.heap.size ≤ g' := by
    rcases hat with e | e
    · simp only [Value.ownBlock] at e; injection e with e; exact .inl e.symm
    · exact .inr (by omega)
  have hne : A ≠ g' := by
    rcases hgg with e | e
    · rw [e]; exact h.ne
    · omega
  refine ⟨AR.pushed hl hx (h.after hb hg) hne hown, hgg, ?_⟩
  have o1 : Only (two A g) w w1 := Only.of_below hb
  have o2 : Only (two A g) w1 w2 := ⟨hg.os, hg.tape, hg.output, hg.size, fun k hk hx => hg.block k hk (by simp only [Value.ownBlock]; intro e; injection e with e; exact hx (.inr e))⟩
  exact (o1.trans' o2).setCell (.inl rfl) _

set_option maxHeartbeats 4000000 in
theorem add_any {w : World} {A g cap : Nat} {S : Ar} (h : AR w A g cap S) {p : Nat} (hp : p < S.n) (hn : S.n ≤ 1000000000) (hlast : S.last p = -1 ∨ ∃ l : Nat, S.last p = (l : Int) ∧ l < S.n)
    (o : Own) (a : Option Addr) (len cp : Nat) (h1 : o.s.size ≤ 281474976710656) (h2 : o.t.size ≤ 281474976710656) :
    Calls Try.prog 13 #[ptr A, .int .i64 p, nodeV o (.slice a len cp)] w fun e w' => e = .returned (.int .i64 S.n) ∧ Opd w w' A g ((S.push o).hang S.n p) := by
  have HS := Lib.hid (fun W => alone_any o a len cp W h1 h2)
  have hb0 : Below w.heap.size w (w.alloc (.cells (nodeC o (.slice a len cp)) 24)) := (Below.refl _ w).alloc (Nat.le_refl _) _
  have HL := Lib.hid (has_any (h.below hb0) p)
  rw [in_true ⟨by omega, by omega⟩] at HL
  have HA0 : Hid (AR (w.alloc (.cells (nodeC o (.slice a len cp)) 24)).drew A g cap S) := Lib.hid (h.below hb0.drew)
  have HB0 := Lib.hid hb0.drew
  obtain ⟨xs, hown, hlen, hxs⟩ := (AR.owns (base := 0) h (Nat.zero_le _))
  have HO := Lib.hid (fun W (hW : Below w.heap.size w W) => owns_below hown hW)
  have HG := Lib.hid (fun (w1 w2 : World) (g' cap' : Nat) => h.grown (w1 := w1) (w2 := w2) (g' := g') (cap' := cap') (o := o) hlen hxs)
  have HF := Lib.hid (fun (w1 w2 : World) => h.after (w1 := w1) (w2 := w2))
  have cA := h.cellA
  have fA := h.frA
  have hlt := h.ltA
  obtain ⟨i0, hi, hz0, hz1, hz2⟩ := info_parts placeInfo
  have HLast := Lib.hid hlast
  have HP := Lib.hid hp
  clear hown hxs hlen hb0 hlast hp
  unfold ptr nodeC at HL
  unfold nodeC at HA0 HB0
  unfold nodeV placeC at HS
  unfold ptr nodeV
  go_enter Try.func13, Try.ntmps13
  go_wp2_with fail
  refine HL.out.mono ?_
  rintro e w1 ⟨rfl, rfl⟩
  go_upto_region 4 with fail
  go_cut [] (fun wx => ∃ g' cap', AR wx A g' cap' (S.push o) ∧ (g' = g ∨ w.heap.size ≤ g') ∧ Only (two A g) w wx)
  case first =>
    go_region_law (first
      | (go_simp; go_at_call 42; refine (HS.out _).mono ?_; rintro e w2 ⟨rfl, hb2⟩; have q2 := HA0.out.below hb2; have cA2 := q2.cellA; have fA2 := q2.frA; have hA2 := q2.ltA; have hbw2 := below_later HB0.out hb2)
      | (refine step_append_lies _ rfl (.tmp 21) (.tmp 24) 58 rfl 0 56 i0 (.agg placeZ) 12 128 Try.underlying58 hi hz0 hz1 hz2 rfl (by decide) (.slice (some ⟨g, 0, none⟩) S.n cap) S.n xs (by simp [Act.eval, Act.put]) (HO.out _ (hbw2.alloc hbw2.size _)) ⟨w2.heap.size, 0, none⟩ 1 1 (placeC o).toList (by simp [Act.eval, Act.put]) rfl (World.news_of_block (heap_alloc_new w2 _)) (placeC_one o) (by decide) (by unfold maxLen; omega) (by omega) (Nat.zero_le _) _ rfl ?_; intro g' cap' w3 hown3 hgrow3 hat3 hlt3; have hblk := HF.out _ _ (hbw2.alloc hbw2.size _) hgrow3; have cA3 := hblk.cell 0 rfl; have fA3 := hblk.fr 0))
    all_goals (go_wp2_with fail; go_meet; exact ⟨g', cap', HG.out _ _ _ _ (hbw2.alloc hbw2.size _) hown3 hgrow3 hat3⟩)
  obtain ⟨g1, cap1, h3, hg1, o3⟩ := hcut
  have HH := Lib.hid (hang_any (id := S.n) (p := p) h3 (show S.n < S.n + 1 by omega) (show p < S.n + 1 by have := HP.out; omega) (by
    have e : (S.push o).last p = S.last p := upd_other _ _ (by have := HP.out; omega)
    rw [e]
    exact HLast.out.imp id fun ⟨l, h1, h2⟩ => ⟨l, h1, show l < S.n + 1 by omega⟩))
  have HO3 := Lib.hid o3
  have HG1 := Lib.hid hg1
  clear HS HL HA0 HB0 HO HG HF cA fA hg1 o3
  go_wp2_with fail
  refine HH.out.mono ?_
  rintro e w4 ⟨rfl, h4, o4⟩
  go_wp2
  go_ret
  exact ⟨rfl, g1, cap1, h4, HG1.out, HO3.out.trans o4 (fun i hi hx => by
    rcases hx with hx | hx
    · exact .inl hx
    · rcases HG1.out with e | e
      · exact .inr (by rw [hx, e])
      · omega)⟩
end Tr
end Go.Proofs.Ytlpfffioidbkeaa
