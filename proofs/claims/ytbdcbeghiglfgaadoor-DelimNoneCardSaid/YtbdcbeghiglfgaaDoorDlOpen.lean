/- Layer 13: a run becomes an opener: the program's open. -/
import Derived.Test.YtbdcbeghiglfgaaDoorDlMM
namespace Go.Proofs.YtbdcbeghiglfgaaDoor
open Go Go.RowKit
namespace Dl
set_option maxRecDepth 100000
set_option linter.unusedVariables false
set_option linter.unusedSimpArgs false

set_option maxHeartbeats 8000000 in
theorem open_any {w0 : World} {zz : Option (Nat × World)} {L : List Rn} {v : Value} {B ml md : Nat} {pv : Value} {q : Nat} {S : List Opn} {G : UInt8 × Int → Bool → Int → Nat} {P : List Pr} {W : World} {i l : Nat}
    (h : MM w0 zz L v B ml md pv q S G P W) (hi : i < L.length) (hll : l ≤ 1073741824) (hq : q ≤ 100000) :
    Calls Tryd.prog 24 #[ptr B, .int .i64 (i : Int), .int .i64 (l : Int)] W fun e w' => e = .returned (.tuple #[]) ∧ ∃ g, MM w0 zz L v B ml md pv (q + 2) (⟨g, i, l⟩ :: S) G P w' := by
  obtain ⟨a, cap, rfl, hlm, hr⟩ := h.cells
  obtain ⟨b, off, rfl, hbl, hcell⟩ := hr.resolve_left (fun e => by subst e; simp at hi)
  obtain ⟨n, hl, hn⟩ := h.last
  have hwf := h.wf i hi
  have hml : ml ≠ B := fun e => h.ne_ml e.symm
  have HMM := Lib.hid h
  have HK := Lib.hid (fun W => kindOf_any (rn L i) W)
  have r0 := run_cells (hcell i hi W h.below)
  obtain ⟨c0, c1, c2, c3⟩ := r0
  have b0 : W.cell? ⟨B, 0, none⟩ = some (.slice (some ⟨b, off, none⟩) L.length cap) := h.blk.cell 0 rfl
  have hlt : (i : Int) < (L.length : Int) := by omega
  have hlb : (L.length : Int) ≤ 9223372036854775807 := by unfold maxLen at hlm; omega
  -- behind the call of kindOf, the kind in a block of its own
  have HN : Hid (∀ w1, Below W.heap.size W w1 → ∀ W2, W2 = (w1.alloc (.cells #[.int .u8 ((kn (rn L i)).1.toNat : Int), .int .i64 (kn (rn L i)).2] 66)).drew →
      MM w0 zz L (.slice (some ⟨b, off, none⟩) L.length cap) B ml md pv q S G P W2 ∧ W2.cell? ⟨w1.heap.size, 0, none⟩ = some (.int .u8 ((kn (rn L i)).1.toNat : Int)) ∧ W2.cell? ⟨w1.heap.size, 1, none⟩ = some (.int .i64 (kn (rn L i)).2) ∧ W2.heap.size = w1.heap.size + 1 ∧
      (∀ W3, Below W2.heap.size W2 W3 → (Instr.lookup 47 (.map (some ml)) (kindV (kn (rn L i))) false).run Tryd.prog W3 = .ok (hd (ofK L S (kn (rn L i)))) W3)) := Lib.hid (by
    intro w1 hb1 W2 e
    have hA : Below W.heap.size W W2 := by rw [e]; exact (hb1.alloc hb1.size _).drew
    have hB := Blk.new w1 #[.int .u8 ((kn (rn L i)).1.toNat : Int), .int .i64 (kn (rn L i)).2] 66
    have hM := h.below' hA
    refine ⟨hM, ?_, ?_, ?_, fun W3 hW3 => ?_⟩
    · rw [e]; exact hB.cell 0 rfl
    · rw [e]; exact hB.cell 1 rfl
    · rw [e]; exact World.size_alloc _ _
    · obtain ⟨n', hl', _⟩ := (hM.below' hW3).last
      exact hl'.look hwf)
  have HFin : Hid (∀ (W3 : World) (g : Nat), MM w0 zz L (.slice (some ⟨b, off, none⟩) L.length cap) B ml md pv q S G P W3 → W3.heap.size = g → ∀ W4, W4 = ((W3.setCell ⟨B, 1, none⟩ (ptr g)).alloc (.cells (opC ⟨g, i, l⟩ (hd S) (hd (ofK L S (kn (rn L i))))) 64)) →
      W4.cell? ⟨B, 1, none⟩ = some (ptr g) ∧ W4.cell? ⟨B, 2, none⟩ = some (.map (some ml)) ∧ Only (fun k => k = B) W3 W4 ∧
      ∀ W5, Below W4.heap.size W4 W5 → ∃ w6, (Instr.mapUpdate 47 (.map (some ml)) (kindV (kn (rn L i))) (ptr g)).run Tryd.prog W5 = .ok () w6 ∧ Only (fun g => g = ml) W5 w6 ∧ MM w0 zz L (.slice (some ⟨b, off, none⟩) L.length cap) B ml md pv (q + 2) (⟨g, i, l⟩ :: S) G P w6) := Lib.hid (by
    intro W3 g hM3 hg W4 e
    have hBlt := hM3.blk.lt
    have hs3 : (W3.setCell ⟨B, 1, none⟩ (ptr g)).heap.size = g := by simp; exact hg
    have hB4 : Blk W4 B (matC (.slice (some ⟨b, off, none⟩) L.length cap) (ptr g) ml md pv) 51 := by rw [e]; exact (hM3.blk.set 1 _ rfl).alloc _
    have hX4 : Blk W4 g (opC ⟨g, i, l⟩ (hd S) (hd (ofK L S (kn (rn L i))))) 64 := by
      rw [e]
      have := Blk.new (W3.setCell ⟨B, 1, none⟩ (ptr g)) (opC ⟨g, i, l⟩ (hd S) (hd (ofK L S (kn (rn L i))))) 64
      rwa [hs3] at this
    have ho34 : Only (fun k => k = B) W3 W4 := by rw [e]; exact Only.alloc (Only.setCell (X := fun k => k = B) (Only.refl _ _) rfl _) _
    refine ⟨hB4.cell 1 rfl, hB4.cell 2 rfl, ho34, fun W5 h5 => ?_⟩
    obtain ⟨n', hl', hn'⟩ := hM3.last
    have hl5 := (hl'.only ho34 (fun e => hml e)).below h5
    obtain ⟨w6, hrun, hl6, ho6⟩ := hl5.put hwf (by omega) (z := (.lit (.int .i64 (g : Int)), [])) (ptrR_ptr g)
    refine ⟨w6, hrun, ho6, hM3.opened hi (by omega) ((hX4.below h5).only ho6 (fun e => by have := hl'.lt; omega)) ((hB4.below h5).only ho6 (fun e => hml e.symm)) hl6 (by omega) ((ho34.mono fun _ e => .inl e).then_below h5 |>.trans' (ho6.mono fun _ e => .inr e))⟩)
  obtain ⟨o1, ho1⟩ := hd_form S
  obtain ⟨o2, ho2⟩ := hd_form (ofK L S (kn (rn L i)))
  have HB1 : Hid (∀ W2, MM w0 zz L (.slice (some ⟨b, off, none⟩) L.length cap) B ml md pv q S G P W2 → Blk W2 B (matC (.slice (some ⟨b, off, none⟩) L.length cap) (hd S) ml md pv) 51) := Lib.hid (fun W2 h => h.blk)
  rw [ho2] at HFin HN
  rw [ho1] at HFin HB1
  unfold kindV at HK HFin HN
  generalize (kn (rn L i)).1.toNat = kc at *
  generalize (kn (rn L i)).2 = kk at *
  unfold runE at HK
  generalize (rn L i).c.toNat = mc at *
  generalize (rn L i).n = mn at *
  generalize (rn L i).o = mo at *
  generalize (rn L i).k = mk at *
  clear h hr hcell hl hn hwf hlm hbl ho1 ho2
  unfold opC at HFin
  unfold ptr at *
  go_enter Tryd.func24, Tryd.ntmps24
  go_wp2_with fail
  refine (HK.out _).mono ?_
  rintro e w1 ⟨rfl, hb1⟩
  clear c0 c1 c2 c3 b0
  go_wp2_with fail
  obtain ⟨hM2, k0, k1, hs2, hlk⟩ := HN.out w1 hb1 _ rfl
  have hlk2 := hlk _ (Below.refl _ _)
  have hblk := HB1.out _ hM2
  have b1 : ((w1.alloc (.cells #[.int .u8 (kc : Int), .int .i64 kk] 66)).drew).cell? ⟨B, 1, none⟩ = some (.pointer o1) := hblk.cell 1 rfl
  have b2 : ((w1.alloc (.cells #[.int .u8 (kc : Int), .int .i64 kk] 66)).drew).cell? ⟨B, 2, none⟩ = some (.map (some ml)) := hblk.cell 2 rfl
  have z1 : ((w1.alloc (.cells #[.int .u8 (kc : Int), .int .i64 kk] 66)).drew).frozen? ⟨B, 1, none⟩ = false := hblk.fr 1
  have hBl := hblk.lt
  have HM2 := Lib.hid hM2
  clear hM2 hlk hblk
  generalize hW2 : (w1.alloc (.cells #[.int .u8 (kc : Int), .int .i64 kk] 66)) = W2 at *
  have hlt2 : B < W2.heap.size := hBl
  have e1 : (W2.alloc (.cells #[.int .i64 (i : Int), .int .i64 (l : Int), .pointer o1, .pointer o2] 64)).cell? ⟨B, 1, none⟩ = some (.pointer o1) := keep_cell ((Below.refl _ W2).alloc (Nat.le_refl _) _) b1
  have ez : (W2.alloc (.cells #[.int .i64 (i : Int), .int .i64 (l : Int), .pointer o1, .pointer o2] 64)).frozen? ⟨B, 1, none⟩ = false := (((HB1.out _ HM2.out).alloc _).fr 1)
  have hsz2 : W2.heap.size = w1.heap.size + 1 := hs2
  have hBw := Nat.lt_of_lt_of_le HMM.out.blk.lt hb1.size
  go_region
  go_wp2_with fail
  obtain ⟨d1, d2, ho4, hput⟩ := HFin.out W2.drew (w1.heap.size + 1) HM2.out hsz2 _ rfl
  generalize hW4 : ((W2.setCell ⟨B, 1, none⟩ (.pointer (some ⟨w1.heap.size + 1, 0, none⟩))).alloc (.cells #[.int .i64 (i : Int), .int .i64 (l : Int), .pointer o1, .pointer o2] 64)).drew = W4 at *
  have hW4' : ((W2.drew.setCell ⟨B, 1, none⟩ (.pointer (some ⟨w1.heap.size + 1, 0, none⟩))).alloc (.cells #[.int .i64 (i : Int), .int .i64 (l : Int), .pointer o1, .pointer o2] 64)) = W4 := hW4
  rw [hW4'] at d1 d2 ho4 hput
  have k0' : W4.cell? ⟨w1.heap.size, 0, none⟩ = some (.int .u8 (kc : Int)) := by
    rw [World.cell?_of_block (ho4.block w1.heap.size (by show _ < W2.heap.size; omega) (fun e => by omega))]; exact k0
  have k1' : W4.cell? ⟨w1.heap.size, 1, none⟩ = some (.int .i64 kk) := by
    rw [World.cell?_of_block (ho4.block w1.heap.size (by show _ < W2.heap.size; omega) (fun e => by omega))]; exact k1
  clear hW4 hW4' ho4 b1 b2 z1 e1 ez k0 k1 hlk2
  obtain ⟨w6, hrun6, ho6, hM6⟩ := hput _ (Below.refl _ W4).drew
  go_region
  all_goals
    go_wp2
    refine bodyPost_end (results_none rfl _ _ _) rfl ?_
    exact ⟨rfl, _, hM6⟩
end Dl
end Go.Proofs.YtbdcbeghiglfgaaDoor
