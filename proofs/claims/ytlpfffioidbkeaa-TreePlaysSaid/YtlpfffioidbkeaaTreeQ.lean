/- Layer 6: awake. -/
import Derived.Test.YtlpfffioidbkeaaTreeO
namespace Go.Proofs.Ytlpfffioidbkeaa
open Go Go.RowKit
namespace Tr
set_option maxRecDepth 100000
set_option linter.unusedVariables false
set_option linter.unusedSimpArgs false

theorem Opd.below {w w' : World} {A g B : Nat} {S : Ar} (h : Opd w w' A g S) (hB : B ≤ w.heap.size) (hA : B ≤ A) (hg : B ≤ g) : Below B w w' := by
  obtain ⟨_, _, _, _, ho⟩ := h
  exact ho.below hB (fun k hk => by rcases hk with rfl | rfl <;> assumption)

def T2 : Tree := .mk dO [.mk pO [.mk xO []]]
set_option maxHeartbeats 4000000 in
theorem awake_any (w : World) : Calls Try.prog 10 #[] w fun e w' => e = .returned (.bool true) ∧ Below w.heap.size w w' := by
  have HN := Lib.hid (fun W => new_any dO none 0 0 W (by decide) (by decide))
  have HT := Lib.hid (fun (W : World) (A g cap : Nat) (h : AR W A g cap S2) => tree_any kids2 sized2 ht2_lt 3 (by decide) (by decide) h)
  unfold nodeV dO at HN
  go_enter Try.func10, Try.ntmps10
  go_wp2_with fail
  refine (HN.out _).mono ?_
  rintro e w1 ⟨A, g, rfl, h1, hA, hg, hb1⟩
  have h1' : AR w1 A g 1 (Ar.one dO) := h1
  have HA1 := Lib.hid (add_any h1' (p := 0) (by decide) (by decide) (.inl rfl) pO none 0 0 (by decide) (by decide))
  rw [show (Ar.one dO).n = 1 from rfl] at HA1
  unfold ptr nodeV pO at HA1
  unfold ptr
  have hs1 := hb1.size
  clear HN h1 h1'
  go_wp2_with fail
  refine HA1.out.mono ?_
  rintro e w2 ⟨rfl, ho2⟩
  have hb2 : Below w.heap.size w w2 := hb1.trans (ho2.below hs1 hA hg)
  obtain ⟨g2, cap2, h2, hg2, o2⟩ := ho2
  have hg2' : w.heap.size ≤ g2 := by rcases hg2 with e | e <;> omega
  have h2' : AR w2 A g2 cap2 S1 := h2
  have HA2 := Lib.hid (add_any h2' (p := 1) (by decide) (by decide) (.inl rfl) xO none 0 0 (by decide) (by decide))
  rw [S1_n] at HA2
  unfold ptr nodeV xO at HA2
  have hs2 := hb2.size
  clear HA1 h2 h2' o2 hb1 hg2
  go_wp2_with fail
  refine HA2.out.mono ?_
  rintro e w3 ⟨rfl, ho3⟩
  have hb3 : Below w.heap.size w w3 := hb2.trans (ho3.below hs2 hA hg2')
  obtain ⟨g3, cap3, h3, hg3, o3⟩ := ho3
  have h3' : AR w3 A g3 cap3 S2 := h3
  have HT3 := Lib.hid (HT.out _ _ _ _ h3')
  rw [show S2.o 0 = dO from rfl] at HT3
  unfold ptr nodeV at HT3
  have H3 := Lib.hid h3'
  have hs3 := hb3.size
  clear HA2 HT o3 hb2 hg3 h3 h3'
  go_wp2_with fail
  refine HT3.out.mono ?_
  rintro e w4 ⟨a, n, c, rfl, hin, hb4⟩
  have hb4' := hb3.trans (hb4.mono hs3)
  have H4 := Lib.hid (H3.out.below hb4)
  have HI : Hid (In w4 (fun b => w3.heap.size ≤ b) T2 (.slice a n c)) := Lib.hid hin
  have HC := Lib.hid (fun W (hW : Below w4.heap.size w4 W) => count_any T2 W _ (HI.out.keep hW) (by decide))
  have HD := Lib.hid (fun W (hW : Below w4.heap.size w4 W) => depth_any T2 W _ (HI.out.keep hW) (by decide))
  have HW := Lib.hid (fun W (hW : Below w4.heap.size w4 W) => well_any (HI.out.keep hW))
  have HS := Lib.hid (fun W (hW : Below w4.heap.size w4 W) => same_any T2 T2 W _ _ (HI.out.keep hW) (HI.out.keep hW))
  have HL := Lib.hid (fun W (hW : Below w4.heap.size w4 W) => len_any (H4.out.below hW))
  rw [same_refl] at HS
  rw [show T2.well = true from by decide +kernel] at HW
  rw [show T2.cnt = 3 from by decide +kernel] at HC
  rw [show T2.dep = 3 from by decide +kernel] at HD
  rw [S2_n] at HL
  rw [show T2.own = dO from rfl] at HC HD HW HS
  unfold nodeV at HC HD HW HS
  unfold ptr at HL
  have HB5 : Below w4.heap.size w4 (w4.alloc (.cells (nodeC dO (.slice a n c)) 24)) := (Below.refl _ w4).alloc (Nat.le_refl _) _
  have HB5 := Lib.hid HB5
  have HX : Blk (w4.alloc (.cells (nodeC dO (.slice a n c)) 24)) w4.heap.size (nodeC dO (.slice a n c)) 24 := Blk.new _ _ _
  have HX := Lib.hid HX
  clear hin hb4 HT3 HI
  go_wp2_with fail
  refine (HC.out _ HB5.out).mono ?_
  rintro e w5 ⟨rfl, hb5⟩
  have HB6 := Lib.hid (below_later HB5.out hb5)
  have Y5 := HX.out.below hb5
  have x50 : w5.cell? ⟨w4.heap.size, 0, none⟩ = _ := Y5.node.c0
  have x51 : w5.cell? ⟨w4.heap.size, 1, none⟩ = _ := Y5.node.c1
  have x52 : w5.cell? ⟨w4.heap.size, 2, none⟩ = _ := Y5.node.c2
  have x53 : w5.cell? ⟨w4.heap.size, 3, none⟩ = _ := Y5.node.c3
  have x54 : w5.cell? ⟨w4.heap.size, 4, none⟩ = _ := Y5.node.c4
  have x55 : w5.cell? ⟨w4.heap.size, 5, none⟩ = _ := Y5.node.c5
  have x56 : w5.cell? ⟨w4.heap.size, 6, none⟩ = _ := Y5.node.c6
  have HY5 := Lib.hid Y5
  clear Y5 hb5
  go_wp2_with fail
  refine (HD.out _ HB6.out).mono ?_
  rintro e w6 ⟨rfl, hb6⟩
  have HB7 := Lib.hid (below_later HB6.out hb6)
  have Y6 := HY5.out.below hb6
  have x60 : w6.cell? ⟨w4.heap.size, 0, none⟩ = _ := Y6.node.c0
  have x61 : w6.cell? ⟨w4.heap.size, 1, none⟩ = _ := Y6.node.c1
  have x62 : w6.cell? ⟨w4.heap.size, 2, none⟩ = _ := Y6.node.c2
  have x63 : w6.cell? ⟨w4.heap.size, 3, none⟩ = _ := Y6.node.c3
  have x64 : w6.cell? ⟨w4.heap.size, 4, none⟩ = _ := Y6.node.c4
  have x65 : w6.cell? ⟨w4.heap.size, 5, none⟩ = _ := Y6.node.c5
  have x66 : w6.cell? ⟨w4.heap.size, 6, none⟩ = _ := Y6.node.c6
  have HY6 := Lib.hid Y6
  clear Y6 hb6
  go_wp2_with fail
  refine (HW.out _ HB7.out).mono ?_
  rintro e w7 ⟨rfl, hb7⟩
  have HB8 := Lib.hid (below_later HB7.out hb7)
  have Y7 := HY6.out.below hb7
  have x70 : w7.cell? ⟨w4.heap.size, 0, none⟩ = _ := Y7.node.c0
  have x71 : w7.cell? ⟨w4.heap.size, 1, none⟩ = _ := Y7.node.c1
  have x72 : w7.cell? ⟨w4.heap.size, 2, none⟩ = _ := Y7.node.c2
  have x73 : w7.cell? ⟨w4.heap.size, 3, none⟩ = _ := Y7.node.c3
  have x74 : w7.cell? ⟨w4.heap.size, 4, none⟩ = _ := Y7.node.c4
  have x75 : w7.cell? ⟨w4.heap.size, 5, none⟩ = _ := Y7.node.c5
  have x76 : w7.cell? ⟨w4.heap.size, 6, none⟩ = _ := Y7.node.c6
  have HY7 := Lib.hid Y7
  clear Y7 hb7
  go_wp2_with fail
  refine (HS.out _ HB8.out).mono ?_
  rintro e w8 ⟨rfl, hb8⟩
  have HB9 := Lib.hid (below_later HB8.out hb8)
  have Y8 := HY7.out.below hb8
  have x80 : w8.cell? ⟨w4.heap.size, 0, none⟩ = _ := Y8.node.c0
  have x81 : w8.cell? ⟨w4.heap.size, 1, none⟩ = _ := Y8.node.c1
  have x82 : w8.cell? ⟨w4.heap.size, 2, none⟩ = _ := Y8.node.c2
  have x83 : w8.cell? ⟨w4.heap.size, 3, none⟩ = _ := Y8.node.c3
  have x84 : w8.cell? ⟨w4.heap.size, 4, none⟩ = _ := Y8.node.c4
  have x85 : w8.cell? ⟨w4.heap.size, 5, none⟩ = _ := Y8.node.c5
  have x86 : w8.cell? ⟨w4.heap.size, 6, none⟩ = _ := Y8.node.c6
  have HY8 := Lib.hid Y8
  clear Y8 hb8
  go_wp2_with fail
  refine (HL.out _ HB9.out).mono ?_
  rintro e w9 ⟨rfl, rfl⟩
  go_wp2
  go_ret
  exact ⟨rfl, hb4'.trans (HB9.out.mono (by have := hb4'.size; omega))⟩
end Tr
end Go.Proofs.Ytlpfffioidbkeaa
