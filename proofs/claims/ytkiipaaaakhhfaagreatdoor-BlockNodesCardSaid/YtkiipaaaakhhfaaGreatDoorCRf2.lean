import Derived.Test.YtkiipaaaakhhfaaGreatDoorCLk2
import Derived.Test.YtkiipaaaakhhfaaGreatDoorCClass1
import Derived.Test.YtkiipaaaakhhfaaGreatDoorCKit1
import Derived.Deep.Strs
import Derived.OpenShut
import Derived.LaidMore
import Derived.Test.YtkiipaaaakhhfaaGreatDoorCRf1
import Derived.RangeFuncNested
import Derived.RangeFuncBound
import Derived.RangeFuncCalls
import Derived.RangeFuncLeaves
import Derived.WalkKit
import Derived.Shelf.Abstract
import Derived.Shelf.RegionOpen
import Derived.OwnWalkIn
import Derived.TacticsInMore
import Derived.LoopNIn
import Derived.LoopIn
import Derived.Maps.AppendAt
import Derived.RangeFuncBox
import Derived.Deep.RegionHeld3
import Derived.Deep.DrawnRows
section
namespace Go.Proofs.YtkiipaaaakhhfaaGreatDoor
open Go Go.ChangeShapes Go.WideShapes Go.ChangeAt Go.RowKit
namespace Rf
set_option maxRecDepth 100000
set_option linter.unusedVariables false
structure LaidR (w : World) : Prop where
 tabs : Ks.Laid w
 link : Lk.LaidL w
theorem LaidR.below {w w' : World} (h : LaidR w) (hB : Below w.heap.size w w') : LaidR w' := ⟨h.tabs.below hB, h.link.below hB⟩
abbrev Tab := List (Int × Int × Int)
def rowsData {H : Type} (q : IntKind) (T : Tab) : DataW H := .agg (T.map fun x => .agg [.lit (.int .i32 x.1), .lit (.int .i32 x.2.1), .lit (.int q x.2.2)])
theorem one_ofL {k k2 : IntKind} {z v : Int} {y : DataW Unit} (h1 : y = .lit (.int k z)) (h2 : y = .lit (.int k2 v)) : z = v := by
 subst h1; injection h2 with h; injection h
theorem rows_cells {P : Program} {w : World} {base : Nat} {sp : Nat → Bool} {held : Bool} {fuel : Nat} {t e t32 tq : TypeId} {n : Nat} {f0 f1 f2 : Field} {q : IntKind} {cs : List Value} {T : Tab} {p : List MemPlace}
  (ht : P.underlying t = some (.array n e)) (he : P.underlying e = some (.struct #[f0, f1, f2])) (hce : P.cellsOf e = 3) (h32 : P.underlying t32 = some (.int .i32)) (hq : P.underlying tq = some (.int q)) (c32 : P.cellsOf t32 = 1) (cq : P.cellsOf tq = 1)
  (e0 : f0.type = t32) (e1 : f1.type = t32) (e2 : f2.type = tq) (o0 : f0.offset = 0) (o1 : f1.offset = 1) (o2 : f2.offset = 2)
  (h : DataW.trod (fun _ => ()) P w base sp held fuel t cs = some (rowsData q T, p)) (i : Nat) (x : Int × Int × Int) (hx : T[i]? = some x) :
  cs[i * 3]? = some (.int .i32 x.1) ∧ cs[i * 3 + 1]? = some (.int .i32 x.2.1) ∧ cs[i * 3 + 2]? = some (.int q x.2.2) := by
 obtain ⟨xs, m, _, ex, _, hl, hel⟩ := DataW.trod_array ht h
 have ed : xs.map (·.1) = T.map fun x => (.agg [.lit (.int .i32 x.1), .lit (.int .i32 x.2.1), .lit (.int q x.2.2)] : DataW Unit) := (DataW.agg.inj (Prod.mk.inj ex).1).symm
 have hTl : T.length = n := by have := congrArg List.length ed; simp at this; omega
 have hi : i < n := by have := (List.getElem?_eq_some_iff.1 hx).1; omega
 have hE := hel i hi
 obtain ⟨b, hb⟩ : ∃ b, xs[i]? = some b := ⟨_, List.getElem?_eq_getElem (by omega)⟩
 rw [hce, hb] at hE
 have hb1 : b.1 = .agg [.lit (.int .i32 x.1), .lit (.int .i32 x.2.1), .lit (.int q x.2.2)] := by
  have := congrArg (fun l => l[i]?) ed
  simp only [List.getElem?_map, hb, hx, Option.map_some, Option.some.injEq] at this
  exact this
 obtain ⟨y0, y1, y2, m2, rfl, _, h0, h1, h2⟩ := Go.Deep.trod_struct3 he hE
 rw [e0, o0, c32] at h0
 rw [e1, o1, c32] at h1
 rw [e2, o2, cq] at h2
 obtain ⟨z0, k0, r0, _⟩ := DataW.trod_int h32 h0
 obtain ⟨z1, k1, r1, _⟩ := DataW.trod_int h32 h1
 obtain ⟨z2, k2, r2, _⟩ := DataW.trod_int hq h2
 have hp := DataW.agg.inj hb1
 simp only [List.cons.injEq, and_true] at hp
 obtain ⟨d0, d1, d2⟩ := hp
 subst r0 r1 r2
 have v0 := one_ofL rfl d0
 have v1 := one_ofL rfl d1
 have v2 := one_ofL rfl d2
 subst v0 v1 v2
 have g : ∀ (j : Nat) (v : Value), ((((cs.drop (i * 3)).take 3).drop j).take 1) = [v] → cs[i * 3 + j]? = some v := by
  intro j v hv
  have hj : ((((cs.drop (i * 3)).take 3).drop j).take 1)[0]? = some v := by rw [hv]; rfl
  rw [List.getElem?_take_of_lt (by omega), List.getElem?_drop, Nat.add_zero] at hj
  have hj3 : j < 3 := by
   rcases Nat.lt_or_ge j 3 with h | h
   ·exact h
   ·rw [List.getElem?_eq_none (by simp; omega)] at hj; cases hj
  rw [List.getElem?_take_of_lt hj3, List.getElem?_drop] at hj
  exact hj
 exact ⟨g 0 _ k0, g 1 _ k1, g 2 _ k2⟩
theorem cells_of_var {P : Program} {W : World} {name : String} {g : Nat} {cs : Array Value} {q : IntKind} {T : Tab} (hg : P.globalNamed name = some g) (hv : W.var? P name = some cs)
  (h : ∀ (i : Nat) (x : Int × Int × Int), T[i]? = some x → cs.toList[i * 3]? = some (.int .i32 x.1) ∧ cs.toList[i * 3 + 1]? = some (.int .i32 x.2.1) ∧ cs.toList[i * 3 + 2]? = some (.int q x.2.2)) : ∀ (i : Nat) (x : Int × Int × Int), T[i]? = some x → W.cell? ⟨g, i * 3, none⟩ = some (.int .i32 x.1) ∧ W.cell? ⟨g, i * 3 + 1, none⟩ = some (.int .i32 x.2.1) ∧ W.cell? ⟨g, i * 3 + 2, none⟩ = some (.int q x.2.2) := by
 intro i x hx
 obtain ⟨h0, h1, h2⟩ := h i x hx
 refine ⟨?_, ?_, ?_⟩
 ·rw [World.var?_cell hg hv]; simpa using h0
 ·rw [World.var?_cell hg hv]; simpa using h1
 ·rw [World.var?_cell hg hv]; simpa using h2
theorem laid_of {W : World} (h : laidMetH Tryz.prog [("unicode/utf8.acceptRanges", Rows.laid_unicode_utf8_acceptRanges), ("incipit/class.kinds", Rows.laid_incipit_class_kinds), ("incipit/class.capitals", Rows.laid_incipit_class_capitals), ("unicode/utf8.first", Rows.laid_unicode_utf8_first)] W) (hs : W.ShapedOpen Tryz.prog) : LaidR W := by
 have hlen : ∃ m : Int, W.cell? ⟨0, 0, none⟩ = some (.int .i64 m) := cell_of_shapedOpen_int (t := 3) (zero := #[.int .i64 0]) hs (of_decide_eq_true (by kernel_rfl)) (by kernel_rfl) rfl (by kernel_rfl) (by kernel_rfl) Tryz.underlying3
 rw [MakeChecks.laidMetH_plain _ _ _ (by kernel_rfl)] at h
 obtain ⟨ps, ⟨_, _, _, _, _, _, _, _, _, _, ⟨g, t, cs, fuel, p, q, hg, ht, hv, hd, ⟨g', t', cs', fuel', p', q', hg', ht', hv', hd', _⟩, _⟩, _⟩, _⟩ := h
 obtain rfl := Option.some.inj ((show Tryz.prog.globalNamed "incipit/class.kinds" = some 4 by kernel_rfl).symm.trans hg)
 obtain rfl := Option.some.inj ((show Tryz.prog.globalNamed "incipit/class.capitals" = some 3 by kernel_rfl).symm.trans hg')
 obtain rfl := Option.some.inj ((show (Tryz.prog.globals[4]?).map (·.type) = some 194 by kernel_rfl).symm.trans ht)
 obtain rfl := Option.some.inj ((show (Tryz.prog.globals[3]?).map (·.type) = some 188 by kernel_rfl).symm.trans ht')
 have hk := cells_of_var hg hv (fun i x hx => rows_cells (T := Ks.kinds) Tryz.underlying194 Tryz.underlying193 (by kernel_rfl) Tryz.underlying21 Tryz.underlying3 (by kernel_rfl) (by kernel_rfl) rfl rfl rfl rfl rfl rfl hd i x hx)
 have hc := cells_of_var hg' hv' (fun i x hx => rows_cells (T := Ks.caps) Tryz.underlying188 Tryz.underlying187 (by kernel_rfl) Tryz.underlying21 Tryz.underlying21 (by kernel_rfl) (by kernel_rfl) rfl rfl rfl rfl rfl rfl hd' i x hx)
 exact ⟨⟨hk, hc⟩, ⟨hk, hlen⟩⟩
end Rf
end Go.Proofs.YtkiipaaaakhhfaaGreatDoor
end
section
namespace Go.Proofs.YtkiipaaaakhhfaaGreatDoor
open Go Go.RowKit
namespace Rf
open Lk Es
set_option maxRecDepth 100000
set_option linter.unusedVariables false
set_option linter.unusedSimpArgs false
set_option maxHeartbeats 16000000 in
theorem ztake_any (s : ByteArray) (w : World) (hz : s.size ≤ 100000) (hL : LaidR w) (b : Rb) (n : Nat) (h : takeP s.data.toList = (b.r, n)) :
  Calls Tryz.prog 159 #[.string s] w fun e w' => e = .returned (.tuple #[refV b, .int .i64 (n : Int)]) ∧ Below w.heap.size w w' := by
 obtain ⟨x, a, hLb⟩ : ∃ (x : ByteArray) (a : Nat), labP s.data.toList = (x.data.toList, a) := by
  obtain ⟨x, hx⟩ := ba_mkL (labP s.data.toList).1
  exact ⟨x, (labP s.data.toList).2, by rw [hx]⟩
 have HL : Hid (∀ W, Below w.heap.size w W → Calls Tryz.prog 175 #[.string s] W fun e w' => e = .returned (.tuple #[.string x, .int .i64 (a : Int)]) ∧ Below W.heap.size W w') := Lib.hid (fun W hW => by
  have := Lk.label_any s W (by omega) (hL.below hW).link
  unfold labV at this
  rw [hLb] at this
  simp only at this
  unfold str at this
  rw [ba_selfL] at this
  exact this)
 have hal := lab_le hLb
 rw [szL, szL] at hal
 have HLab := Lib.hid hLb
 have Hok := Lib.hid h
 have Hnil := Lib.hid (fun h2 => nil_of h h2)
 have HLd := Lib.hid hL
 have HB0 : Hid (Blk (w.alloc (.cells (refC nilB) 75)) w.heap.size (refC nilB) 75) := Lib.hid (Blk.new w (refC nilB) 75)
 have HW0 : Hid (Below w.heap.size w (w.alloc (.cells (refC nilB) 75))) := Lib.hid ((Below.refl _ w).alloc (Nat.le_refl _) _)
 unfold refC nilB at HW0 HB0
 clear h hLb hL
 go_enter Tryz.func159, Tryz.ntmps159
 go_wp2_with fail
 refine (HL.out _ HW0.out).mono ?_
 rintro e w1 ⟨rfl, hb1⟩
 have K1 : Hid (Blk w1 w.heap.size (refC nilB) 75) := Lib.hid (HB0.out.below hb1)
 have W1 := Lib.hid (below_later HW0.out hb1)
 clear hb1 HB0 HW0 HL
 rcases Nat.eq_zero_or_pos a with rfl | ha0
 ·obtain ⟨rfl, rfl⟩ := Hnil.out (take_no1 HLab.out)
  have c0 : w1.cell? ⟨w.heap.size, 0, none⟩ = some (.string ⟨#[]⟩) := K1.out.cell 0 rfl
  have c1 : w1.cell? ⟨w.heap.size, 1, none⟩ = some (.string ⟨#[]⟩) := K1.out.cell 1 rfl
  have c2 : w1.cell? ⟨w.heap.size, 2, none⟩ = some (.string ⟨#[]⟩) := K1.out.cell 2 rfl
  have cf := fun k => K1.out.fr k
  clear Hnil Hok
  go_wp2
  refine bodyPost_ret (v := .tuple #[refV nilB, .int .i64 0]) (results_ref rfl _ _ w.heap.size nilB _ rfl rfl (K1.out.reref nilB)) rfl ⟨rfl, ?_⟩
  iterate 3 (refine Below.setCell ?_ (by exact Nat.le_refl _) _)
  exact W1.out
 have ea : ((a : Int) == 0) = false := by simp; omega
 have hab : (a : Int) ≤ (s.size : Int) := by omega
 have ha0' : (0 : Int) ≤ (a : Int) := by omega
 obtain ⟨S0, hS0⟩ : ∃ S0, S0 = s.extract a s.size := ⟨_, rfl⟩
 have hS0l : S0.data.toList = s.data.toList.drop a := by rw [hS0, ext_restL]
 have HPre := Lib.hid (fun W => has_any S0 58 W)
 rw [hS0l] at HPre
 have HS0 := Lib.hid hS0
 clear hS0 hS0l
 by_cases hh : (s.data.toList.drop a).head? = some 58
 case neg =>
  rw [decide_eq_false hh] at HPre
  have hnil : takeP s.data.toList = (nilR, 0) := by
   cases hd : s.data.toList.drop a with
   | nil => exact take_no2 HLab.out ha0 hd
   | cons c t =>
    refine take_no3 HLab.out ha0 hd ?_
    rintro rfl
    rw [hd] at hh; exact hh rfl
  obtain ⟨rfl, rfl⟩ := Hnil.out hnil
  clear Hnil Hok hh hnil
  go_wp2_with fail
  rw [← HS0.out]
  refine (HPre.out _).mono ?_
  rintro e w2 ⟨rfl, rfl⟩
  have c0 : w1.cell? ⟨w.heap.size, 0, none⟩ = some (.string ⟨#[]⟩) := K1.out.cell 0 rfl
  have c1 : w1.cell? ⟨w.heap.size, 1, none⟩ = some (.string ⟨#[]⟩) := K1.out.cell 1 rfl
  have c2 : w1.cell? ⟨w.heap.size, 2, none⟩ = some (.string ⟨#[]⟩) := K1.out.cell 2 rfl
  have cf := fun k => K1.out.fr k
  go_wp2
  refine bodyPost_ret (v := .tuple #[refV nilB, .int .i64 0]) (results_ref rfl _ _ w.heap.size nilB _ rfl rfl (K1.out.reref nilB)) rfl ⟨rfl, ?_⟩
  iterate 3 (refine Below.setCell ?_ (by exact Nat.le_refl _) _)
  exact W1.out
 rw [decide_eq_true hh] at HPre
 obtain ⟨t, hd⟩ := head_cons hh
 have HD := Lib.hid hd
 have has : a < s.size := by
  have := congrArg List.length hd
  rw [List.length_drop, szL, List.length_cons] at this
  omega
 have ht : s.data.toList.drop (a + 1) = t := by
  have : (s.data.toList.drop a).drop 1 = t := by rw [hd]; rfl
  rw [List.drop_drop] at this
  exact this
 obtain ⟨S1, hS1⟩ : ∃ S1, S1 = s.extract (a + 1) s.size := ⟨_, rfl⟩
 have hS1l : S1.data.toList = t := by rw [hS1, ext_restL, ht]
 have hS1z : S1.size ≤ 100000 := by rw [← szL, hS1l, ← ht, List.length_drop, szL]; omega
 have HG := Lib.hid (fun W => zgap_any S1 W (by omega))
 rw [hS1l] at HG
 have htl : t.length + (a + 1) = s.size := by rw [← ht, List.length_drop, szL]; omega
 have HS1 := Lib.hid hS1
 have hp1b : (a : Int) + 1 ≤ (s.size : Int) := by omega
 have hs1 : (s.size : Int) ≤ 100000 := by omega
 have hgl := gapZ_le t
 obtain ⟨g, hg⟩ : ∃ g, gapZ t = g := ⟨_, rfl⟩
 rw [hg] at HG hgl
 obtain ⟨S2, hS2⟩ : ∃ S2, S2 = s.extract (a + 1 + g) s.size := ⟨_, rfl⟩
 have hS2l : S2.data.toList = t.drop g := by rw [hS2, ext_restL, ← List.drop_drop, ht]
 have hS2z : S2.size ≤ 100000 := by rw [← szL, hS2l, List.length_drop]; omega
 obtain ⟨d, k, bb, hD⟩ : ∃ (d : ByteArray) (k : Nat) (bb : Bool), destP (t.drop g) = (d.data.toList, k, bb) := by
  obtain ⟨d, hd⟩ := ba_mkL (destP (t.drop g)).1
  exact ⟨d, (destP (t.drop g)).2.1, (destP (t.drop g)).2.2, by rw [hd]⟩
 have HDs : Hid (∀ W, Below w.heap.size w W → Calls Tryz.prog 177 #[.string S2] W fun e w' => e = .returned (.tuple #[.string d, .int .i64 (k : Int), .bool bb]) ∧ Below W.heap.size W w') := Lib.hid (fun W hW => by
  have := dest_any S2 W (by omega) (HLd.out.below hW).link
  rw [hS2l] at this
  unfold dstV at this
  rw [hD] at this
  simp only at this
  unfold str at this
  rw [ba_selfL] at this
  exact this)
 have HDe : Hid (destP (t.drop (gapZ t)) = (d.data.toList, k, bb)) := Lib.hid (by rw [hg]; exact hD)
 have HS2 := Lib.hid hS2
 have hp2b : (a : Int) + 1 + (g : Int) ≤ (s.size : Int) := by omega
 have hp2c : (0 : Int) ≤ (a : Int) + 1 + (g : Int) := by omega
 clear hh hd hS1 hS1l hS1z hS2 hS2l hS2z
 go_wp2_with fail
 rw [← HS0.out]
 refine (HPre.out _).mono ?_
 rintro e w2 ⟨rfl, rfl⟩
 go_wp2_with fail
 rw [← HS1.out]
 refine (HG.out _).mono ?_
 rintro e w2 ⟨rfl, hb2⟩
 have K2 : Hid (Blk w2 w.heap.size (refC nilB) 75) := Lib.hid (K1.out.below hb2)
 have W2 := Lib.hid (below_later W1.out hb2)
 clear hb2 K1 W1 HG
 go_wp2_with fail
 rw [← HS2.out]
 refine (HDs.out _ W2.out).mono ?_
 rintro e w3 ⟨rfl, hb3⟩
 have K3 : Hid (Blk w3 w.heap.size (refC nilB) 75) := Lib.hid (K2.out.below hb3)
 have W3 := Lib.hid (below_later W2.out hb3)
 clear hb3 K2 W2 HDs
 cases bb with
 | false =>
  clear hD ht htl hgl hg
  obtain ⟨rfl, rfl⟩ := Hnil.out (take_noD HLab.out ha0 HD.out HDe.out)
  have c0 : w3.cell? ⟨w.heap.size, 0, none⟩ = some (.string ⟨#[]⟩) := K3.out.cell 0 rfl
  have c1 : w3.cell? ⟨w.heap.size, 1, none⟩ = some (.string ⟨#[]⟩) := K3.out.cell 1 rfl
  have c2 : w3.cell? ⟨w.heap.size, 2, none⟩ = some (.string ⟨#[]⟩) := K3.out.cell 2 rfl
  have cf := fun k => K3.out.fr k
  clear Hnil Hok
  go_wp2
  refine bodyPost_ret (v := .tuple #[refV nilB, .int .i64 0]) (results_ref rfl _ _ w.heap.size nilB _ rfl rfl (K3.out.reref nilB)) rfl ⟨rfl, ?_⟩
  iterate 3 (refine Below.setCell ?_ (by exact Nat.le_refl _) _)
  exact W3.out
 | true =>
  have Hg : Hid (gapP t = some g) := Lib.hid (by rw [← hg]; exact dest_gap HDe.out)
  have HDf := Lib.hid hD
  have hkl := dest_le hD
  rw [List.length_drop] at hkl
  obtain ⟨y, hy⟩ := ba_mkL (Ks.lab x.data.toList)
  have HKL : Hid (∀ W, Below w.heap.size w W → Calls Tryz.prog 179 #[.string x] W fun e w' => e = .returned (.string y) ∧ Below W.heap.size W w') := Lib.hid (fun W hW => by
   have := Ks.label_any x W (by omega) (HLd.out.below hW).tabs
   rw [← hy] at this
   unfold Tx.str at this
   rw [ba_selfL] at this
   exact this)
  obtain ⟨S3, hS3⟩ : ∃ S3, S3 = s.extract (a + 1 + g + k) s.size := ⟨_, rfl⟩
  have hS3l : S3.data.toList = t.drop (g + k) := by rw [hS3, ext_restL, ← ht, List.drop_drop]; congr 1; omega
  have hS3z : S3.size ≤ 100000 := by rw [← szL, hS3l, List.length_drop]; omega
  obtain ⟨z, m, ok, hB⟩ := back_is (t.drop (g + k))
  have HBk := Lib.hid (fun W (hW : Below w.heap.size w W) => zback_any S3 W hS3z (HLd.out.below hW).link z m ok (by rw [hS3l]; exact hB))
  have HS3 := Lib.hid hS3
  have Hy := Lib.hid hy
  have hp3b : (a : Int) + 1 + (g : Int) + (k : Int) ≤ (s.size : Int) := by omega
  have hp3c : (0 : Int) ≤ (a : Int) + 1 + (g : Int) + (k : Int) := by omega
  clear hD hS3 hS3l hS3z hy hg
  go_wp2_with fail
  rw [← HS3.out]
  refine (HBk.out _ W3.out).mono ?_
  rintro e w4 ⟨rfl, hb4⟩
  have K4 : Hid (Blk w4 w.heap.size (refC nilB) 75) := Lib.hid (K3.out.below hb4)
  have W4 := Lib.hid (below_later W3.out hb4)
  clear hb4 K3 W3 HBk
  rcases hB with ⟨hb, rfl, rfl, rfl⟩ | ⟨hb, rfl⟩
  ·obtain ⟨rfl, rfl⟩ := Hnil.out (take_no6 HLab.out ha0 HD.out Hg.out HDf.out hb)
   have c0 : w4.cell? ⟨w.heap.size, 0, none⟩ = some (.string ⟨#[]⟩) := K4.out.cell 0 rfl
   have c1 : w4.cell? ⟨w.heap.size, 1, none⟩ = some (.string ⟨#[]⟩) := K4.out.cell 1 rfl
   have c2 : w4.cell? ⟨w.heap.size, 2, none⟩ = some (.string ⟨#[]⟩) := K4.out.cell 2 rfl
   have cf := fun k => K4.out.fr k
   clear Hnil Hok hb ht htl hgl hkl
   go_wp2
   refine bodyPost_ret (v := .tuple #[refV nilB, .int .i64 0]) (results_ref rfl _ _ w.heap.size nilB _ rfl rfl (K4.out.reref nilB)) rfl ⟨rfl, ?_⟩
   iterate 3 (refine Below.setCell ?_ (by exact Nat.le_refl _) _)
   exact W4.out
  ·have hml := back_le hb
   rw [List.length_drop] at hml
   have hm := take_make HLab.out ha0 HD.out Hg.out HDf.out hb
   obtain ⟨hbr, rfl⟩ := ok_of Hok.out hm
   have hbe : b = ⟨y, d, z⟩ := Rb.inj (by rw [hbr]; unfold Rb.r; rw [Hy.out])
   subst hbe
   have hs5 : Hid ((a : Int) + 1 + (g : Int) + (k : Int) + (m : Int) = ((a + 1 + g + k + m : Nat) : Int)) := Lib.hid (by omega)
   have hs6 : (a : Int) + 1 + (g : Int) + (k : Int) + (m : Int) ≤ 100000 := by omega
   have hs7 : (0 : Int) ≤ (m : Int) := by omega
   clear Hnil Hok hb ht htl hgl hkl hm hbr hml
   go_wp2_with fail
   refine (HKL.out _ W4.out).mono ?_
   rintro e w5 ⟨rfl, hb5⟩
   have K5 : Hid (Blk w5 w.heap.size (refC nilB) 75) := Lib.hid (K4.out.below hb5)
   have W5 := Lib.hid (below_later W4.out hb5)
   clear hb5 K4 W4 HKL
   have c0 : w5.cell? ⟨w.heap.size, 0, none⟩ = some (.string ⟨#[]⟩) := K5.out.cell 0 rfl
   have c1 : w5.cell? ⟨w.heap.size, 1, none⟩ = some (.string ⟨#[]⟩) := K5.out.cell 1 rfl
   have c2 : w5.cell? ⟨w.heap.size, 2, none⟩ = some (.string ⟨#[]⟩) := K5.out.cell 2 rfl
   have cf := fun k => K5.out.fr k
   go_wp2
   refine bodyPost_ret (v := .tuple #[refV ⟨y, d, z⟩, .int .i64 ((a : Int) + 1 + (g : Int) + (k : Int) + (m : Int))]) (results_ref rfl _ _ w.heap.size ⟨y, d, z⟩ _ rfl rfl (K5.out.reref ⟨y, d, z⟩)) rfl ⟨by rw [hs5.out], ?_⟩
   iterate 3 (refine Below.setCell ?_ (by exact Nat.le_refl _) _)
   exact W5.out
end Rf
end Go.Proofs.YtkiipaaaakhhfaaGreatDoor
end
section
namespace Go.Proofs.YtkiipaaaakhhfaaGreatDoor
open Go Go.RowKit
namespace Rf
set_option maxRecDepth 100000
set_option linter.unusedVariables false
def recOf (fn : FuncId) (tmps : Array Value) (ps : Array Tmp) (assign body : Code) (D : Nat) (st : LoopState) : Loop := { state := st, pending := none, fn, tmps, params := ps, assign, body, defers := D }
def Kept (fn : FuncId) (tmps : Array Value) (ps : Array Tmp) (assign body : Code) (D : Nat) (st : LoopState) (W : World) : Prop :=
 W.heap[D + 1]? = some (.loop (recOf fn tmps ps assign body D st)) ∧ W.heap[D]? = some (.deferred (some []))
section
variable {fn : FuncId} {tmps : Array Value} {ps : Array Tmp} {assign body : Code} {D : Nat} {st st' : LoopState}
theorem Kept.over {A B : World} (h : Kept fn tmps ps assign body D st A) (hk : KeepsFrom D A B) : Kept fn tmps ps assign body D st B :=
 ⟨hk.same _ _ (by omega) h.1 rfl, hk.same _ _ (Nat.le_refl _) h.2 rfl⟩
theorem Kept.lt {A : World} (h : Kept fn tmps ps assign body D st A) : D + 1 < A.heap.size := (Array.getElem?_eq_some_iff.1 h.1).1
theorem Kept.turn {A : World} (h : Kept fn tmps ps assign body D st A) : Kept fn tmps ps assign body D st' (A.putObj (D + 1) (.loop (recOf fn tmps ps assign body D st'))) :=
 ⟨World.putObj_heap_same h.lt, (World.putObj_heap_other (by omega)).trans h.2⟩
end
theorem wpIn_mono' {F : Fence} {n : Nat} {P : Program} {c : Code} {Q Q' : Exit → Act → World → Prop} {a : Act} {w : World} (h : c.wpIn F n P Q a w) (hq : ∀ e a w, Q e a w → Q' e a w) : c.wpIn F n P Q' a w := wpIn_mono h hq
theorem range_state {σ : Type} {P : Program} {w : World} {n : Nat} {g : Operand} {ps : Array Tmp} {assign body : Code} {Q : Exit → Act → World → Prop} {a : Act}
  {gf : Nat} {lb : Array Value} (hg : a.eval g = .func (.func gf) #[] lb) (eg : ∀ args w, (callFunc gf args).run P w = .ok (.enter gf args) w)
  (I : σ → World → Prop) (hI : OwnFrom w.heap.size I) (Step : σ → Array Value → σ → Prop) (hps : ∀ s v s', Step s v s' → v.size = ps.size) (s0 : σ) (h0 : I s0 w) (Fin : σ → Prop)
  (hbody : ∀ (l : Nat) (s : σ) (v : Array Value) (s' : σ) (W : World), Step s v s' → I s W → w.heap.size ≤ l →
   assign.wpIn (Fence.wide.inRound l) (n - 1 - 1) P (Exit.then (fun a' Wa => KeepsFrom w.heap.size W Wa ∧ ∀ (o o' : Obj), Wa.heap[l]? = some o → o.isCells = false →
     body.wpIn (Fence.wide.inRound l) (n - 1 - 1) P (fun e _ W3 => e = .normal ∧ KeepsFrom w.heap.size (Wa.putObj l o') W3 ∧ I s' W3) a' (Wa.putObj l o')) (fun _ _ _ => False))
    { tmps := (ps.zip v).foldl (fun t (p, v) => t.setIfInBounds p v) a.tmps, defers := [] } W)
  (hiter : ∀ (l : Nat) (Bk : World → Prop), (∀ A B, KeepsFrom w.heap.size A B → Bk A → Bk B) →
   (∀ (s : σ) (v : Array Value) (s' : σ) (W : World), Step s v s' → I s W → Bk W → YieldAt Fence.wide (n - 1 - 1) P l v W (fun e W' => e = .returned (.bool true) ∧ I s' W' ∧ Bk W')) →
   ∀ W, I s0 W → Bk W → w.heap.size ≤ W.heap.size → CallsIn Fence.wide (n - 1) P gf (#[.func (.yield l) #[] #[]] ++ lb) W fun e W' => (∃ u, e = .returned u) ∧ ∃ s, Fin s ∧ I s W' ∧ Bk W')
  (hdone : ∀ (s : σ) (W : World), Fin s → I s W → W.heap[w.heap.size]? = some (.deferred (some [])) → Q .normal { a with defers := { target := .collected w.heap.size, args := #[] } :: a.defers } W) :
  (Code.rangeFunc g ps assign body).wpIn Fence.wide n P Q a w := by
 refine wpIn_rangeFunc ?_
 intro fn hfn
 obtain ⟨W1, hW1⟩ : ∃ W1, (w.alloc (.deferred (some []))).alloc (.loop (recOf fn a.tmps ps assign body w.heap.size .ready)) = W1 := ⟨_, rfl⟩
 have hK1 : Kept fn a.tmps ps assign body w.heap.size .ready W1 := by
  rw [← hW1]
  refine ⟨?_, (Below.heap_alloc _ _ _ (by simp)).trans (World.alloc_heap_new w _)⟩
  have := World.alloc_heap_new (w.alloc (.deferred (some []))) (.loop (recOf fn a.tmps ps assign body w.heap.size .ready))
  rwa [World.size_alloc] at this
 have hI1 : I s0 W1 := by rw [← hW1]; exact hI.alloc _ (hI.alloc _ h0)
 refine ⟨w.heap.size + 1, [{ target := .collected w.heap.size, args := #[] }], W1, { target := .fn (.func gf) lb, args := #[.func (.yield (w.heap.size + 1)) #[] #[]] }, W1, gf,
  #[.func (.yield (w.heap.size + 1)) #[] #[]] ++ lb, W1, ?_, ?_, ?_, ?_, ?_, ?_⟩
 ·rw [← hW1]; exact run_enterLoop_outer fn a.tmps ps assign body
 ·simp only [resolve, hg]
  simp [go_sem]
 ·intro f' _; trivial
 ·simp [invoke, go_sem, eg]
 ·intro h; cases h
 ·refine (hiter (w.heap.size + 1) (Kept fn a.tmps ps assign body w.heap.size .ready) (fun A B hk h => h.over hk) ?_ W1 hI1 hK1 (by rw [← hW1]; simp; omega)).mono ?_
  ·intro s v s' W hs hi hk
   have hy := run_yield (P := P) (args := v) hk.1 (hps s v s' hs)
   refine ⟨fn, _, assign, body, hy, roundIn_of_wpIn hfn (wpIn_mono' (hbody (w.heap.size + 1) s v s' W hs hi (by omega)) ?_)⟩
   intro e a' Wa hq
   cases e with
   | normal =>
    obtain ⟨hkw, hb⟩ := hq
    have hka := hk.over hkw
    refine ⟨_, run_beginRound hka.1 rfl, ?_⟩
    refine wpIn_mono' (hb _ (.loop (recOf fn a.tmps ps assign body w.heap.size .busy)) hka.1 rfl) ?_
    rintro e3 a3 W3 ⟨rfl, hk3, hi3⟩
    have hkb : Kept fn a.tmps ps assign body w.heap.size .busy (Wa.putObj (w.heap.size + 1) (.loop (recOf fn a.tmps ps assign body w.heap.size .busy))) := hka.turn
    have hkc := hkb.over hk3
    exact ⟨_, _, run_endRound (P := P) none hkc.1, rfl, hI.putObj _ hi3 (by omega) hkc.1 rfl, hkc.turn⟩
   | _ => exact hq
  ·rintro e W2 ⟨⟨u, rfl⟩, s, hf, hi, hk⟩
   exact ⟨none, _, run_endLoop (P := P) hk.1 (by intro h; cases h), hdone s _ hf (hI.putObj _ hi (by omega) hk.1 rfl) ((World.putObj_heap_other (by omega)).trans hk.2)⟩
end Rf
end Go.Proofs.YtkiipaaaakhhfaaGreatDoor
end
section
namespace Go.Proofs.YtkiipaaaakhhfaaGreatDoor
open Go Go.RowKit Go.Shelf
namespace Rf
set_option maxRecDepth 100000
set_option linter.unusedVariables false
set_option linter.unusedSimpArgs false
attribute [local go_sem] Oper.semAt_some
theorem defs_any (s : ByteArray) (w : World) :
  Calls Tryz.prog 136 #[.string s] w fun e w' => e = .returned (.func (.func 158) #[] #[.pointer (some ⟨w.heap.size, 0, none⟩)]) ∧ w' = w.alloc (.cells #[.string s] 9) := by
 go_enter Tryz.func136, Tryz.ntmps136
 go_wp2
 go_ret
 exact ⟨rfl, rfl⟩
structure Sg where
 don : List Rb
 left : ByteArray
 pend : Option Rb
def It (w : World) (bO bR bS : Nat) (s0 : ByteArray) (q : Sg) (W : World) : Prop :=
 (∃ v, Boxed W bO 26 v ∧ Own W w.heap.size v q.don) ∧ (∃ R, Boxed W bR 9 (.string R) ∧ (q.pend = none → R = q.left)) ∧ Boxed W bS 9 (.string s0) ∧ Below w.heap.size w W
theorem keeps_below {D : Nat} {A B : World} (h : Below A.heap.size A B) : KeepsFrom D A B := ⟨h.size, fun k o _ hk _ => (h.block k (Array.getElem?_eq_some_iff.1 hk).1).trans hk⟩
theorem Boxed.below {W W' : World} {B : Nat} {t : TypeId} {v : Value} (h : Boxed W B t v) (hb : Below W.heap.size W W') : Boxed W' B t v := (hb.block B h.lt).trans h
theorem It.below {w W W' : World} {bO bR bS : Nat} {s0 : ByteArray} {q : Sg} (h : It w bO bR bS s0 q W) (hb : Below W.heap.size W W') : It w bO bR bS s0 q W' := by
 obtain ⟨⟨v, h1, h2⟩, ⟨R, h3, h4⟩, h5, h6⟩ := h
 exact ⟨⟨v, Boxed.below h1 hb, h2.keep hb⟩, ⟨R, Boxed.below h3 hb, h4⟩, Boxed.below h5 hb, below_later h6 hb⟩
theorem It.own {w : World} {bO bR bS D : Nat} {s0 : ByteArray} (hD : w.heap.size ≤ D) : OwnFrom D (It w bO bR bS s0) := by
 rintro q X Y row ⟨⟨v, h1, h2⟩, ⟨R, h3, h4⟩, h5, h6⟩ hg hr
 have hn : ∀ r, row = some r → ∃ o : Obj, X.heap[r]? = some o ∧ o.isCells = false := fun r e => (hr r e).2
 have box : ∀ {B : Nat} {t : TypeId} {v : Value}, Boxed X B t v → Boxed Y B t v := fun h => (grownBy_keeps_cells hg hn h rfl).trans h
 refine ⟨⟨v, box h1, ?_⟩, ⟨R, box h3, h4⟩, box h5, h6.grown hg h6.size (fun k e => Nat.le_trans hD (hr k e).1)⟩
 unfold Own at h2 ⊢
 refine owns_block h2 (fun k hk => ?_)
 rcases h2.2 with ⟨rfl, _⟩ | ⟨g, cap, cur, rfl, _, hgb, _⟩
 ·simp [Value.ownBlock] at hk
 ·obtain rfl : g = k := by simpa [Value.ownBlock] using hk
  exact grownBy_keeps_cells hg hn hgb rfl
theorem It.move {w W : World} {bO bR bS : Nat} {s0 : ByteArray} {q : Sg} (S2 : ByteArray) (b : Rb) (h : It w bO bR bS s0 q W) : It w bO bR bS s0 ⟨q.don, S2, some b⟩ W := by
 obtain ⟨k1, ⟨R, k3, k4⟩, k5, k6⟩ := h
 exact ⟨k1, ⟨R, k3, fun e => (by cases e)⟩, k5, k6⟩
def Rnd (q : Sg) (v : Array Value) (q' : Sg) : Prop := ∃ b, q.pend = some b ∧ v = #[refV b, .string q.left] ∧ q' = ⟨q.don ++ [b], q.left, none⟩ ∧ q.don.length ≤ 100000
def strN (v : Value) : Nat := match v with
 | .string s => s.size
 | _ => 0
set_option maxHeartbeats 4000000 in
theorem iter_any {w : World} {n l D bO bR bS : Nat} {L : List Rb} {S' s : ByteArray} (hz : s.size ≤ 100000) (hall : allP s.data.toList = (L.map Rb.r, S'.data.toList))
  (HT : ∀ W, Below w.heap.size w W → ∀ (s : ByteArray) (b : Rb) (n : Nat), s.size ≤ 100000 → takeP s.data.toList = (b.r, n) → Calls Tryz.prog 159 #[.string s] W fun e w' => e = .returned (.tuple #[refV b, .int .i64 (n : Int)]) ∧ Below W.heap.size W w')
  (Bk : World → Prop) (hBk : ∀ A B, KeepsFrom D A B → Bk A → Bk B)
  (hY : ∀ (q : Sg) (v : Array Value) (q' : Sg) (W : World), Rnd q v q' → It w bO bR bS s q W → Bk W → YieldAt Fence.wide (n - 1) Tryz.prog l v W (fun e W' => e = .returned (.bool true) ∧ It w bO bR bS s q' W' ∧ Bk W'))
  (W : World) (hI : It w bO bR bS s ⟨[], s, none⟩ W) (hb : Bk W) :
  CallsIn Fence.wide n Tryz.prog 158 (#[.func (.yield l) #[] #[]] ++ #[.pointer (some ⟨bS, 0, none⟩)]) W fun e W' => (∃ u, e = .returned u) ∧ ∃ q, (q.don = L ∧ q.left = S' ∧ q.pend = none) ∧ It w bO bR bS s q W' ∧ Bk W' := by
 refine callsIn_of_wp Tryz.func158 rfl trivial ?_ rfl
 simp only [Tryz.ntmps158, List.size_toArray, List.length_cons, List.length_nil, Nat.reduceAdd, Nat.reduceSub, Array.replicate_succ, Array.replicate_zero, List.push_toArray, List.append_toArray, List.nil_append, List.cons_append]
 have hbox := hI.2.2.1
 have hc := hbox.cell
 gi_wp2
 gi_loopw [3] (fun s3 wr => ∃ (q : Sg) (T : List Rb), s3 = .string q.left ∧ q.pend = none ∧ It w bO bR bS s q wr ∧ Bk wr ∧ L = q.don ++ T ∧ q.don.length + q.left.size ≤ s.size ∧ allP q.left.data.toList = (T.map Rb.r, S'.data.toList)) (fun s3 _ => strN s3)
 case atStart => exact ⟨⟨[], s, none⟩, L, rfl, rfl, hI, hb, rfl, by simp, hall⟩
 case round =>
  obtain ⟨⟨don, S, pend⟩, T, rfl, hp, hIt, hbk, hL, hSz, hA⟩ := hrel
  obtain rfl : pend = none := hp
  dsimp only at hL hSz hA
  obtain ⟨b, hb'⟩ := Rb.of (takeP S.data.toList).1
  obtain ⟨k, hk⟩ : ∃ k, (takeP S.data.toList).2 = k := ⟨_, rfl⟩
  have ht : takeP S.data.toList = (b.r, k) := by rw [hb', ← hk]
  have hkl := take_le ht
  rw [szR] at hkl
  have HTk := Lib.hid (HT wr hIt.2.2.2 S b k (by omega) ht)
  unfold refV refC at HTk
  have hkb : (k : Int) ≤ (S.size : Int) := by omega
  rcases Nat.eq_zero_or_pos k with hk0 | hk0
  ·have hal := all_end (show (takeP S.data.toList).2 = 0 by rw [hk]; exact hk0)
   have HV : Hid (T = [] ∧ S = S') := Lib.hid (by
    rw [hal] at hA
    injection hA with h1 h2
    exact ⟨List.map_eq_nil_iff.1 h1.symm, bytes_ext h2⟩)
   have HIt := Lib.hid hIt
   have HBk := Lib.hid hbk
   have HL := Lib.hid hL
   subst hk0
   clear hal ht hk hA hIt hbk hL hI hb hall hbox hc
   gi_wp2
   refine ⟨trivial, fun h => (by cases h), (callsIn_wide.2 HTk.out).mono ?_⟩
   rintro e w2 ⟨rfl, hb2⟩
   gi_wp2
   refine ⟨fun _ h => (by cases h), ?_⟩
   gi_wp2
   refine bodyPost_ret (results_none rfl _ _ _) rfl ?_
   refine ⟨⟨_, rfl⟩, ⟨don, S, none⟩, ⟨by rw [HL.out, HV.out.1, List.append_nil], HV.out.2, rfl⟩, ?_, ?_⟩
   ·exact HIt.out.below (below_later hb2 ((Below.refl _ w2).alloc (Nat.le_refl _) _))
   ·exact hBk _ _ (keeps_below (below_later hb2 ((Below.refl _ w2).alloc (Nat.le_refl _) _))) HBk.out
  ·have hal := all_more ht hk0
   obtain ⟨T2, hT2⟩ := Rb.list (allP (S.data.toList.drop k)).1
   have HTl : Hid (T = b :: T2) := Lib.hid (by
    rw [hal] at hA
    injection hA with h1 _
    exact map_inj (by rw [← h1, List.map_cons, hT2]))
   obtain ⟨S2, hS2⟩ : ∃ S2, S2 = S.extract k S.size := ⟨_, rfl⟩
   have hS2l : S2.data.toList = S.data.toList.drop k := by rw [hS2, restR]
   have hS2z : S2.size + k = S.size := by rw [← szR, hS2l, List.length_drop, szR]; omega
   have HA2 : Hid (allP S2.data.toList = (T2.map Rb.r, S'.data.toList)) := Lib.hid (by
    rw [hal] at hA
    injection hA with _ h2
    rw [hS2l, hT2, ← h2])
   have HL2 : Hid (L = (don ++ [b]) ++ T2) := Lib.hid (by rw [hL, HTl.out]; simp)
   have HS2 := Lib.hid hS2
   have HIt := Lib.hid hIt
   have HBk := Lib.hid hbk
   have hkn : ((k : Int) == 0) = false := by simp; omega
   clear hal ht hk hA hIt hbk hL hI hb hall hbox hT2 hS2 hS2l hc
   gi_wp2
   refine ⟨trivial, fun h => (by cases h), (callsIn_wide.2 HTk.out).mono ?_⟩
   rintro e w2 ⟨rfl, hb2⟩
   have hb3 : Below wr.heap.size wr (w2.alloc (.cells #[.string b.lab, .string b.dst, .string b.tit] 75)) := hb2.alloc hb2.size _
   have It4 := Lib.hid ((HIt.out.below hb3).move S2 b)
   have Bk4 := Lib.hid (hBk _ _ (keeps_below hb3) HBk.out)
   have KN := Blk.new w2 (refC b) 75
   have d0 := KN.cell 0 rfl
   have d1 := KN.cell 1 rfl
   have d2 := KN.cell 2 rfl
   unfold refC at d0 d1 d2
   obtain ⟨fn, tmps, assign, body, hy, hR⟩ := hY ⟨don, S2, some b⟩ #[refV b, .string S2] ⟨don ++ [b], S2, none⟩ _ ⟨b, rfl, rfl, rfl, by dsimp only; omega⟩ It4.out Bk4.out
   unfold refV refC at hy
   clear hb2 hb3 KN
   obtain rfl := HS2.out
   gi_wp2
   refine ⟨fun h => (by cases h), hR.mono ?_⟩
   rintro e W5 ⟨rfl, hI5, hB5⟩
   clear hR hy
   gi_wp2
   go_roundw
   case rel => exact ⟨⟨don ++ [b], S.extract k S.size, none⟩, T2, rfl, rfl, hI5, hB5, HL2.out, by dsimp only; rw [List.length_append]; simp; omega, HA2.out⟩
   case measure =>
    unfold strN
    dsimp only
    omega
set_option maxHeartbeats 8000000 in
theorem zall_any (dn : Nat) (s : ByteArray) (w : World) (hz : s.size ≤ 100000) (L : List Rb) (S' : ByteArray) (hall : allP s.data.toList = (L.map Rb.r, S'.data.toList))
  (HT : ∀ W, Below w.heap.size w W → ∀ (s : ByteArray) (b : Rb) (n : Nat), s.size ≤ 100000 → takeP s.data.toList = (b.r, n) → Calls Tryz.prog 159 #[.string s] W fun e w' => e = .returned (.tuple #[refV b, .int .i64 (n : Int)]) ∧ Below W.heap.size W w') :
  Calls Tryz.prog 105 #[.string s] w fun e w' => ∃ v, e = .returned (.tuple #[v, .string S']) ∧ Refs w' v L ∧ Below w.heap.size w w' := by
 obtain ⟨i0, hi, hz0, hz1, hz2⟩ := info_parts refInfo
 have hSz : S'.size ≤ 100000 := by
  obtain ⟨k, hk, h2, _⟩ := all_rest s.data.toList.length s.data.toList (Nat.le_refl _)
  rw [hall] at h2
  have := congrArg List.length h2
  dsimp only at this
  rw [szR, List.length_drop, szR] at this
  omega
 have HC := Lib.hid (fun W => Lk.clone_any S' W (by omega))
 clear hSz
 refine (callsIn_wide (n := dn)).1 ?_
 refine callsIn_of_wp_marks Tryz.func105 rfl trivial ?_ rfl
 simp only [Tryz.ntmps105, List.size_toArray, List.length_cons, List.length_nil, Nat.reduceAdd, Nat.reduceSub, Array.replicate_succ, Array.replicate_zero, List.push_toArray, List.append_toArray, List.nil_append, List.cons_append]
 gi_wp2
 refine ⟨trivial, fun h => (by cases h), (callsIn_wide.2 (defs_any s _)).mono ?_⟩
 rintro e w' ⟨rfl, rfl⟩
 gi_wp2
 have bR := Boxed.new w 9 (.string s)
 have bO := Boxed.new (w.alloc (.cells #[.string s] 9)) 26 (.slice none 0 0)
 have bS := Boxed.new ((w.alloc (.cells #[.string s] 9)).alloc (.cells #[.slice none 0 0] 26)) 9 (.string s)
 rw [World.size_alloc] at bO bS
 rw [World.size_alloc] at bS
 have hB0 : Below w.heap.size w (((w.alloc (.cells #[.string s] 9)).alloc (.cells #[.slice none 0 0] 26)).alloc (.cells #[.string s] 9)) := (((Below.refl _ w).alloc (Nat.le_refl _) _).alloc (by simp) _).alloc (by simp; omega) _
 have h0 : It w (w.heap.size + 1) w.heap.size (w.heap.size + 1 + 1) s ⟨[], s, none⟩ (((w.alloc (.cells #[.string s] 9)).alloc (.cells #[.slice none 0 0] 26)).alloc (.cells #[.string s] 9)) :=
  ⟨⟨_, bO.alloc _, World.ownsRow_nil _ _ _ _⟩, ⟨s, (bR.alloc _).alloc _, fun _ => rfl⟩, bS, hB0⟩
 refine range_state (gf := 158) (lb := #[.pointer (some ⟨w.heap.size + 1 + 1, 0, none⟩)]) rfl (enters_of Tryz.func158 (by kernel_rfl) rfl)
  (It w (w.heap.size + 1) w.heap.size (w.heap.size + 1 + 1) s) (It.own (by simp; omega)) Rnd (by rintro q v q' ⟨b, _, rfl, _, _⟩; rfl) ⟨[], s, none⟩ h0 (fun q => q.don = L ∧ q.left = S' ∧ q.pend = none) ?body ?iter ?done
 case iter =>
  intro l Bk hBk hY W hI hb hsz
  exact iter_any hz hall HT Bk hBk hY W hI hb
 case body =>
  rintro l ⟨don, B, pend⟩ v q' W ⟨b, hp, rfl, rfl, hdl⟩ hI hl
  obtain rfl : pend = some b := hp
  dsimp only at hdl ⊢
  unfold refV refC
  gi_wp2
  refine ⟨(KeepsOthers.alloc _ _).from _, fun o o' ho hoc => ?_⟩
  have hb2 : Below W.heap.size W (W.alloc (.cells #[.string b.lab, .string b.dst, .string b.tit] 75)) := (Below.refl _ W).alloc (Nat.le_refl _) _
  have hln : W.heap.size ≠ l := by
   intro e
   have hx := heap_alloc_new W (.cells #[.string b.lab, .string b.dst, .string b.tit] 75)
   rw [e, ho] at hx
   injection hx with hx
   subst hx
   cases hoc
  have hKN : Blk ((W.alloc (.cells #[.string b.lab, .string b.dst, .string b.tit] 75)).putObj l o') W.heap.size (refC b) 75 :=
   (World.putObj_heap_other hln).trans (Blk.new W (refC b) 75)
  have hI2 := (It.own (bO := w.heap.size + 1) (bR := w.heap.size) (bS := w.heap.size + 1 + 1) (s0 := s) (Nat.le_refl w.heap.size)).putObj o' (hI.below hb2) (by simp at hl; omega) ho hoc
  obtain ⟨W3, hW3⟩ : ∃ W3, (W.alloc (.cells #[.string b.lab, .string b.dst, .string b.tit] 75)).putObj l o' = W3 := ⟨_, rfl⟩
  rw [hW3] at hKN hI2 ⊢
  generalize W.heap.size = N at *
  clear hW3 hb2 ho hI hln h0 hB0 bO bR bS hall HT HC
  obtain ⟨⟨vo, k1, k2⟩, ⟨R, k3, _⟩, k5, k6⟩ := hI2
  obtain ⟨ao, co, rfl⟩ := k2.form
  dsimp only at k1 k2 k5
  have hw3 := k6.size
  have c0 := k1.cell
  have d0 : W3.cell? ⟨N, 0, none⟩ = some (.string b.lab) := hKN.cell 0 rfl
  have d1 : W3.cell? ⟨N, 1, none⟩ = some (.string b.dst) := hKN.cell 1 rfl
  have d2 : W3.cell? ⟨N, 2, none⟩ = some (.string b.tit) := hKN.cell 2 rfl
  gi_wp2_with (gi_at_builtin; refine wpListIn_append_own _ rfl _ _ 26 rfl w.heap.size 75 i0 (.agg (refC nilB)) 3 48 Tryz.underlying26 hi hz0 hz1 hz2 rfl (by decide) _ _ _ rfl (owns_keep k2 ((Below.refl _ _).alloc (Nat.le_refl _) _)) ⟨W3.heap.size, 0, none⟩ 1 1 (refC b).toList rfl rfl ?a1 ?a2 ?a3 ?a4 ?a5 ?_)
  case a1 =>
   intro j u hu
   first
    | (rw [add_off, Nat.zero_add, World.cell?_alloc_new]; simpa [refC] using hu)
    | (simpa [refC] using hu)
  case a2 => first | exact refC_one b | (intro u hu; exact refC_one b u (by simpa using hu))
  case a3 => unfold maxLen; omega
  case a4 => omega
  case a5 => first | (simp; omega) | omega
  intro v' w1 hown' hgrow _
  obtain ⟨g', cap', rfl⟩ := ownsRow_succ hown'
  obtain ⟨hv1, hv2, hr2, hk2, hb2⟩ := k1.appended (by decide) k2 hw3 (by first | exact Nat.le_succ _ | omega) hown' hgrow
  have hc1 := hv1.cell
  have hf1 := hv1.frozen
  have q3 := ((k3.alloc (.cells #[.string b.lab, .string b.dst, .string b.tit] 75)).kept hgrow (k3.not_row (by decide) k2)).other (B' := w.heap.size + 1) (by omega) (.slice (some ⟨g', 0, none⟩) (don.length + 1) cap')
  have q5 := ((k5.alloc (.cells #[.string b.lab, .string b.dst, .string b.tit] 75)).kept hgrow (k5.not_row (by decide) k2)).other (B' := w.heap.size + 1) (by omega) (.slice (some ⟨g', 0, none⟩) (don.length + 1) cap')
  have hc3 := q3.cell
  have hf3 := q3.frozen
  gi_wp2
  have hr3 := hr2.kept (grownBy_setCell' _ w.heap.size (.string B)) (.inr (fun e => q3.not_row (by decide) hr2 e.symm))
  refine ⟨(hk2.from _).trans ((KeepsOthers.setCell _ _ _).from _), ⟨⟨_, hv2.other (by omega) (.string B), ?_⟩, ⟨B, q3.set (.string B), fun _ => rfl⟩, q5.other (by omega) (.string B), (k6.trans hb2).setCell (by exact Nat.le_refl _) _⟩⟩
  unfold Own
  rw [rowC_snoc]
  simpa using hr3
 case done =>
  rintro ⟨don, B, pend⟩ W ⟨rfl, rfl, hp⟩ hI hK
  obtain rfl : pend = none := hp
  obtain ⟨⟨vo, k1, k2⟩, ⟨R, k3, hRB⟩, k5, k6⟩ := hI
  obtain rfl := hRB rfl
  obtain ⟨ao, co, rfl⟩ := k2.form
  have c0 := k1.cell
  have c1 := k3.cell
  dsimp only at c0 c1
  have hmix : Tryz.prog.follows .mixedOrders = true := by kernel_rfl
  have hc0 := Lib.hid (fun w2 (h : Below W.heap.size W.drew w2) => (Boxed.below (W := W.drew) k1 h).cell)
  gi_wp2
  refine wpIn_mono' (Q := NoPanic _) ?_ NoPanic.imp
  gi_region_with_o (
   refine ⟨trivial, fun h => (by cases h), (callsIn_wide.2 (HC.out _)).mono ?_⟩
   rintro e w2 ⟨rfl, hb2⟩
   have c02 := hc0.out w2 hb2)
  all_goals (refine NoPanic.normal ?_)
  all_goals gi_wp2
  all_goals
   have hD0 : W.heap[w.heap.size + 1 + 1 + 1]? = some (.deferred (some [])) := by simpa using hK
   have hK2 : w2.heap[w.heap.size + 1 + 1 + 1]? = some (.deferred (some [])) := (hb2.block _ (Array.getElem?_eq_some_iff.1 hD0).1).trans hD0
   refine ⟨by simp, .inl ⟨_, _, rfl, run_takeDeferred (w := w2) hK2, ?_⟩⟩
   refine ⟨_, results_tmp2 rfl _ _ _, _, rfl, Refs.of_owns (base := w.heap.size) (ownsRow_putObj (W := w2) (owns_keep (w := W.drew) k2 hb2) _ hK2 rfl), ?_⟩
   have k7 : Below w.heap.size w w2 := below_later (w := w) k6.drew hb2
   exact (k7.trans (belowK_b (w := w) (Nat.le_refl _) w2 (w.heap.size + 1 + 1 + 1) _ (.deferred none) (by omega) hK2 rfl rfl))
end Rf
end Go.Proofs.YtkiipaaaakhhfaaGreatDoor
end
section
namespace Go.Proofs.YtkiipaaaakhhfaaGreatDoor
open Go Go.RowKit
namespace Rf
open Lk Es
set_option maxRecDepth 100000
set_option linter.unusedVariables false
set_option linter.unusedSimpArgs false
attribute [local go_sem ↓] Go.wp_at_zero Go.wp_at_succ
theorem results_refs {fn : Func} {p : Tmp} (h : fn.results = #[.cell p 75]) (tmps : Array Value) (w : World) (g : Nat) (b : Rb) (hp : tmps.getD p undef = .pointer (some ⟨g, 0, none⟩))
  (hg : Blk w g (refC b) 75) : (results fn tmps).run Tryz.prog w = .ok (refV b) w :=
 results_cell_row h _ _ g _ (refC b) (0, 0) _ hp hg Tryz.underlying75 rfl infoRef
def Room (b : Rb) : Prop := b.lab.size ≤ 281474976710656 ∧ b.dst.size ≤ 281474976710656 ∧ b.tit.size ≤ 281474976710656
theorem RefZ.room {b : Rb} (h : RefZ b) : Room b := ⟨by have := h.1; omega, by have := h.2.1; omega, by have := h.2.2; omega⟩
set_option maxHeartbeats 8000000 in
theorem zclone_any (b : Rb) (hz : Room b) (w : World) :
  Calls Tryz.prog 43 #[refV b] w fun e w' => e = .returned (refV b) ∧ Below w.heap.size w w' := by
 obtain ⟨z0, z1, z2⟩ := hz
 obtain ⟨x, y, z⟩ := b
 dsimp only at z0 z1 z2
 obtain ⟨W0, hW0⟩ : ∃ W0, W0 = (w.alloc (.cells (refC ⟨x, y, z⟩) 75)).alloc (.cells (refC nilB) 75) := ⟨_, rfl⟩
 have KA : Hid (Blk W0 w.heap.size (refC ⟨x, y, z⟩) 75) := Lib.hid (by rw [hW0]; exact (Blk.new _ _ _).alloc _)
 have KR : Hid (Blk W0 (w.heap.size + 1) (refC nilB) 75) := Lib.hid (by
  rw [hW0]
  have := Blk.new (w.alloc (.cells (refC ⟨x, y, z⟩) 75)) (refC nilB) 75
  rwa [World.size_alloc] at this)
 have HB : Hid (Below w.heap.size w W0) := Lib.hid (by rw [hW0]; exact ((Below.refl _ w).alloc (Nat.le_refl _) _).alloc (by simp) _)
 have HC : Hid (∀ (s : ByteArray) (W : World), s.size ≤ 281474976710656 → Below W0.heap.size W0 W → Calls Tryz.prog 31 #[.string s] W fun e w' => e = .returned (.string s) ∧ Below W0.heap.size W0 w') :=
  Lib.hid (fun s W hs hW => (Lk.clone_any s W hs).mono fun e w' h => ⟨h.1, below_later hW h.2⟩)
 have HS : Hid (∀ W, Below W0.heap.size W0 W → W.cell? ⟨w.heap.size, 0, none⟩ = some (.string x) ∧ W.cell? ⟨w.heap.size, 1, none⟩ = some (.string y) ∧ W.cell? ⟨w.heap.size, 2, none⟩ = some (.string z)) := Lib.hid (fun W hW => by
  have h1 := KA.out.below hW
  exact ⟨h1.cell 0 rfl, h1.cell 1 rfl, h1.cell 2 rfl⟩)
 have HSt : Hid (∀ W u v t, Below W0.heap.size W0 W → (((W.setCell ⟨w.heap.size + 1, 0, none⟩ u).setCell ⟨w.heap.size + 1, 1, none⟩ v).setCell ⟨w.heap.size + 1, 2, none⟩ t).cell? ⟨w.heap.size, 0, none⟩ = some (.string x) ∧ (((W.setCell ⟨w.heap.size + 1, 0, none⟩ u).setCell ⟨w.heap.size + 1, 1, none⟩ v).setCell ⟨w.heap.size + 1, 2, none⟩ t).cell? ⟨w.heap.size, 1, none⟩ = some (.string y) ∧ (((W.setCell ⟨w.heap.size + 1, 0, none⟩ u).setCell ⟨w.heap.size + 1, 1, none⟩ v).setCell ⟨w.heap.size + 1, 2, none⟩ t).cell? ⟨w.heap.size, 2, none⟩ = some (.string z)) := Lib.hid (fun W u v t hW => by
  have h1 := (((KA.out.below hW).other (p := ⟨w.heap.size + 1, 0, none⟩) u (by simp)).other (p := ⟨w.heap.size + 1, 1, none⟩) v (by simp)).other (p := ⟨w.heap.size + 1, 2, none⟩) t (by simp)
  exact ⟨h1.cell 0 rfl, h1.cell 1 rfl, h1.cell 2 rfl⟩)
 have HB0 := Lib.hid (Below.refl W0.heap.size W0)
 have HR : Hid (∀ W, Below W0.heap.size W0 W → Blk W (w.heap.size + 1) (refC nilB) 75 ∧ Below w.heap.size w W) := Lib.hid (fun W hW => ⟨KR.out.below hW, below_later HB.out hW⟩)
 have HW := Lib.hid hW0.symm
 unfold refC nilB at HW
 clear hW0
 unfold refV refC
 go_enter Tryz.func43, Tryz.ntmps43
 go_wp2_with fail
 rw [HW.out]
 go_region_held3 (fun W => W.cell? ⟨w.heap.size, 0, none⟩ = some (.string x) ∧ W.cell? ⟨w.heap.size, 1, none⟩ = some (.string y) ∧ W.cell? ⟨w.heap.size, 2, none⟩ = some (.string z)) (first | exact HS.out _ HB0.out.drew | exact HS.out _ (by assumption) | exact HSt.out _ _ _ _ (by assumption)) (first | (go_at_call 31; refine (HC.out _ _ (by assumption) (by first | assumption | exact HB0.out.drew)).mono ?_; rintro e w' ⟨rfl, hb'⟩; have kr := (HR.out _ hb').1; have r0 := kr.cell 0 rfl; have r1 := kr.cell 1 rfl; have r2 := kr.cell 2 rfl; have f0 := kr.fr 0; have f1 := kr.fr 1; have f2 := kr.fr 2; clear kr))
 go_wp2
 obtain ⟨hR1, hR2⟩ := HR.out _ hb'
 refine bodyPost_ret (v := refV ⟨x, y, z⟩) (results_refs rfl _ _ (w.heap.size + 1) ⟨x, y, z⟩ rfl (hR1.reref ⟨x, y, z⟩)) rfl ⟨rfl, ?_⟩
 iterate 3 (refine Below.setCell ?_ (by exact Nat.le_succ _) _)
 exact hR2
end Rf
end Go.Proofs.YtkiipaaaakhhfaaGreatDoor
end
section
set_option linter.unusedVariables false
set_option linter.unusedSimpArgs false
set_option linter.unusedSectionVars false
set_option maxRecDepth 100000
namespace Go.Proofs.YtkiipaaaakhhfaaGreatDoor
namespace Rf
open Lk
def low (c : UInt8) : Prop := 97 ≤ c.toNat ∧ c.toNat ≤ 122
section
variable {L D T : List UInt8} (hL : ∀ c ∈ L, low c) (hD : ∀ c ∈ D, low c) (hT : ∀ c ∈ T, low c) (hL0 : L ≠ []) (hD0 : D ≠ []) (hl : L.length ≤ 999) (i j : Nat) (m : List UInt8)
include hL hD hT hL0 hD0 hl
end
end Rf
end Go.Proofs.YtkiipaaaakhhfaaGreatDoor
end
