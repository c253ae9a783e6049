/- The program's table of kinds: from 'it reads as listed' to the cells that the walks ask for. -/
import Derived.Test.YtbdcbeghiglfgaaDoorDlCls
import Derived.Test.YtbdcbeghiglfgaaDoorKit
import Derived.Deep.Strs
import Derived.OpenShut
import Derived.LaidMore
namespace Go.Proofs.YtbdcbeghiglfgaaDoor
open Go Go.ChangeShapes Go.WideShapes Go.ChangeAt Go.RowKit
namespace Dl
set_option maxRecDepth 100000
set_option linter.unusedVariables false

/-- A table of rows of three numbers, as it is listed. -/
def rowsData {H : Type} (q : IntKind) (T : Tab) : DataW H := .agg (T.map fun x => .agg [.lit (.int .i32 x.1), .lit (.int .i32 x.2.1), .lit (.int q x.2.2)])

theorem one_of {k k2 : IntKind} {z v : Int} {y : DataW Unit} (h1 : y = .lit (.int k z)) (h2 : y = .lit (.int k2 v)) : z = v := by
  subst h1; injection h2 with h; injection h

theorem rows_cells {P : Program} {w : World} {base : Nat} {sp : Nat → Bool} {held : Bool} {fuel : Nat} {t e t32 tq : TypeId} {n : Nat} {f0 f1 f2 : Field} {q : IntKind} {cs : List Value} {T : Tab} {p : List MemPlace}
    (ht : P.underlying t = some (.array n e)) (he : P.underlying e = some (.struct #[f0, f1, f2])) (hce : P.cellsOf e = 3) (h32 : P.underlying t32 = some (.int .i32)) (hq : P.underlying tq = some (.int q)) (c32 : P.cellsOf t32 = 1) (cq : P.cellsOf tq = 1)
    (e0 : f0.type = t32) (e1 : f1.type = t32) (e2 : f2.type = tq) (o0 : f0.offset = 0) (o1 : f1.offset = 1) (o2 : f2.offset = 2)
    (h : DataW.trod (fun _ => ()) P w base sp held fuel t cs = some (rowsData q T, p)) (i : Nat) (x : Int × Int × Int) (hx : T[i]? = some x) :
    cs[i * 3]? = some (.int .i32 x.1) ∧ cs[i * 3 + 1]? = some (.int .i32 x.2.1) ∧ cs[i * 3 + 2]? = some (.int q x.2.2) := by
  obtain ⟨xs, m, _, ex, _, hl, hel⟩ := DataW.trod_array ht h
  have ed : xs.map (·.1) = T.map fun x => (.agg [.lit (.int .i32 x.1), .lit (.int .i32 x.2.1), .lit (.int q x.2.2)] : DataW Unit) := (DataW.agg.inj (Prod.mk.inj ex).1).symm
  have hTl : T.length = n := by have := congrArg List.length ed; simp at this; omega
  have hi : i < n := by have := (List.getElem?_eq_some_iff.1 hx).1; omega
  have hE := hel i hi
  obtain ⟨b, hb⟩ : ∃ b, xs[i]? = some b := ⟨_, List.getElem?_eq_getElem (by omega)⟩
  rw [hce, hb] at hE
  have hb1 : b.1 = .agg [.lit (.int .i32 x.1), .lit (.int .i32 x.2.1), .lit (.int q x.2.2)] := by
    have := congrArg (fun l => l[i]?) ed
    simp only [List.getElem?_map, hb, hx, Option.map_some, Option.some.injEq] at this
    exact this
  obtain ⟨y0, y1, y2, m2, rfl, _, h0, h1, h2⟩ := Go.Deep.trod_struct3 he hE
  rw [e0, o0, c32] at h0
  rw [e1, o1, c32] at h1
  rw [e2, o2, cq] at h2
  obtain ⟨z0, k0, r0, _⟩ := DataW.trod_int h32 h0
  obtain ⟨z1, k1, r1, _⟩ := DataW.trod_int h32 h1
  obtain ⟨z2, k2, r2, _⟩ := DataW.trod_int hq h2
  have hp := DataW.agg.inj hb1
  simp only [List.cons.injEq, and_true] at hp
  obtain ⟨d0, d1, d2⟩ := hp
  subst r0 r1 r2
  have v0 := one_of rfl d0
  have v1 := one_of rfl d1
  have v2 := one_of rfl d2
  subst v0 v1 v2
  have g : ∀ (j : Nat) (v : Value), ((((cs.drop (i * 3)).take 3).drop j).take 1) = [v] → cs[i * 3 + j]? = some v := by
    intro j v hv
    have hj : ((((cs.drop (i * 3)).take 3).drop j).take 1)[0]? = some v := by rw [hv]; rfl
    rw [List.getElem?_take_of_lt (by omega), List.getElem?_drop, Nat.add_zero] at hj
    have hj3 : j < 3 := by
      rcases Nat.lt_or_ge j 3 with h | h
      · exact h
      · rw [List.getElem?_eq_none (by simp; omega)] at hj; cases hj
    rw [List.getElem?_take_of_lt hj3, List.getElem?_drop] at hj
    exact hj
  exact ⟨g 0 _ k0, g 1 _ k1, g 2 _ k2⟩

theorem tab_of_var {P : Program} {W : World} {name : String} {g : Nat} {cs : Array Value} {q : IntKind} {T : Tab} (hg : P.globalNamed name = some g) (hv : W.var? P name = some cs)
    (h : ∀ (i : Nat) (x : Int × Int × Int), T[i]? = some x → cs.toList[i * 3]? = some (.int .i32 x.1) ∧ cs.toList[i * 3 + 1]? = some (.int .i32 x.2.1) ∧ cs.toList[i * 3 + 2]? = some (.int q x.2.2)) : TabAt W g q T := by
  intro i x hx
  obtain ⟨h0, h1, h2⟩ := h i x hx
  refine ⟨?_, ?_, ?_⟩
  · rw [World.var?_cell hg hv]; simpa using h0
  · rw [World.var?_cell hg hv]; simpa using h1
  · rw [World.var?_cell hg hv]; simpa using h2

/-- What the condition gives the walks. -/
theorem laid_of {W : World} (h : laidMetH Tryd.prog [("incipit/class.kinds", Rows.laid_incipit_class_kinds)] W) : Laid W := by
  rw [MakeChecks.laidMetH_plain _ _ _ (by kernel_rfl)] at h
  obtain ⟨ps, ⟨g, t, cs, fuel, p, qq, hg, ht, hv, hd, _⟩, _⟩ := h
  obtain rfl := Option.some.inj ((show Tryd.prog.globalNamed "incipit/class.kinds" = some 0 by kernel_rfl).symm.trans hg)
  obtain rfl := Option.some.inj ((show (Tryd.prog.globals[0]?).map (·.type) = some 70 by kernel_rfl).symm.trans ht)
  refine ⟨tab_of_var hg hv ?_⟩
  exact fun i x hx => rows_cells (T := kinds) Tryd.underlying70 Tryd.underlying69 (by kernel_rfl) Tryd.underlying21 Tryd.underlying3 (by kernel_rfl) (by kernel_rfl) rfl rfl rfl rfl rfl rfl hd i x hx
end Dl
end Go.Proofs.YtbdcbeghiglfgaaDoor
