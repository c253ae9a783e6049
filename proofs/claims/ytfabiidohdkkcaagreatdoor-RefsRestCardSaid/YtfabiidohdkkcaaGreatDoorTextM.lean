/- What the walks of layers above layer 1 need of memory: no function of the program is named. -/
import Derived.Test.YtfabiidohdkkcaaGreatDoorTextC
import Derived.RegionTactic
namespace Go.Proofs.YtfabiidohdkkcaaGreatDoor
open Go Go.RowKit
namespace Tx
set_option maxRecDepth 100000
set_option linter.unusedVariables false
set_option linter.unusedSimpArgs false

def str (l : List UInt8) : Value := .string ⟨l.toArray⟩
theorem ext_of (s : ByteArray) (a b : Nat) (l : List UInt8) (h : (s.data.toList.drop a).take (b - a) = l) : s.extract a b = ⟨l.toArray⟩ := by
  have := Lib.extract_data s a b
  rw [h] at this
  cases hx : s.extract a b with
  | mk d => rw [hx] at this; simp at this; rw [← this]
theorem info9 : (Tryz.prog.info? 9).map (fun i => (i.zero, i.size, i.bytes)) = some (some (.string ByteArray.empty), 1, 16) := by kernel_rfl
theorem size_mk (l : List UInt8) : (⟨l.toArray⟩ : ByteArray).size = l.length := by rfl
theorem below_drewN {B : Nat} {a w : World} (h : Below B a w) (n : Nat) : Below B a (w.drewN n) := h.trans ⟨rfl, rfl, rfl, Nat.le_refl _, fun _ _ => rfl⟩
theorem str_one (L : List (List UInt8)) : ∀ u ∈ L.map str, u.oneCell' = true := by
  intro u hu
  simp only [List.mem_map] at hu
  obtain ⟨b, _, rfl⟩ := hu
  rfl
def OwnL (w : World) (B : Nat) (v : Value) (L : List (List UInt8)) : Prop := w.ownsRow B 9 1 v L.length (L.map str)
def SSl (w : World) (v : Value) (L : List (List UInt8)) : Prop := ∃ (ao : Option Addr) (cap : Nat), v = .slice ao L.length cap ∧ L.length ≤ 9223372036854775807 ∧ (L ≠ [] → ∃ b off, ao = some ⟨b, off, none⟩ ∧ ∀ i (h : i < L.length), w.cell? ⟨b, off + i, none⟩ = some (str L[i]))
theorem cell_lt {w : World} {b o : Nat} {x : Value} (h : w.cell? ⟨b, o, none⟩ = some x) : b < w.heap.size := by
  rcases Nat.lt_or_ge b w.heap.size with h' | h'
  · exact h'
  · simp [World.cell?, Array.getElem?_eq_none h'] at h
theorem SSl.below {w w' : World} {v : Value} {L : List (List UInt8)} (h : SSl w v L) (hB : Below w.heap.size w w') : SSl w' v L := by
  obtain ⟨ao, cap, rfl, hl, hr⟩ := h
  refine ⟨ao, cap, rfl, hl, fun hne => ?_⟩
  obtain ⟨b, off, e, hc⟩ := hr hne
  exact ⟨b, off, e, fun i hi => by have := hc i hi; rw [hB.cell (p := ⟨b, off + i, none⟩) (cell_lt this)]; exact this⟩
theorem OwnL.ssl {w : World} {B : Nat} {v : Value} {L : List (List UInt8)} (h : OwnL w B v L) (hl : L.length ≤ 9223372036854775807) : SSl w v L := by
  unfold OwnL at h
  have h0 := h
  rcases h.2 with ⟨rfl, h1⟩ | ⟨g, cap, cur, rfl, _, hg, hn, _, hs, hc⟩
  · have : L = [] := List.length_eq_zero_iff.1 h1
    subst this
    exact ⟨none, 0, rfl, hl, fun h => absurd rfl h⟩
  · refine ⟨some ⟨g, 0, none⟩, cap, rfl, hl, fun _ => ⟨g, 0, rfl, fun i hi => ?_⟩⟩
    have := h0.cellAt i (by omega)
    rw [Nat.zero_add, this]
    simp [List.getElem?_eq_getElem hi]
/-- A call's own frame, put behind another one. -/
theorem from_below {P : Program} {f : FuncId} {args : Array Value} {w0 W : World} {Q : Ending → World → Prop} (h : Calls P f args W fun e w' => Q e w' ∧ Below W.heap.size W w') (hb : Below w0.heap.size w0 W) :
    Calls P f args W fun e w' => Q e w' ∧ Below w0.heap.size w0 w' :=
  h.mono fun e w' ⟨h1, h2⟩ => ⟨h1, hb.trans (h2.mono hb.size)⟩

theorem sl_new (w : World) (l : List UInt8) (hl : l.length ≤ 1000) : Sl (w.alloc (.cells (Lib.byteCells l).toArray 5)) (.slice (some ⟨w.heap.size, 0, none⟩) l.length l.length) l := by
  refine ⟨_, _, rfl, Nat.le_refl _, by unfold maxLen; omega, fun _ => ⟨w.heap.size, 0, rfl, ?_⟩⟩
  intro i hi
  rw [World.cell?_alloc_new]
  simp [Lib.byteCells, List.getElem?_eq_getElem hi, at', List.getD]
theorem ssl_new (w : World) (L : List (List UInt8)) (hl : L.length ≤ 1000) : SSl (w.alloc (.cells (L.map str).toArray 9)) (.slice (some ⟨w.heap.size, 0, none⟩) L.length L.length) L := by
  refine ⟨_, _, rfl, by omega, fun _ => ⟨w.heap.size, 0, rfl, fun i hi => ?_⟩⟩
  rw [World.cell?_alloc_new]
  simp [List.getElem?_eq_getElem hi]
end Tx
end Go.Proofs.YtfabiidohdkkcaaGreatDoor
