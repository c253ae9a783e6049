/- Walks of layer 1, the second part: the reference's Clean. -/
import Derived.Test.YtfabiidohdkkcaaGreatDoorTextA
import Derived.Laws.AppendOwn
import Derived.Laws.IdiomStrings
namespace Go.Proofs.YtfabiidohdkkcaaGreatDoor
open Go Go.RowKit
namespace Tx
set_option maxRecDepth 100000
set_option linter.unusedVariables false
set_option linter.unusedSimpArgs false

theorem info5 : (Tryz.prog.info? 5).map (fun i => (i.zero, i.size, i.bytes)) = some (some (.int .u8 0), 1, 1) := by kernel_rfl

/-- A slice value that reads as these bytes. -/
def Sl (w : World) (v : Value) (r : List UInt8) : Prop := ∃ (ao : Option Addr) (cap : Nat), v = .slice ao r.length cap ∧ r.length ≤ cap ∧ cap ≤ maxLen ∧ (r ≠ [] → ∃ b off, ao = some ⟨b, off, none⟩ ∧ Row w b off r)

theorem Row.lt {w : World} {b off : Nat} {l : List UInt8} (h : Row w b off l) (hne : l ≠ []) : b < w.heap.size := by
  have h0 := h 0 (List.length_pos_iff.2 hne)
  rcases Nat.lt_or_ge b w.heap.size with h' | h'
  · exact h'
  · simp [World.cell?, Array.getElem?_eq_none h'] at h0
theorem Row.below {w w' : World} {B b off : Nat} {l : List UInt8} (h : Row w b off l) (hb : b < B) (hB : Below B w w') : Row w' b off l := by
  intro i hi
  rw [hB.cell (p := ⟨b, off + i, none⟩) hb]; exact h i hi
theorem Row.below' {w w' : World} {b off : Nat} {l : List UInt8} (h : Row w b off l) (hB : Below w.heap.size w w') : Row w' b off l := by
  by_cases hne : l = []
  · subst hne; intro i hi; simp at hi
  · exact h.below (h.lt hne) hB
theorem Sl.below {w w' : World} {v : Value} {r : List UInt8} (h : Sl w v r) (hB : Below w.heap.size w w') : Sl w' v r := by
  obtain ⟨ao, cap, rfl, h1, h2, h4⟩ := h
  exact ⟨ao, cap, rfl, h1, h2, fun ha => by obtain ⟨b, off, e, hr⟩ := h4 ha; exact ⟨b, off, e, hr.below' hB⟩⟩

theorem add_eq (b off j : Nat) : (⟨b, off, none⟩ : Addr).add j = ⟨b, off + j, none⟩ := by
  unfold Addr.add
  split
  · subst_vars; rfl
  · rfl

/-- string(v) of a row of the call's own. -/
theorem conv_own {w : World} {B : Nat} {v : Value} {acc : List UInt8} (h : w.ownsRow B 5 1 v acc.length (Lib.byteCells acc)) :
    (convert 65 9 v).run Tryz.prog w = .ok (.string ⟨acc.toArray⟩) w := by
  rcases h.2 with ⟨rfl, h0⟩ | ⟨g, cap, cur, rfl, _, hg, hn, _, hs, hc⟩
  · have : acc = [] := List.length_eq_zero_iff.1 h0
    subst this
    have h1 := run_convert_bytes_string (P := Tryz.prog) w 65 9 5 none 0 0 Tryz.underlying65 Tryz.underlying5 Tryz.underlying9
    rw [h1]
    rfl
  · refine run_convert_bytes_back w 65 9 5 ⟨g, 0, none⟩ cap acc Tryz.underlying65 Tryz.underlying5 Tryz.underlying9 ?_
    intro j hj
    have hj2 : j < cur.size := by omega
    have e1 : (cur.toList.take (acc.length * 1))[j]? = (Lib.byteCells acc)[j]? := by rw [hc]
    rw [List.getElem?_take_of_lt (by omega)] at e1
    simp [Lib.byteCells, List.getElem?_eq_getElem hj] at e1
    rw [add_eq]
    simp [World.cell?, hg, e1]

def vlen : Value → Nat
  | .slice _ n _ => n
  | _ => 0

theorem Sl.cell {w : World} {b off : Nat} {x : UInt8} {t : List UInt8} (h : Row w b off (x :: t)) : w.cell? ⟨b, off, none⟩ = some (.int .u8 (x.toNat : Nat)) := by
  have := h 0 (by simp)
  simpa [at'] using this

theorem row_cells {w : World} {b off : Nat} {r : List UInt8} (h : Row w b off r) (n : Nat) (hn : n ≤ r.length) : ∀ j u, (Lib.byteCells (r.take n))[j]? = some u → w.cell? ((⟨b, off, none⟩ : Addr).add j) = some u := by
  intro j u hu
  have hj : j < n := by
    have := (List.getElem?_eq_some_iff.1 hu).1
    simp [Lib.byteCells] at this; omega
  simp [Lib.byteCells, List.getElem?_take, hj] at hu
  have := h j (by omega)
  rw [add_eq, this]
  have e : r[j]? = some r[j] := List.getElem?_eq_getElem (by omega)
  rw [e] at hu
  simp at hu
  simp [at', List.getD, e, hu]

theorem byteCells_one (l : List UInt8) : ∀ u ∈ Lib.byteCells l, u.oneCell' = true := by
  intro u hu
  simp only [Lib.byteCells, List.mem_map] at hu
  obtain ⟨b, _, rfl⟩ := hu
  rfl

theorem Sl.cut {w : World} {b off cap : Nat} {r : List UInt8} (h : Row w b off r) (h1 : r.length ≤ cap) (h2 : cap ≤ maxLen) (n m : Nat) (hn : n ≤ r.length) (hm : m = r.length - n) :
    Sl w (.slice (if cap = n then some ⟨b, off, none⟩ else some ⟨b, off + n, none⟩) m (cap - n)) (r.drop n) := by
  subst hm
  by_cases e : cap = n
  · rw [if_pos e]
    have h0 : r.drop n = [] := List.drop_eq_nil_of_le (by omega)
    exact ⟨some ⟨b, off, none⟩, cap - n, by simp, by simp; omega, by omega, fun hne => absurd h0 hne⟩
  · rw [if_neg e]
    exact ⟨some ⟨b, off + n, none⟩, cap - n, by simp, by simp; omega, by omega, fun _ => ⟨b, off + n, rfl, h.drop n⟩⟩

theorem rel_bad {w wr w1 : World} {b off cap m : Nat} {x : UInt8} {t acc l : List UInt8} {u3 v' : Value} {o : Obj} (hr : Row w b off (x :: t)) (hrc : (x :: t).length ≤ cap) (hcm : cap ≤ maxLen) (hm : m = t.length)
    (hown : wr.ownsRow w.heap.size 5 1 u3 acc.length (Lib.byteCells acc)) (hbw : Below w.heap.size w wr) (hbad : good (x :: t) = 0 ∨ x = 0)
    (hacc : acc ++ clean (x :: t) = clean l) (hlen : acc.length + 3 * (x :: t).length ≤ 3 * l.length)
    (hown' : w1.ownsRow w.heap.size 5 1 v' (acc.length + 3) (Lib.byteCells acc ++ Lib.byteCells mark)) (hgrow : (wr.alloc o).grownBy w1 u3.ownBlock) :
    ∃ r acc, Sl w (.slice (if cap = 1 then some ⟨b, off, none⟩ else some ⟨b, off + 1, none⟩) m (cap - 1)) r ∧ w1.ownsRow w.heap.size 5 1 v' acc.length (Lib.byteCells acc) ∧
        acc ++ clean r = clean l ∧ Below w.heap.size w w1 ∧ acc.length + 3 * r.length ≤ 3 * l.length := by
  have hsz := hbw.size
  refine ⟨t, acc ++ mark, ?_, ?_, ?_, ?_, ?_⟩
  · exact Sl.cut hr hrc hcm 1 m (by simp) (by simp [hm])
  · simpa [Lib.byteCells, mark] using hown'
  · rw [← hacc]; unfold clean; rw [chars_bad x t hbad]; simp
  · exact (hbw.alloc (by omega) _).grown hgrow (by simp; omega) (fun k hk => (hown.lt k hk).1)
  · simp [mark] at hlen ⊢; omega

theorem rel_good {w wr w1 : World} {b off cap g m : Nat} {x : UInt8} {t acc l : List UInt8} {u3 v' : Value} (hr : Row w b off (x :: t)) (hrc : (x :: t).length ≤ cap) (hcm : cap ≤ maxLen)
    (hown : wr.ownsRow w.heap.size 5 1 u3 acc.length (Lib.byteCells acc)) (hbw : Below w.heap.size w wr) (hg : good (x :: t) = g) (hg0 : g ≠ 0) (hx : x ≠ 0) (hm : m = (x :: t).length - g)
    (hacc : acc ++ clean (x :: t) = clean l) (hlen : acc.length + 3 * (x :: t).length ≤ 3 * l.length)
    (hown' : w1.ownsRow w.heap.size 5 1 v' (acc.length + g) (Lib.byteCells acc ++ Lib.byteCells ((x :: t).take g))) (hgrow : wr.grownBy w1 u3.ownBlock) :
    ∃ r acc, Sl w (.slice (if cap = g then some ⟨b, off, none⟩ else some ⟨b, off + g, none⟩) m (cap - g)) r ∧ w1.ownsRow w.heap.size 5 1 v' acc.length (Lib.byteCells acc) ∧
        acc ++ clean r = clean l ∧ Below w.heap.size w w1 ∧ acc.length + 3 * r.length ≤ 3 * l.length := by
  have hsz := hbw.size
  have hgl := good_le (x :: t)
  subst hg
  have hl2 : ((x :: t).take (good (x :: t))).length = good (x :: t) := by rw [List.length_take]; omega
  refine ⟨(x :: t).drop (good (x :: t)), acc ++ (x :: t).take (good (x :: t)), ?_, ?_, ?_, ?_, ?_⟩
  · exact Sl.cut hr hrc hcm _ m hgl hm
  · rw [List.length_append, hl2]
    simpa [Lib.byteCells] using hown'
  · rw [← hacc]; unfold clean; rw [chars_ok x t hg0 hx]; simp
  · exact hbw.grown hgrow (by omega) (fun k hk => (hown.lt k hk).1)
  · rw [List.length_append, hl2, List.length_drop]; omega

theorem u8_ne0 {x : UInt8} (h : x ≠ 0) : x.toNat ≠ 0 := fun e => h (UInt8.toNat_inj.1 (by simpa using e))

set_option maxHeartbeats 2000000 in
theorem rclean_any (l : List UInt8) (v : Value) (w : World) (hv : Sl w v l) (hl : l.length ≤ 1099511627776) :
    Calls Tryz.prog 96 #[v] w fun e w' => e = .returned (.string ⟨(clean l).toArray⟩) ∧ Below w.heap.size w w' := by
  obtain ⟨i0, hi, hz0, hz1, hz2⟩ := info_parts info5
  go_enter Tryz.func96, Tryz.ntmps96
  go_wp2
  go_loopw [0, 3] (fun v0 v3 wr => ∃ (r acc : List UInt8), Sl w v0 r ∧ wr.ownsRow w.heap.size 5 1 v3 acc.length (Lib.byteCells acc) ∧ acc ++ clean r = clean l ∧ Below w.heap.size w wr ∧ acc.length + 3 * r.length ≤ 3 * l.length) (fun v0 _ _ => vlen v0)
  case atStart => exact ⟨l, [], hv, ⟨rfl, Or.inl ⟨rfl, rfl⟩⟩, rfl, Below.refl _ _, by simp⟩
  case round =>
    obtain ⟨r, acc, hs, hown, hacc, hbw, hlen⟩ := hrel
    have hsz := hbw.size
    obtain ⟨ao, cap, rfl, hrc, hcm, hrow⟩ := hs
    cases r with
    | nil =>
      have hcv := conv_own hown
      clear hrow
      go_wp2
      go_ret
      simp [clean, chars_nil] at hacc
      exact ⟨by rw [hacc]; rfl, hbw⟩
    | cons x t =>
      obtain ⟨b, off, rfl, hr⟩ := hrow (by simp)
      have hrw := hr.below' hbw
      have hc0 := Sl.cell hrw
      have hgl := good_le (x :: t)
      have Hcell := Lib.hid (row_cells hrw)
      have hxl : 0 ≤ (x.toNat : Int) := by omega
      have GC := Lib.hid (rgood_any (x :: t) (some ⟨b, off, none⟩) cap wr (fun a ha => ⟨b, off, by cases ha; rfl, hrw⟩) (fun h => by cases h) (by omega))
      have Hr := Lib.hid hr
      clear hrow hr hrw
      unfold maxLen at hcm
      have hlt : (x :: t).length = t.length + 1 := rfl
      by_cases hbad : good (x :: t) = 0 ∨ x = 0
      · have Hbad := Lib.hid hbad
        by_cases hg0 : good (x :: t) = 0
        · have Hg := Lib.hid hg0
          clear hbad hg0
          go_wp2_with (first
            | (go_at_call 97; refine GC.out.mono ?_; rintro e w' ⟨rfl, rfl⟩; rw [Hg.out])
            | (at_builtin; refine wpList_append_own _ rfl _ _ 65 rfl w.heap.size 5 i0 (.int .u8 0) 1 1 Tryz.underlying65 hi hz0 hz1 hz2 rfl (by decide) _ _ _ rfl (hown.alloc _) ⟨wr.heap.size, 0, none⟩ 3 3 (Lib.byteCells mark) rfl rfl ?c1 ?c2 ?c3 ?c4 ?c5 ?_))
          case c1 => intro j u hu; rw [add_eq, World.cell?_alloc_new]; simpa [Lib.byteCells, mark] using hu
          case c2 => exact byteCells_one _
          case c3 => unfold maxLen; omega
          case c4 => omega
          case c5 => simp; omega
          intro v' w1 hown' hgrow _
          go_wp2
          go_roundw
          case rel => exact rel_bad Hr.out hrc (by unfold maxLen; omega) rfl hown hbw Hbad.out hacc hlen hown' hgrow
          case measure => simp [vlen]
        · have hx0 : ((x.toNat : Int) == 0) = true := by
            rcases hbad with h | h
            · exact absurd h hg0
            · subst h; rfl
          obtain ⟨g, hg⟩ : ∃ g, good (x :: t) = g := ⟨_, rfl⟩
          have hgb : ((g : Int) == 0) = false := by simp; omega
          have Hg := Lib.hid hg
          clear hbad hg0 hg
          go_wp2_with (first
            | (go_at_call 97; refine GC.out.mono ?_; rintro e w' ⟨rfl, rfl⟩; rw [Hg.out])
            | (at_builtin; refine wpList_append_own _ rfl _ _ 65 rfl w.heap.size 5 i0 (.int .u8 0) 1 1 Tryz.underlying65 hi hz0 hz1 hz2 rfl (by decide) _ _ _ rfl (hown.alloc _) ⟨wr.heap.size, 0, none⟩ 3 3 (Lib.byteCells mark) rfl rfl ?d1 ?d2 ?d3 ?d4 ?d5 ?_))
          case d1 => intro j u hu; rw [add_eq, World.cell?_alloc_new]; simpa [Lib.byteCells, mark] using hu
          case d2 => exact byteCells_one _
          case d3 => unfold maxLen; omega
          case d4 => omega
          case d5 => simp; omega
          intro v' w1 hown' hgrow _
          go_wp2
          go_roundw
          case rel => exact rel_bad Hr.out hrc (by unfold maxLen; omega) rfl hown hbw Hbad.out hacc hlen hown' hgrow
          case measure => simp [vlen]
      · have hx : x ≠ 0 := fun e => hbad (Or.inr e)
        have hx0 : ((x.toNat : Int) == 0) = false := by have := u8_ne0 hx; simp; omega
        have hg0 : good (x :: t) ≠ 0 := fun e => hbad (Or.inl e)
        obtain ⟨g, hg⟩ : ∃ g, good (x :: t) = g := ⟨_, rfl⟩
        rw [hg] at hg0 hgl
        have hgb : ((g : Int) == 0) = false := by simp; omega
        have Hg := Lib.hid hg
        have Hx := Lib.hid hx
        have hgpos : 0 < g := by omega
        have Hg0 := Lib.hid hg0
        clear hbad hg0 hg hx
        go_wp2_with (first
          | (go_at_call 97; refine GC.out.mono ?_; rintro e w' ⟨rfl, rfl⟩; rw [Hg.out])
          | (at_builtin; refine wpList_append_own _ rfl _ _ 65 rfl w.heap.size 5 i0 (.int .u8 0) 1 1 Tryz.underlying65 hi hz0 hz1 hz2 rfl (by decide) _ _ _ rfl hown ⟨b, off, none⟩ g cap (Lib.byteCells ((x :: t).take g)) rfl ?e0 ?e1 ?e2 ?e3 ?e4 ?e5 ?_))
        case e0 => simp [Lib.byteCells]; omega
        case e1 => exact Hcell.out g hgl
        case e2 => exact byteCells_one _
        case e3 => unfold maxLen; omega
        case e4 => omega
        case e5 => omega
        intro v' w1 hown' hgrow _
        go_wp2
        go_roundw
        case rel => exact rel_good Hr.out hrc (by unfold maxLen; omega) hown hbw Hg.out Hg0.out Hx.out (by omega) hacc hlen hown' hgrow
        case measure => simp [vlen]; omega
end Tx
end Go.Proofs.YtfabiidohdkkcaaGreatDoor
