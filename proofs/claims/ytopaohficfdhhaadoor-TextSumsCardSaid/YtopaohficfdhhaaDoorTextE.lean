/- Walks of layer 1, the fifth part: Lines, Join, Blank, Same. -/
import Derived.Test.YtopaohficfdhhaaDoorTextD
namespace Go.Proofs.YtopaohficfdhhaaDoor
open Go Go.RowKit
namespace Tx
set_option maxRecDepth 100000
set_option linter.unusedVariables false
set_option linter.unusedSimpArgs false

theorem info9 : (Tryd.prog.info? 9).map (fun i => (i.zero, i.size, i.bytes)) = some (some (.string ByteArray.empty), 1, 16) := by kernel_rfl
theorem size_mk (l : List UInt8) : (⟨l.toArray⟩ : ByteArray).size = l.length := by rfl

theorem below_drewN {B : Nat} {a w : World} (h : Below B a w) (n : Nat) : Below B a (w.drewN n) := h.trans ⟨rfl, rfl, rfl, Nat.le_refl _, fun _ _ => rfl⟩

theorem str_one (L : List (List UInt8)) : ∀ u ∈ L.map str, u.oneCell' = true := by
  intro u hu
  simp only [List.mem_map] at hu
  obtain ⟨b, _, rfl⟩ := hu
  rfl

theorem restOf_le (l : List UInt8) : (restOf l).length ≤ l.length - 1 := by
  cases l with
  | nil => simp [restOf, cutEnd]
  | cons b t => have := restOf_lt b t; simp at *; omega

def OwnL (w : World) (B : Nat) (v : Value) (L : List (List UInt8)) : Prop := w.ownsRow B 9 1 v L.length (L.map str)

theorem lines_rel {w wr w2 w1 : World} {r l : List UInt8} {A : List (List UInt8)} {o : Obj} {s4 v' : Value} (hr : r ≠ []) (hown : wr.ownsRow w.heap.size 9 1 s4 A.length (A.map str)) (hacc : A ++ lines r = lines l) (hal : A.length + r.length ≤ l.length)
    (hbw : Below w.heap.size w w2) (hown' : w1.ownsRow w.heap.size 9 1 v' (A.length + 1) (A.map str ++ [str (lineOf r)])) (hgrow : (w2.alloc o).grownBy w1 s4.ownBlock) :
    ∃ (r' : List UInt8) (A' : List (List UInt8)), r'.length = (restOf r).length ∧ str (restOf r) = str r' ∧ w1.ownsRow w.heap.size 9 1 v' A'.length (A'.map str) ∧ A' ++ lines r' = lines l ∧ Below w.heap.size w w1 ∧ A'.length + r'.length ≤ l.length := by
  have hsz := hbw.size
  have hle := restOf_le r
  have hpos : 0 < r.length := List.length_pos_iff.2 hr
  refine ⟨restOf r, A ++ [lineOf r], rfl, rfl, by simpa using hown', ?_, (hbw.alloc (by omega) _).grown hgrow (by simp; omega) (fun k hk => (hown.lt k hk).1), by simp; omega⟩
  rw [← hacc, lines_ne r hr]; simp

/-- A slice value that reads as these texts. -/
def SSl (w : World) (v : Value) (L : List (List UInt8)) : Prop := ∃ (ao : Option Addr) (cap : Nat), v = .slice ao L.length cap ∧ L.length ≤ 9223372036854775807 ∧ (L ≠ [] → ∃ b off, ao = some ⟨b, off, none⟩ ∧ ∀ i (h : i < L.length), w.cell? ⟨b, off + i, none⟩ = some (str L[i]))

theorem cell_lt {w : World} {b o : Nat} {x : Value} (h : w.cell? ⟨b, o, none⟩ = some x) : b < w.heap.size := by
  rcases Nat.lt_or_ge b w.heap.size with h' | h'
  · exact h'
  · simp [World.cell?, Array.getElem?_eq_none h'] at h

theorem SSl.below {w w' : World} {v : Value} {L : List (List UInt8)} (h : SSl w v L) (hB : Below w.heap.size w w') : SSl w' v L := by
  obtain ⟨ao, cap, rfl, hl, hr⟩ := h
  refine ⟨ao, cap, rfl, hl, fun hne => ?_⟩
  obtain ⟨b, off, e, hc⟩ := hr hne
  exact ⟨b, off, e, fun i hi => by have := hc i hi; rw [hB.cell (p := ⟨b, off + i, none⟩) (cell_lt this)]; exact this⟩

theorem OwnL.ssl {w : World} {B : Nat} {v : Value} {L : List (List UInt8)} (h : OwnL w B v L) (hl : L.length ≤ 9223372036854775807) : SSl w v L := by
  unfold OwnL at h
  have h0 := h
  rcases h.2 with ⟨rfl, h1⟩ | ⟨g, cap, cur, rfl, _, hg, hn, _, hs, hc⟩
  · have : L = [] := List.length_eq_zero_iff.1 h1
    subst this
    exact ⟨none, 0, rfl, hl, fun h => absurd rfl h⟩
  · refine ⟨some ⟨g, 0, none⟩, cap, rfl, hl, fun _ => ⟨g, 0, rfl, fun i hi => ?_⟩⟩
    have := h0.cellAt i (by omega)
    rw [Nat.zero_add, this]
    simp [List.getElem?_eq_getElem hi]

set_option maxHeartbeats 1000000 in
theorem lines_any (s : ByteArray) (w : World) (hs : s.size ≤ 1099511627776) :
    Calls Tryd.prog 16 #[.string s] w fun e w' => ∃ v, e = .returned v ∧ OwnL w' w.heap.size v (lines s.data.toList) ∧ Below w.heap.size w w' := by
  obtain ⟨l, rfl⟩ : ∃ l : List UInt8, s = ⟨l.toArray⟩ := ⟨s.data.toList, rfl⟩
  rw [size_mk] at hs
  have hl : (⟨l.toArray⟩ : ByteArray).data.toList = l := rfl
  rw [hl]
  obtain ⟨i0, hi, hz0, hz1, hz2⟩ := info_parts info9
  have HC := Lib.hid (clone_any ⟨l.toArray⟩ w (by rw [size_mk]; omega))
  clear hl
  go_enter Tryd.func16, Tryd.ntmps16
  go_wp2_with (go_at_call 29; refine HC.out.mono ?_; rintro e w1 ⟨rfl, hbc⟩)
  go_loopg [3, 4] l.length (fun g s3 s4 wr => ∃ (r : List UInt8) (A : List (List UInt8)), r.length = g ∧ s3 = str r ∧ wr.ownsRow w.heap.size 9 1 s4 A.length (A.map str) ∧ A ++ lines r = lines l ∧ Below w.heap.size w wr ∧ A.length + r.length ≤ l.length)
  case atStart => exact ⟨l, [], rfl, rfl, ⟨rfl, Or.inl ⟨rfl, rfl⟩⟩, rfl, hbc, by simp⟩
  case round =>
    obtain ⟨r, A, hg, rfl, hown, hacc, hbw, hal⟩ := hrel
    have hsz := hbw.size
    by_cases hr : r = []
    · subst hr
      unfold str
      go_wp2
      go_ret
      rw [lines_nil, List.append_nil] at hacc
      exact ⟨_, rfl, by rw [← hacc]; exact hown, hbw⟩
    · have h3 : r.isEmpty = false := by cases r <;> simp_all
      have h4 : (!r.isEmpty) = true := by rw [h3]; rfl
      have Hr := Lib.hid hr
      have HC2 : ∀ wr : World, Calls Tryd.prog 30 #[.string ⟨r.toArray⟩] wr fun e w' => e = .returned (.tuple #[str (lineOf r), str (restOf r)]) ∧ ∃ n, w' = wr.drewN n := fun wr => cutLine_any ⟨r.toArray⟩ wr (by rw [size_mk]; omega)
      have HC := Lib.hid (HC2 wr)
      unfold str
      go_wp2_with fail
      refine HC.out.mono ?_
      rintro e w2 ⟨rfl, nn, hw2⟩
      have hown2 : w2.ownsRow w.heap.size 9 1 u4 A.length (A.map str) := by rw [hw2]; exact hown
      have hbw2 : Below w.heap.size w w2 := by rw [hw2]; exact below_drewN hbw nn
      have hsz2 := hbw2.size
      clear hw2 HC2 hsz
      unfold str
      go_wp2_with (at_builtin; refine wpList_append_own _ rfl _ _ 28 rfl w.heap.size 9 i0 (.string ByteArray.empty) 1 16 Tryd.underlying28 hi hz0 hz1 hz2 rfl (by decide) _ _ _ rfl (hown2.alloc _) ⟨w2.heap.size, 0, none⟩ 1 1 [str (lineOf r)] rfl rfl ?c1 ?c2 ?c3 ?c4 ?c5 ?_)
      case c1 => intro j u hu; rw [add_eq, World.cell?_alloc_new]; simpa [str] using hu
      case c2 => intro u hu; simp at hu; subst hu; rfl
      case c3 => unfold maxLen; omega
      case c4 => omega
      case c5 => simp; omega
      intro v' w1 hown' hgrow _
      go_wp2
      go_roundg (restOf r).length
      case rel => exact lines_rel Hr.out hown2 hacc hal hbw2 hown' hgrow
      case measure =>
        have := restOf_le r
        have : 0 < r.length := List.length_pos_iff.2 Hr.out
        omega

set_option maxHeartbeats 1000000 in
theorem join_any (L : List (List UInt8)) (v : Value) (w : World) (hv : SSl w v L) (hl : (join L).length ≤ 1099511627776) :
    Calls Tryd.prog 18 #[v] w fun e w' => e = .returned (str (join L)) ∧ Below w.heap.size w w' := by
  obtain ⟨ao, cap, rfl, hlen, hrow⟩ := hv
  have Hrow := Lib.hid hrow
  clear hrow
  go_enter Tryd.func18, Tryd.ntmps18
  go_wp2
  go_loopg [8] L.length (fun g s8 wr => ∃ (k : Nat), k + g = L.length ∧ s8 = .int .i64 k ∧ Bld w.heap.size (join (L.take k)) wr ∧ Below w.heap.size w wr)
  case atStart => exact ⟨0, by omega, rfl, Lib.fresh_isBuilder 39 5 w, (Below.refl _ w).alloc (Nat.le_refl _) _⟩
  case round =>
    obtain ⟨k, hkg, rfl, hB, hbw⟩ := hrel
    have hsz := hbw.size
    cases gk with
    | zero =>
      have hkl : ¬ ((k : Int) < (L.length : Int)) := by omega
      go_wp2_with (go_at_call 27; refine (Tryd.Builder_String_any w.heap.size w.heap.size _ _ hB hsz).mono ?_; rintro e w2 ⟨rfl, hb2⟩)
      go_wp2
      go_ret
      rw [List.take_of_length_le (by omega)]
      exact ⟨rfl, hbw.trans hb2⟩
    | succ g =>
      have hkl : (k : Int) < (L.length : Int) := by omega
      have hk2 : k < L.length := by omega
      obtain ⟨b, off, rfl, hr⟩ := Hrow.out (by intro e; subst e; simp at hk2)
      have hc := hr k hk2
      have hblt := cell_lt hc
      rw [← hbw.cell (p := ⟨b, off + k, none⟩) hblt] at hc
      have HJ : Hid (join (L.take (k + 1)) = join (L.take k) ++ L[k] ++ [10]) := Lib.hid (by unfold join; rw [List.take_succ_eq_append_getElem hk2, List.map_append, List.flatten_append]; simp)
      have hjl : (join (L.take (k + 1))).length ≤ (join L).length := by
        have : join L = join (L.take (k + 1)) ++ join (L.drop (k + 1)) := by simp only [join]; rw [← List.flatten_append, ← List.map_append, List.take_append_drop]
        rw [this, List.length_append]; omega
      have hjl2 : (join (L.take k)).length + L[k].length + 1 = (join (L.take (k + 1))).length := by rw [HJ.out]; simp; omega
      generalize hx : L[k] = x at *
      have Hx := Lib.hid hx
      clear hx
      have WS := Lib.hid (Tryd.Builder_WriteString w.heap.size w.heap.size _ ⟨x.toArray⟩ _ hB (by rw [Lib.byteCells_length, size_mk]; omega) hsz)
      unfold str at hc
      go_wp2_with fail
      refine WS.out.mono ?_
      rintro e w2 ⟨rfl, hb2, hbw2⟩
      have hsz2 : w.heap.size ≤ w2.heap.size := Nat.le_trans hsz hbw2.size
      have WB := Lib.hid (Tryd.Builder_WriteByte w.heap.size w.heap.size _ 10 _ (Or.inr hb2) (by rw [List.length_append, Lib.byteCells_length, Lib.strCells_length, size_mk]; omega) hsz2)
      go_wp2_with fail
      refine WB.out.mono ?_
      rintro e w3 ⟨rfl, hb3, hbw3⟩
      go_wp2
      go_roundg g
      case rel =>
        refine ⟨k + 1, by omega, by go_num, Or.inr ?_, (hbw.trans hbw2).trans hbw3⟩
        rw [HJ.out]
        simpa [Lib.byteCells, Lib.strCells] using hb3
      case measure => omega
end Tx
end Go.Proofs.YtopaohficfdhhaaDoor
