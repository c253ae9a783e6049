/- Walks of layer 9, the seventh part: the reference's marks, White, gap. -/
import Derived.Test.YtilippcmdhkddaaDoorLkF
import Derived.Test.YtilippcmdhkddaaDoorEscGs
import Derived.Deep.OwnRows
namespace Go.Proofs.YtilippcmdhkddaaDoor
open Go Go.RowKit
namespace Lk
open Es
set_option maxRecDepth 100000
set_option linter.unusedVariables false
set_option linter.unusedSimpArgs false

theorem infoBoolL : (Tryd.prog.info? 4).map (fun i => (i.zero, i.size, i.bytes)) = some (some (.bool false), 1, 1) := by kernel_rfl
/-- The marks, in a block. -/
def Marks (w : World) (g : Nat) (l : List UInt8) (i : Nat) : Prop := w.rowIs g 4 l.length (fun k => .bool (decide (k ≤ i) && fl false l k))
theorem Marks.start {w : World} {l : List UInt8} : Marks (w.alloc (.cells (madeCells #[.bool false] l.length) 4)) w.heap.size l 0 := by
  refine (World.rowIs_made w (.bool false) l.length 4).congr fun k _ => ?_
  cases k with
  | zero => rw [fl_zero]; rfl
  | succ k => simp
theorem Marks.same {w : World} {g i : Nat} {l : List UInt8} (h : Marks w g l i) (h1 : fl false l (i + 1) = false) : Marks w g l (i + 1) := by
  refine h.congr fun k _ => ?_
  by_cases hk : k = i + 1
  · subst hk; rw [h1, Bool.and_false, Bool.and_false]
  · rw [decide_eq_decide.2 (show k ≤ i + 1 ↔ k ≤ i by omega)]
theorem Marks.put {w : World} {g i : Nat} {l : List UInt8} (h : Marks w g l i) (h1 : fl false l (i + 1) = true) (h2 : fl false l (i + 2) = false) : Marks (w.setCell ⟨g, i + 1, none⟩ (.bool true)) g l (i + 2) := by
  refine (World.rowIs.set h (i + 1) (.bool true)).congr fun k _ => ?_
  by_cases hk : k = i + 1
  · subst hk; rw [if_pos rfl, h1, decide_eq_true (by omega)]; rfl
  · rw [if_neg hk]
    by_cases hk2 : k = i + 2
    · subst hk2; rw [h2, Bool.and_false, Bool.and_false]
    · rw [decide_eq_decide.2 (show k ≤ i + 2 ↔ k ≤ i by omega)]
/-- All marks are set. -/
def AllMarks (w : World) (g : Nat) (l : List UInt8) : Prop := w.rowIs g 4 l.length (fun k => .bool (fl false l k))
theorem Marks.all {w : World} {g i : Nat} {l : List UInt8} (h : Marks w g l i) (hi : l.length ≤ i + 1) : AllMarks w g l :=
  World.rowIs.congr h fun k hk => by rw [decide_eq_true (by omega), Bool.true_and]
theorem AllMarks.cell {w : World} {g i : Nat} {l : List UInt8} (h : AllMarks w g l) (hi : i < l.length) : w.cell? ⟨g, i, none⟩ = some (.bool (fl false l i)) := World.rowIs.cell h hi
theorem AllMarks.below {w w' : World} {B g : Nat} {l : List UInt8} (h : AllMarks w g l) (hb : Below B w w') (hg : g < B) : AllMarks w' g l := World.rowIs.of_block h (hb.block g hg)
theorem rsign_u8 (c : UInt8) (w : World) : Calls Tryd.prog 39 #[.int .u8 (c.toNat : Int)] w fun e w' => e = .returned (.bool (sg c)) ∧ w = w' := rsign_any (c.toNat : Int) w

set_option maxHeartbeats 2000000 in
theorem marks_any (s : ByteArray) (w : World) (hz : s.size ≤ 1000000) :
    Calls Tryd.prog 23 #[.string s] w fun e w' => e = .returned (.slice (some ⟨w.heap.size, 0, none⟩) s.size s.size) ∧ AllMarks w' w.heap.size s.data.toList ∧ Below w.heap.size w w' := by
  have hmk := run_make_row' (P := Tryd.prog) 38 4 (.bool false) 1 Tryd.underlying38 infoBoolL rfl .i64 .i64 s.size (by omega) (by omega)
  have HM0 : Hid (Marks (w.alloc (.cells (madeCells #[.bool false] s.size) 4)) w.heap.size s.data.toList 0) := Lib.hid (by have := Marks.start (w := w) (l := s.data.toList); rw [szL] at this; exact this)
  have HB0 : Hid (Below w.heap.size w (w.alloc (.cells (madeCells #[.bool false] s.size) 4))) := Lib.hid ((Below.refl _ w).alloc (Nat.le_refl _) _)
  have hdl := Lib.hid (szL s)
  go_enter Tryd.func23, Tryd.ntmps23
  go_wp2_with fail
  go_loopg [4] s.size (fun g s4 wr => ∃ i : Nat, i ≤ s.size ∧ s.size ≤ g + i ∧ s4 = .int .i64 (i : Int) ∧ Hid (Marks wr w.heap.size s.data.toList i) ∧ Hid (Below w.heap.size w wr) ∧ Hid (fl false s.data.toList i = false ∨ s.size ≤ i))
  case atStart => exact ⟨0, Nat.zero_le _, by omega, rfl, HM0, HB0, Lib.hid (.inl (fl_zero _ _))⟩
  case round =>
    obtain ⟨i, hi, hig, rfl, HM, HB, HF⟩ := hrel
    clear HM0 HB0 hmk
    by_cases hlt : i + 1 < s.size
    · have hlt' : (i : Int) + 1 < (s.size : Int) := by omega
      obtain ⟨c, t, hd, hck, ht⟩ := consAt (show i < s.size by omega)
      obtain ⟨d, u, hd2, hck2, ht2⟩ := consAt hlt
      have htd : t = d :: u := by rw [← ht, hd2]
      have hf0 : fl false s.data.toList i = false := HF.out.resolve_right (by omega)
      have h1 := fl_succ i false s.data.toList hd
      have h2 := fl_succ (i + 1) false s.data.toList hd2
      rw [hf0, htd] at h1
      have e92 : ((c.toNat : Int) == 92) = (c == 92) := eqU c 92 (by decide)
      have HS := Lib.hid (rsign_u8 d wr)
      have H1 : Hid (fl false s.data.toList (i + 1) = (c == 92 && sg d)) := Lib.hid (by rw [h1]; unfold nf; rw [show hs (d :: u) = sg d from rfl]; rfl)
      have H2 := Lib.hid h2
      have c1 : wr.frozen? ⟨w.heap.size, i + 1, none⟩ = false := World.rowIs.frozen HM.out _
      have c2 := World.rowIs.cell HM.out (show i + 1 < s.data.toList.length by rw [hdl.out]; omega)
      clear hd hd2 ht ht2 htd hf0 h1 h2
      cases gk with
      | zero => exact absurd hig (by omega)
      | succ g =>
        generalize sg d = y at *
        by_cases hc : c = 92
        · have hcb : (c == 92) = true := by simpa using hc
          rw [hcb] at e92 H1
          cases y with
          | true =>
            have HM2 := Lib.hid (Marks.put HM.out H1.out (by rw [H2.out, H1.out]; rfl))
            have HB2 := Lib.hid (HB.out.setCell (p := ⟨w.heap.size, i + 1, none⟩) (Nat.le_refl _) (.bool true))
            have HF2 : Hid (fl false s.data.toList (i + 2) = false ∨ s.size ≤ i + 2) := Lib.hid (.inl (by rw [H2.out, H1.out]; rfl))
            clear H1 H2 hc
            go_wp2_with fail
            refine HS.out.mono ?_
            rintro e w2 ⟨rfl, rfl⟩
            go_wp2
            go_roundg g
            case rel => exact ⟨i + 2, by omega, by omega, by go_num, HM2, HB2, HF2⟩
            case measure => omega
          | false =>
            have HM2 := Lib.hid (Marks.same HM.out H1.out)
            have HF2 : Hid (fl false s.data.toList (i + 1) = false ∨ s.size ≤ i + 1) := Lib.hid (.inl H1.out)
            clear H1 H2 hc
            go_wp2_with fail
            refine HS.out.mono ?_
            rintro e w2 ⟨rfl, rfl⟩
            go_wp2
            go_roundg g
            case rel => exact ⟨i + 1, by omega, by omega, by go_num, HM2, HB, HF2⟩
            case measure => omega
        · have hcb : (c == 92) = false := by simpa using hc
          rw [hcb, Bool.false_and] at H1
          rw [hcb] at e92
          have HM2 := Lib.hid (Marks.same HM.out H1.out)
          have HF2 : Hid (fl false s.data.toList (i + 1) = false ∨ s.size ≤ i + 1) := Lib.hid (.inl H1.out)
          clear H1 H2 hc
          go_wp2
          go_roundg g
          case rel => exact ⟨i + 1, by omega, by omega, by go_num, HM2, HB, HF2⟩
          case measure => omega
    · have hlt' : ¬ (i : Int) + 1 < (s.size : Int) := by omega
      have HM2 := Lib.hid (Marks.all HM.out (by rw [hdl.out]; omega))
      go_wp2
      go_ret
      exact ⟨rfl, HM2.out, HB.out⟩

theorem rwh_any (c : UInt8) (w : World) : Calls Tryd.prog 33 #[.int .u8 (c.toNat : Int)] w fun e w' => e = .returned (.bool (whB c)) ∧ w = w' := by
  have e1 : ((c.toNat : Int) == 32) = (c == 32) := eqU c 32 (by decide)
  have e2 : ((c.toNat : Int) == 9) = (c == 9) := eqU c 9 (by decide)
  have e3 : ((c.toNat : Int) == 10) = (c == 10) := eqU c 10 (by decide)
  have HV : Hid (whB c = (c == 32 || c == 9 || c == 10)) := Lib.hid rfl
  generalize whB c = r at *
  generalize (c == 32) = x at *
  generalize (c == 9) = y at *
  generalize (c == 10) = z at *
  cases x <;> cases y <;>
  · go_enter Tryd.func33, Tryd.ntmps33
    go_wp2
    go_ret
    exact ⟨retB HV.out.symm, rfl⟩

set_option maxHeartbeats 2000000 in
theorem rwhite_any (s : ByteArray) (w : World) (hz : s.size ≤ 1000000) :
    Calls Tryd.prog 19 #[.string s] w fun e w' => e = .returned (.int .i64 (whN s.data.toList : Nat)) ∧ w = w' := by
  have hdl := Lib.hid (szL s)
  go_enter Tryd.func19, Tryd.ntmps19
  go_wp2_with fail
  go_loopg [3] s.size (fun g s3 wr => ∃ i : Nat, i + g = s.size ∧ s3 = .int .i64 (i : Int) ∧ w = wr ∧ Hid (whN s.data.toList = i + whN (s.data.toList.drop i)))
  case atStart => exact ⟨0, by omega, rfl, rfl, Lib.hid (by rw [List.drop_zero]; omega)⟩
  case round =>
    obtain ⟨i, hig, rfl, rfl, HN⟩ := hrel
    cases gk with
    | zero =>
      have hlt : ¬ (i : Int) < (s.size : Int) := by omega
      have HV : Hid (whN s.data.toList = i) := Lib.hid (by rw [HN.out, List.drop_eq_nil_of_le (by rw [hdl.out]; omega)]; rfl)
      go_wp2
      go_ret
      rw [HV.out]
      exact ⟨rfl, rfl⟩
    | succ g =>
      have hlt : (i : Int) < (s.size : Int) := by omega
      obtain ⟨c, t, hd, hck, ht⟩ := consAt (show i < s.size by omega)
      have HW := Lib.hid (rwh_any c w)
      cases hc : whB c with
      | true =>
        have HV : Hid (whN s.data.toList = (i + 1) + whN (s.data.toList.drop (i + 1))) := Lib.hid (by rw [HN.out, hd, whN_hit t hc, ht]; omega)
        rw [hc] at HW
        clear hd ht hc
        go_wp2_with fail
        refine HW.out.mono ?_
        rintro e w2 ⟨rfl, rfl⟩
        go_wp2
        go_roundg g
        case rel => exact ⟨i + 1, by omega, by go_num, rfl, HV⟩
        case measure => omega
      | false =>
        have HV : Hid (whN s.data.toList = i) := Lib.hid (by rw [HN.out, hd, whN_miss t hc]; rfl)
        rw [hc] at HW
        clear hd ht hc
        go_wp2_with fail
        refine HW.out.mono ?_
        rintro e w2 ⟨rfl, rfl⟩
        go_wp2
        go_ret
        rw [HV.out]
        exact ⟨rfl, rfl⟩
end Lk
end Go.Proofs.YtilippcmdhkddaaDoor
