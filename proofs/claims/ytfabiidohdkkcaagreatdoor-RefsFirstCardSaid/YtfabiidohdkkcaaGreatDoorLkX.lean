/- Texts of one part, one behind the other (LkFr, LkGr, LkHr, LkIr, LkJr). -/
import Derived.Test.YtfabiidohdkkcaaGreatDoorLkE
import Derived.Test.YtfabiidohdkkcaaGreatDoorEscGs
import Derived.Deep.OwnRows
import Derived.Deep.CutBlock
/- Walks of layer 9, the sixth part: Tail. -/
namespace Go.Proofs.YtfabiidohdkkcaaGreatDoor
open Go Go.RowKit
namespace Lk
open Es
set_option maxRecDepth 100000
set_option linter.unusedVariables false
set_option linter.unusedSimpArgs false

theorem tit_le (l : List UInt8) : (titP l).2 ≤ l.length := by
  obtain ⟨x, n, h⟩ : ∃ x n, titP l = (x, n) := ⟨_, _, rfl⟩
  rw [h]
  rcases Nat.eq_zero_or_pos n with h0 | h0
  · subst h0; exact Nat.zero_le _
  · exact (tit_take [] h h0).2.2.2
theorem dest_le (l : List UInt8) : (destP l).2.1 ≤ l.length ∧ ((destP l).2.2 = true → 0 < (destP l).2.1) ∧ ((destP l).2.2 = false → (destP l).2.1 = 0 ∧ (destP l).1 = []) := by
  obtain ⟨x, n, b, h⟩ : ∃ x n b, destP l = (x, n, b) := ⟨_, _, _, rfl⟩
  rw [h]
  cases b with
  | true => obtain ⟨h1, h2, _⟩ := dest_true h; exact ⟨h2, fun _ => h1, fun e => (by cases e)⟩
  | false =>
    have h0 := dest_false h
    subst h0
    refine ⟨Nat.zero_le _, fun e => (by cases e), fun _ => ⟨rfl, ?_⟩⟩
    cases l with
    | nil => cases h; rfl
    | cons c t =>
      unfold destP at h
      simp only at h
      split at h
      · split at h
        · cases h; rfl
        · cases h
      · split at h
        · cases h; rfl
        · split at h
          · cases h; rfl
          · cases h
/-- The title that stands behind an address, and how long it is with the white ahead of it. -/
def tbP (l : List UInt8) : List UInt8 × Nat := if whN l = 0 then ([], 0) else if (titP (l.drop (whN l))).2 = 0 then ([], 0) else ((titP (l.drop (whN l))).1, whN l + (titP (l.drop (whN l))).2)
theorem tb_behind (l : List UInt8) {n : Nat} (p : Nat) (h : 0 < n) : behind l n p = ((tbP (l.drop p)).1, p + (tbP (l.drop p)).2) := by
  unfold behind tbP
  simp only
  rw [List.drop_drop]
  by_cases h1 : whN (l.drop p) = 0
  · rw [if_pos h1, if_neg (by omega)]; rfl
  · rw [if_neg h1]
    by_cases h2 : (titP (l.drop (p + whN (l.drop p)))).2 = 0
    · rw [if_pos h2, if_neg (by omega)]; rfl
    · rw [if_neg h2, if_pos ⟨h, by omega, by omega⟩]
      simp only [Prod.mk.injEq, true_and]; omega
theorem behind_none (l : List UInt8) (p : Nat) : behind l 0 p = ([], p) := by
  unfold behind
  simp
theorem tb_le (l : List UInt8) : (tbP l).2 ≤ l.length := by
  unfold tbP
  split
  · exact Nat.zero_le _
  · split
    · exact Nat.zero_le _
    · have := tit_le (l.drop (whN l))
      have h2 := whN_le l
      rw [List.length_drop] at this
      simp only
      omega
def tbV (l : List UInt8) : Value := .tuple #[str (tbP l).1, .int .i64 ((tbP l).2 : Nat)]

def tailV (l : List UInt8) : Value := .tuple #[str (tailP l).1, str (tailP l).2.1, .int .i64 ((tailP l).2.2 : Nat)]
end Lk
end Go.Proofs.YtfabiidohdkkcaaGreatDoor

/- Walks of layer 9, the seventh part: the reference's marks, White, gap. -/
namespace Go.Proofs.YtfabiidohdkkcaaGreatDoor
open Go Go.RowKit
namespace Lk
open Es
set_option maxRecDepth 100000
set_option linter.unusedVariables false
set_option linter.unusedSimpArgs false

theorem infoBoolL : (Tryz.prog.info? 4).map (fun i => (i.zero, i.size, i.bytes)) = some (some (.bool false), 1, 1) := by kernel_rfl
/-- The marks, in a block. -/
def Marks (w : World) (g : Nat) (l : List UInt8) (i : Nat) : Prop := w.rowIs g 4 l.length (fun k => .bool (decide (k ≤ i) && fl false l k))
theorem Marks.start {w : World} {l : List UInt8} : Marks (w.alloc (.cells (madeCells #[.bool false] l.length) 4)) w.heap.size l 0 := by
  refine (World.rowIs_made w (.bool false) l.length 4).congr fun k _ => ?_
  cases k with
  | zero => rw [fl_zero]; rfl
  | succ k => simp
theorem Marks.same {w : World} {g i : Nat} {l : List UInt8} (h : Marks w g l i) (h1 : fl false l (i + 1) = false) : Marks w g l (i + 1) := by
  refine h.congr fun k _ => ?_
  by_cases hk : k = i + 1
  · subst hk; rw [h1, Bool.and_false, Bool.and_false]
  · rw [decide_eq_decide.2 (show k ≤ i + 1 ↔ k ≤ i by omega)]
theorem Marks.put {w : World} {g i : Nat} {l : List UInt8} (h : Marks w g l i) (h1 : fl false l (i + 1) = true) (h2 : fl false l (i + 2) = false) : Marks (w.setCell ⟨g, i + 1, none⟩ (.bool true)) g l (i + 2) := by
  refine (World.rowIs.set h (i + 1) (.bool true)).congr fun k _ => ?_
  by_cases hk : k = i + 1
  · subst hk; rw [if_pos rfl, h1, decide_eq_true (by omega)]; rfl
  · rw [if_neg hk]
    by_cases hk2 : k = i + 2
    · subst hk2; rw [h2, Bool.and_false, Bool.and_false]
    · rw [decide_eq_decide.2 (show k ≤ i + 2 ↔ k ≤ i by omega)]
/-- All marks are set. -/
def AllMarks (w : World) (g : Nat) (l : List UInt8) : Prop := w.rowIs g 4 l.length (fun k => .bool (fl false l k))
theorem Marks.all {w : World} {g i : Nat} {l : List UInt8} (h : Marks w g l i) (hi : l.length ≤ i + 1) : AllMarks w g l :=
  World.rowIs.congr h fun k hk => by rw [decide_eq_true (by omega), Bool.true_and]
theorem AllMarks.cell {w : World} {g i : Nat} {l : List UInt8} (h : AllMarks w g l) (hi : i < l.length) : w.cell? ⟨g, i, none⟩ = some (.bool (fl false l i)) := World.rowIs.cell h hi
theorem AllMarks.below {w w' : World} {B g : Nat} {l : List UInt8} (h : AllMarks w g l) (hb : Below B w w') (hg : g < B) : AllMarks w' g l := World.rowIs.of_block h (hb.block g hg)
theorem rsign_u8 (c : UInt8) (w : World) : Calls Tryz.prog 73 #[.int .u8 (c.toNat : Int)] w fun e w' => e = .returned (.bool (sg c)) ∧ w = w' := rsign_any (c.toNat : Int) w

set_option maxHeartbeats 2000000 in
theorem marks_any (s : ByteArray) (w : World) (hz : s.size ≤ 1000000) :
    Calls Tryz.prog 47 #[.string s] w fun e w' => e = .returned (.slice (some ⟨w.heap.size, 0, none⟩) s.size s.size) ∧ AllMarks w' w.heap.size s.data.toList ∧ Below w.heap.size w w' := by
  have hmk := run_make_row' (P := Tryz.prog) 63 4 (.bool false) 1 Tryz.underlying63 infoBoolL rfl .i64 .i64 s.size (by omega) (by omega)
  have HM0 : Hid (Marks (w.alloc (.cells (madeCells #[.bool false] s.size) 4)) w.heap.size s.data.toList 0) := Lib.hid (by have := Marks.start (w := w) (l := s.data.toList); rw [szL] at this; exact this)
  have HB0 : Hid (Below w.heap.size w (w.alloc (.cells (madeCells #[.bool false] s.size) 4))) := Lib.hid ((Below.refl _ w).alloc (Nat.le_refl _) _)
  have hdl := Lib.hid (szL s)
  go_enter Tryz.func47, Tryz.ntmps47
  go_wp2_with fail
  go_loopg [4] s.size (fun g s4 wr => ∃ i : Nat, i ≤ s.size ∧ s.size ≤ g + i ∧ s4 = .int .i64 (i : Int) ∧ Hid (Marks wr w.heap.size s.data.toList i) ∧ Hid (Below w.heap.size w wr) ∧ Hid (fl false s.data.toList i = false ∨ s.size ≤ i))
  case atStart => exact ⟨0, Nat.zero_le _, by omega, rfl, HM0, HB0, Lib.hid (.inl (fl_zero _ _))⟩
  case round =>
    obtain ⟨i, hi, hig, rfl, HM, HB, HF⟩ := hrel
    clear HM0 HB0 hmk
    by_cases hlt : i + 1 < s.size
    · have hlt' : (i : Int) + 1 < (s.size : Int) := by omega
      obtain ⟨c, t, hd, hck, ht⟩ := consAt (show i < s.size by omega)
      obtain ⟨d, u, hd2, hck2, ht2⟩ := consAt hlt
      have htd : t = d :: u := by rw [← ht, hd2]
      have hf0 : fl false s.data.toList i = false := HF.out.resolve_right (by omega)
      have h1 := fl_succ i false s.data.toList hd
      have h2 := fl_succ (i + 1) false s.data.toList hd2
      rw [hf0, htd] at h1
      have e92 : ((c.toNat : Int) == 92) = (c == 92) := eqU c 92 (by decide)
      have HS := Lib.hid (rsign_u8 d wr)
      have H1 : Hid (fl false s.data.toList (i + 1) = (c == 92 && sg d)) := Lib.hid (by rw [h1]; unfold nf; rw [show hs (d :: u) = sg d from rfl]; rfl)
      have H2 := Lib.hid h2
      have c1 : wr.frozen? ⟨w.heap.size, i + 1, none⟩ = false := World.rowIs.frozen HM.out _
      have c2 := World.rowIs.cell HM.out (show i + 1 < s.data.toList.length by rw [hdl.out]; omega)
      clear hd hd2 ht ht2 htd hf0 h1 h2
      cases gk with
      | zero => exact absurd hig (by omega)
      | succ g =>
        generalize sg d = y at *
        by_cases hc : c = 92
        · have hcb : (c == 92) = true := by simpa using hc
          rw [hcb] at e92 H1
          cases y with
          | true =>
            have HM2 := Lib.hid (Marks.put HM.out H1.out (by rw [H2.out, H1.out]; rfl))
            have HB2 := Lib.hid (HB.out.setCell (p := ⟨w.heap.size, i + 1, none⟩) (Nat.le_refl _) (.bool true))
            have HF2 : Hid (fl false s.data.toList (i + 2) = false ∨ s.size ≤ i + 2) := Lib.hid (.inl (by rw [H2.out, H1.out]; rfl))
            clear H1 H2 hc
            go_wp2_with fail
            refine HS.out.mono ?_
            rintro e w2 ⟨rfl, rfl⟩
            go_wp2
            go_roundg g
            case rel => exact ⟨i + 2, by omega, by omega, by go_num, HM2, HB2, HF2⟩
            case measure => omega
          | false =>
            have HM2 := Lib.hid (Marks.same HM.out H1.out)
            have HF2 : Hid (fl false s.data.toList (i + 1) = false ∨ s.size ≤ i + 1) := Lib.hid (.inl H1.out)
            clear H1 H2 hc
            go_wp2_with fail
            refine HS.out.mono ?_
            rintro e w2 ⟨rfl, rfl⟩
            go_wp2
            go_roundg g
            case rel => exact ⟨i + 1, by omega, by omega, by go_num, HM2, HB, HF2⟩
            case measure => omega
        · have hcb : (c == 92) = false := by simpa using hc
          rw [hcb, Bool.false_and] at H1
          rw [hcb] at e92
          have HM2 := Lib.hid (Marks.same HM.out H1.out)
          have HF2 : Hid (fl false s.data.toList (i + 1) = false ∨ s.size ≤ i + 1) := Lib.hid (.inl H1.out)
          clear H1 H2 hc
          go_wp2
          go_roundg g
          case rel => exact ⟨i + 1, by omega, by omega, by go_num, HM2, HB, HF2⟩
          case measure => omega
    · have hlt' : ¬ (i : Int) + 1 < (s.size : Int) := by omega
      have HM2 := Lib.hid (Marks.all HM.out (by rw [hdl.out]; omega))
      go_wp2
      go_ret
      exact ⟨rfl, HM2.out, HB.out⟩

theorem rwh_any (c : UInt8) (w : World) : Calls Tryz.prog 74 #[.int .u8 (c.toNat : Int)] w fun e w' => e = .returned (.bool (whB c)) ∧ w = w' := by
  have e1 : ((c.toNat : Int) == 32) = (c == 32) := eqU c 32 (by decide)
  have e2 : ((c.toNat : Int) == 9) = (c == 9) := eqU c 9 (by decide)
  have e3 : ((c.toNat : Int) == 10) = (c == 10) := eqU c 10 (by decide)
  have HV : Hid (whB c = (c == 32 || c == 9 || c == 10)) := Lib.hid rfl
  generalize whB c = r at *
  generalize (c == 32) = x at *
  generalize (c == 9) = y at *
  generalize (c == 10) = z at *
  cases x <;> cases y <;>
  · go_enter Tryz.func74, Tryz.ntmps74
    go_wp2
    go_ret
    exact ⟨retB HV.out.symm, rfl⟩

set_option maxHeartbeats 2000000 in
theorem rwhite_any (s : ByteArray) (w : World) (hz : s.size ≤ 1000000) :
    Calls Tryz.prog 48 #[.string s] w fun e w' => e = .returned (.int .i64 (whN s.data.toList : Nat)) ∧ w = w' := by
  have hdl := Lib.hid (szL s)
  go_enter Tryz.func48, Tryz.ntmps48
  go_wp2_with fail
  go_loopg [3] s.size (fun g s3 wr => ∃ i : Nat, i + g = s.size ∧ s3 = .int .i64 (i : Int) ∧ w = wr ∧ Hid (whN s.data.toList = i + whN (s.data.toList.drop i)))
  case atStart => exact ⟨0, by omega, rfl, rfl, Lib.hid (by rw [List.drop_zero]; omega)⟩
  case round =>
    obtain ⟨i, hig, rfl, rfl, HN⟩ := hrel
    cases gk with
    | zero =>
      have hlt : ¬ (i : Int) < (s.size : Int) := by omega
      have HV : Hid (whN s.data.toList = i) := Lib.hid (by rw [HN.out, List.drop_eq_nil_of_le (by rw [hdl.out]; omega)]; rfl)
      go_wp2
      go_ret
      rw [HV.out]
      exact ⟨rfl, rfl⟩
    | succ g =>
      have hlt : (i : Int) < (s.size : Int) := by omega
      obtain ⟨c, t, hd, hck, ht⟩ := consAt (show i < s.size by omega)
      have HW := Lib.hid (rwh_any c w)
      cases hc : whB c with
      | true =>
        have HV : Hid (whN s.data.toList = (i + 1) + whN (s.data.toList.drop (i + 1))) := Lib.hid (by rw [HN.out, hd, whN_hit t hc, ht]; omega)
        rw [hc] at HW
        clear hd ht hc
        go_wp2_with fail
        refine HW.out.mono ?_
        rintro e w2 ⟨rfl, rfl⟩
        go_wp2
        go_roundg g
        case rel => exact ⟨i + 1, by omega, by go_num, rfl, HV⟩
        case measure => omega
      | false =>
        have HV : Hid (whN s.data.toList = i) := Lib.hid (by rw [HN.out, hd, whN_miss t hc]; rfl)
        rw [hc] at HW
        clear hd ht hc
        go_wp2_with fail
        refine HW.out.mono ?_
        rintro e w2 ⟨rfl, rfl⟩
        go_wp2
        go_ret
        rw [HV.out]
        exact ⟨rfl, rfl⟩
end Lk
end Go.Proofs.YtfabiidohdkkcaaGreatDoor

/- Walks of layer 9, the eighth part: the reference's gap, Label. -/
namespace Go.Proofs.YtfabiidohdkkcaaGreatDoor
open Go Go.RowKit
namespace Lk
open Es
set_option maxRecDepth 100000
set_option linter.unusedVariables false
set_option linter.unusedSimpArgs false

theorem gapP_cons (c : UInt8) (t : List UInt8) : gapP (c :: t) = (c == 10 && bare t || gapP t) := rfl
theorem bare_cons (c : UInt8) (t : List UInt8) : bare (c :: t) = if bl c = true then bare t else c == 10 := rfl
set_option maxHeartbeats 4000000 in
theorem rgap_any (s : ByteArray) (w : World) (hz : s.size ≤ 1000000) :
    Calls Tryz.prog 78 #[.string s] w fun e w' => e = .returned (.bool (gapP s.data.toList)) ∧ w = w' := by
  have hdl := Lib.hid (szL s)
  have HY0 : Hid (gapP s.data.toList = gapP (s.data.toList.drop 0)) := Lib.hid (by rw [List.drop_zero])
  generalize gapP s.data.toList = y at *
  go_enter Tryz.func78, Tryz.ntmps78
  go_wp2_with fail
  go_loopg [3] s.size (fun g s3 wr => ∃ i : Nat, i + g = s.size ∧ s3 = .int .i64 (i : Int) ∧ w = wr ∧ Hid (y = gapP (s.data.toList.drop i)))
  case atStart => exact ⟨0, by omega, rfl, rfl, HY0⟩
  case round =>
    obtain ⟨i, hig, rfl, rfl, HY⟩ := hrel
    clear HY0
    cases gk with
    | zero =>
      have hlt : ¬ (i : Int) < (s.size : Int) := by omega
      have HV : Hid (y = false) := Lib.hid (by rw [HY.out, List.drop_eq_nil_of_le (by rw [hdl.out]; omega)]; rfl)
      go_wp2
      go_ret
      exact ⟨retB HV.out.symm, rfl⟩
    | succ g =>
      have hlt : (i : Int) < (s.size : Int) := by omega
      obtain ⟨c, t, hd, hck, ht⟩ := consAt (show i < s.size by omega)
      by_cases hc : c = 10
      · subst hc
        have HY2 : Hid (y = (bare (s.data.toList.drop (i + 1)) || gapP (s.data.toList.drop (i + 1)))) := Lib.hid (by rw [HY.out, hd, gapP_cons, ht]; rfl)
        clear hd ht
        go_wp2_with fail
        go_loopg [4] (s.size - (i + 1)) (fun g s4 wr => ∃ k : Nat, k + g = s.size ∧ s4 = .int .i64 (k : Int) ∧ w = wr ∧ Hid (bare (s.data.toList.drop (i + 1)) = bare (s.data.toList.drop k)))
        case atStart => exact ⟨i + 1, by omega, by go_num, rfl, Lib.hid rfl⟩
        case round =>
          obtain ⟨k, hkg, rfl, rfl, HB⟩ := hrel
          cases gk with
          | zero =>
            have hkl : ¬ (k : Int) < (s.size : Int) := by omega
            have HV : Hid (y = gapP (s.data.toList.drop (i + 1))) := Lib.hid (by rw [HY2.out, HB.out, List.drop_eq_nil_of_le (show s.data.toList.length ≤ k by rw [hdl.out]; omega)]; rfl)
            go_wp2
            go_roundg g
            case rel => exact ⟨i + 1, by omega, by go_num, rfl, HV⟩
            case measure => omega
          | succ g2 =>
            have hkl : (k : Int) < (s.size : Int) := by omega
            obtain ⟨d, u, hd, hdk, hu⟩ := consAt (show k < s.size by omega)
            have e1 : ((d.toNat : Int) == 32) = (d == 32) := eqU d 32 (by decide)
            have e2 : ((d.toNat : Int) == 9) = (d == 9) := eqU d 9 (by decide)
            have e3 : ((d.toNat : Int) == 10) = (d == 10) := eqU d 10 (by decide)
            have HBL : Hid (bl d = (d == 32 || d == 9)) := Lib.hid rfl
            have HX : Hid (bare (s.data.toList.drop (i + 1)) = if bl d = true then bare (s.data.toList.drop (k + 1)) else d == 10) := Lib.hid (by rw [HB.out, hd, bare_cons, hu])
            clear hd hu
            generalize bl d = z at *
            generalize (d == 32) = z1 at *
            generalize (d == 9) = z2 at *
            generalize (d == 10) = z3 at *
            cases z1 with
            | true =>
              have HB2 : Hid (bare (s.data.toList.drop (i + 1)) = bare (s.data.toList.drop (k + 1))) := Lib.hid (by rw [HX.out, HBL.out]; rfl)
              go_wp2
              go_roundg g2
              case rel => exact ⟨k + 1, by omega, by go_num, rfl, HB2⟩
              case measure => omega
            | false =>
              cases z2 with
              | true =>
                have HB2 : Hid (bare (s.data.toList.drop (i + 1)) = bare (s.data.toList.drop (k + 1))) := Lib.hid (by rw [HX.out, HBL.out]; rfl)
                go_wp2
                go_roundg g2
                case rel => exact ⟨k + 1, by omega, by go_num, rfl, HB2⟩
                case measure => omega
              | false =>
                cases z3 with
                | true =>
                  have HV : Hid (y = true) := Lib.hid (by rw [HY2.out, HX.out, HBL.out]; rfl)
                  go_wp2
                  go_ret
                  exact ⟨retB HV.out.symm, rfl⟩
                | false =>
                  have HV : Hid (y = gapP (s.data.toList.drop (i + 1))) := Lib.hid (by rw [HY2.out, HX.out, HBL.out]; rfl)
                  go_wp2
                  go_roundg g
                  case rel => exact ⟨i + 1, by omega, by go_num, rfl, HV⟩
                  case measure => omega
      · have hcb : ((c.toNat : Int) != 10) = true := by
          rw [bne, show ((c.toNat : Int) == 10) = (c == 10) from eqU c 10 (by decide)]
          simpa using hc
        have HV : Hid (y = gapP (s.data.toList.drop (i + 1))) := Lib.hid (by
          rw [HY.out, hd, gapP_cons, ht, beq_eq_false_iff_ne.2 hc]; rfl)
        clear hd ht hc
        go_wp2
        go_roundg g
        case rel => exact ⟨i + 1, by omega, by go_num, rfl, HV⟩
        case measure => omega

theorem extract_one {s : ByteArray} {c : UInt8} {t : List UInt8} (h : s.data.toList = c :: t) (i : Nat) : (s.extract 1 (i + 1)).data.toList = t.take i := by
  rw [Lib.extract_data, h]; rfl

set_option maxHeartbeats 4000000 in
theorem rlabel_any (s : ByteArray) (w : World) (hz : s.size ≤ 1000000) :
    Calls Tryz.prog 25 #[.string s] w fun e w' => e = .returned (labV s.data.toList) ∧ Below w.heap.size w w' := by
  have hdl := Lib.hid (szL s)
  by_cases h0 : 0 < s.size
  · obtain ⟨c, t, hd, hck, _⟩ := consAt h0
    rw [List.drop_zero] at hd
    have he := empF h0
    have h01 : (0 : Int) < (s.size : Int) := by omega
    by_cases hc : c = 91
    · subst hc
      have HD := Lib.hid hd
      have HM := Lib.hid (marks_any s w hz)
      have HW := Lib.hid (fun (S : ByteArray) W (h : S.size ≤ 1000000) => rwhite_any S W h)
      have HP : Hid (labP s.data.toList = match labF false t with
        | none => ([], 0)
        | some i => if 999 < i ∨ whN (t.take i) = i then ([], 0) else (t.take i, i + 2)) := Lib.hid (by rw [hd]; rfl)
      have HF0 : Hid (labF false t = (find no (· == 91) (· == 93) (fl false s.data.toList 1) (s.data.toList.drop 1)).map (· + 0)) := Lib.hid (by
        rw [fl_succ 0 false s.data.toList (by rw [List.drop_zero]; exact hd), fl_zero, nf_other _ _ (by decide), hd, map_zero]; rfl)
      unfold labV
      generalize labP s.data.toList = r at *
      clear hd
      go_enter Tryz.func25, Tryz.ntmps25
      go_wp2_with fail
      refine HM.out.mono ?_
      rintro e w1 ⟨rfl, hm1, hb1⟩
      have HA := Lib.hid hm1
      have HB := Lib.hid hb1
      clear hm1 hb1 HM
      go_wp2_with fail
      go_loopg [5] (s.size - 1) (fun g s5 wr => ∃ j : Nat, j + 1 + g = s.size ∧ s5 = .int .i64 ((j : Int) + 1) ∧ w1 = wr ∧ Hid (labF false t = (find no (· == 91) (· == 93) (fl false s.data.toList (j + 1)) (s.data.toList.drop (j + 1))).map (· + j)))
      case atStart => exact ⟨0, by omega, by go_num, rfl, HF0⟩
      case round =>
        obtain ⟨j, hjg, rfl, rfl, HF⟩ := hrel
        clear HF0
        cases gk with
        | zero =>
          have hlt : ¬ (j : Int) + 1 < (s.size : Int) := by omega
          have HV : Hid (r = ([], 0)) := Lib.hid (by
            rw [HP.out, HF.out, List.drop_eq_nil_of_le (by rw [hdl.out]; omega), find_nil]; rfl)
          go_wp2
          go_ret2
          rw [HV.out]
          exact ⟨rfl, HB.out⟩
        | succ g =>
          have hlt : (j : Int) + 1 < (s.size : Int) := by omega
          obtain ⟨d, u, hd, hdk, hu⟩ := consAt (show j + 1 < s.size by omega)
          have hfn := fl_succ (j + 1) false s.data.toList hd
          have cm := HA.out.cell (i := j + 1) (by rw [hdl.out]; omega)
          have e91 : ((d.toNat : Int) == 91) = (d == 91) := eqU d 91 (by decide)
          have e93 : ((d.toNat : Int) == 93) = (d == 93) := eqU d 93 (by decide)
          have HF1 : Hid (labF false t = (find no (· == 91) (· == 93) (fl false s.data.toList (j + 1)) (d :: u)).map (· + j)) := Lib.hid (by rw [← hd]; exact HF.out)
          have HN : Hid (¬ (no d = true ∨ (fl false s.data.toList (j + 1) = false ∧ (d == 91) = true)) → ¬ (fl false s.data.toList (j + 1) = false ∧ (d == 93) = true) → labF false t = (find no (· == 91) (· == 93) (fl false s.data.toList (j + 1 + 1)) (s.data.toList.drop (j + 1 + 1))).map (· + (j + 1))) := Lib.hid (fun h1 h2 => by
            rw [HF1.out, find_next (H := no) (B := (· == 91)) (S := (· == 93)) h1 h2, hfn, hu])
          clear hd hu hfn HF
          generalize fl false s.data.toList (j + 1) = x at *
          cases x with
          | true =>
            have HV := Lib.hid (HN.out (by simp [no]) (by simp))
            clear HN
            go_wp2
            go_roundg g
            case rel => exact ⟨j + 1, by omega, by go_num, rfl, HV⟩
            case measure => omega
          | false =>
            by_cases h1 : d = 91
            · have hb1 : (d == 91) = true := by simpa using h1
              have HV : Hid (r = ([], 0)) := Lib.hid (by
                rw [HP.out, HF1.out, find_bad (H := no) (B := (· == 91)) (S := (· == 93)) (.inr ⟨rfl, hb1⟩)])
              rw [hb1] at e91
              clear HN HF1 h1
              go_wp2
              go_ret2
              rw [HV.out]
              exact ⟨rfl, HB.out⟩
            · have hb1 : (d == 91) = false := by simpa using h1
              rw [hb1] at e91
              by_cases h2 : d = 93
              · have hb2 : (d == 93) = true := by simpa using h2
                rw [hb2] at e93
                have HV : Hid (r = if 999 < j ∨ whN (t.take j) = j then ([], 0) else (t.take j, j + 2)) := Lib.hid (by
                  rw [HP.out, HF1.out, find_hit (H := no) (B := (· == 91)) (S := (· == 93)) (by rw [hb1]; simp [no]) ⟨rfl, hb2⟩])
                obtain ⟨I, hI⟩ : ∃ I, I = s.extract 1 (j + 1) := ⟨_, rfl⟩
                have hIl : I.data.toList = t.take j := by rw [hI]; exact extract_one HD.out j
                have HW1 := Lib.hid (fun W => HW.out I W (by
                  rw [hI]; simp; omega))
                rw [hIl] at HW1
                have HI := Lib.hid hI
                have HIl := Lib.hid hIl
                have b1 : (1 : Int) ≤ (j : Int) + 1 := by omega
                have b2 : (j : Int) + 1 ≤ (s.size : Int) := by omega
                have b3 : (j : Int) + 1 - 1 = (j : Int) := by omega
                clear HN HF1 h1 h2 hI hIl
                by_cases h9 : 999 < j
                · have hj9 : (1000 : Int) < (j : Int) + 1 := by omega
                  rw [if_pos (.inl h9)] at HV
                  go_wp2
                  go_ret2
                  rw [HV.out]
                  exact ⟨rfl, HB.out⟩
                · have hj9 : ¬ (1000 : Int) < (j : Int) + 1 := by omega
                  by_cases hw : whN (t.take j) = j
                  · rw [if_pos (.inr hw)] at HV
                    rw [hw] at HW1
                    clear hw
                    go_wp2_with fail
                    rw [← HI.out]
                    refine (HW1.out _).mono ?_
                    rintro e w2 ⟨rfl, rfl⟩
                    go_wp2
                    go_ret2
                    rw [HV.out]
                    exact ⟨rfl, HB.out⟩
                  · rw [if_neg (fun e => e.elim h9 hw)] at HV
                    have hwb : ((whN (t.take j) : Int) == (j : Int)) = false := by simp; omega
                    generalize whN (t.take j) = z at *
                    clear hw h9
                    go_wp2_with fail
                    rw [← HI.out]
                    refine (HW1.out _).mono ?_
                    rintro e w2 ⟨rfl, rfl⟩
                    go_wp2
                    go_ret2
                    rw [HV.out]
                    exact ⟨ret2 (by rw [← HI.out, ← HIl.out, ba_selfL]) (by first | rfl | omega), HB.out⟩
              · have hb2 : (d == 93) = false := by simpa using h2
                rw [hb2] at e93
                have HV := Lib.hid (HN.out (by rw [hb1]; simp [no]) (by rw [hb2]; simp))
                clear HN HF1 h1 h2
                go_wp2
                go_roundg g
                case rel => exact ⟨j + 1, by omega, by go_num, rfl, HV⟩
                case measure => omega
    · have hcb : ((c.toNat : Int) != 91) = true := by
        rw [bne, show ((c.toNat : Int) == 91) = (c == 91) from eqU c 91 (by decide)]
        simpa using hc
      have HV : Hid (labP s.data.toList = ([], 0)) := Lib.hid (by rw [hd]; exact lab_none t hc)
      unfold labV
      rw [HV.out]
      clear hd hc HV
      go_enter Tryz.func25, Tryz.ntmps25
      go_wp2
      go_ret2
      exact ⟨rfl, Below.refl _ _⟩
  · have hs : s = ⟨#[]⟩ := ba_eqL (l := []) (List.length_eq_zero_iff.1 (by rw [szL]; omega))
    subst hs
    clear h0
    unfold labV
    rw [show labP (⟨#[]⟩ : ByteArray).data.toList = ([], 0) from rfl]
    go_enter Tryz.func25, Tryz.ntmps25
    go_wp2
    go_ret2
    exact ⟨rfl, Below.refl _ _⟩
end Lk
end Go.Proofs.YtfabiidohdkkcaaGreatDoor

/- Walks of layer 9, the ninth part: the reference's addresses. -/
namespace Go.Proofs.YtfabiidohdkkcaaGreatDoor
open Go Go.RowKit
namespace Lk
open Es
set_option maxRecDepth 100000
set_option linter.unusedVariables false
set_option linter.unusedSimpArgs false

set_option maxHeartbeats 4000000 in
theorem rangled_any (s : ByteArray) (t : List UInt8) (ht : s.data.toList = 60 :: t) (w : World) (hz : s.size ≤ 100000) :
    Calls Tryz.prog 50 #[.string s] w fun e w' => e = .returned (dstV s.data.toList) ∧ Below w.heap.size w w' := by
  have hdl := Lib.hid (szL s)
  have h0 : 0 < s.size := by rw [← szL, ht]; simp
  have HD := Lib.hid ht
  have HM := Lib.hid (marks_any s w (by omega))
  have HU := Lib.hid (fun (S : ByteArray) W (h : S.size ≤ 100000) => runescape_any S W h)
  have HP : Hid (destP s.data.toList = match angF false t with
    | none => ([], 0, false)
    | some i => (une (t.take i), i + 2, true)) := Lib.hid (by rw [ht]; rfl)
  have HF0 : Hid (angF false t = (find (· == 10) (· == 60) (· == 62) (fl false s.data.toList 1) (s.data.toList.drop 1)).map (· + 0)) := Lib.hid (by
    rw [fl_succ 0 false s.data.toList (by rw [List.drop_zero]; exact ht), fl_zero, nf_other _ _ (by decide), ht, map_zero]; rfl)
  unfold dstV
  generalize destP s.data.toList = r at *
  clear ht
  go_enter Tryz.func50, Tryz.ntmps50
  go_wp2_with fail
  refine HM.out.mono ?_
  rintro e w1 ⟨rfl, hm1, hb1⟩
  have HA := Lib.hid hm1
  have HB := Lib.hid hb1
  clear hm1 hb1 HM
  go_wp2_with fail
  go_loopg [6] (s.size - 1) (fun g s5 wr => ∃ j : Nat, j + 1 + g = s.size ∧ s5 = .int .i64 ((j : Int) + 1) ∧ w1 = wr ∧ Hid (angF false t = (find (· == 10) (· == 60) (· == 62) (fl false s.data.toList (j + 1)) (s.data.toList.drop (j + 1))).map (· + j)))
  case atStart => exact ⟨0, by omega, by go_num, rfl, HF0⟩
  case round =>
    obtain ⟨j, hjg, rfl, rfl, HF⟩ := hrel
    clear HF0
    cases gk with
    | zero =>
      have hlt : ¬ (j : Int) + 1 < (s.size : Int) := by omega
      have HV : Hid (r = ([], 0, false)) := Lib.hid (by
        rw [HP.out, HF.out, List.drop_eq_nil_of_le (by rw [hdl.out]; omega), find_nil]; rfl)
      go_wp2
      go_ret3
      rw [HV.out]
      exact ⟨rfl, HB.out⟩
    | succ g =>
      have hlt : (j : Int) + 1 < (s.size : Int) := by omega
      obtain ⟨d, u, hd, hdk, hu⟩ := consAt (show j + 1 < s.size by omega)
      have hfn := fl_succ (j + 1) false s.data.toList hd
      have cm := HA.out.cell (i := j + 1) (by rw [hdl.out]; omega)
      have e10 : ((d.toNat : Int) == 10) = (d == 10) := eqU d 10 (by decide)
      have e60 : ((d.toNat : Int) == 60) = (d == 60) := eqU d 60 (by decide)
      have e62 : ((d.toNat : Int) == 62) = (d == 62) := eqU d 62 (by decide)
      have HF1 : Hid (angF false t = (find (· == 10) (· == 60) (· == 62) (fl false s.data.toList (j + 1)) (d :: u)).map (· + j)) := Lib.hid (by rw [← hd]; exact HF.out)
      have HN : Hid (¬ ((d == 10) = true ∨ (fl false s.data.toList (j + 1) = false ∧ (d == 60) = true)) → ¬ (fl false s.data.toList (j + 1) = false ∧ (d == 62) = true) → angF false t = (find (· == 10) (· == 60) (· == 62) (fl false s.data.toList (j + 1 + 1)) (s.data.toList.drop (j + 1 + 1))).map (· + (j + 1))) := Lib.hid (fun h1 h2 => by
        rw [HF1.out, find_next (H := (· == 10)) (B := (· == 60)) (S := (· == 62)) h1 h2, hfn, hu])
      have HBad : Hid (((d == 10) = true ∨ (fl false s.data.toList (j + 1) = false ∧ (d == 60) = true)) → r = ([], 0, false)) := Lib.hid (fun h => by
        rw [HP.out, HF1.out, find_bad (H := (· == 10)) (B := (· == 60)) (S := (· == 62)) h])
      have HHit : Hid (¬ ((d == 10) = true ∨ (fl false s.data.toList (j + 1) = false ∧ (d == 60) = true)) → (fl false s.data.toList (j + 1) = false ∧ (d == 62) = true) → r = (une (t.take j), j + 2, true)) := Lib.hid (fun h1 h2 => by
        rw [HP.out, HF1.out, find_hit (H := (· == 10)) (B := (· == 60)) (S := (· == 62)) h1 h2])
      clear hd hu hfn HF HF1
      generalize fl false s.data.toList (j + 1) = x at *
      generalize (d == 10) = z1 at *
      cases z1 with
      | true =>
        have HV := Lib.hid (HBad.out (.inl rfl))
        clear HN HBad HHit
        go_wp2
        go_ret3
        rw [HV.out]
        exact ⟨rfl, HB.out⟩
      | false =>
        generalize (d == 60) = z2 at *
        generalize (d == 62) = z3 at *
        cases x with
        | true =>
          have HV := Lib.hid (HN.out (by simp) (by simp))
          clear HN HBad HHit
          cases z2 <;> cases z3 <;>
          · go_wp2
            go_roundg g
            case rel => exact ⟨j + 1, by omega, by go_num, rfl, HV⟩
            case measure => omega
        | false =>
          cases z2 with
          | true =>
            have HV := Lib.hid (HBad.out (.inr ⟨rfl, rfl⟩))
            clear HN HBad HHit
            go_wp2
            go_ret3
            rw [HV.out]
            exact ⟨rfl, HB.out⟩
          | false =>
            cases z3 with
            | true =>
              have HV := Lib.hid (HHit.out (by simp) ⟨rfl, rfl⟩)
              obtain ⟨I, hI⟩ : ∃ I, I = s.extract 1 (j + 1) := ⟨_, rfl⟩
              have hIl : I.data.toList = t.take j := by rw [hI]; exact extract_one HD.out j
              have HU1 := Lib.hid (fun W => HU.out I W (by
                rw [hI]; simp; omega))
              rw [hIl] at HU1
              have HI := Lib.hid hI
              have b1 : (1 : Int) ≤ (j : Int) + 1 := by omega
              have b2 : (j : Int) + 1 ≤ (s.size : Int) := by omega
              clear HN HBad HHit hI hIl
              generalize une (t.take j) = un at *
              unfold str at HU1
              go_wp2_with fail
              rw [← HI.out]
              refine (HU1.out _).mono ?_
              rintro e w2 ⟨rfl, hb2⟩
              go_wp2
              go_ret3
              rw [HV.out]
              exact ⟨ret3 rfl (by first | rfl | omega) rfl, HB.out.trans (hb2.mono HB.out.size)⟩
            | false =>
              have HV := Lib.hid (HN.out (by simp) (by simp))
              clear HN HBad HHit
              go_wp2
              go_roundg g
              case rel => exact ⟨j + 1, by omega, by go_num, rfl, HV⟩
              case measure => omega

/-- The bytes that an address without brackets may have. -/
theorem dst_over {o : Nat} {f : Bool} {l : List UInt8} (h : ∀ c ∈ l.head?, c.toNat ≤ 32 ∨ c = 127) : dst o f l = if o = 0 then some 0 else none := by
  cases l with
  | nil => exact dst_nil o f
  | cons c t => rw [dst_cons, if_pos (h c rfl)]

set_option maxHeartbeats 4000000 in
theorem rdest_any (s : ByteArray) (w : World) (hz : s.size ≤ 100000) :
    Calls Tryz.prog 27 #[.string s] w fun e w' => e = .returned (dstV s.data.toList) ∧ Below w.heap.size w w' := by
  have hdl := Lib.hid (szL s)
  by_cases hh : s.data.toList.head? = some 60
  · obtain ⟨t, ht⟩ := head_cons hh
    have h0 : 0 < s.size := by rw [← szL, ht]; simp
    obtain ⟨c, t', hd, hck, _⟩ := consAt h0
    rw [List.drop_zero, ht] at hd
    obtain rfl : (60 : UInt8) = c := (List.cons.inj hd).1
    have he := empF h0
    have h01 : (0 : Int) < (s.size : Int) := by omega
    have HAng := Lib.hid (rangled_any s t ht w hz)
    unfold dstV at HAng ⊢
    unfold str at HAng ⊢
    generalize destP s.data.toList = r at *
    clear hd ht hh
    go_enter Tryz.func27, Tryz.ntmps27
    go_wp2_with fail
    refine HAng.out.mono ?_
    rintro e w1 ⟨rfl, hb1⟩
    go_wp2
    go_ret3
    exact ⟨rfl, hb1⟩
  · have HM := Lib.hid (marks_any s w (by omega))
    by_cases h0 : 0 < s.size
    case neg =>
      have hs : s = ⟨#[]⟩ := ba_eqL (l := []) (List.length_eq_zero_iff.1 (by rw [szL]; omega))
      subst hs
      clear h0 hh
      unfold dstV
      rw [show destP (⟨#[]⟩ : ByteArray).data.toList = ([], 0, false) from rfl]
      go_enter Tryz.func27, Tryz.ntmps27
      go_wp2_with fail
      refine HM.out.mono ?_
      rintro e w1 ⟨rfl, hm1, hb1⟩
      have HB := Lib.hid hb1
      clear hm1 hb1 HM
      go_wp2_with fail
      go_loopg [6, 7] 0 (fun g v6 v7 wr => v6 = .int .i64 0 ∧ v7 = .int .i64 0 ∧ w1 = wr)
      case atStart => exact ⟨rfl, rfl, rfl⟩
      case round =>
        obtain ⟨rfl, rfl, rfl⟩ := hrel
        go_wp2
        go_ret3
        exact ⟨rfl, HB.out⟩
    have HU := Lib.hid (fun (S : ByteArray) W (h : S.size ≤ 100000) => runescape_any S W h)
    obtain ⟨c0, t0, hd0, hck0, _⟩ := consAt h0
    rw [List.drop_zero] at hd0
    have he := empF h0
    have h01 : (0 : Int) < (s.size : Int) := by omega
    have h60 : ((c0.toNat : Int) == 60) = false := (eqU c0 60 (by decide)).trans (beq_eq_false_iff_ne.2 fun e => hh (by rw [hd0, e]; rfl))
    have HP : Hid (destP s.data.toList = match dst 0 false s.data.toList with
      | none => ([], 0, false)
      | some n => if n = 0 then ([], 0, false) else (une (s.data.toList.take n), n, true)) := Lib.hid (by
      rw [hd0]; exact if_neg (fun e => hh (by rw [hd0, e]; rfl)))
    have HF0 : Hid (dst 0 false s.data.toList = (dst 0 (fl false s.data.toList 0) (s.data.toList.drop 0)).map (· + 0)) := Lib.hid (by rw [List.drop_zero, fl_zero, map_zero])
    unfold dstV
    generalize destP s.data.toList = r at *
    clear hh hd0
    go_enter Tryz.func27, Tryz.ntmps27
    go_wp2_with fail
    refine HM.out.mono ?_
    rintro e w1 ⟨rfl, hm1, hb1⟩
    have HA := Lib.hid hm1
    have HB := Lib.hid hb1
    clear hm1 hb1 HM
    go_upto_block 0 with fail
    go_cut [6, 7] (fun v6 v7 wx => ∃ n o : Nat, v6 = .int .i64 (o : Int) ∧ v7 = .int .i64 (n : Int) ∧ w1 = wx ∧ n ≤ s.size ∧ o ≤ 32 ∧ Hid (dst 0 false s.data.toList = if o = 0 then some n else none))
    case first =>
      go_wp2_with fail
      go_loopg [6, 7] s.size (fun g v6 v7 wr => ∃ n o : Nat, n + g = s.size ∧ v6 = .int .i64 (o : Int) ∧ v7 = .int .i64 (n : Int) ∧ w1 = wr ∧ o ≤ 32 ∧ Hid (dst 0 false s.data.toList = (dst o (fl false s.data.toList n) (s.data.toList.drop n)).map (· + n)))
      case atStart => exact ⟨0, 0, by omega, rfl, rfl, rfl, by omega, HF0⟩
      case round =>
        obtain ⟨n, o, hng, rfl, rfl, rfl, ho, HF⟩ := hrel
        clear HF0
        cases gk with
        | zero =>
          have hlt : ¬ (n : Int) < (s.size : Int) := by omega
          have HV : Hid (dst 0 false s.data.toList = if o = 0 then some n else none) := Lib.hid (by
            rw [HF.out, dst_over (by rw [List.drop_eq_nil_of_le (by rw [hdl.out]; omega)]; intro c hc; cases hc)]
            split <;> simp)
          go_wp2
          go_meet
          exact ⟨n, o, rfl, rfl, rfl, by omega, ho, HV⟩
        | succ g =>
          have hlt : (n : Int) < (s.size : Int) := by omega
          obtain ⟨d, u, hd, hdk, hu⟩ := consAt (show n < s.size by omega)
          have hfn := fl_succ n false s.data.toList hd
          have cm := HA.out.cell (i := n) (by rw [hdl.out]; omega)
          have e40 : ((d.toNat : Int) == 40) = (d == 40) := eqU d 40 (by decide)
          have e41 : ((d.toNat : Int) == 41) = (d == 41) := eqU d 41 (by decide)
          by_cases hend : d.toNat ≤ 32 ∨ d = 127
          · have HV : Hid (dst 0 false s.data.toList = if o = 0 then some n else none) := Lib.hid (by
              rw [HF.out, dst_over (by rw [hd]; intro c hc; rw [List.head?_cons, Option.mem_def, Option.some.injEq] at hc; rw [← hc]; exact hend)]
              split <;> simp)
            by_cases h32 : d.toNat ≤ 32
            · have h32' : ¬ (32 : Int) < (d.toNat : Int) := by omega
              clear hd hu hfn HF hend e40 e41
              go_wp2
              go_meet
              exact ⟨n, o, rfl, rfl, rfl, by omega, ho, HV⟩
            · have h32' : (32 : Int) < (d.toNat : Int) := by omega
              have h127 : ((d.toNat : Int) != 127) = false := by
                rw [bne, show ((d.toNat : Int) == 127) = (d == 127) from eqU d 127 (by decide), hend.resolve_left h32]; rfl
              clear hd hu hfn HF hend e40 e41 h32
              go_wp2
              go_meet
              exact ⟨n, o, rfl, rfl, rfl, by omega, ho, HV⟩
          · have h32' : (32 : Int) < (d.toNat : Int) := by omega
            have h127 : ((d.toNat : Int) != 127) = true := by
              rw [bne, show ((d.toNat : Int) == 127) = (d == 127) from eqU d 127 (by decide), beq_eq_false_iff_ne.2 (fun e => hend (.inr e))]; rfl
            have HS : Hid (dst 0 false s.data.toList = (if fl false s.data.toList n = false ∧ d = 40 then (if 32 ≤ o then none else (dst (o + 1) (fl false s.data.toList (n + 1)) (s.data.toList.drop (n + 1))).map (· + 1))
                else if fl false s.data.toList n = false ∧ d = 41 then (if o = 0 then some 0 else (dst (o - 1) (fl false s.data.toList (n + 1)) (s.data.toList.drop (n + 1))).map (· + 1))
                else (dst o (fl false s.data.toList (n + 1)) (s.data.toList.drop (n + 1))).map (· + 1)).map (· + n)) := Lib.hid (by
              rw [HF.out, hd, dst_cons, if_neg hend, hfn, hu])
            clear hd hu hfn HF hend
            generalize fl false s.data.toList n = x at *
            have HOth : Hid (¬ (x = false ∧ d = 40) → ¬ (x = false ∧ d = 41) → dst 0 false s.data.toList = (dst o (fl false s.data.toList (n + 1)) (s.data.toList.drop (n + 1))).map (· + (n + 1))) := Lib.hid (fun h1 h2 => by
              rw [HS.out, if_neg h1, if_neg h2, map_next])
            cases x with
            | true =>
              have HV := Lib.hid (HOth.out (by simp) (by simp))
              clear HS HOth
              generalize (d == 40) = z1 at *
              generalize (d == 41) = z2 at *
              cases z1 <;> cases z2 <;>
              · go_wp2
                go_roundg g
                case rel => exact ⟨n + 1, o, by omega, rfl, by go_num, rfl, ho, HV⟩
                case measure => omega
            | false =>
              by_cases h40 : d = 40
              · have hz1 : (d == 40) = true := by simpa using h40
                have hz2 : (d == 41) = false := by rw [h40]; rfl
                rw [hz1] at e40
                rw [hz2] at e41
                rw [if_pos ⟨rfl, h40⟩] at HS
                by_cases ho2 : 32 ≤ o
                · have ho3 : (32 : Int) < (o : Int) + 1 := by omega
                  have HV : Hid (r = ([], 0, false)) := Lib.hid (by rw [HP.out, HS.out, if_pos ho2]; rfl)
                  clear HS HOth h40
                  go_wp2
                  go_ret3
                  rw [HV.out]
                  exact ⟨rfl, HB.out⟩
                · have ho3 : ¬ (32 : Int) < (o : Int) + 1 := by omega
                  have HV : Hid (dst 0 false s.data.toList = (dst (o + 1) (fl false s.data.toList (n + 1)) (s.data.toList.drop (n + 1))).map (· + (n + 1))) := Lib.hid (by rw [HS.out, if_neg ho2, map_next])
                  clear HS HOth h40
                  go_wp2
                  go_roundg g
                  case rel => exact ⟨n + 1, o + 1, by omega, by go_num, by go_num, rfl, by omega, HV⟩
                  case measure => omega
              · have hz1 : (d == 40) = false := by simpa using h40
                rw [hz1] at e40
                by_cases h41 : d = 41
                · have hz2 : (d == 41) = true := by simpa using h41
                  rw [hz2] at e41
                  rw [if_neg (fun e => h40 e.2), if_pos ⟨rfl, h41⟩] at HS
                  by_cases ho2 : o = 0
                  · have HV : Hid (dst 0 false s.data.toList = if o = 0 then some n else none) := Lib.hid (by rw [HS.out, if_pos ho2, if_pos ho2]; simp)
                    subst ho2
                    clear HS HOth h40 h41
                    go_wp2
                    go_meet
                    exact ⟨n, 0, rfl, rfl, rfl, by omega, ho, HV⟩
                  · have ho3 : ((o : Int) == 0) = false := by simp; omega
                    have ho4 : (o : Int) - 1 = ((o - 1 : Nat) : Int) := by omega
                    have HV : Hid (dst 0 false s.data.toList = (dst (o - 1) (fl false s.data.toList (n + 1)) (s.data.toList.drop (n + 1))).map (· + (n + 1))) := Lib.hid (by rw [HS.out, if_neg ho2, map_next])
                    have HO4 := Lib.hid ho4
                    clear HS HOth h40 h41 ho4 ho2
                    go_wp2
                    go_roundg g
                    case rel => exact ⟨n + 1, o - 1, by omega, by rw [← HO4.out], by go_num, rfl, by omega, HV⟩
                    case measure => omega
                · have hz2 : (d == 41) = false := by simpa using h41
                  rw [hz2] at e41
                  have HV := Lib.hid (HOth.out (fun e => h40 e.2) (fun e => h41 e.2))
                  clear HS HOth h40 h41
                  go_wp2
                  go_roundg g
                  case rel => exact ⟨n + 1, o, by omega, rfl, by go_num, rfl, ho, HV⟩
                  case measure => omega
    case rest =>
      obtain ⟨n, o, rfl, rfl, rfl, hn, ho, HF⟩ := hcut
      clear HF0
      by_cases hn0 : n = 0
      · have HV : Hid (r = ([], 0, false)) := Lib.hid (by
          rw [HP.out, HF.out, hn0]
          by_cases ho0 : o = 0
          · rw [if_pos ho0]; rfl
          · rw [if_neg ho0])
        subst hn0
        go_wp2
        go_ret3
        rw [HV.out]
        exact ⟨rfl, HB.out⟩
      · have hnb : ((n : Int) == 0) = false := by simp; omega
        by_cases ho0 : o = 0
        · have HV : Hid (r = (une (s.data.toList.take n), n, true)) := Lib.hid (by
            rw [HP.out, HF.out, if_pos ho0]
            simp only [if_neg hn0])
          have hle : (n : Int) ≤ (s.size : Int) := by omega
          obtain ⟨I, hI⟩ : ∃ I, I = s.extract 0 n := ⟨_, rfl⟩
          have hIl : I.data.toList = s.data.toList.take n := by rw [hI, ext_toL]
          have HU1 := Lib.hid (fun W => HU.out I W (by rw [hI]; simp; omega))
          rw [hIl] at HU1
          have HI := Lib.hid hI
          subst ho0
          clear hI hIl hn0
          generalize une (s.data.toList.take n) = un at *
          unfold str at HU1
          go_wp2_with fail
          rw [← HI.out]
          refine (HU1.out _).mono ?_
          rintro e w2 ⟨rfl, hb2⟩
          go_wp2
          go_ret3
          rw [HV.out]
          exact ⟨ret3 rfl rfl rfl, HB.out.trans (hb2.mono HB.out.size)⟩
        · have HV : Hid (r = ([], 0, false)) := Lib.hid (by rw [HP.out, HF.out, if_neg ho0])
          have ho1 : (0 : Int) < (o : Int) := by omega
          clear hn0 ho0
          go_wp2
          go_ret3
          rw [HV.out]
          exact ⟨rfl, HB.out⟩
end Lk
end Go.Proofs.YtfabiidohdkkcaaGreatDoor

/- Walks of layer 9, the tenth part: the reference's Title and Tail. -/
namespace Go.Proofs.YtfabiidohdkkcaaGreatDoor
open Go Go.RowKit
namespace Lk
open Es
set_option maxRecDepth 100000
set_option linter.unusedVariables false
set_option linter.unusedSimpArgs false

set_option maxHeartbeats 8000000 in
theorem rtitle_any (s : ByteArray) (w : World) (hz : s.size ≤ 100000) :
    Calls Tryz.prog 53 #[.string s] w fun e w' => e = .returned (titV s.data.toList) ∧ Below w.heap.size w w' := by
  have hdl := Lib.hid (szL s)
  by_cases h0 : 0 < s.size
  · obtain ⟨c, t, hd, hck, _⟩ := consAt h0
    rw [List.drop_zero] at hd
    have he := empF h0
    have h01 : (0 : Int) < (s.size : Int) := by omega
    by_cases hc : c = 34 ∨ c = 39 ∨ c = 40
    · have HD := Lib.hid hd
      have HM := Lib.hid (marks_any s w (by omega))
      have HU := Lib.hid (fun (S : ByteArray) W (h : S.size ≤ 100000) => runescape_any S W h)
      have HG := Lib.hid (fun (S : ByteArray) W (h : S.size ≤ 100000) => rgap_any S W (by omega))
      have HP : Hid (titP s.data.toList = match titF c false t with
        | none => ([], 0)
        | some i => if gapP (t.take i) = true then ([], 0) else (une (t.take i), i + 2)) := Lib.hid (by rw [hd]; exact if_pos hc)
      have hc92 : c ≠ 92 := by rintro rfl; revert hc; decide
      have HF0 : Hid (titF c false t = (find no (fun d => c == 40 && d == 40) (· == endB c) (fl false s.data.toList 1) (s.data.toList.drop 1)).map (· + 0)) := Lib.hid (by
        rw [fl_succ 0 false s.data.toList (by rw [List.drop_zero]; exact hd), fl_zero, nf_other _ _ hc92, hd, map_zero]; rfl)
      unfold titV
      generalize titP s.data.toList = r at *
      clear hd
      rcases hc with rfl | rfl | rfl
      · simp only [show endB 34 = 34 from rfl, show ((34 : UInt8) == 40) = false from rfl, Bool.false_and] at HF0
        go_enter Tryz.func53, Tryz.ntmps53
        go_wp2_with fail
        refine HM.out.mono ?_
        rintro e w1 ⟨rfl, hm1, hb1⟩
        have HA := Lib.hid hm1
        have HB := Lib.hid hb1
        clear hm1 hb1 HM
        go_wp2_with fail
        have HFx : Hid (titF 34 false t = (find no (fun _ => false) (· == 34) (fl false s.data.toList 1) (s.data.toList.drop 1)).map (· + 0)) := HF0
        go_loopg [6] (s.size - 1) (fun g s6 wr => ∃ j : Nat, j + 1 + g = s.size ∧ s6 = .int .i64 ((j : Int) + 1) ∧ w1 = wr ∧ Hid (titF 34 false t = (find no (fun _ => false) (· == 34) (fl false s.data.toList (j + 1)) (s.data.toList.drop (j + 1))).map (· + j)))
        case atStart => exact ⟨0, by omega, by go_num, rfl, HFx⟩
        case round =>
          obtain ⟨j, hjg, rfl, rfl, HF⟩ := hrel
          clear HF0 HFx
          cases gk with
          | zero =>
            have hlt : ¬ (j : Int) + 1 < (s.size : Int) := by omega
            have HV : Hid (r = ([], 0)) := Lib.hid (by
              rw [HP.out, HF.out, List.drop_eq_nil_of_le (by rw [hdl.out]; omega), find_nil]; rfl)
            go_wp2
            go_ret2
            rw [HV.out]
            exact ⟨rfl, HB.out⟩
          | succ g =>
            have hlt : (j : Int) + 1 < (s.size : Int) := by omega
            obtain ⟨d, u, hd, hdk, hu⟩ := consAt (show j + 1 < s.size by omega)
            have hfn := fl_succ (j + 1) false s.data.toList hd
            have cm := HA.out.cell (i := j + 1) (by rw [hdl.out]; omega)
            have eE : ((d.toNat : Int) == 34) = (d == 34) := eqU d 34 (by decide)
            have e40 : ((d.toNat : Int) == 40) = (d == 40) := eqU d 40 (by decide)
            have HF1 : Hid (titF 34 false t = (find no (fun _ => false) (· == 34) (fl false s.data.toList (j + 1)) (d :: u)).map (· + j)) := Lib.hid (by rw [← hd]; exact HF.out)
            have HN : Hid (¬ (no d = true ∨ (fl false s.data.toList (j + 1) = false ∧ (fun _ => false) d = true)) → ¬ (fl false s.data.toList (j + 1) = false ∧ (d == 34) = true) → titF 34 false t = (find no (fun _ => false) (· == 34) (fl false s.data.toList (j + 1 + 1)) (s.data.toList.drop (j + 1 + 1))).map (· + (j + 1))) := Lib.hid (fun h1 h2 => by
              rw [HF1.out, find_next (H := no) (B := (fun _ => false)) (S := (· == 34)) h1 h2, hfn, hu])
            have HBad : Hid ((no d = true ∨ (fl false s.data.toList (j + 1) = false ∧ (fun _ => false) d = true)) → r = ([], 0)) := Lib.hid (fun h => by
              rw [HP.out, HF1.out, find_bad (H := no) (B := (fun _ => false)) (S := (· == 34)) h])
            have HHit : Hid (¬ (no d = true ∨ (fl false s.data.toList (j + 1) = false ∧ (fun _ => false) d = true)) → (fl false s.data.toList (j + 1) = false ∧ (d == 34) = true) → r = if gapP (t.take j) = true then ([], 0) else (une (t.take j), j + 2)) := Lib.hid (fun h1 h2 => by
              rw [HP.out, HF1.out, find_hit (H := no) (B := (fun _ => false)) (S := (· == 34)) h1 h2])
            clear hd hu hfn HF HF1
            generalize fl false s.data.toList (j + 1) = x at *
            cases x with
            | true =>
              have HV := Lib.hid (HN.out (by simp [no]) (by simp))
              clear HN HBad HHit
              go_wp2
              go_roundg g
              case rel => exact ⟨j + 1, by omega, by go_num, rfl, HV⟩
              case measure => omega
            | false =>
              by_cases hE : d = 34
              · have hEb : (d == 34) = true := by simpa using hE
                rw [hEb] at eE
                have HV := Lib.hid (HHit.out (by rw [hE]; simp [no]) ⟨rfl, hEb⟩)
                obtain ⟨I, hI⟩ : ∃ I, I = s.extract 1 (j + 1) := ⟨_, rfl⟩
                have hIl : I.data.toList = t.take j := by rw [hI]; exact extract_one HD.out j
                have hIs : I.size ≤ 100000 := by rw [hI]; simp; omega
                have HG1 := Lib.hid (fun W => HG.out I W hIs)
                have HU1 := Lib.hid (fun W => HU.out I W hIs)
                rw [hIl] at HG1 HU1
                have HI := Lib.hid hI
                have b1 : (1 : Int) ≤ (j : Int) + 1 := by omega
                have b2 : (j : Int) + 1 ≤ (s.size : Int) := by omega
                clear HN HBad HHit hI hIl hE
                generalize une (t.take j) = un at *
                unfold str at HU1
                generalize gapP (t.take j) = y at *
                cases y with
                | true =>
                  rw [if_pos rfl] at HV
                  go_wp2_with fail
                  rw [← HI.out]
                  refine (HG1.out _).mono ?_
                  rintro e w2 ⟨rfl, rfl⟩
                  go_wp2
                  go_ret2
                  rw [HV.out]
                  exact ⟨rfl, HB.out⟩
                | false =>
                  rw [if_neg (by simp)] at HV
                  go_wp2_with fail
                  rw [← HI.out]
                  refine (HG1.out _).mono ?_
                  rintro e w2 ⟨rfl, rfl⟩
                  go_wp2_with fail
                  rw [← HI.out]
                  refine (HU1.out _).mono ?_
                  rintro e w3 ⟨rfl, hb3⟩
                  go_wp2
                  go_ret2
                  rw [HV.out]
                  exact ⟨ret2 rfl (by first | rfl | omega), HB.out.trans (hb3.mono HB.out.size)⟩
              · have hEb : (d == 34) = false := by simpa using hE
                rw [hEb] at eE
                have HV := Lib.hid (HN.out (by simp [no]) (by rw [hEb]; simp))
                clear HN HBad HHit hE
                go_wp2
                go_roundg g
                case rel => exact ⟨j + 1, by omega, by go_num, rfl, HV⟩
                case measure => omega
      · simp only [show endB 39 = 39 from rfl, show ((39 : UInt8) == 40) = false from rfl, Bool.false_and] at HF0
        go_enter Tryz.func53, Tryz.ntmps53
        go_wp2_with fail
        refine HM.out.mono ?_
        rintro e w1 ⟨rfl, hm1, hb1⟩
        have HA := Lib.hid hm1
        have HB := Lib.hid hb1
        clear hm1 hb1 HM
        go_wp2_with fail
        have HFx : Hid (titF 39 false t = (find no (fun _ => false) (· == 39) (fl false s.data.toList 1) (s.data.toList.drop 1)).map (· + 0)) := HF0
        go_loopg [6] (s.size - 1) (fun g s6 wr => ∃ j : Nat, j + 1 + g = s.size ∧ s6 = .int .i64 ((j : Int) + 1) ∧ w1 = wr ∧ Hid (titF 39 false t = (find no (fun _ => false) (· == 39) (fl false s.data.toList (j + 1)) (s.data.toList.drop (j + 1))).map (· + j)))
        case atStart => exact ⟨0, by omega, by go_num, rfl, HFx⟩
        case round =>
          obtain ⟨j, hjg, rfl, rfl, HF⟩ := hrel
          clear HF0 HFx
          cases gk with
          | zero =>
            have hlt : ¬ (j : Int) + 1 < (s.size : Int) := by omega
            have HV : Hid (r = ([], 0)) := Lib.hid (by
              rw [HP.out, HF.out, List.drop_eq_nil_of_le (by rw [hdl.out]; omega), find_nil]; rfl)
            go_wp2
            go_ret2
            rw [HV.out]
            exact ⟨rfl, HB.out⟩
          | succ g =>
            have hlt : (j : Int) + 1 < (s.size : Int) := by omega
            obtain ⟨d, u, hd, hdk, hu⟩ := consAt (show j + 1 < s.size by omega)
            have hfn := fl_succ (j + 1) false s.data.toList hd
            have cm := HA.out.cell (i := j + 1) (by rw [hdl.out]; omega)
            have eE : ((d.toNat : Int) == 39) = (d == 39) := eqU d 39 (by decide)
            have e40 : ((d.toNat : Int) == 40) = (d == 40) := eqU d 40 (by decide)
            have HF1 : Hid (titF 39 false t = (find no (fun _ => false) (· == 39) (fl false s.data.toList (j + 1)) (d :: u)).map (· + j)) := Lib.hid (by rw [← hd]; exact HF.out)
            have HN : Hid (¬ (no d = true ∨ (fl false s.data.toList (j + 1) = false ∧ (fun _ => false) d = true)) → ¬ (fl false s.data.toList (j + 1) = false ∧ (d == 39) = true) → titF 39 false t = (find no (fun _ => false) (· == 39) (fl false s.data.toList (j + 1 + 1)) (s.data.toList.drop (j + 1 + 1))).map (· + (j + 1))) := Lib.hid (fun h1 h2 => by
              rw [HF1.out, find_next (H := no) (B := (fun _ => false)) (S := (· == 39)) h1 h2, hfn, hu])
            have HBad : Hid ((no d = true ∨ (fl false s.data.toList (j + 1) = false ∧ (fun _ => false) d = true)) → r = ([], 0)) := Lib.hid (fun h => by
              rw [HP.out, HF1.out, find_bad (H := no) (B := (fun _ => false)) (S := (· == 39)) h])
            have HHit : Hid (¬ (no d = true ∨ (fl false s.data.toList (j + 1) = false ∧ (fun _ => false) d = true)) → (fl false s.data.toList (j + 1) = false ∧ (d == 39) = true) → r = if gapP (t.take j) = true then ([], 0) else (une (t.take j), j + 2)) := Lib.hid (fun h1 h2 => by
              rw [HP.out, HF1.out, find_hit (H := no) (B := (fun _ => false)) (S := (· == 39)) h1 h2])
            clear hd hu hfn HF HF1
            generalize fl false s.data.toList (j + 1) = x at *
            cases x with
            | true =>
              have HV := Lib.hid (HN.out (by simp [no]) (by simp))
              clear HN HBad HHit
              go_wp2
              go_roundg g
              case rel => exact ⟨j + 1, by omega, by go_num, rfl, HV⟩
              case measure => omega
            | false =>
              by_cases hE : d = 39
              · have hEb : (d == 39) = true := by simpa using hE
                rw [hEb] at eE
                have HV := Lib.hid (HHit.out (by rw [hE]; simp [no]) ⟨rfl, hEb⟩)
                obtain ⟨I, hI⟩ : ∃ I, I = s.extract 1 (j + 1) := ⟨_, rfl⟩
                have hIl : I.data.toList = t.take j := by rw [hI]; exact extract_one HD.out j
                have hIs : I.size ≤ 100000 := by rw [hI]; simp; omega
                have HG1 := Lib.hid (fun W => HG.out I W hIs)
                have HU1 := Lib.hid (fun W => HU.out I W hIs)
                rw [hIl] at HG1 HU1
                have HI := Lib.hid hI
                have b1 : (1 : Int) ≤ (j : Int) + 1 := by omega
                have b2 : (j : Int) + 1 ≤ (s.size : Int) := by omega
                clear HN HBad HHit hI hIl hE
                generalize une (t.take j) = un at *
                unfold str at HU1
                generalize gapP (t.take j) = y at *
                cases y with
                | true =>
                  rw [if_pos rfl] at HV
                  go_wp2_with fail
                  rw [← HI.out]
                  refine (HG1.out _).mono ?_
                  rintro e w2 ⟨rfl, rfl⟩
                  go_wp2
                  go_ret2
                  rw [HV.out]
                  exact ⟨rfl, HB.out⟩
                | false =>
                  rw [if_neg (by simp)] at HV
                  go_wp2_with fail
                  rw [← HI.out]
                  refine (HG1.out _).mono ?_
                  rintro e w2 ⟨rfl, rfl⟩
                  go_wp2_with fail
                  rw [← HI.out]
                  refine (HU1.out _).mono ?_
                  rintro e w3 ⟨rfl, hb3⟩
                  go_wp2
                  go_ret2
                  rw [HV.out]
                  exact ⟨ret2 rfl (by first | rfl | omega), HB.out.trans (hb3.mono HB.out.size)⟩
              · have hEb : (d == 39) = false := by simpa using hE
                rw [hEb] at eE
                have HV := Lib.hid (HN.out (by simp [no]) (by rw [hEb]; simp))
                clear HN HBad HHit hE
                go_wp2
                go_roundg g
                case rel => exact ⟨j + 1, by omega, by go_num, rfl, HV⟩
                case measure => omega
      · simp only [show endB 40 = 41 from rfl, show ((40 : UInt8) == 40) = true from rfl, Bool.true_and] at HF0
        go_enter Tryz.func53, Tryz.ntmps53
        go_wp2_with fail
        refine HM.out.mono ?_
        rintro e w1 ⟨rfl, hm1, hb1⟩
        have HA := Lib.hid hm1
        have HB := Lib.hid hb1
        clear hm1 hb1 HM
        go_wp2_with fail
        have HFx : Hid (titF 40 false t = (find no (fun d => d == 40) (· == 41) (fl false s.data.toList 1) (s.data.toList.drop 1)).map (· + 0)) := HF0
        go_loopg [6] (s.size - 1) (fun g s6 wr => ∃ j : Nat, j + 1 + g = s.size ∧ s6 = .int .i64 ((j : Int) + 1) ∧ w1 = wr ∧ Hid (titF 40 false t = (find no (fun d => d == 40) (· == 41) (fl false s.data.toList (j + 1)) (s.data.toList.drop (j + 1))).map (· + j)))
        case atStart => exact ⟨0, by omega, by go_num, rfl, HFx⟩
        case round =>
          obtain ⟨j, hjg, rfl, rfl, HF⟩ := hrel
          clear HF0 HFx
          cases gk with
          | zero =>
            have hlt : ¬ (j : Int) + 1 < (s.size : Int) := by omega
            have HV : Hid (r = ([], 0)) := Lib.hid (by
              rw [HP.out, HF.out, List.drop_eq_nil_of_le (by rw [hdl.out]; omega), find_nil]; rfl)
            go_wp2
            go_ret2
            rw [HV.out]
            exact ⟨rfl, HB.out⟩
          | succ g =>
            have hlt : (j : Int) + 1 < (s.size : Int) := by omega
            obtain ⟨d, u, hd, hdk, hu⟩ := consAt (show j + 1 < s.size by omega)
            have hfn := fl_succ (j + 1) false s.data.toList hd
            have cm := HA.out.cell (i := j + 1) (by rw [hdl.out]; omega)
            have eE : ((d.toNat : Int) == 41) = (d == 41) := eqU d 41 (by decide)
            have e40 : ((d.toNat : Int) == 40) = (d == 40) := eqU d 40 (by decide)
            have HF1 : Hid (titF 40 false t = (find no (fun d => d == 40) (· == 41) (fl false s.data.toList (j + 1)) (d :: u)).map (· + j)) := Lib.hid (by rw [← hd]; exact HF.out)
            have HN : Hid (¬ (no d = true ∨ (fl false s.data.toList (j + 1) = false ∧ (fun d => d == 40) d = true)) → ¬ (fl false s.data.toList (j + 1) = false ∧ (d == 41) = true) → titF 40 false t = (find no (fun d => d == 40) (· == 41) (fl false s.data.toList (j + 1 + 1)) (s.data.toList.drop (j + 1 + 1))).map (· + (j + 1))) := Lib.hid (fun h1 h2 => by
              rw [HF1.out, find_next (H := no) (B := (fun d => d == 40)) (S := (· == 41)) h1 h2, hfn, hu])
            have HBad : Hid ((no d = true ∨ (fl false s.data.toList (j + 1) = false ∧ (fun d => d == 40) d = true)) → r = ([], 0)) := Lib.hid (fun h => by
              rw [HP.out, HF1.out, find_bad (H := no) (B := (fun d => d == 40)) (S := (· == 41)) h])
            have HHit : Hid (¬ (no d = true ∨ (fl false s.data.toList (j + 1) = false ∧ (fun d => d == 40) d = true)) → (fl false s.data.toList (j + 1) = false ∧ (d == 41) = true) → r = if gapP (t.take j) = true then ([], 0) else (une (t.take j), j + 2)) := Lib.hid (fun h1 h2 => by
              rw [HP.out, HF1.out, find_hit (H := no) (B := (fun d => d == 40)) (S := (· == 41)) h1 h2])
            clear hd hu hfn HF HF1
            generalize fl false s.data.toList (j + 1) = x at *
            cases x with
            | true =>
              have HV := Lib.hid (HN.out (by simp [no]) (by simp))
              clear HN HBad HHit
              go_wp2
              go_roundg g
              case rel => exact ⟨j + 1, by omega, by go_num, rfl, HV⟩
              case measure => omega
            | false =>
              by_cases hE : d = 41
              · have hEb : (d == 41) = true := by simpa using hE
                rw [hEb] at eE
                have HV := Lib.hid (HHit.out (by rw [hE]; simp [no]) ⟨rfl, hEb⟩)
                obtain ⟨I, hI⟩ : ∃ I, I = s.extract 1 (j + 1) := ⟨_, rfl⟩
                have hIl : I.data.toList = t.take j := by rw [hI]; exact extract_one HD.out j
                have hIs : I.size ≤ 100000 := by rw [hI]; simp; omega
                have HG1 := Lib.hid (fun W => HG.out I W hIs)
                have HU1 := Lib.hid (fun W => HU.out I W hIs)
                rw [hIl] at HG1 HU1
                have HI := Lib.hid hI
                have b1 : (1 : Int) ≤ (j : Int) + 1 := by omega
                have b2 : (j : Int) + 1 ≤ (s.size : Int) := by omega
                clear HN HBad HHit hI hIl hE
                generalize une (t.take j) = un at *
                unfold str at HU1
                generalize gapP (t.take j) = y at *
                cases y with
                | true =>
                  rw [if_pos rfl] at HV
                  go_wp2_with fail
                  rw [← HI.out]
                  refine (HG1.out _).mono ?_
                  rintro e w2 ⟨rfl, rfl⟩
                  go_wp2
                  go_ret2
                  rw [HV.out]
                  exact ⟨rfl, HB.out⟩
                | false =>
                  rw [if_neg (by simp)] at HV
                  go_wp2_with fail
                  rw [← HI.out]
                  refine (HG1.out _).mono ?_
                  rintro e w2 ⟨rfl, rfl⟩
                  go_wp2_with fail
                  rw [← HI.out]
                  refine (HU1.out _).mono ?_
                  rintro e w3 ⟨rfl, hb3⟩
                  go_wp2
                  go_ret2
                  rw [HV.out]
                  exact ⟨ret2 rfl (by first | rfl | omega), HB.out.trans (hb3.mono HB.out.size)⟩
              · have hEb : (d == 41) = false := by simpa using hE
                rw [hEb] at eE
                by_cases h40 : d = 40
                · have hz : (d == 40) = true := by simpa using h40
                  rw [hz] at e40
                  have HV := Lib.hid (HBad.out (.inr ⟨rfl, hz⟩))
                  clear HN HBad HHit hE h40
                  go_wp2
                  go_ret2
                  rw [HV.out]
                  exact ⟨rfl, HB.out⟩
                · have hz : (d == 40) = false := by simpa using h40
                  rw [hz] at e40
                  have HV := Lib.hid (HN.out (by simp [no, h40]) (by rw [hEb]; simp))
                  clear HN HBad HHit hE h40
                  go_wp2
                  go_roundg g
                  case rel => exact ⟨j + 1, by omega, by go_num, rfl, HV⟩
                  case measure => omega
    · have n34 : ((c.toNat : Int) != 34) = true := by
        rw [bne, show ((c.toNat : Int) == 34) = (c == 34) from eqU c 34 (by decide), beq_eq_false_iff_ne.2 (fun e => hc (.inl e))]; rfl
      have n39 : ((c.toNat : Int) != 39) = true := by
        rw [bne, show ((c.toNat : Int) == 39) = (c == 39) from eqU c 39 (by decide), beq_eq_false_iff_ne.2 (fun e => hc (.inr (.inl e)))]; rfl
      have n40 : ((c.toNat : Int) != 40) = true := by
        rw [bne, show ((c.toNat : Int) == 40) = (c == 40) from eqU c 40 (by decide), beq_eq_false_iff_ne.2 (fun e => hc (.inr (.inr e)))]; rfl
      have HV : Hid (titP s.data.toList = ([], 0)) := Lib.hid (by rw [hd]; exact if_neg hc)
      unfold titV
      rw [HV.out]
      clear hd hc HV
      go_enter Tryz.func53, Tryz.ntmps53
      go_wp2
      go_ret2
      exact ⟨rfl, Below.refl _ _⟩
  · have hs : s = ⟨#[]⟩ := ba_eqL (l := []) (List.length_eq_zero_iff.1 (by rw [szL]; omega))
    subst hs
    clear h0
    unfold titV
    rw [show titP (⟨#[]⟩ : ByteArray).data.toList = ([], 0) from rfl]
    go_enter Tryz.func53, Tryz.ntmps53
    go_wp2
    go_ret2
    exact ⟨rfl, Below.refl _ _⟩

theorem behind_one {t : List UInt8} {n p g : Nat} (hn : 0 < n) (hg : whN (t.drop p) = g) (h0 : 0 < g) (hT : (titP (t.drop (p + g))).2 = 0) : behind t n p = ([], p) := by
  unfold behind
  simp only [hg]
  rw [if_neg (by omega)]
theorem behind_two {t : List UInt8} {n p g : Nat} (hn : 0 < n) (hg : whN (t.drop p) = g) (h0 : 0 < g) (hT : 0 < (titP (t.drop (p + g))).2) : behind t n p = ((titP (t.drop (p + g))).1, p + g + (titP (t.drop (p + g))).2) := by
  unfold behind
  simp only [hg]
  rw [if_pos ⟨hn, h0, hT⟩]
theorem behind_white {t : List UInt8} {n p : Nat} (hg : whN (t.drop p) = 0) : behind t n p = ([], p) := by
  unfold behind
  simp only [hg]
  rw [if_neg (by omega)]

end Lk
end Go.Proofs.YtfabiidohdkkcaaGreatDoor
