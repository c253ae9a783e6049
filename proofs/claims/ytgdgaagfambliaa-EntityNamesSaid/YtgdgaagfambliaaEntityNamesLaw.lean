/- EntityNames: the law's walk. -/
import Derived.Test.YtgdgaagfambliaaEntM
import Derived.Laws.Cover1
namespace Go.Proofs.Ytgdgaagfambliaa
open Go Go.RowKit
namespace EntityNames
open En
set_option maxRecDepth 100000
set_option linter.unusedVariables false
set_option linter.unusedSimpArgs false

theorem namedV_form (l : List UInt8) : ∃ (b : ByteArray) (t : Bool), namedV l = .tuple #[.string b, .bool t] := by
  unfold namedV
  cases namedF rowsT l with
  | none => exact ⟨_, _, rfl⟩
  | some c => exact ⟨_, _, rfl⟩
theorem fromW_names (w W : World) (hb : Below w.heap.size w W) : Calls Try.prog 15 #[] W fun e w' => NamesV w' e ∧ Below w.heap.size w w' :=
  (names_any W).mono fun e w' ⟨h1, h2⟩ => ⟨h1, hb.trans (h2.mono hb.size)⟩

set_option maxHeartbeats 4000000 in
theorem law_any (s : ByteArray) (k : Int) (w : World) (hs : s.size ≤ maxLen) :
    Calls Try.prog 4 #[.string s, .int .i64 k] w fun e w' => e = .returned (.bool true) ∧ Below w.heap.size w w' := by
  unfold maxLen at hs
  have HA := Lib.hid (frm_awake w)
  have hb0 := Below.refl w.heap.size w
  by_cases hbig : 500 < s.size
  · have hb' : (500 : Int) < (s.size : Int) := by omega
    go_enter Try.func4, Try.ntmps4
    go_wp2_with fail
    refine (HA.out _ hb0).mono ?_
    rintro e w1 ⟨rfl, hb1⟩
    go_wp2
    go_ret
    exact ⟨rfl, hb1⟩
  have hb' : (s.size : Int) ≤ 500 := by omega
  have hbk := bits_and k 65535 (by decide)
  rw [show ((65535 : Nat) : Int) = 65535 from rfl] at hbk
  have hq := msk_le k 65535 (by decide)
  generalize msk k 65535 = q at *
  obtain ⟨j, hj⟩ : ∃ j, q % 183 = j := ⟨_, rfl⟩
  have hjl : j < 183 := by omega
  have hqj : (q : Int) % 183 = (j : Int) := by omega
  have hq0 : (q : Int) ≤ 65535 := by omega
  have HJ := Lib.hid hjl
  have hjl2 : (j : Int) < 183 := by omega
  clear hj hq hbig
  go_enter Try.func4, Try.ntmps4
  go_wp2_with fail
  refine (HA.out _ hb0).mono ?_
  rintro e w1 ⟨rfl, hb1⟩
  go_wp2_with fail
  refine (rtab_any w1).mono ?_
  rintro e w2 ⟨hv, hb2'⟩
  obtain ⟨g, rfl, HT, hg⟩ := hv
  have hb2 := hb1.trans (hb2'.mono hb1.size)
  obtain ⟨hc1, hc2⟩ := HT j HJ.out
  have HTT := Lib.hid HT
  clear HT hb2'
  go_upto_region 6 with fail
  have HR3 : Hid (RowAt (w2.alloc (.cells #[.string ⟨(rw j).1.toArray⟩, .int .i32 (rw j).2] 29)) w2.heap.size j) := Lib.hid ⟨by rw [World.cell?_alloc_new]; rfl, by rw [World.cell?_alloc_new]; rfl⟩
  have HT3 : Hid (TabAt (w2.alloc (.cells #[.string ⟨(rw j).1.toArray⟩, .int .i32 (rw j).2] 29)) g) := Lib.hid (HTT.out.below hg ((Below.refl _ w2).alloc (Nat.le_refl _) _))
  have HB3 := Lib.hid (hb2.alloc hb2.size (.cells #[.string ⟨(rw j).1.toArray⟩, .int .i32 (rw j).2] 29))
  clear hc1 hc2 hb0 hb1 hb2 hg HA hbk hqj HTT
  generalize w2.alloc (.cells #[.string ⟨(rw j).1.toArray⟩, .int .i32 (rw j).2] 29) = w3 at *
  generalize w2.heap.size = h at *
  have HL := Lib.hid HR3.out.lt
  have HG := Lib.hid HT3.out.lt
  obtain ⟨b, t, hv⟩ := namedV_form s.data.toList
  have H1 := Lib.hid (frm_named w3 (s := s) rfl)
  have H2 := Lib.hid (frm_rnamed w3 (s := s) rfl)
  have H3 := Lib.hid (frm_named w3 (s := ⟨(rw j).1.toArray⟩) (l := (rw j).1) rfl)
  rw [namedV_some (namedF_row HJ.out)] at H3
  rw [hv] at H1 H2
  clear hv
  have hb0 := Below.refl w3.heap.size w3
  go_wp2_with fail
  refine (H1.out _ hb0).mono ?_
  rintro e w4 ⟨rfl, hb4⟩
  go_wp2_with fail
  refine (H2.out _ hb4).mono ?_
  rintro e w5 ⟨rfl, hb5⟩
  have hc0 := (hb5.cell (p := ⟨h, 0, none⟩) HL.out).trans HR3.out.1
  clear hb0 hb4
  go_wp2_with fail
  refine (H3.out _ hb5).mono ?_
  rintro e w6 ⟨rfl, hb6⟩
  clear hc0 hb5
  go_wp2_with fail
  refine (fromW_names w3 _ hb6).mono ?_
  rintro e w7 ⟨hN, hb7⟩
  obtain ⟨f, rfl, hN⟩ := hN
  have HN := Lib.hid hN
  have HF := Lib.hid (cell_lt (hN 0 (by decide)))
  have HB7 := Lib.hid hb7
  clear hN hb6 hb7 H1 H2 H3
  go_wp2
  go_loopw [15] (fun v15 wr => ∃ i : Nat, i ≤ 183 ∧ v15 = .int .i64 (i : Int) ∧ Hid (Below w7.heap.size w7 wr)) (fun v15 _ => 183 - (intOf v15).toNat)
  case atStart => exact ⟨0, by decide, rfl, Lib.hid (Below.refl _ w7)⟩
  case round =>
    obtain ⟨i, hi, rfl, HW⟩ := hrel
    have HB := Lib.hid (HB7.out.trans (HW.out.mono HB7.out.size))
    by_cases hlt : i < 183
    · have hlt' : (i : Int) < 183 := by omega
      obtain ⟨ht0, _⟩ := HT3.out.below HG.out HB.out i hlt
      have hl0 := (HW.out.cell (p := ⟨f, i, none⟩) HF.out).trans (HN.out i hlt)
      by_cases hi0 : 0 < i
      · have hl1 := (HW.out.cell (p := ⟨f, i - 1, none⟩) HF.out).trans (HN.out (i - 1) (by omega))
        have hless := less_at hi0 hlt
        have hi0' : (0 : Int) < (i : Int) := by omega
        have hi1 : IntKind.i64.wrap ((i : Int) - 1) = (i : Int) - 1 := IntWalk.i64_in _ (by omega)
        have hi2 : 0 ≤ (i : Int) - 1 := by omega
        have hi3 : ((i : Int) - 1).toNat = i - 1 := by omega
        have hi4 : (i : Int) - 1 < 183 := by omega
        go_wp2_with fail
        go_quiet (fail)
        clear hi1 hi3
        go_wp2
        go_roundw
        case rel => exact ⟨i + 1, by omega, by go_num, Lib.hid (En.below_drewN HW.out _)⟩
        case measure => simp [intOf]; omega
      · have hi0' : ¬ (0 : Int) < (i : Int) := by omega
        have hi1 : decide ((0 : Int) < (i : Int)) = false := decide_eq_false hi0'
        go_wp2_with fail
        go_quiet (fail)
        go_wp2
        go_roundw
        case rel => exact ⟨i + 1, by omega, by go_num, Lib.hid (En.below_drewN HW.out _)⟩
        case measure => simp [intOf]; omega
    · obtain rfl : i = 183 := by omega
      have hc1 := (HB.out.cell (p := ⟨h, 1, none⟩) HL.out).trans HR3.out.2
      have HE := Lib.hid (HB3.out.trans (HB.out.mono HB3.out.size))
      go_wp2
      go_ret
      exact ⟨rfl, HE.out⟩
end EntityNames
end Go.Proofs.Ytgdgaagfambliaa
