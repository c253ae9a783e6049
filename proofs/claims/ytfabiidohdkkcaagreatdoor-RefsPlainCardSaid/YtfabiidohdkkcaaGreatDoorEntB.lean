/- Walks of layer 4, the second part: the table looked up by halves. -/
import Derived.Test.YtfabiidohdkkcaaGreatDoorEntA
import Derived.Test.YtfabiidohdkkcaaGreatDoorEntTab2
import Derived.LoopTactic
namespace Go.Proofs.YtfabiidohdkkcaaGreatDoor
open Go Go.RowKit
namespace En
set_option maxRecDepth 100000
set_option linter.unusedVariables false
set_option linter.unusedSimpArgs false

theorem byName_any (a b : ByteArray) (c : Int) (w : World) :
    Calls Tryz.prog 136 #[.agg #[.string a, .int .i32 c], .string b] w fun e w' => e = .returned (.int .i64 (cb a.data.toList b.data.toList)) ∧ Below w.heap.size w w' := by
  have HC := Lib.hid (fun w => Tryz.strings_Compare a b w)
  go_enter Tryz.func136, Tryz.ntmps136
  go_wp2_with (go_at_call 138; refine (HC.out _).mono ?_; rintro e w' ⟨rfl, rfl⟩)
  go_ret
  exact ⟨rfl, (Below.refl _ w).alloc (Nat.le_refl _) _⟩

/-- A table in memory, two cells a row. -/
def TabAt (w : World) (g : Nat) : Prop := ∀ k, k < 183 → w.cell? ⟨g, k * 2, none⟩ = some (.string ⟨(rw k).1.toArray⟩) ∧ w.cell? ⟨g, k * 2 + 1, none⟩ = some (.int .i32 (rw k).2)
theorem cell_lt {w : World} {b o : Nat} {x : Value} (h : w.cell? ⟨b, o, none⟩ = some x) : b < w.heap.size := by
  rcases Nat.lt_or_ge b w.heap.size with h' | h'
  · exact h'
  · simp [World.cell?, Array.getElem?_eq_none h'] at h
theorem TabAt.lt {w : World} {g : Nat} (h : TabAt w g) : g < w.heap.size := cell_lt (h 0 (by decide)).1
theorem TabAt.below {w w' : World} {g B : Nat} (h : TabAt w g) (hg : g < B) (hB : Below B w w') : TabAt w' g := by
  intro k hk
  obtain ⟨h1, h2⟩ := h k hk
  exact ⟨(hB.cell (p := ⟨g, k * 2, none⟩) hg).trans h1, (hB.cell (p := ⟨g, k * 2 + 1, none⟩) hg).trans h2⟩

theorem flat_at : ∀ (T : List (List UInt8 × Int)) (k : Nat) (e : List UInt8 × Int), T[k]? = some e →
    (T.flatMap fun e => [str e.1, Value.int .i32 e.2])[k * 2]? = some (str e.1) ∧ (T.flatMap fun e => [str e.1, Value.int .i32 e.2])[k * 2 + 1]? = some (.int .i32 e.2)
  | [], k, e, h => by simp at h
  | x :: t, 0, e, h => by simp at h; subst h; exact ⟨rfl, rfl⟩
  | x :: t, k + 1, e, h => by
    have := flat_at t k e (by simpa using h)
    rw [show (k + 1) * 2 = k * 2 + 1 + 1 from by omega]
    simpa using this
theorem tab_new (w : World) (t : TypeId) : TabAt (w.alloc (.cells cellsT t)) w.heap.size := by
  intro k hk
  obtain ⟨h1, h2⟩ := flat_at rowsT k (rw k) (rw_some hk)
  rw [World.cell?_alloc_new, World.cell?_alloc_new]
  unfold cellsT
  unfold str at h1
  exact ⟨by simpa [str] using h1, by simpa [str] using h2⟩

/-- What the search answers: the place, and whether the name stands there. -/
def FoundAt (l : List UInt8) (i : Nat) (b : Bool) : Prop := i ≤ 183 ∧ (b = true → i < 183 ∧ namedF rowsT l = some (rw i).2) ∧ (b = false → namedF rowsT l = none)

def Found (l : List UInt8) (e : Ending) : Prop := ∃ (i : Nat) (b : Bool), FoundAt l i b ∧ e = .returned (.tuple #[.int .i64 (i : Int), .bool b])
theorem found_mk {l : List UInt8} {i : Nat} {b : Bool} (h : FoundAt l i b) : Found l (.returned (.tuple #[.int .i64 (i : Int), .bool b])) := ⟨i, b, h, rfl⟩
theorem at_yes {l : List UInt8} {i : Nat} (h : i < 183) (hn : namedF rowsT l = some (rw i).2) : FoundAt l i true := ⟨by omega, fun _ => ⟨h, hn⟩, fun h => (by cases h)⟩
theorem at_no {l : List UInt8} {i : Nat} (h : i ≤ 183) (hn : namedF rowsT l = none) : FoundAt l i false := ⟨h, fun h => (by cases h), fun _ => hn⟩

set_option maxHeartbeats 2000000 in
theorem search_any (s : ByteArray) (g cap : Nat) (w : World) (hT : TabAt w g) :
    Calls Tryz.prog 135 #[.slice (some ⟨g, 0, none⟩) 183 cap, .string s, .func (.func 136) #[] #[]] w fun e w' =>
      Found s.data.toList e ∧ Below w.heap.size w w' := by
  have HT := Lib.hid hT
  have HG := Lib.hid hT.lt
  clear hT
  go_enter Tryz.func135, Tryz.ntmps135
  go_wp2
  go_loopw [9, 10] (fun v9 v10 wr => ∃ i j : Nat, i ≤ j ∧ j ≤ 183 ∧ v9 = .int .i64 (i : Int) ∧ v10 = .int .i64 (j : Int) ∧ Hid (BS s.data.toList i j) ∧ Hid (Below w.heap.size w wr)) (fun v9 v10 _ => (intOf v10).toNat - (intOf v9).toNat)
  case atStart => exact ⟨0, 183, by decide, by decide, rfl, rfl, Lib.hid (bs_start _), Lib.hid (Below.refl _ _)⟩
  case round =>
    obtain ⟨i, j, hij, hj, rfl, rfl, HB, HW⟩ := hrel
    have hwr := HW.out.size
    have HTr := Lib.hid (HT.out.below HG.out HW.out)
    by_cases hlt : i < j
    · have hh : (i + j) / 2 < 183 := by omega
      obtain ⟨hc1, hc2⟩ := HTr.out _ hh
      have HH := Lib.hid hh
      obtain ⟨x, hx⟩ : ∃ x, cb (rw ((i + j) / 2)).1 s.data.toList = x := ⟨_, rfl⟩
      have HC : Hid (Calls Tryz.prog 136 #[.agg #[.string ⟨(rw ((i + j) / 2)).1.toArray⟩, .int .i32 (rw ((i + j) / 2)).2], .string s] wr fun e w' => e = .returned (.int .i64 x) ∧ Below wr.heap.size wr w') := Lib.hid (by
        have := byName_any ⟨(rw ((i + j) / 2)).1.toArray⟩ s (rw ((i + j) / 2)).2 wr
        rw [← hx]
        exact this)
      have hlt' : (i : Int) < (j : Int) := by omega
      have HX := Lib.hid hx
      clear hx hh
      by_cases hx0 : x < 0
      · have HB2 := Lib.hid (bs_low HB.out HH.out (by rw [HX.out]; exact hx0))
        go_wp2_with (go_at_call 136; refine HC.out.mono ?_; rintro e w2 ⟨rfl, hb2⟩)
        have hbw := HW.out.trans (hb2.mono hwr)
        go_roundw
        case rel => exact ⟨(i + j) / 2 + 1, j, by omega, hj, by go_num, rfl, HB2, Lib.hid hbw⟩
        case measure => simp [intOf]; omega
      · have HB2 := Lib.hid (bs_high HB.out HH.out (by rw [HX.out]; exact hx0))
        go_wp2_with (go_at_call 136; refine HC.out.mono ?_; rintro e w2 ⟨rfl, hb2⟩)
        have hbw := HW.out.trans (hb2.mono hwr)
        go_roundw
        case rel => exact ⟨i, (i + j) / 2, by omega, by omega, rfl, by go_num, HB2, Lib.hid hbw⟩
        case measure => simp [intOf]; omega
    · obtain rfl : i = j := by omega
      by_cases hi : i < 183
      · obtain ⟨hc1, hc2⟩ := HTr.out _ hi
        have HI := Lib.hid hi
        have hi' : (i : Int) < 183 := by omega
        obtain ⟨x, hx⟩ : ∃ x, cb (rw i).1 s.data.toList = x := ⟨_, rfl⟩
        have HC : Hid (Calls Tryz.prog 136 #[.agg #[.string ⟨(rw i).1.toArray⟩, .int .i32 (rw i).2], .string s] wr fun e w' => e = .returned (.int .i64 x) ∧ Below wr.heap.size wr w') := Lib.hid (by
          have := byName_any ⟨(rw i).1.toArray⟩ s (rw i).2 wr
          rw [← hx]
          exact this)
        have HX := Lib.hid hx
        clear hx hi
        by_cases hx0 : x = 0
        · have HF := Lib.hid (bs_found HB.out HI.out (by rw [HX.out]; exact hx0))
          subst hx0
          go_wp2_with (go_at_call 136; refine HC.out.mono ?_; rintro e w2 ⟨rfl, hb2⟩)
          have hbw := HW.out.trans (hb2.mono hwr)
          go_ret2
          exact ⟨found_mk (at_yes HI.out HF.out), hbw⟩
        · have HF := Lib.hid (bs_none HB.out (fun _ => by rw [HX.out]; exact hx0))
          have hxb : (x == 0) = false := by simpa using hx0
          clear hx0
          go_wp2_with (go_at_call 136; refine HC.out.mono ?_; rintro e w2 ⟨rfl, hb2⟩)
          have hbw := HW.out.trans (hb2.mono hwr)
          go_ret2
          exact ⟨found_mk (at_no hj HF.out), hbw⟩
      · have HF := Lib.hid (bs_none HB.out (fun h => absurd h hi))
        have hi' : ¬ (i : Int) < 183 := by omega
        go_wp2
        go_ret2
        exact ⟨found_mk (at_no hj HF.out), HW.out⟩
end En
end Go.Proofs.YtfabiidohdkkcaaGreatDoor
