/- Walks of layer 4, the eleventh part: a row of the table that a law picks. -/
import Derived.Test.YtgdgaagfambliaaEntJ
import Derived.Laws.BitsAllLaws
import Derived.Laws.BitsLemmas
namespace Go.Proofs.Ytgdgaagfambliaa
open Go Go.RowKit
namespace En
set_option maxRecDepth 100000
set_option linter.unusedVariables false
set_option linter.unusedSimpArgs false
attribute [local irreducible] cellsT

theorem ofInt_i64 (a : Nat) (ha : a < 9223372036854775808) : (BitVec.ofInt 64 (a : Int)).toNat = a := by
  rw [BitVec.ofInt_natCast, BitVec.toNat_ofNat]; exact Nat.mod_eq_of_lt (by omega)
/-- n & m, for a small m. -/
def msk (n : Int) (m : Nat) : Nat := ((BitVec.ofInt 64 n) &&& (BitVec.ofInt 64 (m : Int))).toNat
theorem msk_le (n : Int) (m : Nat) (hm : m < 9223372036854775808) : msk n m ≤ m := by
  unfold msk
  rw [BitVec.toNat_and, ofInt_i64 m hm]; exact Nat.and_le_right
theorem bits_and (n : Int) (m : Nat) (hm : m < 9223372036854775808) : bits .and .i64 n (m : Int) = (msk n m : Nat) := by
  have h := msk_le n m hm
  show IntKind.i64.wrap (((BitVec.ofInt 64 n) &&& (BitVec.ofInt 64 (m : Int))).toNat : Int) = _
  rw [IntKind.wrap_i64]
  unfold msk at *
  omega

/-- The table has been handed back. -/
def TabV (w : World) (e : Ending) : Prop := ∃ g, e = .returned (.slice (some ⟨g, 0, none⟩) 183 183) ∧ TabAt w g ∧ g < w.heap.size
theorem rtab_any (w : World) : Calls Try.prog 12 #[] w fun e w' => TabV w' e ∧ Below w.heap.size w w' :=
  (rtable_any w).mono fun e w' ⟨h1, h2⟩ => by
    subst h2
    exact ⟨⟨w.heap.size, h1, tab_new w _, by simp⟩, (Below.refl _ w).alloc (Nat.le_refl _) _⟩

/-- The two cells of a row. -/
def RowAt (w : World) (h : Nat) (j : Nat) : Prop := w.cell? ⟨h, 0, none⟩ = some (.string ⟨(rw j).1.toArray⟩) ∧ w.cell? ⟨h, 1, none⟩ = some (.int .i32 (rw j).2)
theorem RowAt.lt {w : World} {h j : Nat} (hr : RowAt w h j) : h < w.heap.size := cell_lt hr.1
theorem RowAt.below {w w' : World} {h j B : Nat} (hr : RowAt w h j) (hB : Below B w w') (hh : h < B) : RowAt w' h j :=
  ⟨(hB.cell (p := ⟨h, 0, none⟩) hh).trans hr.1, (hB.cell (p := ⟨h, 1, none⟩) hh).trans hr.2⟩

theorem namedF_row {j : Nat} (hj : j < 183) : namedF rowsT (rw j).1 = some (rw j).2 := by
  refine bs_found (i := j) ⟨fun k hk hk2 => rw_lt hk hj, fun k hk hk2 => ?_⟩ hj (cb_self _)
  by_cases e : k = j
  · rw [e, cb_self]; exact Int.le_refl 0
  · have := rw_lt (show j < k by omega) hk2
    have h2 := cb_anti (rw j).1 (rw k).1
    omega
theorem noSemi {j : Nat} (hj : j < 183) : 59 ∉ (rw j).1 := fun h => by
  have := (row_ok (rw_mem hj)).1 59 h
  rw [al_semi] at this
  cases this
theorem row_hash {j : Nat} (hj : j < 183) : ∃ y t, (rw j).1 = y :: t ∧ y ≠ 35 := by
  have h1 := (row_ok (rw_mem hj)).2.1
  cases hr : (rw j).1 with
  | nil => rw [hr] at h1; simp at h1
  | cons y t =>
    refine ⟨y, t, rfl, fun e => ?_⟩
    have := (row_ok (rw_mem hj)).1 y (by rw [hr]; simp)
    rw [e] at this
    revert this
    decide
theorem read_row {j : Nat} (hj : j < 183) (m : List UInt8) : rread (38 :: (rw j).1 ++ 59 :: m) = some ((rw j).2, (rw j).1.length + 2) := by
  obtain ⟨y, t, hr, hy⟩ := row_hash hj
  have hn : 59 ∉ 38 :: (rw j).1 := fun h => by
    rcases List.mem_cons.1 h with h | h
    · exact absurd h (by decide)
    · exact noSemi hj h
  rw [rread_some (cutS_app _ _ hn)]
  have : ofBody (38 :: (rw j).1) = some (rw j).2 := by
    rw [hr, ofBody_name hy, ← hr, namedF_row hj]
  rw [this]
  simp
theorem read_more {j : Nat} (hj : j < 183) (u : UInt8) (hu : u ≠ 59) : rread (38 :: ((rw j).1 ++ [u]) ++ [59]) = (namedF rowsT ((rw j).1 ++ [u])).map fun c => (c, (rw j).1.length + 3) := by
  obtain ⟨y, t, hr, hy⟩ := row_hash hj
  have hn : 59 ∉ 38 :: ((rw j).1 ++ [u]) := fun h => by
    rcases List.mem_cons.1 h with h | h
    · exact absurd h (by decide)
    · rcases List.mem_append.1 h with h | h
      · exact noSemi hj h
      · simp at h; exact hu h.symm
  rw [show (38 :: ((rw j).1 ++ [u]) ++ [59]) = (38 :: ((rw j).1 ++ [u])) ++ 59 :: [] from rfl, rread_some (cutS_app _ _ hn)]
  have : ofBody (38 :: ((rw j).1 ++ [u])) = namedF rowsT ((rw j).1 ++ [u]) := by
    rw [hr, List.cons_append, ofBody_name hy]
  rw [this]
  simp
theorem named_semi (l : List UInt8) : namedF rowsT (l ++ [59]) = none := namedF_no fun e he h => by
  have := (row_ok he).1 59 (by rw [h]; simp)
  rw [al_semi] at this
  cases this
/-- string([]byte{u}). -/
theorem conv_one (u : UInt8) (W : World) : (convert 35 9 (.slice (some ⟨W.heap.size, 0, none⟩) 1 1)).run Try.prog (W.alloc (.cells #[.int .u8 (u.toNat : Int)] 5)) = .ok (.string ⟨#[u]⟩) (W.alloc (.cells #[.int .u8 (u.toNat : Int)] 5)) := by
  refine run_convert_bytes_back _ 35 9 5 ⟨W.heap.size, 0, none⟩ 1 [u] Try.underlying35 Try.underlying5 Try.underlying9 ?_
  intro j hj
  have hj0 : j = 0 := by simp at hj; omega
  subst hj0
  show (W.alloc _).cell? ⟨W.heap.size, 0, none⟩ = _
  rw [World.cell?_alloc_new]
  rfl
theorem u8_of_int {b : Int} (h0 : 0 ≤ b) (h1 : b ≤ 255) : ∃ u : UInt8, b = (u.toNat : Int) := by
  refine ⟨UInt8.ofNat b.toNat, ?_⟩
  simp
  omega
end En
end Go.Proofs.Ytgdgaagfambliaa
