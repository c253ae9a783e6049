/- Walks of layer 2, the third part: a number of columns. -/
import Derived.Test.YtmdhamaihpdcdaaDoorColB
import Derived.Laws.BitsAllLaws
import Derived.Laws.BitsLemmas
namespace Go.Proofs.YtmdhamaihpdcdaaDoor
open Go Go.RowKit
namespace Cl
set_option maxRecDepth 100000
set_option linter.unusedVariables false
set_option linter.unusedSimpArgs false

theorem ofInt_i64 (a : Nat) (ha : a < 9223372036854775808) : (BitVec.ofInt 64 (a : Int)).toNat = a := by
  rw [BitVec.ofInt_natCast, BitVec.toNat_ofNat]; exact Nat.mod_eq_of_lt (by omega)
/-- n & m, for a small m. -/
def msk (n : Int) (m : Nat) : Nat := ((BitVec.ofInt 64 n) &&& (BitVec.ofInt 64 (m : Int))).toNat
theorem msk_le (n : Int) (m : Nat) (hm : m < 9223372036854775808) : msk n m ≤ m := by
  unfold msk
  rw [BitVec.toNat_and, ofInt_i64 m hm]; exact Nat.and_le_right
theorem bits_and (n : Int) (m : Nat) (hm : m < 9223372036854775808) : bits .and .i64 n (m : Int) = (msk n m : Nat) := by
  have h := msk_le n m hm
  show IntKind.i64.wrap (((BitVec.ofInt 64 n) &&& (BitVec.ofInt 64 (m : Int))).toNat : Int) = _
  rw [IntKind.wrap_i64]
  unfold msk at *
  omega

theorem small_any (n : Int) (w : World) :
    Calls Tryd.prog 15 #[.int .i64 n] w fun e w' => e = .returned (.int .i64 (msk n 1023 : Nat)) ∧ w = w' := by
  have hb := bits_and n 1023 (by decide)
  rw [show ((1023 : Nat) : Int) = 1023 from rfl] at hb
  go_enter Tryd.func15, Tryd.ntmps15
  go_wp2
  go_ret
  exact ⟨rfl, rfl⟩
end Cl
end Go.Proofs.YtmdhamaihpdcdaaDoor
