/- Walks of layer 9, the twelfth part: joins of texts, n & m. -/
import Derived.Test.YtilippcmdhkddaaDoorLkK
import Derived.Laws.BitsAllLaws
import Derived.Laws.BitsLemmas
import Derived.Laws.IdiomStrings
namespace Go.Proofs.YtilippcmdhkddaaDoor
open Go Go.RowKit
namespace Lk
open Es
set_option maxRecDepth 100000
set_option linter.unusedVariables false
set_option linter.unusedSimpArgs false

theorem appD (a b : ByteArray) : (a ++ b).data.toList = a.data.toList ++ b.data.toList := by
  rw [ByteArray.data_append, Array.toList_append]
theorem appS (a b : ByteArray) : (a ++ b).size = a.size + b.size := by rw [← szL, appD, List.length_append, szL, szL]
/-- A join, by name: its bytes and its size. -/
theorem joined (a b : ByteArray) : ∃ X : ByteArray, a ++ b = X ∧ X.data.toList = a.data.toList ++ b.data.toList ∧ X.size = a.size + b.size := ⟨_, rfl, appD a b, appS a b⟩
theorem ofInt_i64L (a : Nat) (ha : a < 9223372036854775808) : (BitVec.ofInt 64 (a : Int)).toNat = a := by
  rw [BitVec.ofInt_natCast, BitVec.toNat_ofNat]; exact Nat.mod_eq_of_lt (by omega)
/-- n & m, for a small m. -/
def mskL (n : Int) (m : Nat) : Nat := ((BitVec.ofInt 64 n) &&& (BitVec.ofInt 64 (m : Int))).toNat
theorem mskL_le (n : Int) (m : Nat) (hm : m < 9223372036854775808) : mskL n m ≤ m := by
  unfold mskL
  rw [BitVec.toNat_and, ofInt_i64L m hm]; exact Nat.and_le_right
theorem bits_andL (n : Int) (m : Nat) (hm : m < 9223372036854775808) : bits .and .i64 n (m : Int) = (mskL n m : Nat) := by
  have h := mskL_le n m hm
  show IntKind.i64.wrap (((BitVec.ofInt 64 n) &&& (BitVec.ofInt 64 (m : Int))).toNat : Int) = _
  rw [IntKind.wrap_i64]
  unfold mskL at *
  omega
end Lk
end Go.Proofs.YtilippcmdhkddaaDoor
