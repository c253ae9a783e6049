/- ClassBlanks: the law's walk. -/
import Derived.Test.YtbfmbhilkgnkeaaDoorClassG
namespace Go.Proofs.YtbfmbhilkgnkeaaDoor
open Go Go.RowKit
namespace ClassBlanks
open Tx Ks
set_option maxRecDepth 100000
set_option linter.unusedVariables false
set_option linter.unusedSimpArgs false

theorem ofInt_i64 (a : Nat) (ha : a < 9223372036854775808) : (BitVec.ofInt 64 (a : Int)).toNat = a := by
  rw [BitVec.ofInt_natCast, BitVec.toNat_ofNat]; exact Nat.mod_eq_of_lt (by omega)
/-- n & m, for a small m. -/
def msk (n : Int) (m : Nat) : Nat := ((BitVec.ofInt 64 n) &&& (BitVec.ofInt 64 (m : Int))).toNat
theorem msk_le (n : Int) (m : Nat) (hm : m < 9223372036854775808) : msk n m ≤ m := by
  unfold msk
  rw [BitVec.toNat_and, ofInt_i64 m hm]; exact Nat.and_le_right
theorem bits_and (n : Int) (m : Nat) (hm : m < 9223372036854775808) : bits .and .i64 n (m : Int) = (msk n m : Nat) := by
  have h := msk_le n m hm
  show IntKind.i64.wrap (((BitVec.ofInt 64 n) &&& (BitVec.ofInt 64 (m : Int))).toNat : Int) = _
  rw [IntKind.wrap_i64]
  unfold msk at *
  omega

theorem data_app (a b : ByteArray) : (a ++ b).data.toList = a.data.toList ++ b.data.toList := by rw [ByteArray.data_append]; simp

/-- What both labels are. -/
theorem both {w : World} (hL : Laid w) (g a b : ByteArray) (hg : ∀ x ∈ g.data.toList, gapB x = true) (h0 : g.data.toList ≠ []) (hgl : g.size ≤ 10) (hal : a.size ≤ 500) (hbl : b.size ≤ 500) :
    ∃ r : ByteArray, Frm w 18 #[.string (g ++ a ++ g ++ b ++ g)] (.string r) ∧ Frm w 18 #[.string (a ++ ⟨#[32]⟩ ++ b)] (.string r) := by
  have sz : ∀ x : ByteArray, x.data.toList.length = x.size := fun x => by rw [Array.length_toList]; rfl
  have e1 : (g ++ a ++ g ++ b ++ g).data.toList = g.data.toList ++ a.data.toList ++ g.data.toList ++ b.data.toList ++ g.data.toList := by simp only [data_app]
  have e2 : (a ++ ⟨#[32]⟩ ++ b).data.toList = a.data.toList ++ 32 :: b.data.toList := by simp only [data_app]; simp
  refine ⟨⟨(lab (a.data.toList ++ 32 :: b.data.toList)).toArray⟩, frm_label hL e1 (lab_blanks _ _ _ hg h0) ?_, frm_label hL e2 rfl ?_⟩
  · simp only [List.length_append, sz]; omega
  · simp only [List.length_append, List.length_cons, sz]; omega

set_option maxHeartbeats 2000000 in
theorem law_any (a b : ByteArray) (n : Int) (w : World) (hL : Laid w) (ha : a.size ≤ maxLen) (hb : b.size ≤ maxLen) :
    Calls Tryd.prog 6 #[.string a, .string b, .int .i64 n] w fun e w' => e = .returned (.bool true) ∧ Below w.heap.size w w' := by
  unfold maxLen at ha hb
  have HA := Lib.hid (frm_awake hL)
  have hb0 := Below.refl w.heap.size w
  by_cases h1 : 500 < a.size
  · have h1' : (500 : Int) < (a.size : Int) := by omega
    clear hL
    go_enter Tryd.func6, Tryd.ntmps6
    go_wp2_with fail
    refine (HA.out _ hb0).mono ?_
    rintro e w1 ⟨rfl, hb1⟩
    go_wp2
    go_ret
    exact ⟨rfl, hb1⟩
  have h1' : (a.size : Int) ≤ 500 := by omega
  by_cases h2 : 500 < b.size
  · have h2' : (500 : Int) < (b.size : Int) := by omega
    clear hL
    go_enter Tryd.func6, Tryd.ntmps6
    go_wp2_with fail
    refine (HA.out _ hb0).mono ?_
    rintro e w1 ⟨rfl, hb1⟩
    go_wp2
    go_ret
    exact ⟨rfl, hb1⟩
  have h2' : (b.size : Int) ≤ 500 := by omega
  have hand := bits_and n 3 (by decide)
  rw [show ((3 : Nat) : Int) = 3 from rfl] at hand
  have hm := msk_le n 3 (by decide)
  generalize msk n 3 = m at *
  have hcase : m = 0 ∨ m = 1 ∨ m = 2 ∨ m = 3 := by omega
  clear hm
  rcases hcase with rfl | rfl | rfl | rfl
  ·
    obtain ⟨r, hr1, hr2⟩ := both hL ⟨#[32]⟩ a b (by decide) (by decide) (by decide) (by omega) (by omega)
    have H1 := Lib.hid hr1
    have H2 := Lib.hid hr2
    have hsz : (⟨#[32]⟩ : ByteArray).size = 1 := rfl
    rw [show ((0 : Nat) : Int) = 0 from rfl] at hand
    clear hL h1 h2 hr1 hr2
    go_enter Tryd.func6, Tryd.ntmps6
    go_wp2_with fail
    refine (HA.out _ hb0).mono ?_
    rintro e w1 ⟨rfl, hb1⟩
    have hb1' := hb1.alloc hb1.size (.cells #[.string ⟨#[32]⟩, .string ⟨#[9]⟩, .string ⟨#[10, 32, 13]⟩, .string ⟨#[11, 12, 32, 32]⟩] 9)
    go_wp2_with fail
    refine (H1.out _ hb1').mono ?_
    rintro e w2 ⟨rfl, hb2⟩
    go_wp2_with fail
    refine (H2.out _ hb2).mono ?_
    rintro e w3 ⟨rfl, hb3⟩
    go_wp2
    go_ret
    exact ⟨rfl, hb3⟩
  ·
    obtain ⟨r, hr1, hr2⟩ := both hL ⟨#[9]⟩ a b (by decide) (by decide) (by decide) (by omega) (by omega)
    have H1 := Lib.hid hr1
    have H2 := Lib.hid hr2
    have hsz : (⟨#[9]⟩ : ByteArray).size = 1 := rfl
    rw [show ((1 : Nat) : Int) = 1 from rfl] at hand
    clear hL h1 h2 hr1 hr2
    go_enter Tryd.func6, Tryd.ntmps6
    go_wp2_with fail
    refine (HA.out _ hb0).mono ?_
    rintro e w1 ⟨rfl, hb1⟩
    have hb1' := hb1.alloc hb1.size (.cells #[.string ⟨#[32]⟩, .string ⟨#[9]⟩, .string ⟨#[10, 32, 13]⟩, .string ⟨#[11, 12, 32, 32]⟩] 9)
    go_wp2_with fail
    refine (H1.out _ hb1').mono ?_
    rintro e w2 ⟨rfl, hb2⟩
    go_wp2_with fail
    refine (H2.out _ hb2).mono ?_
    rintro e w3 ⟨rfl, hb3⟩
    go_wp2
    go_ret
    exact ⟨rfl, hb3⟩
  ·
    obtain ⟨r, hr1, hr2⟩ := both hL ⟨#[10, 32, 13]⟩ a b (by decide) (by decide) (by decide) (by omega) (by omega)
    have H1 := Lib.hid hr1
    have H2 := Lib.hid hr2
    have hsz : (⟨#[10, 32, 13]⟩ : ByteArray).size = 3 := rfl
    rw [show ((2 : Nat) : Int) = 2 from rfl] at hand
    clear hL h1 h2 hr1 hr2
    go_enter Tryd.func6, Tryd.ntmps6
    go_wp2_with fail
    refine (HA.out _ hb0).mono ?_
    rintro e w1 ⟨rfl, hb1⟩
    have hb1' := hb1.alloc hb1.size (.cells #[.string ⟨#[32]⟩, .string ⟨#[9]⟩, .string ⟨#[10, 32, 13]⟩, .string ⟨#[11, 12, 32, 32]⟩] 9)
    go_wp2_with fail
    refine (H1.out _ hb1').mono ?_
    rintro e w2 ⟨rfl, hb2⟩
    go_wp2_with fail
    refine (H2.out _ hb2).mono ?_
    rintro e w3 ⟨rfl, hb3⟩
    go_wp2
    go_ret
    exact ⟨rfl, hb3⟩
  ·
    obtain ⟨r, hr1, hr2⟩ := both hL ⟨#[11, 12, 32, 32]⟩ a b (by decide) (by decide) (by decide) (by omega) (by omega)
    have H1 := Lib.hid hr1
    have H2 := Lib.hid hr2
    have hsz : (⟨#[11, 12, 32, 32]⟩ : ByteArray).size = 4 := rfl
    rw [show ((3 : Nat) : Int) = 3 from rfl] at hand
    clear hL h1 h2 hr1 hr2
    go_enter Tryd.func6, Tryd.ntmps6
    go_wp2_with fail
    refine (HA.out _ hb0).mono ?_
    rintro e w1 ⟨rfl, hb1⟩
    have hb1' := hb1.alloc hb1.size (.cells #[.string ⟨#[32]⟩, .string ⟨#[9]⟩, .string ⟨#[10, 32, 13]⟩, .string ⟨#[11, 12, 32, 32]⟩] 9)
    go_wp2_with fail
    refine (H1.out _ hb1').mono ?_
    rintro e w2 ⟨rfl, hb2⟩
    go_wp2_with fail
    refine (H2.out _ hb2).mono ?_
    rintro e w3 ⟨rfl, hb3⟩
    go_wp2
    go_ret
    exact ⟨rfl, hb3⟩
end ClassBlanks
end Go.Proofs.YtbfmbhilkgnkeaaDoor
