/- ColumnSpaces: the law's walk. -/
import Derived.Test.YtmdhamaihpdcdaaDoorColumnStepsLaw
import Derived.Deep.RegionHeld3
import Derived.Deep.DrawnRows
namespace Go.Proofs.YtmdhamaihpdcdaaDoor
open Go Go.RowKit
namespace ColumnSpaces
open Cl ColumnSteps
set_option maxRecDepth 100000
attribute [local go_sem ↓] Go.wp_at_zero Go.wp_at_succ
set_option linter.unusedVariables false
set_option linter.unusedSimpArgs false

theorem indent_at (l : List UInt8) (col a b : Nat) (W : World) (ha : indC l col = a) (hb : indB l col = b) (hl : l.length ≤ 1099511627776) (hc : col ≤ 1073741824) :
    Calls Tryd.prog 16 #[str l, .int .i64 (col : Int)] W fun e w' => e = .returned (.tuple #[.int .i64 (a : Int), .int .i64 (b : Int)]) ∧ Below W.heap.size W w' := by
  subst ha hb
  exact indent_any ⟨l.toArray⟩ col W hl hc

theorem below_drew {B : Nat} {a w : World} (h : Below B a w) : Below B a w.drew := h.trans ⟨rfl, rfl, rfl, Nat.le_refl _, fun _ _ => rfl⟩

set_option maxHeartbeats 2000000 in
theorem law_any (s : ByteArray) (col : Int) (w : World) (hs : s.size ≤ maxLen) :
    Calls Tryd.prog 6 #[.string s, .int .i64 col] w fun e w' => e = .returned (.bool true) ∧ Below w.heap.size w w' := by
  unfold maxLen at hs
  have HA := Lib.hid (awake_any w)
  by_cases hbig : 1000 < s.size
  · have hb' : (1000 : Int) < (s.size : Int) := by omega
    go_enter Tryd.func6, Tryd.ntmps6
    go_wp2_with (go_at_call 9; refine HA.out.mono ?_; rintro e w1 ⟨rfl, hb1⟩)
    go_ret
    exact ⟨rfl, hb1⟩
  · have hb' : (s.size : Int) ≤ 1000 := by omega
    have hs2 : s.data.toList.length ≤ 1000 := by rw [sz]; omega
    have SC := Lib.hid (fun W => small_any col W)
    have hc := msk_le col 1023 (by decide)
    generalize msk col 1023 = at_ at *
    have h1 := norm_len s.data.toList at_
    obtain ⟨n1, n2, n3, n4⟩ := norm_spec s.data.toList at_
    have hB := indB_le s.data.toList at_
    have hC := indC_le s.data.toList at_
    have hCl : indC s.data.toList at_ ≤ (norm s.data.toList at_).length := by unfold norm; simp
    have I1 := Lib.hid (fun W => indent_at s.data.toList at_ _ _ W rfl rfl (by omega) (by omega))
    have S1 := Lib.hid (fun W => spaces_at s.data.toList at_ _ W rfl (by omega) (by omega))
    have I2 := Lib.hid (fun W => indent_at (norm s.data.toList at_) at_ _ _ W n1 n2 (by omega) (by omega))
    have S2 := Lib.hid (fun W => spaces_at (norm s.data.toList at_) 0 _ W n4 (by omega) (by omega))
    rw [show str s.data.toList = .string s from rfl] at I1 S1
    generalize hk : indB s.data.toList at_ = k at *
    generalize hn : indC s.data.toList at_ = n at *
    generalize hz : norm s.data.toList at_ = z at *
    have hkk : (k : Int) ≤ (s.size : Int) := by rw [sz] at hB; omega
    have hnz : (n : Int) ≤ (z.length : Int) := by omega
    have hz0 : (z.length : Int) ≤ 10000 := by omega
    have hss : s.size ≤ 1000 := by omega
    have heq : (⟨z.toArray⟩ : ByteArray).extract n z.length = s.extract k s.size := by
      have e1 : ((⟨z.toArray⟩ : ByteArray).extract n z.length).data.toList = (s.extract k s.size).data.toList := by
        rw [Lib.extract_to_end, ← n3]; exact Lib.extract_to_end ⟨z.toArray⟩ n
      cases hx : (⟨z.toArray⟩ : ByteArray).extract n z.length with
      | mk a => cases hy : s.extract k s.size with
        | mk b => rw [hx, hy] at e1; exact congrArg ByteArray.mk (by cases a; cases b; exact congrArg Array.mk e1)
    have hzs : (⟨z.toArray⟩ : ByteArray).size = z.length := rfl
    have Heq := Lib.hid heq
    clear hk hn hz n1 n2 n3 n4 heq hbig hB hC h1 hCl
    unfold str at *
    generalize (⟨z.toArray⟩ : ByteArray) = t at *
    generalize z.length = tl at *
    subst hzs
    go_enter Tryd.func6, Tryd.ntmps6
    go_wp2_with (go_at_call 9; refine HA.out.mono ?_; rintro e w1 ⟨rfl, hb1⟩)
    refine (SC.out _).mono ?_
    rintro e w' ⟨rfl, rfl⟩
    go_wp2_with fail
    refine (from_below (I1.out _) hb1).mono ?_
    rintro e w2 ⟨rfl, hb2⟩
    go_wp2_with fail
    refine (from_below (S1.out _) hb2).mono ?_
    rintro e w3 ⟨rfl, hb3⟩
    go_wp2_with fail
    refine (from_below (I2.out _) hb3).mono ?_
    rintro e w4 ⟨rfl, hb4⟩
    have hq := Heq.out
    go_wp2
    go_region_held3 (fun _ => True) (trivial) ((go_at_call 18; refine (S2.out _).mono ?_; rintro e w5 ⟨rfl, hb5⟩))
    go_wp2
    go_ret
    exact ⟨rfl, (below_drew hb4).trans (hb5.mono hb4.size)⟩
end ColumnSpaces
end Go.Proofs.YtmdhamaihpdcdaaDoor
