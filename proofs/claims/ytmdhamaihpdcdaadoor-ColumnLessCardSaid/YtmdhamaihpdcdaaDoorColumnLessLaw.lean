/- ColumnLess: the law's walk. -/
import Derived.Test.YtmdhamaihpdcdaaDoorColumnSpacesLaw
import Derived.IntWalk
namespace Go.Proofs.YtmdhamaihpdcdaaDoor
open Go Go.RowKit
namespace ColumnLess
open Cl ColumnSteps ColumnSpaces
set_option maxRecDepth 100000
attribute [local go_sem ↓] Go.wp_at_zero Go.wp_at_succ
set_option linter.unusedVariables false
set_option linter.unusedSimpArgs false

theorem bytes_eq {x y : ByteArray} (h : x.data.toList = y.data.toList) : x = y := by
  cases x with
  | mk a => cases y with
    | mk b => exact congrArg ByteArray.mk (by cases a; cases b; exact congrArg Array.mk h)

set_option maxHeartbeats 2000000 in
theorem law_any (s : ByteArray) (col n : Int) (w : World) (hs : s.size ≤ maxLen) :
    Calls Tryd.prog 4 #[.string s, .int .i64 col, .int .i64 n] w fun e w' => e = .returned (.bool true) ∧ Below w.heap.size w w' := by
  unfold maxLen at hs
  have HA := Lib.hid (awake_any w)
  by_cases hbig : 1000 < s.size
  · have hb' : (1000 : Int) < (s.size : Int) := by omega
    go_enter Tryd.func4, Tryd.ntmps4
    go_wp2_with (go_at_call 9; refine HA.out.mono ?_; rintro e w1 ⟨rfl, hb1⟩)
    go_ret
    exact ⟨rfl, hb1⟩
  · have hb' : (s.size : Int) ≤ 1000 := by omega
    have hs2 : s.data.toList.length ≤ 1000 := by rw [sz]; omega
    have SC := Lib.hid (fun W => small_any col W)
    have SN := Lib.hid (fun W => small_any n W)
    have hc := msk_le col 1023 (by decide)
    have hn := msk_le n 1023 (by decide)
    generalize msk col 1023 = at_ at *
    generalize msk n 1023 = k at *
    have h1 := skp_len s.data.toList at_ k
    have h2 := skp_col s.data.toList at_ k
    obtain ⟨n1, n2, n3⟩ := skp_spec s.data.toList at_ k
    have hB := indB_le s.data.toList at_
    have hC := indC_le s.data.toList at_
    obtain ⟨t, c, htc⟩ : ∃ t c, skp s.data.toList at_ k = (t, c) := ⟨_, _, rfl⟩
    rw [htc] at h1 h2 n1 n2 n3
    dsimp only at h1 h2 n1 n2 n3
    have hE := indB_le t c
    have I1 := Lib.hid (fun W => indent_at s.data.toList at_ _ _ W rfl rfl (by omega) (by omega))
    have K1 := Lib.hid (fun W => skip_at s.data.toList at_ k t c W htc (by omega) (by omega) (by omega))
    have I2 := Lib.hid (fun W => indent_at t c _ _ W n1 rfl (by omega) (by omega))
    rw [show str s.data.toList = .string s from rfl] at I1 K1
    generalize hb : indB s.data.toList at_ = b at *
    generalize ha : indC s.data.toList at_ = a at *
    generalize he : indB t c = e at *
    have heq : s.extract b s.size = (⟨t.toArray⟩ : ByteArray).extract e t.length := bytes_eq (by
      rw [Lib.extract_to_end, ← n3]; exact (Lib.extract_to_end ⟨t.toArray⟩ e).symm)
    have Heq := Lib.hid heq
    have hbk : (b : Int) ≤ (s.size : Int) := by rw [sz] at hB; omega
    have hss : s.size ≤ 1000 := by omega
    have hzs : (⟨t.toArray⟩ : ByteArray).size = t.length := rfl
    have htl : t.length ≤ 4000 := by omega
    have ha4 : a ≤ 4000 := by omega
    have het : (e : Int) ≤ (t.length : Int) := by omega
    unfold str at *
    clear heq htc n1 n3 hb ha he hbig hB hC h1 hE
    by_cases hak : a ≤ k
    · have hcv : c = at_ + a := by omega
      rw [show a - k = 0 from by omega] at I2
      obtain ⟨δ, hδ⟩ : ∃ δ : Int, δ = (a : Int) - (k : Int) := ⟨_, rfl⟩
      have HW1 : Hid (IntKind.i64.wrap ((a : Int) - (k : Int)) = δ) := Lib.hid (by rw [← hδ]; exact IntWalk.i64_in _ (by omega))
      have HW2 : Hid (IntKind.i64.wrap ((at_ : Int) + (a : Int)) = (c : Int)) := Lib.hid (by rw [show (at_ : Int) + (a : Int) = (c : Int) from by omega]; exact IntWalk.i64_in _ (by omega))
      have HM1 := Lib.hid (show max 0 δ = 0 from by omega)
      have HM2 := Lib.hid (show min (a : Int) (k : Int) = (a : Int) from by omega)
      clear n2 hak hδ hcv
      generalize (⟨t.toArray⟩ : ByteArray) = u at *
      generalize t.length = tl at *
      subst hzs
      go_enter Tryd.func4, Tryd.ntmps4
      go_wp2_with (go_at_call 9; refine HA.out.mono ?_; rintro e w1 ⟨rfl, hb1⟩)
      refine (SN.out _).mono ?_
      rintro e w' ⟨rfl, rfl⟩
      go_wp2_with fail
      refine (SC.out _).mono ?_
      rintro e w' ⟨rfl, rfl⟩
      go_wp2_with fail
      refine (from_below (I1.out _) hb1).mono ?_
      rintro e w2 ⟨rfl, hb2⟩
      go_wp2_with fail
      refine (from_below (K1.out _) hb2).mono ?_
      rintro e w3 ⟨rfl, hb3⟩
      go_wp2_with fail
      refine (from_below (I2.out _) hb3).mono ?_
      rintro e w4 ⟨rfl, hb4⟩
      have hq := Heq.out
      have hw1 := HW1.out
      have hw2 := HW2.out
      have hm1 := HM1.out
      have hm2 := HM2.out
      go_wp2
      go_region_held3 (fun _ => True) (trivial) (fail)
      go_wp2
      go_ret
      exact ⟨rfl, below_drew hb4⟩
    · have hcv : c = at_ + k := by omega
      obtain ⟨d, hd⟩ : ∃ d, a - k = d := ⟨_, rfl⟩
      have HW1 : Hid (IntKind.i64.wrap ((a : Int) - (k : Int)) = (d : Int)) := Lib.hid (by rw [show (a : Int) - (k : Int) = (d : Int) from by omega]; exact IntWalk.i64_in _ (by omega))
      have HW2 : Hid (IntKind.i64.wrap ((at_ : Int) + (k : Int)) = (c : Int)) := Lib.hid (by rw [show (at_ : Int) + (k : Int) = (c : Int) from by omega]; exact IntWalk.i64_in _ (by omega))
      have HM1 := Lib.hid (show max 0 (d : Int) = (d : Int) from by omega)
      have HM2 := Lib.hid (show min (a : Int) (k : Int) = (k : Int) from by omega)
      rw [hd] at I2
      clear n2 hak hd hcv
      generalize (⟨t.toArray⟩ : ByteArray) = u at *
      generalize t.length = tl at *
      subst hzs
      go_enter Tryd.func4, Tryd.ntmps4
      go_wp2_with (go_at_call 9; refine HA.out.mono ?_; rintro e w1 ⟨rfl, hb1⟩)
      refine (SN.out _).mono ?_
      rintro e w' ⟨rfl, rfl⟩
      go_wp2_with fail
      refine (SC.out _).mono ?_
      rintro e w' ⟨rfl, rfl⟩
      go_wp2_with fail
      refine (from_below (I1.out _) hb1).mono ?_
      rintro e w2 ⟨rfl, hb2⟩
      go_wp2_with fail
      refine (from_below (K1.out _) hb2).mono ?_
      rintro e w3 ⟨rfl, hb3⟩
      go_wp2_with fail
      refine (from_below (I2.out _) hb3).mono ?_
      rintro e w4 ⟨rfl, hb4⟩
      have hq := Heq.out
      have hw1 := HW1.out
      have hw2 := HW2.out
      have hm1 := HM1.out
      have hm2 := HM2.out
      go_wp2
      go_region_held3 (fun _ => True) (trivial) (fail)
      go_wp2
      go_ret
      exact ⟨rfl, below_drew hb4⟩
end ColumnLess
end Go.Proofs.YtmdhamaihpdcdaaDoor
