/- ColumnTrims: the law's walk. -/
import Derived.Test.YtmdhamaihpdcdaaDoorColB
namespace Go.Proofs.YtmdhamaihpdcdaaDoor
open Go Go.RowKit
namespace ColumnTrims
open Cl
set_option maxRecDepth 100000
set_option linter.unusedVariables false
set_option linter.unusedSimpArgs false

theorem left_at (s : ByteArray) {l r : List UInt8} (w0 W : World) (h : s = ⟨l.toArray⟩) (hr : lft l = r) (hl : l.length ≤ 1099511627776) (hb : Below w0.heap.size w0 W) :
    Calls Tryd.prog 10 #[.string s] W fun e w' => e = .returned (str r) ∧ Below w0.heap.size w0 w' := by
  subst h hr
  exact from_below (trimLeft_any ⟨l.toArray⟩ W hl) hb

set_option maxHeartbeats 1000000 in
theorem law_any (s : ByteArray) (w : World) (hs : s.size ≤ maxLen) :
    Calls Tryd.prog 3 #[.string s] w fun e w' => e = .returned (.bool true) ∧ Below w.heap.size w w' := by
  unfold maxLen at hs
  have HA := Lib.hid (awake_any w)
  by_cases hbig : 2000 < s.size
  · have hb' : (2000 : Int) < (s.size : Int) := by omega
    go_enter Tryd.func3, Tryd.ntmps3
    go_wp2_with (go_at_call 9; refine HA.out.mono ?_; rintro e w1 ⟨rfl, hb1⟩)
    go_ret
    exact ⟨rfl, hb1⟩
  · have hb' : (s.size : Int) ≤ 2000 := by omega
    have hs2 : s.size ≤ 1099511627776 := by omega
    have hl1 : (lft s.data.toList).length ≤ 2000 := by have := lft_len s.data.toList; rw [sz] at this; omega
    have hl2 : (rgt s.data.toList).length ≤ 2000 := by have := rgt_len s.data.toList; rw [sz] at this; omega
    have hl3 : (trm s.data.toList).length ≤ 2000 := by have := trm_len s.data.toList; rw [sz] at this; omega
    have HL := Lib.hid (fun W => trimLeft_any s W hs2)
    have HR := Lib.hid (fun W => trimRight_any s W hs2)
    have HT := Lib.hid (fun W => trim_any s W hs2)
    have GL := Lib.hid (fun W => rleft_any s W hs2)
    have GR := Lib.hid (fun W => rright_any s W hs2)
    have GLR := Lib.hid (fun W => rleft_any ⟨(rgt s.data.toList).toArray⟩ W (by show (rgt s.data.toList).length ≤ _; omega))
    have HTT := Lib.hid (fun W => trim_any ⟨(trm s.data.toList).toArray⟩ W (by show (trm s.data.toList).length ≤ _; omega))
    have HLR := Lib.hid (fun W => trimLeft_any ⟨(rgt s.data.toList).toArray⟩ W (by show (rgt s.data.toList).length ≤ _; omega))
    rw [show lft (⟨(rgt s.data.toList).toArray⟩ : ByteArray).data.toList = trm s.data.toList from rfl] at GLR HLR
    rw [show trm (⟨(trm s.data.toList).toArray⟩ : ByteArray).data.toList = trm (trm s.data.toList) from rfl, trm_trm] at HTT
    unfold str at *
    clear hl1 hl2 hl3 hbig
    generalize (⟨(lft s.data.toList).toArray⟩ : ByteArray) = a at *
    generalize (⟨(rgt s.data.toList).toArray⟩ : ByteArray) = b at *
    generalize (⟨(trm s.data.toList).toArray⟩ : ByteArray) = c at *
    go_enter Tryd.func3, Tryd.ntmps3
    go_wp2_with (go_at_call 9; refine HA.out.mono ?_; rintro e w1 ⟨rfl, hb1⟩)
    refine (from_below (HL.out _) hb1).mono ?_
    rintro e w2 ⟨rfl, hb2⟩
    go_wp2_with fail
    refine (from_below (HR.out _) hb2).mono ?_
    rintro e w3 ⟨rfl, hb3⟩
    go_wp2_with fail
    refine (from_below (HT.out _) hb3).mono ?_
    rintro e w4 ⟨rfl, hb4⟩
    go_wp2_with fail
    refine (GL.out _).mono ?_
    rintro e w' ⟨rfl, rfl⟩
    go_wp2_with fail
    refine (GR.out _).mono ?_
    rintro e w' ⟨rfl, rfl⟩
    go_wp2_with fail
    refine (GR.out _).mono ?_
    rintro e w' ⟨rfl, rfl⟩
    go_wp2_with fail
    refine (GLR.out _).mono ?_
    rintro e w' ⟨rfl, rfl⟩
    go_wp2_with fail
    refine (from_below (HTT.out _) hb4).mono ?_
    rintro e w5 ⟨rfl, hb5⟩
    go_wp2_with fail
    refine (from_below (HLR.out _) hb5).mono ?_
    rintro e w6 ⟨rfl, hb6⟩
    go_wp2
    go_ret
    exact ⟨rfl, hb6⟩
end ColumnTrims
end Go.Proofs.YtmdhamaihpdcdaaDoor
