/- ColumnEnds: the law's walk. -/
import Derived.Test.YtmdhamaihpdcdaaDoorColB
namespace Go.Proofs.YtmdhamaihpdcdaaDoor
open Go Go.RowKit
namespace ColumnEnds
open Cl
set_option maxRecDepth 100000
set_option linter.unusedVariables false
set_option linter.unusedSimpArgs false

set_option maxHeartbeats 1000000 in
theorem law_any (s : ByteArray) (w : World) (hs : s.size ≤ maxLen) :
    Calls Tryd.prog 8 #[.string s] w fun e w' => e = .returned (.bool true) ∧ Below w.heap.size w w' := by
  unfold maxLen at hs
  have HA := Lib.hid (awake_any w)
  by_cases hbig : 1000 < s.size
  · have hb' : (1000 : Int) < (s.size : Int) := by omega
    go_enter Tryd.func8, Tryd.ntmps8
    go_wp2_with (go_at_call 9; refine HA.out.mono ?_; rintro e w1 ⟨rfl, hb1⟩)
    go_ret
    exact ⟨rfl, hb1⟩
  · have hb' : (s.size : Int) ≤ 1000 := by omega
    have hs2 : s.size ≤ 1099511627776 := by omega
    have hl1 : (lft s.data.toList).length ≤ 2000 := by have := lft_len s.data.toList; rw [sz] at this; omega
    have hl2 : (rgt s.data.toList).length ≤ 2000 := by have := rgt_len s.data.toList; rw [sz] at this; omega
    have HL := Lib.hid (fun W => trimLeft_any s W hs2)
    have HR := Lib.hid (fun W => trimRight_any s W hs2)
    have HT := Lib.hid (fun W => trim_any s W hs2)
    have HLR := Lib.hid (fun W => trimLeft_any ⟨(rgt s.data.toList).toArray⟩ W (by show (rgt s.data.toList).length ≤ _; omega))
    have HRL := Lib.hid (fun W => trimRight_any ⟨(lft s.data.toList).toArray⟩ W (by show (lft s.data.toList).length ≤ _; omega))
    have HX := Lib.hid (fun W => trim_any ((⟨#[32, 10]⟩ : ByteArray) ++ s ++ ⟨#[9]⟩) W (by
      rw [ByteArray.size_append, ByteArray.size_append, show (⟨#[32, 10]⟩ : ByteArray).size = 2 from rfl, show (⟨#[9]⟩ : ByteArray).size = 1 from rfl]; omega))
    rw [show ((⟨#[32, 10]⟩ : ByteArray) ++ s ++ ⟨#[9]⟩).data.toList = [32, 10] ++ s.data.toList ++ [9] from by simp, trm_white _ _ _ (by decide) (by decide)] at HX
    rw [show lft (⟨(rgt s.data.toList).toArray⟩ : ByteArray).data.toList = trm s.data.toList from rfl] at HLR
    rw [show rgt (⟨(lft s.data.toList).toArray⟩ : ByteArray).data.toList = rgt (lft s.data.toList) from rfl, ← lft_rgt_comm, show lft (rgt s.data.toList) = trm s.data.toList from rfl] at HRL
    unfold str at *
    clear hl1 hl2 hbig
    generalize (⟨(lft s.data.toList).toArray⟩ : ByteArray) = a at *
    generalize (⟨(rgt s.data.toList).toArray⟩ : ByteArray) = b at *
    generalize (⟨(trm s.data.toList).toArray⟩ : ByteArray) = c at *
    go_enter Tryd.func8, Tryd.ntmps8
    go_wp2_with (go_at_call 9; refine HA.out.mono ?_; rintro e w1 ⟨rfl, hb1⟩)
    refine (from_below (HR.out _) hb1).mono ?_
    rintro e w2 ⟨rfl, hb2⟩
    go_wp2_with fail
    refine (from_below (HLR.out _) hb2).mono ?_
    rintro e w3 ⟨rfl, hb3⟩
    go_wp2_with fail
    refine (from_below (HT.out _) hb3).mono ?_
    rintro e w4 ⟨rfl, hb4⟩
    go_wp2_with fail
    refine (from_below (HL.out _) hb4).mono ?_
    rintro e w5 ⟨rfl, hb5⟩
    go_wp2_with fail
    refine (from_below (HRL.out _) hb5).mono ?_
    rintro e w6 ⟨rfl, hb6⟩
    go_wp2_with fail
    refine (from_below (HT.out _) hb6).mono ?_
    rintro e w7 ⟨rfl, hb7⟩
    go_wp2_with fail
    refine (from_below (HX.out _) hb7).mono ?_
    rintro e w8 ⟨rfl, hb8⟩
    go_wp2_with fail
    refine (from_below (HT.out _) hb8).mono ?_
    rintro e w9 ⟨rfl, hb9⟩
    go_wp2
    go_ret
    exact ⟨rfl, hb9⟩
end ColumnEnds
end Go.Proofs.YtmdhamaihpdcdaaDoor
