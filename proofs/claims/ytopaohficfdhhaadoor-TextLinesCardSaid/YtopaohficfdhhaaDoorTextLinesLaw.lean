/- TextLines: the law's walk. -/
import Derived.Test.YtopaohficfdhhaaDoorTextG
import Derived.Test.YtopaohficfdhhaaDoorTextH
namespace Go.Proofs.YtopaohficfdhhaaDoor
open Go Go.RowKit
namespace TextLines
open Tx
set_option maxRecDepth 100000
set_option linter.unusedVariables false
set_option linter.unusedSimpArgs false

theorem join_len (L : List (List UInt8)) (h : ∀ x ∈ L, x.length ≤ 1000) : (join L).length ≤ 1001 * L.length := by
  induction L with
  | nil => simp [join]
  | cons a t ih =>
    have h1 := h a (by simp)
    have h2 := ih (fun x hx => h x (by simp [hx]))
    simp [join] at h2 ⊢; omega

set_option maxHeartbeats 2000000 in
theorem law_any (s : ByteArray) (L : List (List UInt8)) (v : Value) (w : World) (hs : s.size ≤ maxLen) (hL : SSl w v L ∧ ∀ x ∈ L, x.length ≤ maxLen) :
    Calls Tryd.prog 4 #[.string s, v] w fun e w' => e = .returned (.bool true) ∧ Below w.heap.size w w' := by
  obtain ⟨hv, hx⟩ := hL
  have hs' := hs
  unfold maxLen at hs hx
  have HA := Lib.hid (awake_any w)
  have HV := Lib.hid hv
  obtain ⟨ao, cap, rfl, hlen, hrow⟩ := hv
  have Hrow := Lib.hid hrow
  have Hx := Lib.hid hx
  have Hs' := Lib.hid hs'
  clear hrow hx hs'
  by_cases h1 : s.size > 3000
  · go_enter Tryd.func4, Tryd.ntmps4
    go_wp2_with (go_at_call 10; refine HA.out.mono ?_; rintro e w1 ⟨rfl, hb1⟩)
    go_ret
    exact ⟨rfl, hb1⟩
  by_cases h2 : L.length > 100
  · go_enter Tryd.func4, Tryd.ntmps4
    go_wp2_with (go_at_call 10; refine HA.out.mono ?_; rintro e w1 ⟨rfl, hb1⟩)
    go_ret
    exact ⟨rfl, hb1⟩
  have h1' : s.size ≤ 3000 := by omega
  have h2' : L.length ≤ 100 := by omega
  clear h1 h2
  have d1 : decide (3000 < (s.size : Int)) = false := by simp; omega
  have d2 : decide (100 < (L.length : Int)) = false := by simp; omega
  go_enter Tryd.func4, Tryd.ntmps4
  go_wp2_with (go_at_call 10; refine HA.out.mono ?_; rintro e w1 ⟨rfl, hb1⟩)
  have HV1 := Lib.hid (HV.out.below hb1)
  go_loop [6] (fun s6 => ∃ (k : Nat), k ≤ L.length ∧ s6 = .int .i64 k ∧ Hid (∀ x ∈ L.take k, x.length ≤ 1000)) (fun s6 => L.length - (intOf s6).toNat)
  case atStart => exact ⟨0, Nat.zero_le _, rfl, Lib.hid (by intro x hx; simp at hx)⟩
  case round =>
    obtain ⟨k, hk, rfl, HK⟩ := hrel
    by_cases hlt : k < L.length
    · have hkl : (k : Int) < (L.length : Int) := by omega
      obtain ⟨ao', cap', e1, _, hr⟩ := HV1.out
      obtain ⟨b, off, e2, hc0⟩ := hr (by intro e; subst e; simp at hlt)
      simp only [Value.slice.injEq] at e1
      obtain ⟨rfl, _, rfl⟩ := e1
      subst e2
      have hc := hc0 k hlt
      have HT : Hid (L.take (k + 1) = L.take k ++ [L[k]]) := Lib.hid (List.take_succ_eq_append_getElem hlt)
      have hxm := Hx.out L[k] (List.getElem_mem _)
      clear hr hc0
      generalize L[k] = x at *
      unfold str at hc
      by_cases hx1 : x.length > 1000
      · have hsz : (⟨x.toArray⟩ : ByteArray).size = x.length := rfl
        go_wp2
        go_ret
        exact ⟨rfl, hb1⟩
      · have hsz : (⟨x.toArray⟩ : ByteArray).size = x.length := rfl
        have hx2 : x.length ≤ 1000 := by omega
        clear hx1
        go_wp2
        go_round
        case rel =>
          refine ⟨k + 1, by omega, by go_num, Lib.hid ?_⟩
          rw [HT.out]
          intro y hy
          rcases List.mem_append.1 hy with hy | hy
          · exact HK.out y hy
          · simp at hy; subst hy; exact hx2
        case measure => simp [intOf]; omega
    · have hkl : ¬ ((k : Int) < (L.length : Int)) := by omega
      have hall : ∀ x ∈ L, x.length ≤ 1000 := by
        have := HK.out; rw [List.take_of_length_le (by omega)] at this; exact this
      have hj := join_len L hall
      have Hj : Hid ((join L).length ≤ 1099511627776) := Lib.hid (by omega)
      clear hall hj
      have hsb : s.size ≤ 1099511627776 := by omega
      go_wp2_with fail
      refine (lines_any s _ hsb).mono ?_
      rintro e w2 ⟨v1, rfl, ho2, hb2⟩
      have hll : (lines s.data.toList).length ≤ 9223372036854775807 := by
        have := lines_length s.data.toList
        have h2 : s.data.toList.length = s.size := by rw [Array.length_toList]; rfl
        omega
      have S1 := Lib.hid (ho2.ssl hll)
      have HV2 := Lib.hid (HV1.out.below hb2)
      have hbw2 := hb1.trans (hb2.mono hb1.size)
      clear ho2
      go_wp2_with fail
      refine (rlines_any s _ hsb).mono ?_
      rintro e w3 ⟨v2, rfl, ho3, hb3⟩
      have S2 := Lib.hid (ho3.ssl hll)
      have S1' := Lib.hid (S1.out.below hb3)
      have HV3 := Lib.hid (HV2.out.below hb3)
      have hbw3 := hbw2.trans (hb3.mono hbw2.size)
      clear ho3 hb2 hb3 hbw2 hll
      go_wp2_with fail
      refine (same_any _ _ _ _ _ S1'.out S2.out).mono ?_
      rintro e w4 ⟨rfl, n, hw4⟩
      rw [decide_eq_true (Eq.refl (lines s.data.toList))]
      have HV4 : Hid (SSl w4 (.slice ao L.length cap) L) := Lib.hid (by rw [hw4]; exact HV3.out.below (below_drewN (Below.refl _ _) n))
      have hbw4 : Below w.heap.size w w4 := by rw [hw4]; exact below_drewN hbw3 n
      clear hw4 hbw3
      go_wp2_with fail
      refine (join_any L _ _ HV4.out Hj.out).mono ?_
      rintro e w5 ⟨rfl, hb5⟩
      have HV5 := Lib.hid (HV4.out.below hb5)
      have hbw5 := hbw4.trans (hb5.mono hbw4.size)
      clear hb5 hbw4
      go_wp2_with fail
      refine (rjoin_any L _ _ HV5.out Hj.out).mono ?_
      rintro e w6 ⟨rfl, rfl⟩
      generalize join L = jl at *
      unfold str
      go_wp2_with fail
      refine (blank_from rfl (by omega) hbw5).mono ?_
      rintro e w7 ⟨rfl, hb7⟩
      go_wp2_with fail
      refine (rblank_any s _ Hs'.out).mono ?_
      rintro e w8 ⟨rfl, rfl⟩
      generalize Tx.blank s.data.toList = bb at *
      go_wp2
      go_ret
      first | exact ⟨rfl, hb7⟩ | (refine ⟨ret_bool ?_, hb7⟩; cases bb <;> rfl)
end TextLines
end Go.Proofs.YtopaohficfdhhaaDoor
