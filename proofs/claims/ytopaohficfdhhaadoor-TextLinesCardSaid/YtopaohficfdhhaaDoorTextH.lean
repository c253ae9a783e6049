/- Walks of layer 1, the eighth part: the reference's Join and Blank. -/
import Derived.Test.YtopaohficfdhhaaDoorTextF
namespace Go.Proofs.YtopaohficfdhhaaDoor
open Go Go.RowKit
namespace Tx
set_option maxRecDepth 100000
set_option linter.unusedVariables false
set_option linter.unusedSimpArgs false

theorem join_take (L : List (List UInt8)) (k : Nat) (h : k < L.length) : join (L.take (k + 1)) = join (L.take k) ++ L[k] ++ [10] := by
  unfold join; rw [List.take_succ_eq_append_getElem h, List.map_append, List.flatten_append]; simp

set_option maxHeartbeats 1000000 in
theorem rjoin_any (L : List (List UInt8)) (v : Value) (w : World) (hv : SSl w v L) (hl : (join L).length ≤ 1099511627776) :
    Calls Tryd.prog 19 #[v] w fun e w' => e = .returned (str (join L)) ∧ w = w' := by
  obtain ⟨ao, cap, rfl, hlen, hrow⟩ := hv
  have Hrow := Lib.hid hrow
  clear hrow
  go_enter Tryd.func19, Tryd.ntmps19
  go_wp2
  go_loop [3, 4] (fun s3 s4 => ∃ (k : Nat), k ≤ L.length ∧ s4 = .int .i64 k ∧ s3 = str (join (L.take k))) (fun _ s4 => L.length - (intOf s4).toNat)
  case atStart => exact ⟨0, Nat.zero_le _, rfl, rfl⟩
  case round =>
    obtain ⟨k, hk, rfl, rfl⟩ := hrel
    by_cases hlt : k < L.length
    · have hkl : (k : Int) < (L.length : Int) := by omega
      obtain ⟨b, off, rfl, hr⟩ := Hrow.out (by intro e; subst e; simp at hlt)
      have hc := hr k hlt
      have HJ := Lib.hid (join_take L k hlt)
      have hjl : (join (L.take (k + 1))).length ≤ (join L).length := by
        have : join L = join (L.take (k + 1)) ++ join (L.drop (k + 1)) := by simp only [join]; rw [← List.flatten_append, ← List.map_append, List.take_append_drop]
        rw [this, List.length_append]; omega
      rw [HJ.out, List.length_append, List.length_append] at hjl
      simp only [List.length_cons, List.length_nil] at hjl
      clear hr
      generalize L[k] = x at *
      generalize join (L.take k) = y at *
      have g1 : ¬ 9223372036854775807 < y.length + x.length := by omega
      have g2 : ¬ 9223372036854775807 < y.length + x.length + 1 := by omega
      unfold str at hc ⊢
      go_wp2
      go_round
      case rel =>
        refine ⟨k + 1, by omega, by go_num, ?_⟩
        rw [HJ.out]
        first | rfl | (apply congrArg Value.string; simp [ByteArray.ext_iff])
      case measure => simp [intOf]; omega
    · have hkl : ¬ ((k : Int) < (L.length : Int)) := by omega
      go_wp2
      go_ret
      rw [List.take_of_length_le (by omega)]
      exact ⟨rfl, rfl⟩

set_option maxHeartbeats 1000000 in
theorem rblank_any (s : ByteArray) (w : World) (hs : s.size ≤ maxLen) :
    Calls Tryd.prog 21 #[.string s] w fun e w' => e = .returned (.bool (Tx.blank s.data.toList)) ∧ w = w' := by
  unfold maxLen at hs
  have hdl : s.data.toList.length = s.size := by rw [Array.length_toList]; rfl
  go_enter Tryd.func21, Tryd.ntmps21
  go_wp2
  go_loop [3] (fun s3 => ∃ (k : Nat), k ≤ s.size ∧ s3 = .int .i64 k ∧ Hid (Tx.blank (s.data.toList.take k) = true)) (fun s3 => s.size - (intOf s3).toNat)
  case atStart => exact ⟨0, Nat.zero_le _, rfl, Lib.hid rfl⟩
  case round =>
    obtain ⟨k, hk, rfl, HB⟩ := hrel
    by_cases hlt : k < s.size
    · have hge : s.data.toList[k]'(by omega) = s[k] := by rw [Array.getElem_toList]; rfl
      have HT : Hid (s.data.toList.take (k + 1) = s.data.toList.take k ++ [s[k]]) := Lib.hid (by rw [List.take_succ_eq_append_getElem (by omega), hge])
      have HM : Hid (s[k] ∈ s.data.toList) := Lib.hid (by rw [← hge]; exact List.getElem_mem _)
      clear hge
      by_cases hc : s[k] = 32 ∨ s[k] = 9
      · have hc2 : (s[k].toNat : Int) = 32 ∨ (s[k].toNat : Int) = 9 := by
          rcases hc with h | h
          · exact Or.inl (by rw [h]; rfl)
          · exact Or.inr (by rw [h]; rfl)
        have HB2 : Hid (Tx.blank (s.data.toList.take (k + 1)) = true) := Lib.hid (by
          rw [HT.out, blank_append, HB.out]
          rcases hc with h | h <;> rw [h] <;> rfl)
        clear hc
        rcases hc2 with h | h
        · go_wp2
          go_round
          case rel => exact ⟨k + 1, by omega, by go_num, HB2⟩
          case measure => simp [intOf]; omega
        · go_wp2
          go_round
          case rel => exact ⟨k + 1, by omega, by go_num, HB2⟩
          case measure => simp [intOf]; omega
      · have n32 : ¬ (s[k].toNat : Int) = 32 := fun e => hc (Or.inl (UInt8.toNat_inj.1 (by simp; omega)))
        have n9 : ¬ (s[k].toNat : Int) = 9 := fun e => hc (Or.inr (UInt8.toNat_inj.1 (by simp; omega)))
        have b32 : ((s[k].toNat : Int) != 32) = true := by simpa using n32
        have b9 : ((s[k].toNat : Int) != 9) = true := by simpa using n9
        have HR : Hid (Tx.blank s.data.toList = false) := Lib.hid (by
          cases hb : Tx.blank s.data.toList with
          | false => rfl
          | true =>
            have := List.all_eq_true.1 hb _ HM.out
            simp only [Bool.or_eq_true, beq_iff_eq] at this
            exact absurd this hc)
        clear hc
        go_wp2
        go_ret
        rw [HR.out]; exact ⟨rfl, rfl⟩
    · have hR := HB.out
      rw [List.take_of_length_le (by omega)] at hR
      have HR := Lib.hid hR
      clear hR
      go_wp2
      go_ret
      rw [HR.out]; exact ⟨rfl, rfl⟩
end Tx
end Go.Proofs.YtopaohficfdhhaaDoor
