/- Walks of layer 4, the eighth part: the reference's numbers. -/
import Derived.Test.YtfabiidohdkkcaaGreatDoorEntG
import Derived.IntWalk
namespace Go.Proofs.YtfabiidohdkkcaaGreatDoor
open Go Go.RowKit
namespace En
set_option maxRecDepth 100000
set_option linter.unusedVariables false
set_option linter.unusedSimpArgs false

/-- What digits of a base are worth; -1: they are none. -/
def numI (base : Int) (most : Nat) (d : List UInt8) : Int := match numB base most d with
  | none => -1
  | some v => v
theorem numI_no {base : Int} {most : Nat} {d : List UInt8} (h : numB base most d = none) : numI base most d = -1 := by unfold numI; rw [h]
theorem numI_yes {base v : Int} {most : Nat} {d : List UInt8} (h : numB base most d = some v) : numI base most d = v := by unfold numI; rw [h]
theorem numB_bad {base : Int} {most : Nat} {d : List UInt8} {c : UInt8} (h : c ∈ d) (hc : ¬ dg c < base) : numB base most d = none := by
  unfold numB
  rw [if_pos]
  exact Or.inr (Or.inr (List.any_eq_true.2 ⟨c, h, by simp; omega⟩))
/-- The digit so far: the place at which it stands, if it is less than k. -/
def dAt (c : UInt8) (k : Nat) : Int := if dg c < (k : Int) then dg c else -1
theorem dAt_zero (c : UInt8) : dAt c 0 = -1 := by
  have : 0 ≤ dg c := dgt_nn _
  unfold dAt
  rw [if_neg (by omega)]
theorem dAt_hit {c : UInt8} {k : Nat} (h : dg c = k) : dAt c (k + 1) = k := by unfold dAt; rw [if_pos (by omega), h]
theorem dAt_miss {c : UInt8} {k : Nat} (h : ¬ dg c = k) : dAt c (k + 1) = dAt c k := by
  unfold dAt
  by_cases h2 : dg c < k
  · rw [if_pos (by omega), if_pos h2]
  · rw [if_neg (by omega), if_neg h2]
theorem dAt_all {c : UInt8} {k : Nat} (h : dg c < (k : Int)) : dAt c k = dg c := by unfold dAt; rw [if_pos h]
theorem dAt_none {c : UInt8} {k : Nat} (h : ¬ dg c < (k : Int)) : dAt c k = -1 := by unfold dAt; rw [if_neg h]

def lowL : List UInt8 := [48, 49, 50, 51, 52, 53, 54, 55, 56, 57, 97, 98, 99, 100, 101, 102]
def uppL : List UInt8 := [48, 49, 50, 51, 52, 53, 54, 55, 56, 57, 65, 66, 67, 68, 69, 70]
theorem hexes : ∀ (n : Fin 256) (k : Fin 16), ((UInt8.ofNat n.val = lowL.getD k.val 0) ∨ (UInt8.ofNat n.val = uppL.getD k.val 0)) ↔ dgt (n.val : Int) = (k.val : Int) := by decide +kernel
theorem hex_at (c : UInt8) (k : Nat) (hk : k < 16) : (c = lowL.getD k 0 ∨ c = uppL.getD k 0) ↔ dg c = (k : Int) := by
  have := hexes ⟨c.toNat, UInt8.toNat_lt c⟩ ⟨k, hk⟩
  simpa [dg] using this
theorem low_at (k : Nat) (hk : k < 16) : (⟨#[48, 49, 50, 51, 52, 53, 54, 55, 56, 57, 97, 98, 99, 100, 101, 102]⟩ : ByteArray)[k]'hk = lowL.getD k 0 := by
  have : ∀ k : Fin 16, (⟨#[48, 49, 50, 51, 52, 53, 54, 55, 56, 57, 97, 98, 99, 100, 101, 102]⟩ : ByteArray)[k.val]'k.isLt = lowL.getD k.val 0 := by decide
  exact this ⟨k, hk⟩
theorem upp_at (k : Nat) (hk : k < 16) : (⟨#[48, 49, 50, 51, 52, 53, 54, 55, 56, 57, 65, 66, 67, 68, 69, 70]⟩ : ByteArray)[k]'hk = uppL.getD k 0 := by
  have : ∀ k : Fin 16, (⟨#[48, 49, 50, 51, 52, 53, 54, 55, 56, 57, 65, 66, 67, 68, 69, 70]⟩ : ByteArray)[k.val]'k.isLt = uppL.getD k.val 0 := by decide
  exact this ⟨k, hk⟩
theorem u8_eqb {a b : UInt8} (h : a = b) : ((a.toNat : Int) == (b.toNat : Int)) = true := by rw [h]; simp
theorem u8_neb {a b : UInt8} (h : ¬ a = b) : ((a.toNat : Int) == (b.toNat : Int)) = false := by
  have : a.toNat ≠ b.toNat := fun e => h (UInt8.toNat_inj.1 e)
  simp; omega
theorem below_drewN {B : Nat} {a w : World} (h : Below B a w) (n : Nat) : Below B a (w.drewN n) := h.trans ⟨rfl, rfl, rfl, Nat.le_refl _, fun _ _ => rfl⟩

/-- What the outer loop keeps. -/
def ORel (base : Int) (l : List UInt8) (i : Nat) (v : Int) : Prop := v = valN base (l.take i) ∧ ∀ c ∈ l.take i, dg c < base
theorem orel_start (base : Int) (l : List UInt8) : ORel base l 0 0 := by unfold ORel; simp [valN]
theorem orel_step {base : Int} {l : List UInt8} {i : Nat} {v : Int} {c : UInt8} {t : List UInt8} (h : ORel base l i v) (hd : l.drop i = c :: t) (hc : dg c < base) : ORel base l (i + 1) (v * base + dg c) := by
  obtain ⟨h1, h2⟩ := h
  have hget : l[i]? = some c := by
    have := congrArg (fun x => x[0]?) hd
    simpa using this
  obtain ⟨hlt, hge⟩ := List.getElem?_eq_some_iff.1 hget
  have htk : l.take (i + 1) = l.take i ++ [c] := by rw [List.take_succ_eq_append_getElem hlt, hge]
  unfold ORel
  rw [htk]
  refine ⟨by rw [valN_snoc, ← h1], fun x hx => ?_⟩
  rcases List.mem_append.1 hx with hx | hx
  · exact h2 x hx
  · simp at hx; subst hx; exact hc
theorem orel_bound {base : Int} {l : List UInt8} {i m : Nat} {v : Int} (hb : 2 ≤ base) (h : ORel base l i v) (hm : i ≤ m) : 0 ≤ v ∧ v + 1 ≤ base ^ m := by
  obtain ⟨h1, h2⟩ := h
  obtain ⟨b1, b2⟩ := valN_bound base hb _ h2
  rw [← h1] at b1 b2
  refine ⟨b1, Int.le_trans b2 ?_⟩
  have hl : (l.take i).length ≤ m := by rw [List.length_take]; omega
  have := pow_mono (b := base) (by omega) (m - (l.take i).length) (l.take i).length
  rwa [Nat.add_sub_cancel' hl] at this
theorem orel_end {base : Int} {most : Nat} {l : List UInt8} {i : Nat} {v : Int} (h : ORel base l i v) (hi : l.length ≤ i) (h0 : 0 < l.length) (h1 : l.length ≤ most) : numI base most l = v := by
  obtain ⟨h2, h3⟩ := h
  rw [List.take_of_length_le hi] at h2 h3
  rw [numI_yes (numB_some (fun e => by rw [e] at h0; simp at h0) h1 h3), h2]
theorem mem_drop {l : List UInt8} {i : Nat} {c : UInt8} {t : List UInt8} (hd : l.drop i = c :: t) : c ∈ l := List.mem_of_mem_drop (by rw [hd]; exact List.mem_cons_self)

set_option maxHeartbeats 4000000 in
theorem rnumber_10 (s : ByteArray) (w : World) (hs : s.size ≤ 1000000) :
    Calls Tryz.prog 95 #[.string s, .int .i64 10, .int .i64 7] w fun e w' => e = .returned (.int .i64 (numI 10 7 s.data.toList)) ∧ Below w.heap.size w w' := by
  by_cases h0 : s.size = 0
  · have HV : Hid (numI 10 7 s.data.toList = -1) := Lib.hid (numI_no (by
      unfold numB
      rw [if_pos (Or.inl (List.length_eq_zero_iff.1 (by rw [sz]; exact h0)))]))
    have hz : ((s.size : Int) == 0) = true := by simp [h0]
    clear h0
    go_enter Tryz.func95, Tryz.ntmps95
    go_wp2
    go_ret
    exact ⟨ret_int' HV.out.symm, Below.refl _ _⟩
  have hz : ((s.size : Int) == 0) = false := by rw [beq_eq_false_iff_ne]; omega
  by_cases hm : 7 < s.size
  · have HV : Hid (numI 10 7 s.data.toList = -1) := Lib.hid (numI_no (by
      unfold numB
      rw [if_pos (Or.inr (Or.inl (by rw [sz]; exact hm)))]))
    have hz2 : (7 : Int) < (s.size : Int) := by omega
    clear h0
    go_enter Tryz.func95, Tryz.ntmps95
    go_wp2
    go_ret
    exact ⟨ret_int' HV.out.symm, Below.refl _ _⟩
  have hz2 : (s.size : Int) ≤ 7 := by omega
  have hz3 : s.size ≤ 7 := by omega
  have H0 : Hid (0 < s.data.toList.length) := Lib.hid (by rw [sz]; omega)
  have HM : Hid (s.data.toList.length ≤ 7) := Lib.hid (by rw [sz]; omega)
  clear h0 hm
  go_enter Tryz.func95, Tryz.ntmps95
  go_wp2
  go_loopw [7, 8] (fun v7 v8 wr => ∃ (i : Nat) (v : Int), i ≤ s.size ∧ v7 = .int .i64 v ∧ v8 = .int .i64 (i : Int) ∧ Hid (ORel 10 s.data.toList i v) ∧ Hid (Below w.heap.size w wr)) (fun _ v8 _ => s.size - (intOf v8).toNat)
  case atStart => exact ⟨0, 0, by omega, rfl, rfl, Lib.hid (orel_start _ _), Lib.hid (Below.refl _ _)⟩
  case round =>
    obtain ⟨i, v, hi, rfl, rfl, HO, HW⟩ := hrel
    obtain ⟨hv0, hv1⟩ := orel_bound (by decide) HO.out (Nat.le_trans hi hz3)
    have hv2 : v ≤ 9999999 := by
      have : (10 : Int) ^ 7 = 9999999 + 1 := by decide
      omega
    clear hv1
    by_cases hlt : i < s.size
    · obtain ⟨c, t, hd, hck, ht⟩ := cons_at hlt
      have HD := Lib.hid hd
      clear hd ht
      go_wp2
      go_loopw [9, 10] (fun v9 v10 wx => ∃ k : Nat, k ≤ 10 ∧ v9 = .int .i64 (dAt c k) ∧ v10 = .int .i64 (k : Int) ∧ Hid (Below w.heap.size w wx)) (fun _ v10 _ => 10 - (intOf v10).toNat)
      case atStart => exact ⟨0, by omega, by rw [dAt_zero], rfl, HW⟩
      case round =>
        obtain ⟨k, hk, rfl, rfl, HX⟩ := hrel
        by_cases hkl : k < 10
        · have hs1 : (i : Int) < (s.size : Int) := by omega
          have hs2 : (k : Int) < 16 := by omega
          have hs3 : k < 16 := by omega
          have hs4 : (k : Int) < 10 := by omega
          have hh := hex_at c k hs3
          have hlx := low_at k hs3
          have hux := upp_at k hs3
          generalize lowL.getD k 0 = x at *
          generalize uppL.getD k 0 = y at *
          by_cases hx : c = x
          · have HS := Lib.hid (dAt_hit (hh.1 (Or.inl hx)))
            have hb := u8_eqb hx
            clear hh hx
            go_wp2
            go_quiet (fail)
            go_wp2
            go_roundw
            case rel => exact ⟨k + 1, by omega, by rw [HS.out], by go_num, Lib.hid (below_drewN HX.out _)⟩
            case measure => simp [intOf]; omega
          · have hb := u8_neb hx
            by_cases hy : c = y
            · have HS := Lib.hid (dAt_hit (hh.1 (Or.inr hy)))
              have hb2 := u8_eqb hy
              clear hh hx hy
              go_wp2
              go_quiet (fail)
              go_wp2
              go_roundw
              case rel => exact ⟨k + 1, by omega, by rw [HS.out], by go_num, Lib.hid (below_drewN HX.out _)⟩
              case measure => simp [intOf]; omega
            · have HS := Lib.hid (dAt_miss (c := c) (k := k) (fun e => by rcases hh.2 e with e | e; exact hx e; exact hy e))
              have hb2 := u8_neb hy
              clear hh hx hy
              go_wp2
              go_quiet (fail)
              go_wp2
              go_roundw
              case rel => exact ⟨k + 1, by omega, by rw [HS.out], by go_num, Lib.hid (below_drewN HX.out _)⟩
              case measure => simp [intOf]; omega
        · obtain rfl : k = 10 := by omega
          obtain ⟨z, hzz⟩ : ∃ z, dg c = z := ⟨_, rfl⟩
          have hz0 : 0 ≤ z := by rw [← hzz]; exact dgt_nn _
          by_cases hzb : z < 10
          · have HZ := Lib.hid (dAt_all (c := c) (k := 10) (by rw [hzz]; exact hzb))
            rw [hzz] at HZ
            have HS := Lib.hid (orel_step HO.out HD.out (by rw [hzz]; exact hzb))
            rw [hzz] at HS
            rw [HZ.out]
            clear hzz HZ
            go_wp2
            go_roundw
            case rel => exact ⟨i + 1, v * 10 + z, by omega, rfl, by go_num, HS, HX⟩
            case measure => simp [intOf]; omega
          · have HZ := Lib.hid (dAt_none (c := c) (k := 10) (by rw [hzz]; exact hzb))
            have HV := Lib.hid (numI_no (most := 7) (numB_bad (base := 10) (mem_drop HD.out) (by rw [hzz]; exact hzb)))
            rw [HZ.out]
            clear hzz HZ
            go_wp2
            go_ret
            exact ⟨ret_int' HV.out.symm, HX.out⟩
    · have HV := Lib.hid (orel_end HO.out (by rw [sz]; omega) H0.out HM.out)
      go_wp2
      go_ret
      exact ⟨ret_int' HV.out.symm, HW.out⟩

set_option maxHeartbeats 4000000 in
theorem rnumber_16 (s : ByteArray) (w : World) (hs : s.size ≤ 1000000) :
    Calls Tryz.prog 95 #[.string s, .int .i64 16, .int .i64 6] w fun e w' => e = .returned (.int .i64 (numI 16 6 s.data.toList)) ∧ Below w.heap.size w w' := by
  by_cases h0 : s.size = 0
  · have HV : Hid (numI 16 6 s.data.toList = -1) := Lib.hid (numI_no (by
      unfold numB
      rw [if_pos (Or.inl (List.length_eq_zero_iff.1 (by rw [sz]; exact h0)))]))
    have hz : ((s.size : Int) == 0) = true := by simp [h0]
    clear h0
    go_enter Tryz.func95, Tryz.ntmps95
    go_wp2
    go_ret
    exact ⟨ret_int' HV.out.symm, Below.refl _ _⟩
  have hz : ((s.size : Int) == 0) = false := by rw [beq_eq_false_iff_ne]; omega
  by_cases hm : 6 < s.size
  · have HV : Hid (numI 16 6 s.data.toList = -1) := Lib.hid (numI_no (by
      unfold numB
      rw [if_pos (Or.inr (Or.inl (by rw [sz]; exact hm)))]))
    have hz2 : (6 : Int) < (s.size : Int) := by omega
    clear h0
    go_enter Tryz.func95, Tryz.ntmps95
    go_wp2
    go_ret
    exact ⟨ret_int' HV.out.symm, Below.refl _ _⟩
  have hz2 : (s.size : Int) ≤ 6 := by omega
  have hz3 : s.size ≤ 6 := by omega
  have H0 : Hid (0 < s.data.toList.length) := Lib.hid (by rw [sz]; omega)
  have HM : Hid (s.data.toList.length ≤ 6) := Lib.hid (by rw [sz]; omega)
  clear h0 hm
  go_enter Tryz.func95, Tryz.ntmps95
  go_wp2
  go_loopw [7, 8] (fun v7 v8 wr => ∃ (i : Nat) (v : Int), i ≤ s.size ∧ v7 = .int .i64 v ∧ v8 = .int .i64 (i : Int) ∧ Hid (ORel 16 s.data.toList i v) ∧ Hid (Below w.heap.size w wr)) (fun _ v8 _ => s.size - (intOf v8).toNat)
  case atStart => exact ⟨0, 0, by omega, rfl, rfl, Lib.hid (orel_start _ _), Lib.hid (Below.refl _ _)⟩
  case round =>
    obtain ⟨i, v, hi, rfl, rfl, HO, HW⟩ := hrel
    obtain ⟨hv0, hv1⟩ := orel_bound (by decide) HO.out (Nat.le_trans hi hz3)
    have hv2 : v ≤ 16777215 := by
      have : (16 : Int) ^ 6 = 16777215 + 1 := by decide
      omega
    clear hv1
    by_cases hlt : i < s.size
    · obtain ⟨c, t, hd, hck, ht⟩ := cons_at hlt
      have HD := Lib.hid hd
      clear hd ht
      go_wp2
      go_loopw [9, 10] (fun v9 v10 wx => ∃ k : Nat, k ≤ 16 ∧ v9 = .int .i64 (dAt c k) ∧ v10 = .int .i64 (k : Int) ∧ Hid (Below w.heap.size w wx)) (fun _ v10 _ => 16 - (intOf v10).toNat)
      case atStart => exact ⟨0, by omega, by rw [dAt_zero], rfl, HW⟩
      case round =>
        obtain ⟨k, hk, rfl, rfl, HX⟩ := hrel
        by_cases hkl : k < 16
        · have hs1 : (i : Int) < (s.size : Int) := by omega
          have hs2 : (k : Int) < 16 := by omega
          have hs3 : k < 16 := by omega
          have hs4 : (k : Int) < 16 := by omega
          have hh := hex_at c k hs3
          have hlx := low_at k hs3
          have hux := upp_at k hs3
          generalize lowL.getD k 0 = x at *
          generalize uppL.getD k 0 = y at *
          by_cases hx : c = x
          · have HS := Lib.hid (dAt_hit (hh.1 (Or.inl hx)))
            have hb := u8_eqb hx
            clear hh hx
            go_wp2
            go_quiet (fail)
            go_wp2
            go_roundw
            case rel => exact ⟨k + 1, by omega, by rw [HS.out], by go_num, Lib.hid (below_drewN HX.out _)⟩
            case measure => simp [intOf]; omega
          · have hb := u8_neb hx
            by_cases hy : c = y
            · have HS := Lib.hid (dAt_hit (hh.1 (Or.inr hy)))
              have hb2 := u8_eqb hy
              clear hh hx hy
              go_wp2
              go_quiet (fail)
              go_wp2
              go_roundw
              case rel => exact ⟨k + 1, by omega, by rw [HS.out], by go_num, Lib.hid (below_drewN HX.out _)⟩
              case measure => simp [intOf]; omega
            · have HS := Lib.hid (dAt_miss (c := c) (k := k) (fun e => by rcases hh.2 e with e | e; exact hx e; exact hy e))
              have hb2 := u8_neb hy
              clear hh hx hy
              go_wp2
              go_quiet (fail)
              go_wp2
              go_roundw
              case rel => exact ⟨k + 1, by omega, by rw [HS.out], by go_num, Lib.hid (below_drewN HX.out _)⟩
              case measure => simp [intOf]; omega
        · obtain rfl : k = 16 := by omega
          obtain ⟨z, hzz⟩ : ∃ z, dg c = z := ⟨_, rfl⟩
          have hz0 : 0 ≤ z := by rw [← hzz]; exact dgt_nn _
          by_cases hzb : z < 16
          · have HZ := Lib.hid (dAt_all (c := c) (k := 16) (by rw [hzz]; exact hzb))
            rw [hzz] at HZ
            have HS := Lib.hid (orel_step HO.out HD.out (by rw [hzz]; exact hzb))
            rw [hzz] at HS
            rw [HZ.out]
            clear hzz HZ
            go_wp2
            go_roundw
            case rel => exact ⟨i + 1, v * 16 + z, by omega, rfl, by go_num, HS, HX⟩
            case measure => simp [intOf]; omega
          · have HZ := Lib.hid (dAt_none (c := c) (k := 16) (by rw [hzz]; exact hzb))
            have HV := Lib.hid (numI_no (most := 6) (numB_bad (base := 16) (mem_drop HD.out) (by rw [hzz]; exact hzb)))
            rw [HZ.out]
            clear hzz HZ
            go_wp2
            go_ret
            exact ⟨ret_int' HV.out.symm, HX.out⟩
    · have HV := Lib.hid (orel_end HO.out (by rw [sz]; omega) H0.out HM.out)
      go_wp2
      go_ret
      exact ⟨ret_int' HV.out.symm, HW.out⟩
end En
end Go.Proofs.YtfabiidohdkkcaaGreatDoor
