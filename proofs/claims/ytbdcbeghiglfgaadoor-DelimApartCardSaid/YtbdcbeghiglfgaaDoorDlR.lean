/- Walks of layer 13: the reference's Flank and fits. -/
import Derived.Test.YtbdcbeghiglfgaaDoorDlCls
import Derived.Test.YtbdcbeghiglfgaaDoorDlLaw
namespace Go.Proofs.YtbdcbeghiglfgaaDoor
open Go Go.RowKit
namespace Dl
set_option maxRecDepth 100000
set_option linter.unusedVariables false
set_option linter.unusedSimpArgs false

theorem eq_u8 (c : UInt8) (n : Nat) (hn : n < 256) : ((c.toNat : Int) == (n : Int)) = (c == UInt8.ofNat n) := by
  rw [Bool.eq_iff_iff, beq_iff_eq, beq_iff_eq]
  constructor
  · intro e
    have e2 : c.toNat = n := Int.ofNat.inj e
    rw [← e2, UInt8.ofNat_toNat]
  · intro e
    rw [e]; simp only [UInt8.toNat_ofNat']; omega
theorem u8_same (a b : UInt8) : ((a.toNat : Int) == (b.toNat : Int)) = (a == b) := by
  rw [Bool.eq_iff_iff, beq_iff_eq, beq_iff_eq]
  exact ⟨fun h => UInt8.toNat_inj.1 (Int.ofNat.inj h), fun h => by rw [h]⟩

/-- What Flank answers. -/
def flankV (b a : Int) (c : UInt8) : Value := .tuple #[.bool (flankP b a c).1, .bool (flankP b a c).2]

set_option maxHeartbeats 8000000 in
theorem rflank_any (b a : Int) (c : UInt8) (w : World) :
    Calls Tryd.prog 12 #[.int .i32 b, .int .i32 a, .int .u8 (c.toNat : Int)] w fun e w' => e = .returned (flankV b a c) ∧ Below w.heap.size w w' := by
  have e95 : ((c.toNat : Int) == 95) = (c == 95) := eq_u8 c 95 (by decide)
  have HSb := Lib.hid (fun w => rspace_any b w)
  have HSa := Lib.hid (fun w => rspace_any a w)
  have HPb := Lib.hid (fun w => rpunct_any b w)
  have HPa := Lib.hid (fun w => rpunct_any a w)
  have HWb : Hid (isW b = (b == 0 || amg whites b)) := Lib.hid rfl
  have HWa : Hid (isW a = (a == 0 || amg whites a)) := Lib.hid rfl
  have HV : Hid (flankV b a c = .tuple #[.bool (if (c == 95) = true then ((!isW a && (!amg signs a || isW b || amg signs b)) && (!(!isW b && (!amg signs b || isW a || amg signs a)) || amg signs b)) else (!isW a && (!amg signs a || isW b || amg signs b))), .bool (if (c == 95) = true then ((!isW b && (!amg signs b || isW a || amg signs a)) && (!(!isW a && (!amg signs a || isW b || amg signs b)) || amg signs a)) else (!isW b && (!amg signs b || isW a || amg signs a)))]) := Lib.hid (by
    unfold flankV flankP leans isS
    simp only [beq_iff_eq]
    split <;> rfl)
  obtain ⟨V, hV⟩ : ∃ V, flankV b a c = V := ⟨_, rfl⟩
  rw [hV] at HV ⊢
  clear hV
  generalize amg whites b = sb at *
  generalize amg whites a = sa at *
  generalize amg signs b = pb at *
  generalize amg signs a = pa at *
  generalize isW b = wb at *
  generalize isW a = wa at *
  go_enter Tryd.func12, Tryd.ntmps12
  go_upto_region 1 with fail
  go_cut [8] (fun v8 wx => v8 = .bool wb ∧ Below w.heap.size w wx)
  case first =>
    cases hb0 : (b == 0) with
    | true =>
      rw [hb0] at HWb
      go_wp2
      go_meet
      exact ⟨by rw [HWb.out]; rfl, Below.refl _ _⟩
    | false =>
      rw [hb0] at HWb
      go_wp2_with fail
      refine (HSb.out _).mono ?_
      rintro e w1 ⟨rfl, hb1⟩
      go_wp2
      go_meet
      exact ⟨by rw [HWb.out]; rfl, hb1⟩
  obtain ⟨rfl, hbx⟩ := hcut
  have HB1 := Lib.hid hbx
  clear hbx
  go_upto_region 2 with fail
  go_cut [9] (fun v9 wx => v9 = .bool wa ∧ Below w.heap.size w wx)
  case first =>
    cases ha0 : (a == 0) with
    | true =>
      rw [ha0] at HWa
      go_wp2
      go_meet
      exact ⟨by rw [HWa.out]; rfl, HB1.out⟩
    | false =>
      rw [ha0] at HWa
      go_wp2_with fail
      refine (HSa.out _).mono ?_
      rintro e w1 ⟨rfl, hb1⟩
      go_wp2
      go_meet
      exact ⟨by rw [HWa.out]; rfl, below_later HB1.out hb1⟩
  obtain ⟨rfl, hbx⟩ := hcut
  have HB2 := Lib.hid hbx
  clear hbx
  go_wp2_with fail
  refine (HPb.out _).mono ?_
  rintro e w1 ⟨rfl, hb1⟩
  have HB3 := Lib.hid (below_later HB2.out hb1)
  clear hb1
  go_wp2_with fail
  refine (HPa.out _).mono ?_
  rintro e w2 ⟨rfl, hb2⟩
  have HB4 := Lib.hid (below_later HB3.out hb2)
  clear hb2
  go_upto_region 5 with fail
  go_cut [12] (fun v12 wx => v12 = .bool (!wa && (!pa || wb || pb)) ∧ Below w.heap.size w wx)
  case first =>
    cases wa <;> cases pa <;> cases wb <;> cases pb <;>
    · go_wp2
      go_meet
      exact ⟨rfl, HB4.out⟩
  obtain ⟨rfl, hbx⟩ := hcut
  have HB5 := Lib.hid hbx
  clear hbx
  go_upto_region 6 with fail
  go_cut [13] (fun v13 wx => v13 = .bool (!wb && (!pb || wa || pa)) ∧ Below w.heap.size w wx)
  case first =>
    cases wb <;> cases pb <;> cases wa <;> cases pa <;>
    · go_wp2
      go_meet
      exact ⟨rfl, HB5.out⟩
  obtain ⟨rfl, hbx⟩ := hcut
  have HB6 := Lib.hid hbx
  clear hbx
  generalize (!wa && (!pa || wb || pb)) = r at *
  generalize (!wb && (!pb || wa || pa)) = l at *
  generalize (c == 95) = q at *
  cases q with
  | true =>
    have HV2 : Hid (V = .tuple #[.bool (r && (!l || pb)), .bool (l && (!r || pa))]) := Lib.hid HV.out
    clear HV
    cases r <;> cases l <;> cases pb <;> cases pa <;>
    · go_wp2
      go_ret2
      exact ⟨retV (by rw [HV2.out]; rfl), HB6.out⟩
  | false =>
    have HV2 : Hid (V = .tuple #[.bool r, .bool l]) := Lib.hid HV.out
    clear HV
    go_wp2
    go_ret2
    exact ⟨retV HV2.out.symm, HB6.out⟩
end Dl
end Go.Proofs.YtbdcbeghiglfgaaDoor
