/- LinkPlain: the law's walk. -/
import Derived.Test.YtilippcmdhkddaaDoorLkL
import Derived.Deep.RegionHeld
import Derived.Deep.DrawnRows
namespace Go.Proofs.YtilippcmdhkddaaDoor
open Go Go.RowKit
namespace LinkPlain
open Lk
set_option maxRecDepth 100000
set_option linter.unusedVariables false
set_option linter.unusedSimpArgs false
attribute [local go_sem ↓] Go.wp_at_zero Go.wp_at_succ

theorem ok_step {s : ByteArray} {m : Nat} {x : UInt8} {t : List UInt8} {P : UInt8 → Prop} (hd : s.data.toList.drop m = x :: t) (hx : P x) (h : ∀ c ∈ s.data.toList.take m, P c) : ∀ c ∈ s.data.toList.take (m + 1), P c := by
  intro c hc
  rw [List.take_add, hd, List.mem_append] at hc
  rcases hc with hc | hc
  · exact h c hc
  · simp only [List.take_succ_cons, List.take_zero, List.mem_singleton] at hc
    rw [hc]; exact hx
theorem below_drewP {B : Nat} {a w : World} (h : Below B a w) : Below B a w.drew := ⟨h.os, h.tape, h.output, h.size, h.block⟩

/-- (address "title"), joined piece by piece. -/
theorem tail_joined (dest title : ByteArray) (c e : UInt8) (hc : c = 34 ∨ c = 39 ∨ c = 40) (he : endB c = e) (hne : dest.data.toList ≠ []) (h1 : dest.size ≤ 500) (h2 : title.size ≤ 500) :
    ∃ J1 J2 J3 J4 J5 J : ByteArray, (⟨#[40]⟩ : ByteArray) ++ dest = J1 ∧ J1 ++ (⟨#[32]⟩ : ByteArray) = J2 ∧ J2 ++ (⟨#[c]⟩ : ByteArray) = J3 ∧ J3 ++ title = J4 ∧ J4 ++ (⟨#[e]⟩ : ByteArray) = J5 ∧ J5 ++ (⟨#[41]⟩ : ByteArray) = J ∧
      J1.size ≤ 2000 ∧ J2.size ≤ 2000 ∧ J3.size ≤ 2000 ∧ J4.size ≤ 2000 ∧ J5.size ≤ 2000 ∧ J.size ≤ 2000 ∧
      ((∀ x ∈ dest.data.toList, ad x) → (∀ x ∈ title.data.toList, ad x) → tailP J.data.toList = (dest.data.toList, title.data.toList, dest.size + title.size + 5)) := by
  obtain ⟨J1, a1, d1, s1⟩ := joined ⟨#[40]⟩ dest
  obtain ⟨J2, a2, d2, s2⟩ := joined J1 ⟨#[32]⟩
  obtain ⟨J3, a3, d3, s3⟩ := joined J2 ⟨#[c]⟩
  obtain ⟨J4, a4, d4, s4⟩ := joined J3 title
  obtain ⟨J5, a5, d5, s5⟩ := joined J4 ⟨#[e]⟩
  obtain ⟨J, a6, d6, s6⟩ := joined J5 ⟨#[41]⟩
  have t1 : J1.size = 1 + dest.size := s1
  have t2 : J2.size = J1.size + 1 := s2
  have t3 : J3.size = J2.size + 1 := s3
  have t5 : J5.size = J4.size + 1 := s5
  have t6 : J.size = J5.size + 1 := s6
  refine ⟨J1, J2, J3, J4, J5, J, a1, a2, a3, a4, a5, a6, by omega, by omega, by omega, by omega, by omega, by omega, fun hd ht => ?_⟩
  have := ad_tail hd hne ht hc
  rw [he, szL, szL] at this
  rw [← this, d6, d5, d4, d3, d2, d1]
  simp
/-- ( <address> ), joined piece by piece. -/
theorem tail2_joined (dest : ByteArray) (h1 : dest.size ≤ 500) :
    ∃ K1 K : ByteArray, (⟨#[40, 32, 60]⟩ : ByteArray) ++ dest = K1 ∧ K1 ++ (⟨#[62, 32, 41]⟩ : ByteArray) = K ∧ K1.size ≤ 2000 ∧ K.size ≤ 2000 ∧
      ((∀ x ∈ dest.data.toList, ad x) → tailP K.data.toList = (dest.data.toList, [], dest.size + 6)) := by
  obtain ⟨K1, a1, d1, s1⟩ := joined ⟨#[40, 32, 60]⟩ dest
  obtain ⟨K, a2, d2, s2⟩ := joined K1 ⟨#[62, 32, 41]⟩
  have t1 : K1.size = 3 + dest.size := s1
  have t2 : K.size = K1.size + 3 := s2
  refine ⟨K1, K, a1, a2, by omega, by omega, fun hd => ?_⟩
  have := ad_tail2 hd
  rw [szL] at this
  rw [← this, d2, d1]
  simp

set_option maxHeartbeats 16000000 in
theorem law_any (dest title : ByteArray) (how : Int) (w : World) (hL : LaidL w) (hs : dest.size ≤ maxLen) (hs2 : title.size ≤ maxLen) :
    Calls Tryd.prog 5 #[.string dest, .string title, .int .i64 how] w fun e w' => e = .returned (.bool true) ∧ Below w.heap.size w w' := by
  unfold maxLen at hs hs2
  have HA := Lib.hid (frm_awake hL)
  have hb0 := Below.refl w.heap.size w
  by_cases h0 : 0 < dest.size
  case neg =>
    obtain rfl : dest = ⟨#[]⟩ := ba_eqL (l := []) (List.length_eq_zero_iff.1 (by rw [szL]; omega))
    clear hL h0
    go_enter Tryd.func5, Tryd.ntmps5
    go_wp2_with fail
    refine (HA.out _ hb0).mono ?_
    rintro e w1 ⟨rfl, hb1⟩
    go_wp2
    go_ret
    exact ⟨rfl, hb1⟩
  have he := empF h0
  by_cases hbig : 500 < dest.size
  · have hb' : (500 : Int) < (dest.size : Int) := by omega
    clear hL
    go_enter Tryd.func5, Tryd.ntmps5
    go_wp2_with fail
    refine (HA.out _ hb0).mono ?_
    rintro e w1 ⟨rfl, hb1⟩
    go_wp2
    go_ret
    exact ⟨rfl, hb1⟩
  by_cases hbig2 : 500 < title.size
  · have hb' : ¬ (500 : Int) < (dest.size : Int) := by omega
    have hb2' : (500 : Int) < (title.size : Int) := by omega
    clear hL
    go_enter Tryd.func5, Tryd.ntmps5
    go_wp2_with fail
    refine (HA.out _ hb0).mono ?_
    rintro e w1 ⟨rfl, hb1⟩
    go_wp2
    go_ret
    exact ⟨rfl, hb1⟩
  have hb' : (dest.size : Int) ≤ 500 := by omega
  have hb2' : (title.size : Int) ≤ 500 := by omega
  have hd1 : decide ((500 : Int) < (dest.size : Int)) = false := decide_eq_false (by omega)
  have hd2 : decide ((500 : Int) < (title.size : Int)) = false := decide_eq_false (by omega)
  have hne : dest.data.toList ≠ [] := fun e => by have := congrArg List.length e; rw [szL, List.length_nil] at this; omega
  obtain ⟨D, hD, dD, sD⟩ := joined dest title
  have zD : D.size ≤ 1000 := by omega
  have HDD : Hid ((∀ x ∈ D.data.toList, ad x) → (∀ x ∈ dest.data.toList, ad x) ∧ (∀ x ∈ title.data.toList, ad x)) := Lib.hid (fun h => ⟨fun x hx => h x (by rw [dD]; exact List.mem_append_left _ hx), fun x hx => h x (by rw [dD]; exact List.mem_append_right _ hx)⟩)
  obtain ⟨K1, K, hK1, hK, sK1, sK, HK0⟩ := tail2_joined dest (by omega)
  obtain ⟨n6, hn6⟩ : ∃ n, n = dest.size + 6 := ⟨_, rfl⟩
  obtain ⟨n5, hn5⟩ : ∃ n, n = dest.size + title.size + 5 := ⟨_, rfl⟩
  obtain ⟨nd, hnd⟩ : ∃ n, n = dest.size + title.size := ⟨_, rfl⟩
  have i6 : (dest.size : Int) + 6 = (n6 : Int) := by omega
  have id : (dest.size : Int) + (title.size : Int) = (nd : Int) := by omega
  have i5 : (nd : Int) + 5 = (n5 : Int) := by omega
  have F2 : Hid ((∀ x ∈ dest.data.toList, ad x) → Frm w 16 #[.string K] (.tuple #[.string dest, .string ⟨#[]⟩, .int .i64 (n6 : Int)])) := Lib.hid (fun h => frm_tail hL (y := ⟨#[]⟩) (by omega) (by rw [HK0 h, hn6]))
  obtain ⟨z, hz⟩ : ∃ z, mskL how 65535 = z := ⟨_, rfl⟩
  obtain ⟨j, hj⟩ : ∃ j, z % 3 = j := ⟨_, rfl⟩
  have hbits := bits_andL how 65535 (by decide)
  rw [hz, show ((65535 : Nat) : Int) = 65535 from rfl] at hbits
  have hmod : (z : Int).tmod 3 = (j : Int) := by rw [Int.tmod_eq_emod_of_nonneg (by omega)]; omega
  have hdl := Lib.hid (szL D)
  have HT := Lib.hid (fun c e hc he => tail_joined dest title c e hc he hne (by omega) (by omega))
  have HLw := Lib.hid hL
  have hj3 : j < 3 := by omega
  have HN5 := Lib.hid hn5
  clear hL hn6 hn5 hnd hz hj dD HK0 hne sD h0 hbig hbig2
  go_enter Tryd.func5, Tryd.ntmps5
  go_wp2_with fail
  refine (HA.out _ hb0).mono ?_
  rintro e w1 ⟨rfl, hb1⟩
  have HB1 := Lib.hid hb1
  clear hb1 HA
  go_wp2_with fail
  go_loopg [8] D.size (fun g v8 wr => ∃ i : Nat, i + g = D.size ∧ v8 = .int .i64 (i : Int) ∧ w1 = wr ∧ Hid (∀ c ∈ D.data.toList.take i, ad c))
  case atStart => exact ⟨0, by omega, rfl, rfl, Lib.hid (fun c hc => by simp at hc)⟩
  case round =>
    obtain ⟨i, hig, rfl, rfl, HO⟩ := hrel
    cases gk with
    | zero =>
      have hlt : ¬ (i : Int) < (D.size : Int) := by omega
      rw [List.take_of_length_le (show D.data.toList.length ≤ i by rw [hdl.out]; omega)] at HO
      have HP := Lib.hid (HDD.out HO.out)
      have HF2 := Lib.hid (F2.out HP.out.1)
      clear F2 HDD HO
      rcases (show j = 0 ∨ j = 1 ∨ j = 2 by omega) with rfl | rfl | rfl
      · obtain ⟨J1, J2, J3, J4, J5, J, a1, a2, a3, a4, a5, a6, t1, t2, t3, t4, t5, t6, hJ⟩ := HT.out 34 34 (.inl rfl) rfl
        have HF1 := Lib.hid (frm_tail (w := w) HLw.out (s := J) (x := dest) (y := title) (by omega) (hJ HP.out.1 HP.out.2))
        rw [← HN5.out] at HF1
        have hq1 : (⟨#[34, 34]⟩ : ByteArray).extract 0 1 = ⟨#[34]⟩ := by decide +kernel
        have hq2 : (⟨#[34, 34]⟩ : ByteArray).extract 1 2 = ⟨#[34]⟩ := by decide +kernel
        clear hJ HT
        have HBA := Lib.hid (fun o => HB1.out.alloc HB1.out.size o)
        go_wp2_with fail
        go_region_held (fun _ => True) (trivial) ((go_at_call 16; refine (HF1.out _ (by first | exact below_drewP (HBA.out _) | exact below_drewN (HBA.out _) _ | exact HBA.out _)).mono ?_; rintro e w5 ⟨rfl, hb5⟩))
        go_wp2_with fail
        refine (HF2.out _ hb5).mono ?_
        rintro e w6 ⟨rfl, hb6⟩
        go_wp2
        go_ret
        exact ⟨rfl, hb6⟩
      · obtain ⟨J1, J2, J3, J4, J5, J, a1, a2, a3, a4, a5, a6, t1, t2, t3, t4, t5, t6, hJ⟩ := HT.out 39 39 (.inr (.inl rfl)) rfl
        have HF1 := Lib.hid (frm_tail (w := w) HLw.out (s := J) (x := dest) (y := title) (by omega) (hJ HP.out.1 HP.out.2))
        rw [← HN5.out] at HF1
        have hq1 : (⟨#[39, 39]⟩ : ByteArray).extract 0 1 = ⟨#[39]⟩ := by decide +kernel
        have hq2 : (⟨#[39, 39]⟩ : ByteArray).extract 1 2 = ⟨#[39]⟩ := by decide +kernel
        clear hJ HT
        have HBA := Lib.hid (fun o => HB1.out.alloc HB1.out.size o)
        go_wp2_with fail
        go_region_held (fun _ => True) (trivial) ((go_at_call 16; refine (HF1.out _ (by first | exact below_drewP (HBA.out _) | exact below_drewN (HBA.out _) _ | exact HBA.out _)).mono ?_; rintro e w5 ⟨rfl, hb5⟩))
        go_wp2_with fail
        refine (HF2.out _ hb5).mono ?_
        rintro e w6 ⟨rfl, hb6⟩
        go_wp2
        go_ret
        exact ⟨rfl, hb6⟩
      · obtain ⟨J1, J2, J3, J4, J5, J, a1, a2, a3, a4, a5, a6, t1, t2, t3, t4, t5, t6, hJ⟩ := HT.out 40 41 (.inr (.inr rfl)) rfl
        have HF1 := Lib.hid (frm_tail (w := w) HLw.out (s := J) (x := dest) (y := title) (by omega) (hJ HP.out.1 HP.out.2))
        rw [← HN5.out] at HF1
        have hq1 : (⟨#[40, 41]⟩ : ByteArray).extract 0 1 = ⟨#[40]⟩ := by decide +kernel
        have hq2 : (⟨#[40, 41]⟩ : ByteArray).extract 1 2 = ⟨#[41]⟩ := by decide +kernel
        clear hJ HT
        have HBA := Lib.hid (fun o => HB1.out.alloc HB1.out.size o)
        go_wp2_with fail
        go_region_held (fun _ => True) (trivial) ((go_at_call 16; refine (HF1.out _ (by first | exact below_drewP (HBA.out _) | exact below_drewN (HBA.out _) _ | exact HBA.out _)).mono ?_; rintro e w5 ⟨rfl, hb5⟩))
        go_wp2_with fail
        refine (HF2.out _ hb5).mono ?_
        rintro e w6 ⟨rfl, hb6⟩
        go_wp2
        go_ret
        exact ⟨rfl, hb6⟩
    | succ g =>
      have hlt : (i : Int) < (D.size : Int) := by omega
      obtain ⟨d, u, hd, hdk, hu⟩ := consAt (show i < D.size by omega)
      clear F2 HDD HT
      by_cases ha : ad d
      · have HO2 := Lib.hid (ok_step hd ha HO.out)
        clear hd hu HO
        rcases ha with ⟨g1, g2⟩ | ⟨g1, g2⟩
        · have g1' : (97 : Int) ≤ (d.toNat : Int) := by omega
          have g2' : (d.toNat : Int) ≤ 122 := by omega
          clear g1 g2
          go_wp2
          go_roundg g
          case rel => exact ⟨i + 1, by omega, by go_num, rfl, HO2⟩
          case measure => omega
        · have g0' : ¬ (97 : Int) ≤ (d.toNat : Int) := by omega
          have g1' : (48 : Int) ≤ (d.toNat : Int) := by omega
          have g2' : (d.toNat : Int) ≤ 57 := by omega
          clear g1 g2
          go_wp2
          go_roundg g
          case rel => exact ⟨i + 1, by omega, by go_num, rfl, HO2⟩
          case measure => omega
      · unfold ad at ha
        clear hd hu HO
        obtain ⟨v, hv⟩ : ∃ v : Int, (d.toNat : Int) = v := ⟨_, rfl⟩
        have hv2 : ¬ ((97 ≤ v ∧ v ≤ 122) ∨ (48 ≤ v ∧ v ≤ 57)) := by omega
        clear ha
        rcases (show v < 48 ∨ (58 ≤ v ∧ v < 97) ∨ 123 ≤ v by omega) with g1 | ⟨g1, g2⟩ | g1
        · have f1 : ¬ (97 : Int) ≤ v := by omega
          have f2 : ¬ (48 : Int) ≤ v := by omega
          clear hv2
          go_wp2
          go_ret
          exact ⟨rfl, HB1.out⟩
        · have f1 : ¬ (97 : Int) ≤ v := by omega
          have f2 : (48 : Int) ≤ v := by omega
          have f3 : ¬ v ≤ (57 : Int) := by omega
          clear hv2
          go_wp2
          go_ret
          exact ⟨rfl, HB1.out⟩
        · have f1 : (97 : Int) ≤ v := by omega
          have f2 : ¬ v ≤ (122 : Int) := by omega
          have f3 : ¬ v ≤ (57 : Int) := by omega
          have f4 : (48 : Int) ≤ v := by omega
          clear hv2
          go_wp2
          go_ret
          exact ⟨rfl, HB1.out⟩
end LinkPlain
end Go.Proofs.YtilippcmdhkddaaDoor
