/- RefsPlain: a label, an address and a title of letters. -/
import Derived.Test.YtfabiidohdkkcaaGreatDoorRfXa
import Derived.Deep.RegionHeld
import Derived.Deep.DrawnRows
import Derived.Laws.DeepStrings4
import Derived.Deep.CutBlock
import Derived.Deep.DeepCutAuto
namespace Go.Proofs.YtfabiidohdkkcaaGreatDoor
open Go Go.RowKit Rf
namespace RefsPlain
set_option maxRecDepth 100000
set_option linter.unusedVariables false
set_option linter.unusedSimpArgs false
attribute [local go_sem ↓] Go.wp_at_zero Go.wp_at_succ

theorem cons_at {s : ByteArray} {k : Nat} (h : k < s.size) : ∃ c t, s.data.toList.drop k = c :: t ∧ s[k] = c ∧ s.data.toList.drop (k + 1) = t := by
  cases hd : s.data.toList.drop k with
  | nil => have := congrArg List.length hd; rw [List.length_drop, szR] at this; simp at this; omega
  | cons x t =>
    refine ⟨x, t, rfl, ?_, ?_⟩
    · have := congrArg (fun l => l[0]?) hd
      simp at this
      rw [Array.getElem?_eq_getElem (show k < s.data.size from h)] at this
      exact Option.some.inj this
    · rw [← List.drop_drop, hd]; rfl
theorem ok_step {s : ByteArray} {m : Nat} {x : UInt8} {t : List UInt8} {P : UInt8 → Prop} (hd : s.data.toList.drop m = x :: t) (hx : P x) (h : ∀ c ∈ s.data.toList.take m, P c) : ∀ c ∈ s.data.toList.take (m + 1), P c := by
  intro c hc
  rw [List.take_add, hd, List.mem_append] at hc
  rcases hc with hc | hc
  · exact h c hc
  · simp only [List.take_succ_cons, List.take_zero, List.mem_singleton] at hc
    rw [hc]; exact hx
theorem emp_of {s : ByteArray} (h : 0 < s.size) : s.toList.isEmpty = false := by
  rw [emp_list, decide_eq_false_iff_not]
  intro e
  subst e
  exact absurd h (by decide)
theorem zero_of {s : ByteArray} (h : ¬ 0 < s.size) : s = ⟨#[]⟩ := bytes_ext (List.length_eq_zero_iff.1 (by rw [szR]; omega))
set_option maxHeartbeats 16000000 in
theorem law_any (lab dst tit : ByteArray) (how : Int) (w : World) (hP : Prog10 w) (hs1 : lab.size ≤ 140737488355328) (hs2 : dst.size ≤ 140737488355328) (hs3 : tit.size ≤ 140737488355328) (hwf : (Lit.int .i64 how).wf = true) :
    Calls Tryz.prog 7 #[.string lab, .string dst, .string tit, .int .i64 how] w fun e w' => e = .returned (.bool true) ∧ Below w.heap.size w w' := by
  have HA := Lib.hid (awake_any w hP)
  by_cases h0 : 0 < lab.size
  case neg =>
    obtain rfl := zero_of h0
    clear hP h0
    go_enter Tryz.func7, Tryz.ntmps7
    go_wp2_with fail
    refine HA.out.mono ?_
    rintro e w1 ⟨rfl, hb1⟩
    go_wp2
    go_ret
    exact ⟨rfl, hb1⟩
  have he := emp_of h0
  by_cases h1 : 0 < dst.size
  case neg =>
    obtain rfl := zero_of h1
    clear hP h0 h1
    go_enter Tryz.func7, Tryz.ntmps7
    go_wp2_with fail
    refine HA.out.mono ?_
    rintro e w1 ⟨rfl, hb1⟩
    go_wp2
    go_ret
    exact ⟨rfl, hb1⟩
  have he1 := emp_of h1
  have hw1 : (lab.size : Int) + (dst.size : Int) ≤ 281474976710656 := by omega
  have hw2 : (lab.size : Int) + (dst.size : Int) + (tit.size : Int) ≤ 422212465065984 := by omega
  by_cases hbig : (300 : Int) < (lab.size : Int) + (dst.size : Int) + (tit.size : Int)
  · clear hP h0 h1
    go_enter Tryz.func7, Tryz.ntmps7
    go_wp2_with fail
    refine HA.out.mono ?_
    rintro e w1 ⟨rfl, hb1⟩
    go_wp2
    go_ret
    exact ⟨rfl, hb1⟩
  have hd1 : decide ((300 : Int) < (lab.size : Int) + (dst.size : Int) + (tit.size : Int)) = false := decide_eq_false hbig
  have sl : lab.size ≤ 300 := by omega
  have sd : dst.size ≤ 300 := by omega
  have st : tit.size ≤ 300 := by omega
  have hlne : lab.data.toList ≠ [] := fun e => by have := congrArg List.length e; rw [szR, List.length_nil] at this; omega
  have hdne : dst.data.toList ≠ [] := fun e => by have := congrArg List.length e; rw [szR, List.length_nil] at this; omega
  obtain ⟨D1, hD1, dD1, sD1⟩ := joinR lab dst
  obtain ⟨D, hD, dD, sD⟩ := joinR D1 tit
  have zD1 : D1.size ≤ 1000 := by omega
  have zD : D.size ≤ 1000 := by omega
  have HDD : Hid ((∀ x ∈ D.data.toList, low x) → (∀ x ∈ lab.data.toList, low x) ∧ (∀ x ∈ dst.data.toList, low x) ∧ (∀ x ∈ tit.data.toList, low x)) := Lib.hid (fun h =>
    ⟨fun x hx => h x (by rw [dD, dD1]; exact List.mem_append_left _ (List.mem_append_left _ hx)), fun x hx => h x (by rw [dD, dD1]; exact List.mem_append_left _ (List.mem_append_right _ hx)), fun x hx => h x (by rw [dD]; exact List.mem_append_right _ hx)⟩)
  obtain ⟨m1, hm1⟩ : ∃ m1, mskR how 3 = m1 := ⟨_, rfl⟩
  have hb1 := bits_andR how 3 (by decide)
  have hm1l := mskR_le how 3 (by decide)
  rw [hm1] at hb1 hm1l
  rw [show ((3 : Nat) : Int) = 3 from rfl] at hb1
  obtain ⟨m2, hm2⟩ : ∃ m2, mskR (how / 4) 3 = m2 := ⟨_, rfl⟩
  have hb2 := bits_andR (how / 4) 3 (by decide)
  have hm2l := mskR_le (how / 4) 3 (by decide)
  rw [hm2] at hb2 hm2l
  rw [show ((3 : Nat) : Int) = 3 from rfl] at hb2
  have hdl := Lib.hid (szR D)
  have HP := Lib.hid hP
  have HJ := Lib.hid (fun i j => plain_joined lab dst tit i j (by omega) (by omega) (by omega))
  have HNe := Lib.hid (show lab.data.toList ≠ [] ∧ dst.data.toList ≠ [] from ⟨hlne, hdne⟩)
  clear hP dD dD1 sD sD1 h0 h1 hbig hlne hdne hm1 hm2
  go_enter Tryz.func7, Tryz.ntmps7
  go_wp2_with fail
  refine HA.out.mono ?_
  rintro e w1 ⟨rfl, hbw1⟩
  have W1 := Lib.hid hbw1
  clear hbw1 HA
  go_wp2_with fail
  go_loopg [11] D.size (fun g v11 wr => ∃ i : Nat, i + g = D.size ∧ v11 = .int .i64 (i : Int) ∧ w1 = wr ∧ Hid (∀ c ∈ D.data.toList.take i, low c))
  case atStart => exact ⟨0, by omega, rfl, rfl, Lib.hid (fun c hc => by simp at hc)⟩
  case round =>
    obtain ⟨i, hig, rfl, rfl, HO⟩ := hrel
    cases gk with
    | succ g =>
      have hlt : (i : Int) < (D.size : Int) := by omega
      obtain ⟨d, u, hd, hdk, hu⟩ := cons_at (show i < D.size by omega)
      by_cases ha : low d
      · have HO2 := Lib.hid (ok_step hd ha HO.out)
        unfold low at ha
        have g1 : (97 : Int) ≤ (d.toNat : Int) := by omega
        have g2 : (d.toNat : Int) ≤ 122 := by omega
        have g3 : decide ((d.toNat : Int) < 97) = false := decide_eq_false (by omega)
        have g4 : decide ((122 : Int) < (d.toNat : Int)) = false := decide_eq_false (by omega)
        clear hd hu HO ha
        go_wp2
        go_roundg g
        case rel => exact ⟨i + 1, by omega, by go_num, rfl, HO2⟩
        case measure => omega
      · have ha2 : (d.toNat : Int) < 97 ∨ ((97 : Int) ≤ (d.toNat : Int) ∧ (122 : Int) < (d.toNat : Int)) := by
          unfold low at ha
          omega
        clear hd hu HO ha
        rcases ha2 with g1 | ⟨g1, g2⟩
        · go_wp2
          go_ret
          exact ⟨rfl, W1.out⟩
        · have g3 : decide ((d.toNat : Int) < 97) = false := decide_eq_false (by omega)
          go_wp2
          go_ret
          exact ⟨rfl, W1.out⟩
    | zero =>
      have hlt : ¬ (i : Int) < (D.size : Int) := by omega
      rw [List.take_of_length_le (show D.data.toList.length ≤ i by rw [hdl.out]; omega)] at HO
      have HPl := Lib.hid (HDD.out HO.out)
      clear HDD HO
      obtain ⟨A1, A2, A3, A4, A5, A6, A7, S, S2, S3, a1, a2, a3, a4, a5, a6, a7, a8, a9, a10, z1, z2, z3, z4, z5, z6, z7, z8, z9, z10, hJ⟩ := HJ.out m1 m2
      obtain ⟨t1, t2, t3⟩ := hJ HPl.out.1 HPl.out.2.1 HPl.out.2.2 HNe.out.1 HNe.out.2
      obtain ⟨b3, hb3⟩ := Rb.of (takeP S3.data.toList).1
      obtain ⟨n3, hn3⟩ : ∃ n3, (takeP S3.data.toList).2 = n3 := ⟨_, rfl⟩
      have t3' : takeP S3.data.toList = (b3.r, n3) := by rw [hb3, ← hn3]
      rw [hn3] at t3
      have HT1 := Lib.hid (fun W hW => HP.out.take W hW S ⟨lab, dst, tit⟩ S.size (by omega) t1)
      have HT2 := Lib.hid (fun W hW => HP.out.take W hW S2 ⟨lab, dst, tit⟩ (S.size + 1) (by omega) t2)
      have HT3 := Lib.hid (fun W hW => HP.out.take W hW S3 b3 n3 (by omega) t3')
      rw [show ((S.size + 1 : Nat) : Int) = (S.size : Int) + 1 from by omega] at HT2
      unfold refV refC at HT1 HT2 HT3
      have cg : ∀ m, m ≤ 3 → (w1.alloc (.cells #[.string ⟨#[32]⟩, .string ⟨#[10]⟩, .string ⟨#[32, 10, 9]⟩, .string ⟨#[9]⟩] 9)).cell? ⟨w1.heap.size, m, none⟩ = some (.string (gapB m)) := fun m hm => by
        rw [World.cell?_alloc_new]
        rcases (show m = 0 ∨ m = 1 ∨ m = 2 ∨ m = 3 by omega) with rfl | rfl | rfl | rfl <;> rfl
      have c1 := cg m1 hm1l
      have c2 := cg m2 hm2l
      have W2 : Hid (Below w.heap.size w (w1.alloc (.cells #[.string ⟨#[32]⟩, .string ⟨#[10]⟩, .string ⟨#[32, 10, 9]⟩, .string ⟨#[9]⟩] 9))) := Lib.hid (W1.out.alloc W1.out.size _)
      have sg1 := gapB_size m1
      have sg2 := gapB_size m2
      have i1 : (m1 : Int) < 4 := by omega
      have i2 : (m2 : Int) < 4 := by omega
      have HT3e := Lib.hid t3
      clear HJ HPl hJ t1 t2 t3 t3' hb3 hn3 cg
      generalize gapB m1 = G1 at *
      generalize gapB m2 = G2 at *
      go_upto_region 11 with fail
      have HSr := Lib.hid (And.intro c1 c2)
      go_region_held (fun W => W.cell? ⟨w1.heap.size, m1, none⟩ = some (.string G1) ∧ W.cell? ⟨w1.heap.size, m2, none⟩ = some (.string G2)) (exact HSr.out) (fail)
      clear c1 c2 HSr
      go_wp2_with fail
      refine (HT1.out _ W2.out.drew).mono ?_
      rintro e w2 ⟨rfl, hb2⟩
      have K2 : Hid (Blk (w2.alloc (.cells #[.string lab, .string dst, .string tit] 24)) w2.heap.size #[.string lab, .string dst, .string tit] 24) := Lib.hid (Blk.new _ _ _)
      have W3 : Hid (Below w.heap.size w (w2.alloc (.cells #[.string lab, .string dst, .string tit] 24))) := Lib.hid (by
        have := below_later W2.out.drew hb2
        exact this.alloc this.size _)
      clear hb2 HT1 W2
      go_wp2_with fail
      refine (HT2.out _ W3.out).mono ?_
      rintro e w3 ⟨rfl, hb3⟩
      have K3 : Hid (Blk (w3.alloc (.cells #[.string lab, .string dst, .string tit] 24)) w3.heap.size #[.string lab, .string dst, .string tit] 24) := Lib.hid (Blk.new _ _ _)
      have K2' := Lib.hid ((K2.out.below hb3).alloc (.cells #[.string lab, .string dst, .string tit] 24))
      have W4 : Hid (Below w.heap.size w (w3.alloc (.cells #[.string lab, .string dst, .string tit] 24))) := Lib.hid (by
        have := below_later W3.out hb3
        exact this.alloc this.size _)
      clear hb3 HT2 W3 K2
      go_wp2_with fail
      refine (HT3.out _ W4.out).mono ?_
      rintro e w4 ⟨rfl, hb4⟩
      have K4 := (K2'.out.below hb4).alloc (.cells (refC b3) 24)
      have K5 := (K3.out.below hb4).alloc (.cells (refC b3) 24)
      have W5 : Hid (Below w.heap.size w (w4.alloc (.cells (refC b3) 24))) := Lib.hid (by
        have := below_later W4.out hb4
        exact this.alloc this.size _)
      unfold refC at K4 K5 W5
      have c0 := K4.cell 0 rfl
      have c1 := K4.cell 1 rfl
      have c2 := K4.cell 2 rfl
      have d2 := K5.cell 2 rfl
      clear hb4 HT3 W4 K3 K2' K4 K5
      have zS : (S.size : Int) ≤ 2000 := by omega
      have hx : ∃ bb : Bool, ((n3 : Int) == 0) = bb ∧ (((m2 : Int) == 0) || ((m2 : Int) == 3)) = bb := by
        by_cases h : n3 = 0
        · refine ⟨true, by simp; omega, ?_⟩
          have := HT3e.out.1 h
          rcases (show m2 = 0 ∨ m2 = 3 by omega) with rfl | rfl <;> rfl
        · refine ⟨false, by simp; omega, ?_⟩
          have : ¬ ¬ (m2 = 1 ∨ m2 = 2) := fun e => h (HT3e.out.2 e)
          rcases (show m2 = 1 ∨ m2 = 2 by omega) with rfl | rfl <;> rfl
      obtain ⟨bb, hx1, hx2⟩ := hx
      cases hm0 : ((m2 : Int) == 0) with
      | true =>
        rw [hm0, Bool.true_or] at hx2
        subst hx2
        clear HT3e
        go_wp2
        go_ret
        exact ⟨rfl, W5.out⟩
      | false =>
        rw [hm0, Bool.false_or] at hx2
        clear HT3e
        cases bb with
        | true =>
          go_wp2
          go_ret
          exact ⟨rfl, W5.out⟩
        | false =>
          go_wp2
          go_ret
          exact ⟨rfl, W5.out⟩
end RefsPlain
end Go.Proofs.YtfabiidohdkkcaaGreatDoor
