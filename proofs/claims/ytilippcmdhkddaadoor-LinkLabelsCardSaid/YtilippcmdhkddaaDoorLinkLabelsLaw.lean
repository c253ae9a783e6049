/- LinkLabels: the law's walk. -/
import Derived.Test.YtilippcmdhkddaaDoorLkL
namespace Go.Proofs.YtilippcmdhkddaaDoor
open Go Go.RowKit
namespace LinkLabels
open Lk
set_option maxRecDepth 100000
set_option linter.unusedVariables false
set_option linter.unusedSimpArgs false

theorem wh_all : ∀ a : List UInt8, (whN a = a.length) ↔ a.all whB = true
  | [] => by simp [whN_nil]
  | c :: t => by
    cases h : whB c with
    | true => rw [whN_hit t h, List.length_cons, List.all_cons, h, Bool.true_and, ← wh_all t]; omega
    | false => rw [whN_miss t h, List.all_cons, h]; simp
def ok (c : UInt8) : Prop := c ≠ 92 ∧ c ≠ 91 ∧ c ≠ 93
theorem ok_step {s : ByteArray} {m : Nat} {x : UInt8} {t : List UInt8} {P : UInt8 → Prop} (hd : s.data.toList.drop m = x :: t) (hx : P x) (h : ∀ c ∈ s.data.toList.take m, P c) : ∀ c ∈ s.data.toList.take (m + 1), P c := by
  intro c hc
  rw [List.take_add, hd, List.mem_append] at hc
  rcases hc with hc | hc
  · exact h c hc
  · simp only [List.take_succ_cons, List.take_zero, List.mem_singleton] at hc
    rw [hc]; exact hx
theorem all_step {s : ByteArray} {m : Nat} {x : UInt8} {t : List UInt8} {b : Bool} (hd : s.data.toList.drop m = x :: t) (h : b = (s.data.toList.take m).all whB) : (b && whB x) = (s.data.toList.take (m + 1)).all whB := by
  rw [List.take_add, hd, List.all_append, ← h]
  simp

set_option maxHeartbeats 8000000 in
theorem law_any (s more : ByteArray) (w : World) (hL : LaidL w) (hs : s.size ≤ maxLen) (hs2 : more.size ≤ maxLen) :
    Calls Tryd.prog 7 #[.string s, .string more] w fun e w' => e = .returned (.bool true) ∧ Below w.heap.size w w' := by
  unfold maxLen at hs hs2
  have HA := Lib.hid (frm_awake hL)
  have hb0 := Below.refl w.heap.size w
  by_cases hbig : 900 < s.size
  · have hb' : (900 : Int) < (s.size : Int) := by omega
    clear hL
    go_enter Tryd.func7, Tryd.ntmps7
    go_wp2_with fail
    refine (HA.out _ hb0).mono ?_
    rintro e w1 ⟨rfl, hb1⟩
    go_wp2
    go_ret
    exact ⟨rfl, hb1⟩
  by_cases hbig2 : 300 < more.size
  · have hb' : ¬ (900 : Int) < (s.size : Int) := by omega
    have hb2' : (300 : Int) < (more.size : Int) := by omega
    clear hL
    go_enter Tryd.func7, Tryd.ntmps7
    go_wp2_with fail
    refine (HA.out _ hb0).mono ?_
    rintro e w1 ⟨rfl, hb1⟩
    go_wp2
    go_ret
    exact ⟨rfl, hb1⟩
  have hb' : (s.size : Int) ≤ 900 := by omega
  have hb2' : (more.size : Int) ≤ 300 := by omega
  have hd1 : decide ((900 : Int) < (s.size : Int)) = false := decide_eq_false (by omega)
  have hd2 : decide ((300 : Int) < (more.size : Int)) = false := decide_eq_false (by omega)
  obtain ⟨X1, hX1, dX1, sX1⟩ := joined ⟨#[91]⟩ s
  obtain ⟨X2, hX2, dX2, sX2⟩ := joined X1 ⟨#[93]⟩
  obtain ⟨X, hX, dX, sX⟩ := joined X2 more
  obtain ⟨Y2, hY2, dY2, sY2⟩ := joined X1 ⟨#[91, 93]⟩
  obtain ⟨Y, hY, dY, sY⟩ := joined Y2 more
  obtain ⟨Z1, hZ1, dZ1, sZ1⟩ := joined ⟨#[91, 120]⟩ s
  obtain ⟨Z2, hZ2, dZ2, sZ2⟩ := joined Z1 ⟨#[92, 91, 93]⟩
  obtain ⟨Z, hZ, dZ, sZ⟩ := joined Z2 more
  obtain ⟨V1, hV1, dV1, sV1⟩ := joined ⟨#[120]⟩ s
  obtain ⟨V, hV, dV, sV⟩ := joined V1 ⟨#[92, 91]⟩
  have dX' : X.data.toList = 91 :: (s.data.toList ++ 93 :: more.data.toList) := by rw [dX, dX2, dX1]; simp
  have dY' : Y.data.toList = 91 :: (s.data.toList ++ 91 :: 93 :: more.data.toList) := by rw [dY, dY2, dX1]; simp
  have dZ' : Z.data.toList = 91 :: 120 :: (s.data.toList ++ 92 :: 91 :: 93 :: more.data.toList) := by rw [dZ, dZ2, dZ1]; simp
  have dV' : V.data.toList = 120 :: (s.data.toList ++ [92, 91]) := by rw [dV, dV1]; simp
  have tX1 : X1.size = 1 + s.size := sX1
  have tX2 : X2.size = X1.size + 1 := sX2
  have tY2 : Y2.size = X1.size + 2 := sY2
  have tZ1 : Z1.size = 2 + s.size := sZ1
  have tZ2 : Z2.size = Z1.size + 3 := sZ2
  have tV1 : V1.size = 1 + s.size := sV1
  have tV : V.size = V1.size + 2 := sV
  have zX1 : X1.size ≤ 2000 := by omega
  have zX2 : X2.size ≤ 2000 := by omega
  have zX : X.size ≤ 2000 := by omega
  have zY2 : Y2.size ≤ 2000 := by omega
  have zY : Y.size ≤ 2000 := by omega
  have zZ1 : Z1.size ≤ 2000 := by omega
  have zZ2 : Z2.size ≤ 2000 := by omega
  have zZ : Z.size ≤ 2000 := by omega
  have zV1 : V1.size ≤ 2000 := by omega
  have zV : V.size ≤ 2000 := by omega
  have heV : V.toList.isEmpty = false := empF (by omega)
  obtain ⟨k5, hk5⟩ : ∃ k5, k5 = s.size + 5 := ⟨_, rfl⟩
  obtain ⟨k2, hk2⟩ : ∃ k2, k2 = s.size + 2 := ⟨_, rfl⟩
  have i5 : (s.size : Int) + 5 = (k5 : Int) := by omega
  have i2 : (s.size : Int) + 2 = (k2 : Int) := by omega
  have F1 : Hid ((∀ c ∈ s.data.toList, ok c) → s.data.toList.all whB = true → Frm w 10 #[.string X] (.tuple #[.string ⟨#[]⟩, .int .i64 0])) := Lib.hid (fun h hw =>
    frm_label hL (x := ⟨#[]⟩) (n := 0) (by omega) (by rw [dX', lab_plain _ h, if_pos (.inr ((wh_all _).2 hw))]))
  have F2 : Hid ((∀ c ∈ s.data.toList, ok c) → s.data.toList.all whB = false → Frm w 10 #[.string X] (.tuple #[.string s, .int .i64 (k2 : Int)])) := Lib.hid (fun h hw =>
    frm_label hL (by omega) (by rw [dX', lab_plain _ h, if_neg (by rw [wh_all, hw, szL]; simp; omega), szL, hk2]))
  have F3 : Hid ((∀ c ∈ s.data.toList, ok c) → Frm w 10 #[.string Y] (.tuple #[.string ⟨#[]⟩, .int .i64 0])) := Lib.hid (fun h =>
    frm_label hL (x := ⟨#[]⟩) (n := 0) (by omega) (by rw [dY', lab_open _ h]))
  have F4 : Hid ((∀ c ∈ s.data.toList, ok c) → Frm w 10 #[.string Z] (.tuple #[.string V, .int .i64 (k5 : Int)])) := Lib.hid (fun h =>
    frm_label hL (by omega) (by rw [dZ', lab_esc _ h (by rw [szL]; omega), dV', szL, hk5]))
  clear hL dX1 dX2 dX dY2 dY dZ1 dZ2 dZ dV1 dV dX' dY' dZ' dV' sX1 sX2 sX sY2 sY sZ1 sZ2 sZ sV1 sV tX1 tX2 tY2 tZ1 tZ2 tV1 tV hk5 hk2
  have hdl := Lib.hid (szL s)
  go_enter Tryd.func7, Tryd.ntmps7
  go_wp2_with fail
  refine (HA.out _ hb0).mono ?_
  rintro e w1 ⟨rfl, hb1⟩
  have HB1 := Lib.hid hb1
  clear hb1 HA
  go_wp2_with fail
  go_loopg [6, 7] s.size (fun g v6 v7 wr => ∃ (i : Nat) (b : Bool), i + g = s.size ∧ v6 = .bool b ∧ v7 = .int .i64 (i : Int) ∧ w1 = wr ∧ Hid (b = (s.data.toList.take i).all whB) ∧ Hid (∀ c ∈ s.data.toList.take i, ok c))
  case atStart => exact ⟨0, true, by omega, rfl, rfl, rfl, Lib.hid rfl, Lib.hid (fun c hc => by simp at hc)⟩
  case round =>
    obtain ⟨i, b, hig, rfl, rfl, rfl, HW, HO⟩ := hrel
    cases gk with
    | zero =>
      have hlt : ¬ (i : Int) < (s.size : Int) := by omega
      have hall : s.data.toList.take i = s.data.toList := List.take_of_length_le (by rw [hdl.out]; omega)
      rw [hall] at HW HO
      have HY := Lib.hid (F3.out HO.out)
      have HZ := Lib.hid (F4.out HO.out)
      clear hall
      cases b with
      | true =>
        have HX := Lib.hid (F1.out HO.out HW.out.symm)
        clear F1 F2 F3 F4
        go_wp2_with fail
        refine (HX.out _ HB1.out).mono ?_
        rintro e w2 ⟨rfl, hb2⟩
        go_wp2_with fail
        refine (HY.out _ hb2).mono ?_
        rintro e w3 ⟨rfl, hb3⟩
        go_wp2_with fail
        refine (HZ.out _ hb3).mono ?_
        rintro e w4 ⟨rfl, hb4⟩
        go_wp2
        go_ret
        exact ⟨rfl, hb4⟩
      | false =>
        have HX := Lib.hid (F2.out HO.out HW.out.symm)
        clear F1 F2 F3 F4
        go_wp2_with fail
        refine (HX.out _ HB1.out).mono ?_
        rintro e w2 ⟨rfl, hb2⟩
        go_wp2_with fail
        refine (HY.out _ hb2).mono ?_
        rintro e w3 ⟨rfl, hb3⟩
        go_wp2_with fail
        refine (HZ.out _ hb3).mono ?_
        rintro e w4 ⟨rfl, hb4⟩
        go_wp2
        go_ret
        exact ⟨rfl, hb4⟩
    | succ g =>
      have hlt : (i : Int) < (s.size : Int) := by omega
      obtain ⟨d, u, hd, hdk, hu⟩ := consAt (show i < s.size by omega)
      have e91 : ((d.toNat : Int) == 91) = (d == 91) := eqU d 91 (by decide)
      have e93 : ((d.toNat : Int) == 93) = (d == 93) := eqU d 93 (by decide)
      have e92 : ((d.toNat : Int) == 92) = (d == 92) := eqU d 92 (by decide)
      clear F1 F2 F3 F4
      by_cases h91 : d = 91
      · rw [show (d == 91) = true by simpa using h91] at e91
        clear hd hu h91 e93 e92
        go_wp2
        go_ret
        exact ⟨rfl, HB1.out⟩
      · rw [show (d == 91) = false by simpa using h91] at e91
        by_cases h93 : d = 93
        · rw [show (d == 93) = true by simpa using h93] at e93
          clear hd hu h91 h93 e92
          go_wp2
          go_ret
          exact ⟨rfl, HB1.out⟩
        · rw [show (d == 93) = false by simpa using h93] at e93
          by_cases h92 : d = 92
          · rw [show (d == 92) = true by simpa using h92] at e92
            clear hd hu h91 h93 h92
            go_wp2
            go_ret
            exact ⟨rfl, HB1.out⟩
          · rw [show (d == 92) = false by simpa using h92] at e92
            have HO2 := Lib.hid (ok_step hd (show ok d from ⟨h92, h91, h93⟩) HO.out)
            have HW2 := Lib.hid (all_step hd HW.out)
            have HWB : Hid (whB d = (d == 32 || d == 9 || d == 10)) := Lib.hid rfl
            have e32 : ((d.toNat : Int) == 32) = (d == 32) := eqU d 32 (by decide)
            have e9 : ((d.toNat : Int) == 9) = (d == 9) := eqU d 9 (by decide)
            have e10 : ((d.toNat : Int) == 10) = (d == 10) := eqU d 10 (by decide)
            clear hd hu h91 h93 h92 HW HO
            generalize whB d = z at *
            generalize (d == 32) = z1 at *
            generalize (d == 9) = z2 at *
            generalize (d == 10) = z3 at *
            cases b with
            | false =>
              go_wp2
              go_roundg g
              case rel => exact ⟨i + 1, false, by omega, rfl, by go_num, rfl, HW2, HO2⟩
              case measure => omega
            | true =>
              cases z1 <;> cases z2 <;>
              · go_wp2
                go_roundg g
                case rel => exact ⟨i + 1, z, by omega, by rw [HWB.out]; rfl, by go_num, rfl, HW2, HO2⟩
                case measure => omega
end LinkLabels
end Go.Proofs.YtilippcmdhkddaaDoor
