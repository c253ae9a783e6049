/- Texts of one part, one behind the other (RfA, RfB, RfC, RfD, RfE). -/
import Derived.Test.YtfabiidohdkkcaaGreatDoorLkX
import Derived.Test.YtfabiidohdkkcaaGreatDoorRfXa
import Derived.Test.YtfabiidohdkkcaaGreatDoorClassFr
import Derived.Deep.Upon
import Derived.Maps.AppendAt
import Derived.Deep.QuietTactic
import Derived.Deep.CutBlock
import Derived.Deep.DeepCutAuto
/- Walks of layer 10: the reference's lf, gap, end, titled. -/
namespace Go.Proofs.YtfabiidohdkkcaaGreatDoor
open Go Go.RowKit
namespace Rf
open Lk Es
set_option maxRecDepth 100000
set_option linter.unusedVariables false
set_option linter.unusedSimpArgs false

theorem lfN_cons (c : UInt8) (t : List UInt8) : lfN (c :: t) = lfN t + if c = 10 then 1 else 0 := by
  unfold lfN
  rw [List.count_cons]
  by_cases h : c = 10
  · subst h; rfl
  · rw [if_neg h, beq_eq_false_iff_ne.2 h]; rfl
theorem lfN_le (l : List UInt8) : lfN l ≤ l.length := List.count_le_length

set_option maxHeartbeats 2000000 in
theorem rlf_any (s : ByteArray) (w : World) (hz : s.size ≤ 1000000) :
    Calls Tryz.prog 49 #[.string s] w fun e w' => e = .returned (.int .i64 (lfN s.data.toList : Nat)) ∧ w = w' := by
  have hdl := Lib.hid (szL s)
  go_enter Tryz.func49, Tryz.ntmps49
  go_wp2_with fail
  go_loopg [3, 4] s.size (fun g s3 s4 wr => ∃ i n : Nat, i + g = s.size ∧ s3 = .int .i64 (n : Int) ∧ s4 = .int .i64 (i : Int) ∧ n ≤ i ∧ w = wr ∧ Hid (lfN s.data.toList = n + lfN (s.data.toList.drop i)))
  case atStart => exact ⟨0, 0, by omega, rfl, rfl, by omega, rfl, Lib.hid (by rw [List.drop_zero]; omega)⟩
  case round =>
    obtain ⟨i, n, hig, rfl, rfl, hni, rfl, HN⟩ := hrel
    cases gk with
    | zero =>
      have hlt : ¬ (i : Int) < (s.size : Int) := by omega
      have HV : Hid (lfN s.data.toList = n) := Lib.hid (by rw [HN.out, List.drop_eq_nil_of_le (by rw [hdl.out]; omega)]; rfl)
      go_wp2
      go_ret
      rw [HV.out]
      exact ⟨rfl, rfl⟩
    | succ g =>
      have hlt : (i : Int) < (s.size : Int) := by omega
      obtain ⟨c, t, hd, hck, ht⟩ := consAt (show i < s.size by omega)
      have e1 : ((c.toNat : Int) == 10) = (c == 10) := eqU c 10 (by decide)
      have HC := Lib.hid (lfN_cons c t)
      by_cases hc : c = 10
      · have e2 : (c == 10) = true := by simpa using hc
        rw [e2] at e1
        have HV : Hid (lfN s.data.toList = (n + 1) + lfN (s.data.toList.drop (i + 1))) := Lib.hid (by rw [HN.out, hd, HC.out, ht, if_pos hc]; omega)
        clear hd ht hc HC e2
        go_wp2
        go_roundg g
        case rel => exact ⟨i + 1, n + 1, by omega, by go_num, by go_num, by omega, rfl, HV⟩
        case measure => omega
      · have e2 : (c == 10) = false := by simpa using hc
        rw [e2] at e1
        have HV : Hid (lfN s.data.toList = n + lfN (s.data.toList.drop (i + 1))) := Lib.hid (by rw [HN.out, hd, HC.out, ht, if_neg hc]; omega)
        clear hd ht hc HC e2
        go_wp2
        go_roundg g
        case rel => exact ⟨i + 1, n, by omega, rfl, by go_num, by omega, rfl, HV⟩
        case measure => omega

/-- How many bytes, or -1. -/
def optI (o : Option Nat) : Int := match o with
  | none => -1
  | some g => (g : Int)
set_option maxHeartbeats 2000000 in
theorem rgap_any (s : ByteArray) (w : World) (hz : s.size ≤ 1000000) :
    Calls Tryz.prog 26 #[.string s] w fun e w' => e = .returned (.int .i64 (optI (gapP s.data.toList))) ∧ w = w' := by
  have hw := whN_le s.data.toList
  rw [szL] at hw
  have HW := Lib.hid (rwhite_any s w hz)
  obtain ⟨T, hT⟩ : ∃ T, T = s.extract 0 (whN s.data.toList) := ⟨_, rfl⟩
  have hTl : T.data.toList = s.data.toList.take (whN s.data.toList) := by rw [hT, ext_toL]
  have hTs : T.size ≤ 1000000 := by rw [hT]; simp; omega
  have HL := Lib.hid (rlf_any T w hTs)
  rw [hTl] at HL
  have HP : Hid (gapP s.data.toList = if 1 < lfN (s.data.toList.take (whN s.data.toList)) then none else some (whN s.data.toList)) := Lib.hid rfl
  have HT := Lib.hid hT
  clear hTl hT
  generalize lfN (s.data.toList.take (whN s.data.toList)) = m at *
  generalize whN s.data.toList = k at *
  have b1 : (k : Int) ≤ (s.size : Int) := by omega
  by_cases hm : 1 < m
  · rw [if_pos hm] at HP
    have hm2 : (1 : Int) < (m : Int) := by omega
    rw [HP.out]
    clear hm
    go_enter Tryz.func26, Tryz.ntmps26
    go_wp2_with fail
    refine HW.out.mono ?_
    rintro e w1 ⟨rfl, rfl⟩
    go_wp2_with fail
    rw [← HT.out]
    refine HL.out.mono ?_
    rintro e w1 ⟨rfl, rfl⟩
    go_wp2
    go_ret
    exact ⟨rfl, rfl⟩
  · rw [if_neg hm] at HP
    have hm2 : ¬ (1 : Int) < (m : Int) := by omega
    rw [HP.out]
    clear hm
    go_enter Tryz.func26, Tryz.ntmps26
    go_wp2_with fail
    refine HW.out.mono ?_
    rintro e w1 ⟨rfl, rfl⟩
    go_wp2_with fail
    rw [← HT.out]
    refine HL.out.mono ?_
    rintro e w1 ⟨rfl, rfl⟩
    go_wp2
    go_ret
    exact ⟨rfl, rfl⟩

theorem endP_cons (c : UInt8) (t : List UInt8) : endP (c :: t) = if bl c = true then (endP t).map (· + 1) else if c = 10 then some 1 else none := rfl
set_option maxHeartbeats 4000000 in
theorem rend_any (s : ByteArray) (w : World) (hz : s.size ≤ 1000000) :
    Calls Tryz.prog 30 #[.string s] w fun e w' => e = .returned (.int .i64 (optI (endP s.data.toList))) ∧ w = w' := by
  have hdl := Lib.hid (szL s)
  have H0 : Hid (endP s.data.toList = (endP (s.data.toList.drop 0)).map (· + 0)) := Lib.hid (by rw [List.drop_zero, map_zero])
  generalize endP s.data.toList = y at *
  go_enter Tryz.func30, Tryz.ntmps30
  go_wp2_with fail
  go_loopg [3] s.size (fun g s3 wr => ∃ k : Nat, k + g = s.size ∧ s3 = .int .i64 (k : Int) ∧ w = wr ∧ Hid (y = (endP (s.data.toList.drop k)).map (· + k)))
  case atStart => exact ⟨0, by omega, rfl, rfl, H0⟩
  case round =>
    obtain ⟨k, hkg, rfl, rfl, HY⟩ := hrel
    clear H0
    cases gk with
    | zero =>
      have hks : k = s.size := by omega
      have hlt : ¬ (k : Int) < (s.size : Int) := by omega
      have heq : ((k : Int) == (s.size : Int)) = true := by simp; omega
      have HV : Hid (y = some k) := Lib.hid (by rw [HY.out, List.drop_eq_nil_of_le (by rw [hdl.out]; omega)]; simp [endP])
      clear hks hkg
      go_wp2
      go_ret
      rw [HV.out]
      exact ⟨rfl, rfl⟩
    | succ g =>
      have hlt : (k : Int) < (s.size : Int) := by omega
      have hne : ((k : Int) == (s.size : Int)) = false := by simp; omega
      obtain ⟨c, t, hd, hck, ht⟩ := consAt (show k < s.size by omega)
      have e1 : ((c.toNat : Int) == 32) = (c == 32) := eqU c 32 (by decide)
      have e2 : ((c.toNat : Int) == 9) = (c == 9) := eqU c 9 (by decide)
      have e3 : ((c.toNat : Int) == 10) = (c == 10) := eqU c 10 (by decide)
      have HBL : Hid (bl c = (c == 32 || c == 9)) := Lib.hid rfl
      have HX : Hid (y = (if bl c = true then (endP (s.data.toList.drop (k + 1))).map (· + 1) else if (c == 10) = true then some 1 else none).map (· + k)) := Lib.hid (by
        rw [HY.out, hd, endP_cons, ht]
        simp only [beq_iff_eq])
      clear hd ht HY
      generalize bl c = z at *
      generalize (c == 32) = z1 at *
      generalize (c == 9) = z2 at *
      generalize (c == 10) = z3 at *
      cases z1 with
      | true =>
        have HV : Hid (y = (endP (s.data.toList.drop (k + 1))).map (· + (k + 1))) := Lib.hid (by rw [HX.out, HBL.out]; simp only [Bool.true_or, if_true]; exact map_next _ _)
        go_wp2
        go_roundg g
        case rel => exact ⟨k + 1, by omega, by go_num, rfl, HV⟩
        case measure => omega
      | false =>
        cases z2 with
        | true =>
          have HV : Hid (y = (endP (s.data.toList.drop (k + 1))).map (· + (k + 1))) := Lib.hid (by rw [HX.out, HBL.out]; simp only [Bool.or_true, if_true]; exact map_next _ _)
          go_wp2
          go_roundg g
          case rel => exact ⟨k + 1, by omega, by go_num, rfl, HV⟩
          case measure => omega
        | false =>
          cases z3 with
          | true =>
            have HV : Hid (y = some (k + 1)) := Lib.hid (by rw [HX.out, HBL.out]; simp; omega)
            go_wp2
            go_ret
            rw [HV.out]
            exact ⟨by show _ = Ending.returned (.int .i64 ((k + 1 : Nat) : Int)); rw [Int.natCast_add]; rfl, rfl⟩
          | false =>
            have HV : Hid (y = none) := Lib.hid (by rw [HX.out, HBL.out]; rfl)
            go_wp2
            go_ret
            rw [HV.out]
            exact ⟨rfl, rfl⟩
end Rf
end Go.Proofs.YtfabiidohdkkcaaGreatDoor

/- Walks of layer 10: the reference's titled, Take. -/
namespace Go.Proofs.YtfabiidohdkkcaaGreatDoor
open Go Go.RowKit
namespace Rf
open Lk Es
set_option maxRecDepth 100000
set_option linter.unusedVariables false
set_option linter.unusedSimpArgs false

/-- A title and how many bytes, or -1. -/
def titledV (x : ByteArray) (n : Int) : Value := .tuple #[.string x, .int .i64 n]
theorem optI_none {o : Option Nat} (h : o = none) : optI o = -1 := by rw [h]; rfl
theorem optI_some {o : Option Nat} {g : Nat} (h : o = some g) : optI o = (g : Int) := by rw [h]; rfl
/-- What the reference's titled tells: a text and a number that say the document's answer. -/
def TitledIs (l : List UInt8) (x : ByteArray) (n : Int) : Prop := (titledP l = none ∧ x = empB ∧ n = -1) ∨ ∃ m : Nat, titledP l = some (x.data.toList, m) ∧ n = (m : Int)
theorem titled_is (l : List UInt8) : ∃ x n, TitledIs l x n := by
  cases h : titledP l with
  | none => exact ⟨empB, -1, .inl ⟨h, rfl, rfl⟩⟩
  | some q =>
    obtain ⟨t, m⟩ := q
    obtain ⟨x, hx⟩ := ba_mkL t
    exact ⟨x, m, .inr ⟨m, by rw [h, hx], rfl⟩⟩
set_option maxHeartbeats 4000000 in
theorem rtitled_any (s : ByteArray) (w : World) (hz : s.size ≤ 100000) (x : ByteArray) (n : Int) (h : TitledIs s.data.toList x n) :
    Calls Tryz.prog 29 #[.string s] w fun e w' => e = .returned (titledV x n) ∧ Below w.heap.size w w' := by
  have HG := Lib.hid (rgap_any s w (by omega))
  have hN : titledP s.data.toList = none → x = empB ∧ n = -1 := fun hn => by
    rcases h with ⟨_, h1, h2⟩ | ⟨m, h1, _⟩
    · exact ⟨h1, h2⟩
    · rw [hn] at h1; cases h1
  unfold titledV
  cases hg : gapP s.data.toList with
  | none =>
    obtain ⟨rfl, rfl⟩ := hN (titled_no1 hg)
    rw [optI_none hg] at HG
    clear hN h hg
    go_enter Tryz.func29, Tryz.ntmps29
    go_wp2_with fail
    refine HG.out.mono ?_
    rintro e w1 ⟨rfl, rfl⟩
    go_wp2
    go_ret2
    exact ⟨rfl, Below.refl _ _⟩
  | some g =>
    rw [optI_some hg] at HG
    have hgl := gap_le hg
    rw [szL] at hgl
    rcases Nat.eq_zero_or_pos g with rfl | hg0
    · obtain ⟨rfl, rfl⟩ := hN (titled_no2 hg)
      clear hN h hg
      go_enter Tryz.func29, Tryz.ntmps29
      go_wp2_with fail
      refine HG.out.mono ?_
      rintro e w1 ⟨rfl, rfl⟩
      go_wp2
      go_ret2
      exact ⟨rfl, Below.refl _ _⟩
    have hg1 : ¬ (g : Int) < 1 := by omega
    have hgb : (g : Int) ≤ (s.size : Int) := by omega
    have hg0' : (0 : Int) ≤ (g : Int) := by omega
    obtain ⟨S1, hS1⟩ : ∃ S1, S1 = s.extract g s.size := ⟨_, rfl⟩
    have hS1l : S1.data.toList = s.data.toList.drop g := by rw [hS1, ext_restL]
    have hS1z : S1.size + g = s.size := by
      rw [← szL, hS1l, List.length_drop, szL]; omega
    obtain ⟨y, p, hT⟩ : ∃ (y : ByteArray) (p : Nat), titP (s.data.toList.drop g) = (y.data.toList, p) := by
      obtain ⟨y, hy⟩ := ba_mkL (titP (s.data.toList.drop g)).1
      exact ⟨y, (titP (s.data.toList.drop g)).2, by rw [hy]⟩
    have HT : Hid (Calls Tryz.prog 53 #[.string S1] w fun e w' => e = .returned (.tuple #[.string y, .int .i64 (p : Int)]) ∧ Below w.heap.size w w') := Lib.hid (by
      have := rtitle_any S1 w (by omega)
      rw [hS1l] at this
      unfold titV at this
      rw [hT] at this
      simp only at this
      unfold str at this
      rw [ba_selfL] at this
      exact this)
    have hpl := tit_le hT
    rw [List.length_drop, szL] at hpl
    have HS1 := Lib.hid hS1
    rcases Nat.eq_zero_or_pos p with rfl | hp0
    · obtain ⟨rfl, rfl⟩ := hN (titled_no3 hg (by rw [hT]))
      clear hN h hg hS1 hS1l hS1z hT hpl
      go_enter Tryz.func29, Tryz.ntmps29
      go_wp2_with fail
      refine HG.out.mono ?_
      rintro e w1 ⟨rfl, rfl⟩
      go_wp2_with fail
      rw [← HS1.out]
      refine HT.out.mono ?_
      rintro e w1 ⟨rfl, hb⟩
      go_wp2
      go_ret2
      exact ⟨rfl, hb⟩
    have hp1 : ((p : Int) == 0) = false := by simp; omega
    obtain ⟨S2, hS2⟩ : ∃ S2, S2 = s.extract (g + p) s.size := ⟨_, rfl⟩
    have hS2l : S2.data.toList = s.data.toList.drop (g + p) := by rw [hS2, ext_restL]
    have hS2z : S2.size ≤ 100000 := by
      rw [← szL, hS2l, List.length_drop, szL]; omega
    have HE := Lib.hid (fun W => rend_any S2 W (by omega))
    rw [hS2l] at HE
    have hgpb : (g : Int) + (p : Int) ≤ (s.size : Int) := by omega
    have HS2 := Lib.hid hS2
    cases he : endP (s.data.toList.drop (g + p)) with
    | none =>
      obtain ⟨rfl, rfl⟩ := hN (titled_no4 hg (by rw [hT]; exact he))
      rw [optI_none he] at HE
      clear hN h hg hS1 hS1l hS1z hT hpl hS2 hS2l hS2z he hg0 hp0
      go_enter Tryz.func29, Tryz.ntmps29
      go_wp2_with fail
      refine HG.out.mono ?_
      rintro e w1 ⟨rfl, rfl⟩
      go_wp2_with fail
      rw [← HS1.out]
      refine HT.out.mono ?_
      rintro e w1 ⟨rfl, hb⟩
      go_wp2_with fail
      rw [← HS2.out]
      refine (HE.out _).mono ?_
      rintro e w2 ⟨rfl, rfl⟩
      go_wp2
      go_ret2
      exact ⟨rfl, hb⟩
    | some k =>
      have hel := end_le _ _ he
      rw [List.length_drop, szL] at hel
      have hgo := titled_make hg hg0 hT hp0 he
      have hx : x = y ∧ n = ((g + p + k : Nat) : Int) := by
        rcases h with ⟨h1, _⟩ | ⟨m, h1, h2⟩
        · rw [hgo] at h1; cases h1
        · rw [hgo] at h1
          injection h1 with h1
          injection h1 with h3 h4
          exact ⟨bytes_ext h3.symm, by rw [h2, ← h4]⟩
      obtain ⟨rfl, rfl⟩ := hx
      rw [optI_some he] at HE
      have hk : ¬ (k : Int) < 0 := by omega
      have hsb : (g : Int) + (p : Int) + (k : Int) ≤ 100000 := by omega
      clear hN h hg hS1 hS1l hS1z hT hpl hS2 hS2l hS2z he hgo hel
      go_enter Tryz.func29, Tryz.ntmps29
      go_wp2_with fail
      refine HG.out.mono ?_
      rintro e w1 ⟨rfl, rfl⟩
      go_wp2_with fail
      rw [← HS1.out]
      refine HT.out.mono ?_
      rintro e w1 ⟨rfl, hb⟩
      go_wp2_with fail
      rw [← HS2.out]
      refine (HE.out _).mono ?_
      rintro e w2 ⟨rfl, rfl⟩
      go_wp2
      go_ret2
      exact ⟨ret2 rfl (by omega), hb⟩

set_option maxHeartbeats 16000000 in
theorem rtake_any (s : ByteArray) (w : World) (hz : s.size ≤ 100000) (b : Rb) (n : Nat) (h : takeP s.data.toList = (b.r, n)) :
    Calls Tryz.prog 10 #[.string s] w fun e w' => e = .returned (.tuple #[refV b, .int .i64 (n : Int)]) ∧ Below w.heap.size w w' := by
  obtain ⟨x, a, hL⟩ : ∃ (x : ByteArray) (a : Nat), labP s.data.toList = (x.data.toList, a) := by
    obtain ⟨x, hx⟩ := ba_mkL (labP s.data.toList).1
    exact ⟨x, (labP s.data.toList).2, by rw [hx]⟩
  have HL : Hid (∀ W, Calls Tryz.prog 25 #[.string s] W fun e w' => e = .returned (.tuple #[.string x, .int .i64 (a : Int)]) ∧ Below W.heap.size W w') := Lib.hid (fun W => by
    have := rlabel_any s W (by omega)
    unfold labV at this
    rw [hL] at this
    simp only at this
    unfold str at this
    rw [ba_selfL] at this
    exact this)
  have hal := lab_le hL
  rw [szL, szL] at hal
  have HLab := Lib.hid hL
  have Hok := Lib.hid h
  have Hnil := Lib.hid (fun h2 => nil_of h h2)
  have HB0 : Hid (Blk (w.alloc (.cells (refC nilB) 24)) w.heap.size (refC nilB) 24) := Lib.hid (Blk.new w (refC nilB) 24)
  have HW0 : Hid (Below w.heap.size w (w.alloc (.cells (refC nilB) 24))) := Lib.hid ((Below.refl _ w).alloc (Nat.le_refl _) _)
  unfold refC nilB at HW0 HB0
  clear h hL
  go_enter Tryz.func10, Tryz.ntmps10
  go_wp2_with fail
  refine (HL.out _).mono ?_
  rintro e w1 ⟨rfl, hb1⟩
  have K1 : Hid (Blk w1 w.heap.size (refC nilB) 24) := Lib.hid (HB0.out.below hb1)
  have W1 := Lib.hid (below_later HW0.out hb1)
  clear hb1 HB0 HW0 HL
  rcases Nat.eq_zero_or_pos a with rfl | ha0
  · obtain ⟨rfl, rfl⟩ := Hnil.out (take_no1 HLab.out)
    have c0 : w1.cell? ⟨w.heap.size, 0, none⟩ = some (.string ⟨#[]⟩) := K1.out.cell 0 rfl
    have c1 : w1.cell? ⟨w.heap.size, 1, none⟩ = some (.string ⟨#[]⟩) := K1.out.cell 1 rfl
    have c2 : w1.cell? ⟨w.heap.size, 2, none⟩ = some (.string ⟨#[]⟩) := K1.out.cell 2 rfl
    have cf := fun k => K1.out.fr k
    clear Hnil Hok
    go_wp2
    refine bodyPost_ret (v := .tuple #[refV nilB, .int .i64 0]) (results_ref rfl _ _ w.heap.size nilB _ rfl rfl (K1.out.reref nilB)) rfl ⟨rfl, ?_⟩
    iterate 3 (refine Below.setCell ?_ (by exact Nat.le_refl _) _)
    exact W1.out
  have ea : ((a : Int) == 0) = false := by simp; omega
  rcases Nat.lt_or_ge a s.size with has | has
  case inr =>
    have eas : ((a : Int) == (s.size : Int)) = true := by simp; omega
    obtain ⟨rfl, rfl⟩ := Hnil.out (take_no2 HLab.out ha0 (List.drop_eq_nil_of_le (by rw [szL]; omega)))
    have c0 : w1.cell? ⟨w.heap.size, 0, none⟩ = some (.string ⟨#[]⟩) := K1.out.cell 0 rfl
    have c1 : w1.cell? ⟨w.heap.size, 1, none⟩ = some (.string ⟨#[]⟩) := K1.out.cell 1 rfl
    have c2 : w1.cell? ⟨w.heap.size, 2, none⟩ = some (.string ⟨#[]⟩) := K1.out.cell 2 rfl
    have cf := fun k => K1.out.fr k
    clear Hnil Hok
    go_wp2
    refine bodyPost_ret (v := .tuple #[refV nilB, .int .i64 0]) (results_ref rfl _ _ w.heap.size nilB _ rfl rfl (K1.out.reref nilB)) rfl ⟨rfl, ?_⟩
    iterate 3 (refine Below.setCell ?_ (by exact Nat.le_refl _) _)
    exact W1.out
  have eas : ((a : Int) == (s.size : Int)) = false := by simp; omega
  have hai : (a : Int) < (s.size : Int) := by omega
  obtain ⟨c, t, hd, hck, ht⟩ := consAt has
  have HD := Lib.hid hd
  have e58 : ((c.toNat : Int) == 58) = (c == 58) := eqU c 58 (by decide)
  by_cases hc : c = 58
  case neg =>
    have e2 : (c == 58) = false := by simpa using hc
    rw [e2] at e58
    have HC := Lib.hid hc
    clear hd ht hc e2
    obtain ⟨rfl, rfl⟩ := Hnil.out (take_no3 HLab.out ha0 HD.out HC.out)
    have c0 : w1.cell? ⟨w.heap.size, 0, none⟩ = some (.string ⟨#[]⟩) := K1.out.cell 0 rfl
    have c1 : w1.cell? ⟨w.heap.size, 1, none⟩ = some (.string ⟨#[]⟩) := K1.out.cell 1 rfl
    have c2 : w1.cell? ⟨w.heap.size, 2, none⟩ = some (.string ⟨#[]⟩) := K1.out.cell 2 rfl
    have cf := fun k => K1.out.fr k
    clear Hnil Hok
    go_wp2
    refine bodyPost_ret (v := .tuple #[refV nilB, .int .i64 0]) (results_ref rfl _ _ w.heap.size nilB _ rfl rfl (K1.out.reref nilB)) rfl ⟨rfl, ?_⟩
    iterate 3 (refine Below.setCell ?_ (by exact Nat.le_refl _) _)
    exact W1.out
  subst hc
  rw [show ((58 : UInt8) == 58) = true from rfl] at e58
  obtain ⟨S1, hS1⟩ : ∃ S1, S1 = s.extract (a + 1) s.size := ⟨_, rfl⟩
  have hS1l : S1.data.toList = t := by rw [hS1, ext_restL, ht]
  have hS1z : S1.size ≤ 100000 := by rw [← szL, hS1l, ← ht, List.length_drop, szL]; omega
  have HG := Lib.hid (fun W => rgap_any S1 W (by omega))
  rw [hS1l] at HG
  have htl : t.length + (a + 1) = s.size := by rw [← ht, List.length_drop, szL]; omega
  have HS1 := Lib.hid hS1
  have hp1b : (a : Int) + 1 ≤ (s.size : Int) := by omega
  clear hd hS1 hS1l hS1z
  cases hg : gapP t with
  | none =>
    rw [optI_none hg] at HG
    have Hg := Lib.hid hg
    clear ht hg htl
    go_wp2_with fail
    rw [← HS1.out]
    refine (HG.out _).mono ?_
    rintro e w2 ⟨rfl, rfl⟩
    obtain ⟨rfl, rfl⟩ := Hnil.out (take_no4 HLab.out ha0 HD.out Hg.out)
    have c0 : w1.cell? ⟨w.heap.size, 0, none⟩ = some (.string ⟨#[]⟩) := K1.out.cell 0 rfl
    have c1 : w1.cell? ⟨w.heap.size, 1, none⟩ = some (.string ⟨#[]⟩) := K1.out.cell 1 rfl
    have c2 : w1.cell? ⟨w.heap.size, 2, none⟩ = some (.string ⟨#[]⟩) := K1.out.cell 2 rfl
    have cf := fun k => K1.out.fr k
    clear Hnil Hok
    go_wp2
    refine bodyPost_ret (v := .tuple #[refV nilB, .int .i64 0]) (results_ref rfl _ _ w.heap.size nilB _ rfl rfl (K1.out.reref nilB)) rfl ⟨rfl, ?_⟩
    iterate 3 (refine Below.setCell ?_ (by exact Nat.le_refl _) _)
    exact W1.out
  | some g =>
    rw [optI_some hg] at HG
    have hgl := gap_le hg
    have Hg := Lib.hid hg
    have hg0 : ¬ (g : Int) < 0 := by omega
    obtain ⟨S2, hS2⟩ : ∃ S2, S2 = s.extract (a + 1 + g) s.size := ⟨_, rfl⟩
    have hS2l : S2.data.toList = t.drop g := by rw [hS2, ext_restL, ← List.drop_drop, ht]
    have hS2z : S2.size ≤ 100000 := by rw [← szL, hS2l, List.length_drop]; omega
    obtain ⟨d, k, bb, hD⟩ : ∃ (d : ByteArray) (k : Nat) (bb : Bool), destP (t.drop g) = (d.data.toList, k, bb) := by
      obtain ⟨d, hd⟩ := ba_mkL (destP (t.drop g)).1
      exact ⟨d, (destP (t.drop g)).2.1, (destP (t.drop g)).2.2, by rw [hd]⟩
    have HDs : Hid (∀ W, Calls Tryz.prog 27 #[.string S2] W fun e w' => e = .returned (.tuple #[.string d, .int .i64 (k : Int), .bool bb]) ∧ Below W.heap.size W w') := Lib.hid (fun W => by
      have := rdest_any S2 W hS2z
      rw [hS2l] at this
      unfold dstV at this
      rw [hD] at this
      simp only at this
      unfold str at this
      rw [ba_selfL] at this
      exact this)
    have HDe := Lib.hid hD
    have HS2 := Lib.hid hS2
    have hp2b : (a : Int) + 1 + (g : Int) ≤ (s.size : Int) := by omega
    clear hg hS2 hS2l hS2z
    go_wp2_with fail
    rw [← HS1.out]
    refine (HG.out _).mono ?_
    rintro e w2 ⟨rfl, rfl⟩
    go_wp2_with fail
    rw [← HS2.out]
    refine (HDs.out _).mono ?_
    rintro e w2 ⟨rfl, hb2⟩
    have K2 : Hid (Blk w2 w.heap.size (refC nilB) 24) := Lib.hid (K1.out.below hb2)
    have W2 := Lib.hid (below_later W1.out hb2)
    clear hb2 K1 W1 HG HDs
    cases bb with
    | false =>
      clear hD ht htl hgl
      obtain ⟨rfl, rfl⟩ := Hnil.out (take_no5 HLab.out ha0 HD.out Hg.out HDe.out)
      have c0 : w2.cell? ⟨w.heap.size, 0, none⟩ = some (.string ⟨#[]⟩) := K2.out.cell 0 rfl
      have c1 : w2.cell? ⟨w.heap.size, 1, none⟩ = some (.string ⟨#[]⟩) := K2.out.cell 1 rfl
      have c2 : w2.cell? ⟨w.heap.size, 2, none⟩ = some (.string ⟨#[]⟩) := K2.out.cell 2 rfl
      have cf := fun k => K2.out.fr k
      clear Hnil Hok
      go_wp2
      refine bodyPost_ret (v := .tuple #[refV nilB, .int .i64 0]) (results_ref rfl _ _ w.heap.size nilB _ rfl rfl (K2.out.reref nilB)) rfl ⟨rfl, ?_⟩
      iterate 3 (refine Below.setCell ?_ (by exact Nat.le_refl _) _)
      exact W2.out
    | true =>
      have hkl := dest_le hD
      rw [List.length_drop] at hkl
      obtain ⟨y, hy⟩ := ba_mkL (Ks.lab x.data.toList)
      have HKL : Hid (∀ W, Calls Tryz.prog 28 #[.string x] W fun e w' => e = .returned (.string y) ∧ Below W.heap.size W w') := Lib.hid (fun W => by
        have := Ks.rLabel_any x W (by omega)
        rw [← hy] at this
        unfold Tx.str at this
        rw [ba_selfL] at this
        exact this)
      obtain ⟨S3, hS3⟩ : ∃ S3, S3 = s.extract (a + 1 + g + k) s.size := ⟨_, rfl⟩
      have hS3l : S3.data.toList = t.drop (g + k) := by rw [hS3, ext_restL, ← ht, List.drop_drop]; congr 1; omega
      have hS3z : S3.size ≤ 100000 := by rw [← szL, hS3l, List.length_drop]; omega
      obtain ⟨z, m, hTi⟩ := titled_is (t.drop (g + k))
      have HTi := Lib.hid (fun W => rtitled_any S3 W hS3z z m (by rw [hS3l]; exact hTi))
      unfold titledV at HTi
      have HE := Lib.hid (fun W => rend_any S3 W (by omega))
      rw [hS3l] at HE
      have HS3 := Lib.hid hS3
      have Hy := Lib.hid hy
      have hp3b : (a : Int) + 1 + (g : Int) + (k : Int) ≤ (s.size : Int) := by omega
      clear hD hS3 hS3l hS3z hy
      go_wp2_with fail
      refine (HKL.out _).mono ?_
      rintro e w3 ⟨rfl, hb3⟩
      have K3 : Hid (Blk w3 w.heap.size (refC nilB) 24) := Lib.hid (K2.out.below hb3)
      have W3 := Lib.hid (below_later W2.out hb3)
      have hN3 := K3.out.lt
      have KN : Hid (Blk (w3.alloc (.cells (refC ⟨y, d, ⟨#[]⟩⟩) 24)) w3.heap.size (refC ⟨y, d, ⟨#[]⟩⟩) 24) := Lib.hid (Blk.new _ _ _)
      have K3' : Hid (Blk (w3.alloc (.cells (refC ⟨y, d, ⟨#[]⟩⟩) 24)) w.heap.size (refC nilB) 24) := Lib.hid (K3.out.alloc _)
      have W3' : Hid (Below w.heap.size w (w3.alloc (.cells (refC ⟨y, d, ⟨#[]⟩⟩) 24))) := Lib.hid (W3.out.alloc (Nat.le_of_lt hN3) _)
      unfold refC at KN W3' K3'
      clear hb3 K2 W2 HKL K3
      go_wp2_with fail
      rw [← HS3.out]
      refine (HTi.out _).mono ?_
      rintro e w4 ⟨rfl, hb4⟩
      have K4 : Hid (Blk w4 w.heap.size (refC nilB) 24) := Lib.hid (K3'.out.below hb4)
      have N4 : Hid (Blk w4 w3.heap.size (refC ⟨y, d, ⟨#[]⟩⟩) 24) := Lib.hid (KN.out.below hb4)
      have W4 := Lib.hid (below_later W3'.out hb4)
      have hNw : w.heap.size ≠ w3.heap.size := by omega
      clear hb4 K3' W3' KN W3 HTi
      generalize w3.heap.size = N at *
      have c0 : w4.cell? ⟨w.heap.size, 0, none⟩ = some (.string ⟨#[]⟩) := K4.out.cell 0 rfl
      have c1 : w4.cell? ⟨w.heap.size, 1, none⟩ = some (.string ⟨#[]⟩) := K4.out.cell 1 rfl
      have c2 : w4.cell? ⟨w.heap.size, 2, none⟩ = some (.string ⟨#[]⟩) := K4.out.cell 2 rfl
      have cf := fun k => K4.out.fr k
      have d0 : w4.cell? ⟨N, 0, none⟩ = some (.string y) := N4.out.cell 0 rfl
      have d1 : w4.cell? ⟨N, 1, none⟩ = some (.string d) := N4.out.cell 1 rfl
      have d2 : w4.cell? ⟨N, 2, none⟩ = some (.string ⟨#[]⟩) := N4.out.cell 2 rfl
      have df := fun k => N4.out.fr k
      rcases hTi with ⟨ht1, rfl, rfl⟩ | ⟨m, ht1, rfl⟩
      · cases he : endP (t.drop (g + k)) with
        | none =>
          obtain ⟨rfl, rfl⟩ := Hnil.out (take_no6 HLab.out ha0 HD.out Hg.out HDe.out (back_none ht1 he))
          rw [optI_none he] at HE
          clear Hnil Hok ht1 he ht htl hgl hkl
          go_wp2_with fail
          rw [← HS3.out]
          refine (HE.out _).mono ?_
          rintro e w5 ⟨rfl, rfl⟩
          go_wp2
          refine bodyPost_ret (v := .tuple #[refV nilB, .int .i64 0]) (results_ref rfl _ _ w.heap.size nilB _ rfl rfl (K4.out.reref nilB)) rfl ⟨rfl, ?_⟩
          iterate 3 (refine Below.setCell ?_ (by exact Nat.le_refl _) _)
          exact W4.out
        | some e1 =>
          have hel := end_le _ _ he
          rw [List.length_drop] at hel
          have hm := take_make HLab.out ha0 HD.out Hg.out HDe.out (back_end ht1 he)
          obtain ⟨hbr, rfl⟩ := ok_of Hok.out hm
          have hbe : b = ⟨y, d, ⟨#[]⟩⟩ := Rb.inj (by rw [hbr]; unfold Rb.r; rw [Hy.out])
          subst hbe
          rw [optI_some he] at HE
          have he0 : ¬ (e1 : Int) < 0 := by omega
          have hs5 : Hid ((a : Int) + 1 + (g : Int) + (k : Int) + (e1 : Int) = ((a + 1 + g + k + e1 : Nat) : Int)) := Lib.hid (by omega)
          have hs6 : (a : Int) + 1 + (g : Int) + (k : Int) + (e1 : Int) ≤ 100000 := by omega
          clear Hnil Hok ht1 he ht htl hgl hkl hm hbr hel
          go_wp2_with fail
          rw [← HS3.out]
          refine (HE.out _).mono ?_
          rintro e w5 ⟨rfl, rfl⟩
          go_wp2
          refine bodyPost_ret (v := .tuple #[refV ⟨y, d, ⟨#[]⟩⟩, .int .i64 ((a : Int) + 1 + (g : Int) + (k : Int) + (e1 : Int))]) (results_ref rfl _ _ w.heap.size ⟨y, d, ⟨#[]⟩⟩ _ rfl rfl (K4.out.reref ⟨y, d, ⟨#[]⟩⟩)) rfl ⟨by rw [hs5.out], ?_⟩
          iterate 3 (refine Below.setCell ?_ (by exact Nat.le_refl _) _)
          exact W4.out
      · have hml : m ≤ t.length := by
          have := back_le (back_some ht1)
          rw [List.length_drop] at this; omega
        have hmk := back_le (back_some ht1)
        rw [List.length_drop] at hmk
        have hm := take_make HLab.out ha0 HD.out Hg.out HDe.out (back_some ht1)
        obtain ⟨hbr, rfl⟩ := ok_of Hok.out hm
        have hbe : b = ⟨y, d, z⟩ := Rb.inj (by rw [hbr]; unfold Rb.r; rw [Hy.out])
        subst hbe
        have hm0 : (0 : Int) ≤ (m : Int) := by omega
        have hs5 : Hid ((a : Int) + 1 + (g : Int) + (k : Int) + (m : Int) = ((a + 1 + g + k + m : Nat) : Int)) := Lib.hid (by omega)
        have hs6 : (a : Int) + 1 + (g : Int) + (k : Int) + (m : Int) ≤ 100000 := by omega
        have N5 := Lib.hid (Blk.set (cs' := refC ⟨y, d, z⟩) N4.out 2 (.string z) rfl)
        have K5 := Lib.hid (K4.out.other (p := ⟨N, 2, none⟩) (.string z) hNw)
        clear Hnil Hok ht1 ht htl hgl hkl hm hbr hml hmk
        go_wp2
        refine bodyPost_ret (v := .tuple #[refV ⟨y, d, z⟩, .int .i64 ((a : Int) + 1 + (g : Int) + (k : Int) + (m : Int))]) (results_ref rfl _ _ w.heap.size ⟨y, d, z⟩ _ rfl rfl (K5.out.reref ⟨y, d, z⟩)) rfl ⟨by rw [hs5.out], ?_⟩
        iterate 3 (refine Below.setCell ?_ (by exact Nat.le_refl _) _)
        refine Below.setCell ?_ (by show w.heap.size ≤ N; omega) _
        exact W4.out
end Rf
end Go.Proofs.YtfabiidohdkkcaaGreatDoor

/- Walks of layer 10: rows of definitions: the law's few, the reference's Same, Find, All, Add. -/
namespace Go.Proofs.YtfabiidohdkkcaaGreatDoor
open Go Go.RowKit
namespace Rf
open Lk Es
set_option maxRecDepth 100000
set_option linter.unusedVariables false
set_option linter.unusedSimpArgs false

/-! ### the row's small calls -/
set_option maxHeartbeats 8000000 in
theorem rsame_self (l : List Rb) (v v' : Value) (w : World) (h : Refs w v l) (h' : Refs w v' l) :
    Calls Tryz.prog 13 #[v, v'] w fun e w' => e = .returned (.bool true) ∧ Below w.heap.size w w' := by
  obtain ⟨a, cap, rfl, hlm, hk⟩ := h
  obtain ⟨a', cap', rfl, _, hk'⟩ := h'
  unfold maxLen at hlm
  have HK := Lib.hid hk
  have HK' := Lib.hid hk'
  clear hk hk'
  obtain ⟨n, hn⟩ : ∃ n, l.length = n := ⟨_, rfl⟩
  rw [hn] at hlm ⊢
  have HN := Lib.hid hn
  clear hn
  go_enter Tryz.func13, Tryz.ntmps13
  go_wp2
  go_loopg [5] n (fun G s5 wr => ∃ i : Nat, i + G = n ∧ s5 = .int .i64 (i : Int) ∧ Below w.heap.size w wr)
  case atStart => exact ⟨0, by omega, rfl, Below.refl _ _⟩
  case round =>
    obtain ⟨i, hig, rfl, hbw⟩ := hrel
    cases gk with
    | zero =>
      have hlt : ¬ (i : Int) < (n : Int) := by omega
      go_wp2
      go_ret
      exact ⟨rfl, hbw⟩
    | succ G =>
      have hlt : (i : Int) < (n : Int) := by omega
      obtain ⟨c, hc⟩ : ∃ c, l[i]? = some c := ⟨_, List.getElem?_eq_getElem (by have := HN.out; omega)⟩
      rcases HK.out with rfl | ⟨b, off, rfl, hcell⟩
      · simp at hc
      rcases HK'.out with rfl | ⟨b', off', rfl, hcell'⟩
      · simp at hc
      have q := (hcell i c hc).keep hbw
      have q' := (hcell' i c hc).keep hbw
      have q0 := q.c0
      have q1 := q.c1
      have q2 := q.c2
      have q0' := q'.c0
      have q1' := q'.c1
      have q2' := q'.c2
      clear hcell hcell' hc q q'
      go_wp2_with fail
      go_quiet (fail)
      go_wp2
      go_roundg G
      case rel => exact ⟨i + 1, by omega, by go_num, below_drewN hbw _⟩
      case measure => omega

/-- What few tells: true only of what is few. -/
def FewOut (l : List Rb) (e : Ending) : Prop := e = .returned (.bool false) ∨ (e = .returned (.bool true) ∧ FewR l)
set_option maxHeartbeats 8000000 in
theorem few_any (l : List Rb) (v : Value) (w : World) (h : Refs w v l) (hz : ∀ r ∈ l, RefZ r) :
    Calls Tryz.prog 14 #[v] w fun e w' => FewOut l e ∧ Below w.heap.size w w' := by
  obtain ⟨a, cap, rfl, hlm, hk⟩ := h
  unfold maxLen at hlm
  have HK := Lib.hid hk
  have HZ := Lib.hid hz
  clear hk hz
  obtain ⟨n, hn⟩ : ∃ n, l.length = n := ⟨_, rfl⟩
  rw [hn] at hlm ⊢
  have HN := Lib.hid hn
  clear hn
  by_cases h40 : (40 : Int) < (n : Int)
  · go_enter Tryz.func14, Tryz.ntmps14
    go_wp2
    go_ret
    exact ⟨.inl rfl, Below.refl _ _⟩
  go_enter Tryz.func14, Tryz.ntmps14
  go_wp2
  go_loopg [3] n (fun G s3 wr => ∃ i : Nat, i + G = n ∧ s3 = .int .i64 (i : Int) ∧ Hid (∀ j r, j < i → l[j]? = some r → r.lab.size + r.dst.size + r.tit.size ≤ 1000) ∧ Below w.heap.size w wr)
  case atStart => exact ⟨0, by omega, rfl, Lib.hid (fun j r hj => by omega), Below.refl _ _⟩
  case round =>
    obtain ⟨i, hig, rfl, HA, hbw⟩ := hrel
    cases gk with
    | zero =>
      have hlt : ¬ (i : Int) < (n : Int) := by omega
      have hin : i = n := by omega
      have HV : Hid (FewR l) := Lib.hid ⟨by rw [HN.out]; omega, fun r hr => by
        obtain ⟨j, hj⟩ := List.mem_iff_getElem?.1 hr
        have := (List.getElem?_eq_some_iff.1 hj).1
        exact HA.out j r (by rw [hin, ← HN.out]; exact this) hj⟩
      clear hin
      go_wp2
      go_ret
      exact ⟨.inr ⟨rfl, HV.out⟩, hbw⟩
    | succ G =>
      have hlt : (i : Int) < (n : Int) := by omega
      obtain ⟨c, hc⟩ : ∃ c, l[i]? = some c := ⟨_, List.getElem?_eq_getElem (by have := HN.out; omega)⟩
      rcases HK.out with rfl | ⟨b, off, rfl, hcell⟩
      · simp at hc
      have q := (hcell i c hc).keep hbw
      have q0 := q.c0
      have q1 := q.c1
      have q2 := q.c2
      obtain ⟨z1, z2, z3⟩ := HZ.out c (List.mem_of_getElem? hc)
      have w1 : IntKind.i64.wrap ((c.lab.size : Int) + (c.dst.size : Int)) = (c.lab.size : Int) + (c.dst.size : Int) := by rw [IntKind.wrap_i64]; omega
      have w2 : IntKind.i64.wrap ((c.lab.size : Int) + (c.dst.size : Int) + (c.tit.size : Int)) = (c.lab.size : Int) + (c.dst.size : Int) + (c.tit.size : Int) := by rw [IntKind.wrap_i64]; omega
      have HC : Hid (l[i]? = some c) := Lib.hid hc
      clear hcell hc q
      by_cases hbig : (1000 : Int) < (c.lab.size : Int) + (c.dst.size : Int) + (c.tit.size : Int)
      · have hd : decide ((1000 : Int) < (c.lab.size : Int) + (c.dst.size : Int) + (c.tit.size : Int)) = true := decide_eq_true hbig
        go_wp2_with fail
        go_quiet (fail)
        go_wp2
        go_ret
        exact ⟨.inl rfl, below_drewN hbw _⟩
      · have hd : decide ((1000 : Int) < (c.lab.size : Int) + (c.dst.size : Int) + (c.tit.size : Int)) = false := decide_eq_false hbig
        have HA2 : Hid (∀ j r, j < i + 1 → l[j]? = some r → r.lab.size + r.dst.size + r.tit.size ≤ 1000) := Lib.hid (fun j r hj hr => by
          rcases Nat.lt_or_ge j i with h | h
          · exact HA.out j r h hr
          · have : j = i := by omega
            subst this
            have := HC.out
            rw [hr] at this
            injection this with this
            subst this
            omega)
        go_wp2_with fail
        go_quiet (fail)
        go_wp2
        go_roundg G
        case rel => exact ⟨i + 1, by omega, by go_num, HA2, below_drewN hbw _⟩
        case measure => omega
end Rf
end Go.Proofs.YtfabiidohdkkcaaGreatDoor

/- Walks of layer 10: the reference's Find, All. -/
namespace Go.Proofs.YtfabiidohdkkcaaGreatDoor
open Go Go.RowKit
namespace Rf
open Lk Es
set_option maxRecDepth 100000
set_option linter.unusedVariables false
set_option linter.unusedSimpArgs false

set_option maxHeartbeats 8000000 in
theorem rfind_any (l : List Rb) (v : Value) (x y : ByteArray) (w : World) (hxz : x.size ≤ 1000000) (hy : y.data.toList = Ks.lab x.data.toList) (h : Refs w v l) (b : Rb) (ok : Bool) (hF : FindIs l y b ok) :
    Calls Tryz.prog 16 #[v, .string x] w fun e w' => e = .returned (.tuple #[refV b, .bool ok]) ∧ Below w.heap.size w w' := by
  have HL : Hid (∀ W, Calls Tryz.prog 28 #[.string x] W fun e w' => e = .returned (.string y) ∧ Below W.heap.size W w') := Lib.hid (fun W => by
    have := Ks.rLabel_any x W (by omega)
    rw [← hy] at this
    unfold Tx.str at this
    rw [ba_selfL] at this
    exact this)
  obtain ⟨a, cap, rfl, hlm, hk⟩ := h
  unfold maxLen at hlm
  have HK := Lib.hid hk
  have HF := Lib.hid hF
  clear hk hF hy
  obtain ⟨n, hn⟩ : ∃ n, l.length = n := ⟨_, rfl⟩
  rw [hn] at hlm ⊢
  have HN := Lib.hid hn
  have HB0 : Hid (Blk (w.alloc (.cells (refC nilB) 24)) w.heap.size (refC nilB) 24) := Lib.hid (Blk.new w (refC nilB) 24)
  have HW0 : Hid (Below w.heap.size w (w.alloc (.cells (refC nilB) 24))) := Lib.hid ((Below.refl _ w).alloc (Nat.le_refl _) _)
  unfold refC nilB at HW0 HB0
  have hem : y.toList.isEmpty = decide (y = empB) := emp_list
  clear hn
  go_enter Tryz.func16, Tryz.ntmps16
  go_wp2_with fail
  refine (HL.out _).mono ?_
  rintro e w1 ⟨rfl, hb1⟩
  have K1 : Hid (Blk w1 w.heap.size (refC nilB) 24) := Lib.hid (HB0.out.below hb1)
  have W1 := Lib.hid (below_later HW0.out hb1)
  clear hb1 HB0 HW0 HL
  go_wp2_with fail
  go_loopg [7] n (fun G s7 wr => ∃ i : Nat, i + G = n ∧ s7 = .int .i64 (i : Int) ∧ w1 = wr ∧ Hid (y = empB ∨ l.find? (fun r => decide (r.lab = y)) = (l.drop i).find? (fun r => decide (r.lab = y))))
  case atStart => exact ⟨0, by omega, rfl, rfl, Lib.hid (.inr (by rw [List.drop_zero]))⟩
  case round =>
    obtain ⟨i, hig, rfl, rfl, HI⟩ := hrel
    cases gk with
    | zero =>
      have hlt : ¬ (i : Int) < (n : Int) := by omega
      have HV : Hid (b = nilB ∧ ok = false) := Lib.hid (by
        have hno : findB l y = none := by
          unfold findB
          split
          · rfl
          · rename_i hne
            rw [HI.out.resolve_left hne, List.drop_eq_nil_of_le (by rw [HN.out]; omega)]; rfl
        rcases HF.out with ⟨_, h1, h2⟩ | ⟨h1, _⟩
        · exact ⟨h1, h2⟩
        · rw [hno] at h1; cases h1)
      have c0 : w1.cell? ⟨w.heap.size, 0, none⟩ = some (.string ⟨#[]⟩) := K1.out.cell 0 rfl
      have c1 : w1.cell? ⟨w.heap.size, 1, none⟩ = some (.string ⟨#[]⟩) := K1.out.cell 1 rfl
      have c2 : w1.cell? ⟨w.heap.size, 2, none⟩ = some (.string ⟨#[]⟩) := K1.out.cell 2 rfl
      have cf := fun k => K1.out.fr k
      obtain ⟨rfl, rfl⟩ := HV.out
      clear HF HI HV
      go_wp2
      refine bodyPost_ret (v := .tuple #[refV nilB, .bool false]) (results_ref rfl _ _ w.heap.size nilB _ rfl rfl (K1.out.reref nilB)) rfl ⟨rfl, ?_⟩
      iterate 3 (refine Below.setCell ?_ (by exact Nat.le_refl _) _)
      exact W1.out
    | succ G =>
      have hlt : (i : Int) < (n : Int) := by omega
      obtain ⟨c, hc⟩ : ∃ c, l[i]? = some c := ⟨_, List.getElem?_eq_getElem (by have := HN.out; omega)⟩
      rcases HK.out with rfl | ⟨bb, off, rfl, hcell⟩
      · simp at hc
      have q := ((hcell i c hc).keep (show Below w.heap.size w w1 from W1.out))
      have q0 := q.c0
      have q1 := q.c1
      have q2 := q.c2
      have hdr : l.drop i = c :: l.drop (i + 1) := by
        obtain ⟨h1, h2⟩ := List.getElem?_eq_some_iff.1 hc
        rw [← h2]; exact List.drop_eq_getElem_cons h1
      have HNx : Hid (y = empB ∨ c.lab ≠ y → y = empB ∨ l.find? (fun r => decide (r.lab = y)) = (l.drop (i + 1)).find? (fun r => decide (r.lab = y))) := Lib.hid (fun hh => by
        rcases hh with hh | hh
        · exact .inl hh
        · rcases HI.out with h1 | h1
          · exact .inl h1
          · right
            rw [h1, hdr, List.find?_cons_of_neg (by simpa using hh)])
      have HYs : Hid (y ≠ empB → c.lab = y → b = c ∧ ok = true) := Lib.hid (fun h1 h2 => by
        have hs : findB l y = some c := by
          unfold findB
          rw [if_neg h1, HI.out.resolve_left h1, hdr, List.find?_cons_of_pos (by simpa using h2)]
        rcases HF.out with ⟨h3, _⟩ | ⟨h3, h4⟩
        · rw [hs] at h3; cases h3
        · rw [hs] at h3; injection h3 with h3; exact ⟨h3.symm, h4⟩)
      clear hcell hc q hdr HI
      by_cases hcy : c.lab = y
      · have e1 : (c.lab.toList == y.toList) = true := eq_list hcy
        by_cases hye : y = empB
        · have HV := Lib.hid (HNx.out (.inl hye))
          rw [decide_eq_true hye] at hem
          clear HNx HYs hcy hye
          go_wp2
          go_roundg G
          case rel => exact ⟨i + 1, by omega, by go_num, rfl, HV⟩
          case measure => omega
        · obtain ⟨hb', hok'⟩ := HYs.out hye hcy
          rw [decide_eq_false hye] at hem
          have c0 : w1.cell? ⟨w.heap.size, 0, none⟩ = some (.string ⟨#[]⟩) := K1.out.cell 0 rfl
          have c1 : w1.cell? ⟨w.heap.size, 1, none⟩ = some (.string ⟨#[]⟩) := K1.out.cell 1 rfl
          have c2 : w1.cell? ⟨w.heap.size, 2, none⟩ = some (.string ⟨#[]⟩) := K1.out.cell 2 rfl
          have cf := fun k => K1.out.fr k
          subst hb' hok'
          clear HNx HYs hcy hye HF
          go_wp2
          refine bodyPost_ret (v := .tuple #[refV b, .bool true]) (results_ref rfl _ _ w.heap.size b _ rfl rfl (K1.out.reref b)) rfl ⟨rfl, ?_⟩
          iterate 3 (refine Below.setCell ?_ (by exact Nat.le_refl _) _)
          exact W1.out
      · have e1 : (c.lab.toList == y.toList) = false := ne_list hcy
        have HV := Lib.hid (HNx.out (.inr hcy))
        clear HNx HYs hcy
        go_wp2
        go_roundg G
        case rel => exact ⟨i + 1, by omega, by go_num, rfl, HV⟩
        case measure => omega

set_option maxHeartbeats 8000000 in
theorem rall_any (s : ByteArray) (w : World) (hz : s.size ≤ 100000) (L : List Rb) (S' : ByteArray) (h : allP s.data.toList = (L.map Rb.r, S'.data.toList)) :
    Calls Tryz.prog 12 #[.string s] w fun e w' => ∃ v, e = .returned (.tuple #[v, .string S']) ∧ Refs w' v L ∧ Below w.heap.size w w' := by
  obtain ⟨i0, hi, hz0, hz1, hz2⟩ := info_parts refInfo
  have HP := Lib.hid h
  have hzi : (s.size : Int) ≤ 100000 := by omega
  clear h
  go_enter Tryz.func12, Tryz.ntmps12
  go_wp2_with fail
  go_loopg [0, 4] s.size (fun G s0 s4 wr => ∃ (S : ByteArray) (don T : List Rb), S.size = G ∧ s0 = .string S ∧ Own wr w.heap.size s4 don ∧ don.length + S.size ≤ s.size ∧ Hid (L = don ++ T) ∧ Hid (allP S.data.toList = (T.map Rb.r, S'.data.toList)) ∧ Below w.heap.size w wr)
  case atStart => exact ⟨s, [], L, rfl, rfl, Own.nil w, by simp, Lib.hid rfl, HP, Below.refl _ _⟩
  case round =>
    obtain ⟨S, don, T, rfl, rfl, hown, hlen, HLt, HA, hbw⟩ := hrel
    clear HP
    obtain ⟨b, hb⟩ := Rb.of (takeP S.data.toList).1
    obtain ⟨n, hn⟩ : ∃ n, (takeP S.data.toList).2 = n := ⟨_, rfl⟩
    have ht : takeP S.data.toList = (b.r, n) := by rw [hb, ← hn]
    have hnl := take_le ht
    rw [szL] at hnl
    have HT := Lib.hid (fun W => rtake_any S W (by omega) b n ht)
    unfold refV refC at HT
    obtain ⟨a4, cap4, rfl⟩ := Own.form hown
    have HO := Lib.hid hown
    have HBw := Lib.hid hbw
    have hszw := hbw.size
    clear hown hbw hb
    rcases Nat.eq_zero_or_pos n with hn0 | hn0
    · have hal := all_end (show (takeP S.data.toList).2 = 0 by rw [hn]; exact hn0)
      have HV : Hid (T = [] ∧ S = S') := Lib.hid (by
        have := HA.out
        rw [hal] at this
        injection this with h1 h2
        exact ⟨List.map_eq_nil_iff.1 h1.symm, bytes_ext h2⟩)
      obtain ⟨rfl, rfl⟩ := HV.out
      have HR : Hid (Own wr w.heap.size (.slice a4 don.length cap4) L) := Lib.hid (by rw [HLt.out, List.append_nil]; exact HO.out)
      subst hn0
      clear hal ht hn HV HA HLt
      go_wp2_with fail
      refine (HT.out _).mono ?_
      rintro e w2 ⟨rfl, hb2⟩
      have W2 := Lib.hid (below_later HBw.out hb2)
      have R2 := Lib.hid (HR.out.keep hb2)
      clear hb2 HT
      go_wp2
      go_ret2
      refine ⟨_, rfl, Refs.of_owns (R2.out.keep ((Below.refl _ w2).alloc (Nat.le_refl _) _)), W2.out.alloc (by have := W2.out.size; omega) _⟩
    · have hal := all_more ht hn0
      have hnz : ((n : Int) == 0) = false := by simp; omega
      have hnb : (n : Int) ≤ (S.size : Int) := by omega
      obtain ⟨T2, hT2⟩ := Rb.list (allP (S.data.toList.drop n)).1
      have HTl : Hid (T = b :: T2) := Lib.hid (by
        have := HA.out
        rw [hal] at this
        injection this with h1 _
        exact map_inj (by rw [← h1, List.map_cons, hT2]))
      obtain ⟨S2, hS2⟩ : ∃ S2, S2 = S.extract n S.size := ⟨_, rfl⟩
      have hS2l : S2.data.toList = S.data.toList.drop n := by rw [hS2, ext_restL]
      have hS2z : S2.size + n = S.size := by rw [← szL, hS2l, List.length_drop, szL]; omega
      have HA2 : Hid (allP S2.data.toList = (T2.map Rb.r, S'.data.toList)) := Lib.hid (by
        have := HA.out
        rw [hal] at this
        injection this with _ h2
        rw [hS2l, hT2, ← h2])
      have HL2 : Hid (L = (don ++ [b]) ++ T2) := Lib.hid (by rw [HLt.out, HTl.out]; simp)
      have HS2 := Lib.hid hS2
      clear hal ht hn hT2 hS2 hS2l HA HLt HTl
      go_wp2_with fail
      refine (HT.out _).mono ?_
      rintro e w2 ⟨rfl, hb2⟩
      have W2 := Lib.hid (below_later HBw.out hb2)
      have O2 := Lib.hid (HO.out.keep hb2)
      have KN : Hid (Blk (w2.alloc (.cells (refC b) 24)) w2.heap.size (refC b) 24) := Lib.hid (Blk.new _ _ _)
      have W3 : Hid (Below w.heap.size w (w2.alloc (.cells (refC b) 24))) := Lib.hid (W2.out.alloc (by have := W2.out.size; omega) _)
      have O3 : Hid (Own (w2.alloc (.cells (refC b) 24)) w.heap.size (.slice a4 don.length cap4) don) := Lib.hid (O2.out.keep ((Below.refl _ w2).alloc (Nat.le_refl _) _))
      have d0 : (w2.alloc (.cells (refC b) 24)).cell? ⟨w2.heap.size, 0, none⟩ = some (.string b.lab) := KN.out.cell 0 rfl
      have d1 : (w2.alloc (.cells (refC b) 24)).cell? ⟨w2.heap.size, 1, none⟩ = some (.string b.dst) := KN.out.cell 1 rfl
      have d2 : (w2.alloc (.cells (refC b) 24)).cell? ⟨w2.heap.size, 2, none⟩ = some (.string b.tit) := KN.out.cell 2 rfl
      unfold refC at d0 d1 d2 KN W3 O3
      have hw3 := W3.out.size
      clear hb2 HT W2 O2 HO HBw
      have hdl : don.length ≤ 100000 := by omega
      go_wp2_with (at_builtin; refine wpList_append_own _ rfl _ _ 27 rfl w.heap.size 24 i0 (.agg (refC nilB)) 3 48 Tryz.underlying27 hi hz0 hz1 hz2 rfl (by decide) _ _ _ rfl (owns_keep O3.out ((Below.refl _ _).alloc (Nat.le_refl _) _)) ⟨w2.heap.size + 1, 0, none⟩ 1 1 (refC b).toList rfl rfl ?a1 ?a2 ?a3 ?a4 ?a5 ?_)
      case a1 =>
        intro j u hu
        rw [add_off, Nat.zero_add, show w2.heap.size + 1 = (w2.alloc (.cells #[.string b.lab, .string b.dst, .string b.tit] 24)).heap.size by simp, World.cell?_alloc_new]
        simpa [refC] using hu
      case a2 => exact refC_one b
      case a3 => unfold maxLen; omega
      case a4 => omega
      case a5 => first | (simp; omega) | (have := hw3; simp at this ⊢; omega)
      intro v' w4 hown' hgrow _
      obtain ⟨ho4, hb4⟩ := Own.more (Nat.le_refl _) O3.out W3.out hown' hgrow
      clear hown' hgrow O3 W3 KN d0 d1 d2
      go_wp2
      go_roundg S2.size
      case rel => exact ⟨S2, don ++ [b], T2, rfl, by rw [HS2.out], ho4, by simp; omega, HL2, HA2, hb4⟩
      case measure => omega
end Rf
end Go.Proofs.YtfabiidohdkkcaaGreatDoor

/- Walks of layer 10: the reference's Add. -/
namespace Go.Proofs.YtfabiidohdkkcaaGreatDoor
open Go Go.RowKit
namespace Rf
open Lk Es
set_option maxRecDepth 100000
set_option linter.unusedVariables false
set_option linter.unusedSimpArgs false

/-- An empty row of the call's own. -/
theorem Own.empty (w : World) : Own (w.alloc (.cells #[] 24)) w.heap.size (.slice (some ⟨w.heap.size, 0, none⟩) 0 0) [] :=
  ⟨rfl, .inr ⟨w.heap.size, 0, #[], rfl, Nat.le_refl _, heap_alloc_new w _, Nat.le_refl _, Nat.zero_le _, rfl, rfl⟩⟩
/-- append of a slice that is nil. -/
theorem wpList_append_none {P : Program} {w : World} {ops : Array Oper} {rest : List Oper} {o : Oper} {a : Act} {Q : Exit → Act → World → Prop} (hgd : o.guard = none) (s x : Operand) (t : TypeId)
    (ho : o.op = .call { callee := .builtin .append, args := #[s, x], argTypes := #[t, t] }) (e : TypeId) (i : TypeInfo) (ht : P.underlying t = some (.slice e)) (hi : P.info? e = some i)
    (g : Option Addr) (hs : a.eval s = .slice g 0 0) (c : Nat) (hx : a.eval x = .slice none 0 c) (h : wpList P ops Q rest (a.put o.dst (.slice g 0 0)) w) : wpList P ops Q (o :: rest) a w := by
  refine wpList_plain hgd fun K hK => ?_
  have hr := run_append_nothing (P := P) w t t o.type e i ht hi g 0 0 (Nat.le_refl _) _ (Src.ofNil (w := w) ht c)
  unfold Oper.wp execOp
  simp only [ho, resolve, invoke, builtin, Sem.run_bind, Sem.run_pure, Result.andThen_ok, List.map_toArray, List.map_cons, List.map_nil, hs, hx, hr]
  exact hK _ _ h
theorem rowC_inv : ∀ (l : List Rb) (j : Nat) (u : Value), (rowC l)[j]? = some u → ∃ i k h, j = i * 3 + k ∧ k < 3 ∧ l[i]? = some h ∧ (refC h)[k]? = some u
  | [], j, u, h => by simp [rowC] at h
  | x :: r, j, u, h => by
    have h : ((refC x).toList ++ rowC r)[j]? = some u := h
    rcases Nat.lt_or_ge j 3 with hj | hj
    · rw [List.getElem?_append_left (by simpa [refC] using hj)] at h
      exact ⟨0, j, x, by omega, hj, rfl, by simpa using h⟩
    · rw [List.getElem?_append_right (by simpa [refC] using hj), show (refC x).toList.length = 3 from rfl] at h
      obtain ⟨i, k, y, e1, e2, e3, e4⟩ := rowC_inv r (j - 3) u h
      exact ⟨i + 1, k, y, by omega, e2, by simpa using e3, e4⟩
/-- The cells of definitions that lie. -/
theorem cells_of {w : World} {b off : Nat} {l : List Rb} (h : ∀ (i : Nat) (h : Rb), l[i]? = some h → CellsAt w b (off + i * 3) h) (j : Nat) (u : Value) (hu : (rowC l)[j]? = some u) : w.cell? ((⟨b, off, none⟩ : Addr).add j) = some u := by
  obtain ⟨i, k, y, rfl, hk, hi, hy⟩ := rowC_inv l j u hu
  have q := h i y hi
  rw [add_off, ← Nat.add_assoc]
  match k, hk with
  | 0, _ => have e : some (Value.string y.lab) = some u := hy; rw [← e, Nat.add_zero]; exact q.c0
  | 1, _ => have e : some (Value.string y.dst) = some u := hy; rw [← e]; exact q.c1
  | 2, _ => have e : some (Value.string y.tit) = some u := hy; rw [← e]; exact q.c2
def hasB (o : List Rb) (c : Rb) : Bool := o.any (fun q => decide (q.lab = c.lab))
theorem Own.of_len {w : World} {B n : Nat} {v : Value} {o : List Rb} (hn : o.length = n) (h : w.ownsRow B 24 3 v n (rowC o)) : Own w B v o := by
  unfold Own; rw [hn]; exact h
theorem hasB_take {o : List Rb} {c x : Rb} {k : Nat} (h : o[k]? = some x) : hasB (o.take (k + 1)) c = (hasB (o.take k) c || decide (x.lab = c.lab)) := by
  unfold hasB
  rw [List.take_add_one, h, List.any_append]
  simp
set_option maxHeartbeats 16000000 in
theorem radd_any (l m : List Rb) (v v' : Value) (w : World) (h : Refs w v l) (h' : Refs w v' m) (hl : l.length ≤ 1000) (hm : m.length ≤ 1000) :
    Calls Tryz.prog 18 #[v, v'] w fun e w' => ∃ u, e = .returned u ∧ Own w' w.heap.size u (addB l m) ∧ Below w.heap.size w w' := by
  obtain ⟨i0, hi, hz0, hz1, hz2⟩ := info_parts refInfo
  obtain ⟨a', cap', rfl, _, hk'⟩ := h'
  obtain ⟨a, cap, rfl, _, hk⟩ := h
  have HM := Lib.hid hk'
  have HK := Lib.hid hk
  obtain ⟨n, hn⟩ : ∃ n, m.length = n := ⟨_, rfl⟩
  rw [hn] at hm ⊢
  have HN := Lib.hid hn
  obtain ⟨ll, hll⟩ : ∃ ll, l.length = ll := ⟨_, rfl⟩
  rw [hll] at hl ⊢
  have HLL := Lib.hid hll
  clear hk hk' hn hll
  go_enter Tryz.func18, Tryz.ntmps18
  go_upto_region 1 with fail
  go_cut [5] (fun s5 wx => Own wx w.heap.size s5 l ∧ Below w.heap.size w wx)
  case first =>
    have HE := Lib.hid (Own.empty w)
    cases a with
    | none =>
      have hl0 : l = [] := by
        rcases HK.out with h | ⟨b, off, e, _⟩
        · exact h
        · cases e
      subst hl0
      have hl1 : ll = 0 := by rw [← HLL.out]; rfl
      subst hl1
      go_wp2_with (at_builtin; refine wpList_append_none rfl _ _ 27 rfl 24 i0 Tryz.underlying27 hi _ rfl _ rfl ?_)
      go_meet
      exact ⟨HE.out, (Below.refl _ w).alloc (Nat.le_refl _) _⟩
    | some ad =>
      have HNw : Hid (∀ j u, (rowC l)[j]? = some u → (w.alloc (.cells #[] 24)).cell? (ad.add j) = some u) := Lib.hid (fun j u hu => by
        rcases HK.out with rfl | ⟨b, off, e, hc⟩
        · simp [rowC] at hu
        · injection e with e
          subst e
          exact keep_cell ((Below.refl _ w).alloc (Nat.le_refl _) _) (cells_of hc j u hu))
      have HRl : Hid ((rowC l).length = ll * 3) := Lib.hid (by rw [rowC_len, HLL.out])
      go_wp2_with (at_builtin; refine wpList_append_own_at _ rfl _ _ 27 rfl w.heap.size 24 i0 (.agg (refC nilB)) 3 48 Tryz.underlying27 hi hz0 hz1 hz2 rfl (by decide) _ 0 (rowC []) rfl HE.out ad ll cap (rowC l) rfl HRl.out HNw.out (rowC_one l) ?a4 ?a5 ?a6 ?_)
      case a4 => unfold maxLen; omega
      case a5 => omega
      case a6 => simp
      intro v1 w1 hown1 hgrow1 _ hat1
      have ho : Own w1 w.heap.size v1 l := by
        have h2 := hown1
        rw [show rowC [] = ([] : List Value) from rfl, List.nil_append] at h2
        exact Own.of_len HLL.out h2
      have hb : Below w.heap.size w w1 := ((Below.refl _ w).alloc (Nat.le_refl _) _).grown hgrow1 (by simp) (fun k hk => by
        simp only [Value.ownBlock] at hk
        injection hk with hk
        omega)
      clear hown1 hgrow1 hat1
      obtain ⟨a1, c1, rfl⟩ := ho.form
      go_wp2
      go_meet
      exact ⟨ho, hb⟩
  obtain ⟨hoc, hbc⟩ := hcut
  have HO0 := Lib.hid hoc
  have HB0 := Lib.hid hbc
  clear hoc hbc HK
  go_wp2_with fail
  go_loopg [5, 6] n (fun G s5 s6 wr => ∃ (i : Nat) (o : List Rb), i + G = n ∧ s6 = .int .i64 (i : Int) ∧ Own wr w.heap.size s5 o ∧ o.length ≤ ll + i ∧ Hid (addB l m = addB o (m.drop i)) ∧ Below w.heap.size w wr)
  case atStart => exact ⟨0, l, by omega, rfl, HO0.out, by rw [HLL.out]; omega, Lib.hid (by rw [List.drop_zero]), HB0.out⟩
  case round =>
    obtain ⟨i, o, hig, rfl, hown, hol, HA, hbw⟩ := hrel
    clear HO0 HB0
    obtain ⟨a5, c5, rfl⟩ := hown.form
    have HO := Lib.hid hown
    have HBw := Lib.hid hbw
    clear hown hbw
    cases gk with
    | zero =>
      have hlt : ¬ (i : Int) < (n : Int) := by omega
      have HV : Hid (addB l m = o) := Lib.hid (by rw [HA.out, List.drop_eq_nil_of_le (by rw [HN.out]; omega)]; rfl)
      go_wp2
      go_ret
      exact ⟨_, rfl, by rw [HV.out]; exact HO.out, HBw.out⟩
    | succ G =>
      have hlt : (i : Int) < (n : Int) := by omega
      obtain ⟨c, hc⟩ : ∃ c, m[i]? = some c := ⟨_, List.getElem?_eq_getElem (by have := HN.out; omega)⟩
      rcases HM.out with rfl | ⟨b, off, rfl, hcell⟩
      · simp at hc
      have HQ : Hid (CellsAt wr b (off + i * 3) c) := Lib.hid ((hcell i c hc).keep HBw.out)
      have hdr : m.drop i = c :: m.drop (i + 1) := by
        obtain ⟨h1, h2⟩ := List.getElem?_eq_some_iff.1 hc
        rw [← h2]; exact List.drop_eq_getElem_cons h1
      have HA2 : Hid (addB l m = addB (if hasB o c = true then o else o ++ [c]) (m.drop (i + 1))) := Lib.hid (by rw [HA.out, hdr, addB_cons]; rfl)
      have hRo := Refs.of_owns HO.out
      obtain ⟨_, _, e5, hol63, hko⟩ := hRo
      have HKo := Lib.hid hko
      obtain ⟨no, hno⟩ : ∃ no, o.length = no := ⟨_, rfl⟩
      rw [hno] at hol ⊢ e5
      injection e5 with ea _ ec
      subst ea ec
      have HNo := Lib.hid hno
      have HOn : Hid (wr.ownsRow w.heap.size 24 3 (.slice a5 no c5) no (rowC o)) := Lib.hid (by
        have h2 := HO.out
        unfold Own at h2
        rw [hno] at h2; exact h2)
      clear hcell hc hdr HA hko hno hol63 HO
      go_wp2
      go_loopg [7, 8] no (fun G2 s7 s8 w2 => ∃ k : Nat, k + G2 = no ∧ s8 = .int .i64 (k : Int) ∧ s7 = .bool (hasB (o.take k) c) ∧ Below wr.heap.size wr w2)
      case atStart => exact ⟨0, by omega, rfl, rfl, Below.refl _ _⟩
      case round =>
        obtain ⟨k, hkg, rfl, rfl, hb2⟩ := hrel
        cases gk with
        | succ G2 =>
          have hlt2 : (k : Int) < (no : Int) := by omega
          obtain ⟨x, hx⟩ : ∃ x, o[k]? = some x := ⟨_, List.getElem?_eq_getElem (by have := HNo.out; omega)⟩
          rcases HKo.out with ho0 | ⟨bo, offo, rfl, hcello⟩
          · rw [ho0] at hx; simp at hx
          have q0 := (HQ.out.keep hb2).c0
          have p0 := ((hcello k x hx).keep hb2).c0
          have HTk := Lib.hid (hasB_take (c := c) hx)
          clear hcello hx
          generalize hasB (o.take k) c = tw at *
          cases tw with
          | true =>
            have HV : Hid (hasB (o.take (k + 1)) c = true) := Lib.hid (by rw [HTk.out]; rfl)
            clear HTk
            go_wp2_with fail
            go_quiet (fail)
            go_wp2
            go_roundg G2
            case rel => exact ⟨k + 1, by omega, by go_num, by rw [HV.out], below_drewN hb2 _⟩
            case measure => omega
          | false =>
            by_cases hxc : x.lab = c.lab
            · have e1 : (x.lab.toList == c.lab.toList) = true := eq_list hxc
              have HV : Hid (hasB (o.take (k + 1)) c = true) := Lib.hid (by rw [HTk.out, decide_eq_true hxc]; rfl)
              clear HTk hxc
              go_wp2_with fail
              go_quiet (fail)
              go_wp2
              go_roundg G2
              case rel => exact ⟨k + 1, by omega, by go_num, by rw [HV.out], below_drewN hb2 _⟩
              case measure => omega
            · have e1 : (x.lab.toList == c.lab.toList) = false := ne_list hxc
              have HV : Hid (hasB (o.take (k + 1)) c = false) := Lib.hid (by rw [HTk.out, decide_eq_false hxc]; rfl)
              clear HTk hxc
              go_wp2_with fail
              go_quiet (fail)
              go_wp2
              go_roundg G2
              case rel => exact ⟨k + 1, by omega, by go_num, by rw [HV.out], below_drewN hb2 _⟩
              case measure => omega
        | zero =>
          have hlt2 : ¬ (k : Int) < (no : Int) := by omega
          have HT : Hid (hasB (o.take k) c = hasB o c) := Lib.hid (by rw [List.take_of_length_le (by rw [HNo.out]; omega)])
          have HO2 := Lib.hid (owns_keep HOn.out hb2)
          have HB2 := Lib.hid (below_later HBw.out hb2)
          have HQ2 := Lib.hid (HQ.out.keep hb2)
          rw [HT.out]
          clear hb2 HT
          generalize hasB o c = tw at *
          cases tw with
          | true =>
            rw [if_pos rfl] at HA2
            go_wp2
            go_roundg G
            case rel => exact ⟨i + 1, o, by omega, by go_num, Own.of_len HNo.out HO2.out, by rw [HNo.out]; omega, HA2, HB2.out⟩
            case measure => omega
          | false =>
            rw [if_neg (by simp)] at HA2
            have q0 := HQ2.out.c0
            have q1 := HQ2.out.c1
            have q2 := HQ2.out.c2
            have hw2 := HB2.out.size
            go_wp2_with (at_builtin; refine wpList_append_own _ rfl _ _ 27 rfl w.heap.size 24 i0 (.agg (refC nilB)) 3 48 Tryz.underlying27 hi hz0 hz1 hz2 rfl (by decide) _ _ _ rfl (owns_keep HO2.out ((Below.refl _ _).alloc (Nat.le_refl _) _)) ⟨wr.heap.size, 0, none⟩ 1 1 (refC c).toList rfl rfl ?a1 ?a2 ?a3 ?a4 ?a5 ?_)
            case a1 =>
              intro j u hu
              first
                | (rw [add_off, Nat.zero_add, World.cell?_alloc_new]; simpa [refC] using hu)
                | (simpa [refC] using hu)
            case a2 => first | exact refC_one c | (intro u hu; exact refC_one c u (by simpa using hu))
            case a3 => unfold maxLen; omega
            case a4 => omega
            case a5 => first | (simp; omega) | omega
            intro v' w4 hown' hgrow _
            obtain ⟨ho4, hb4⟩ := Own.more (Nat.le_refl _) (Own.of_len HNo.out HO2.out) HB2.out (by rw [HNo.out]; exact hown') hgrow
            have HO4 := Lib.hid ho4
            have HB4 := Lib.hid hb4
            obtain ⟨a6, c6, rfl⟩ := ho4.form
            clear hown' hgrow ho4 hb4
            go_wp2
            go_roundg G
            case rel => exact ⟨i + 1, o ++ [c], by omega, by go_num, HO4.out, by rw [List.length_append, HNo.out]; simp; omega, HA2, HB4.out⟩
            case measure => omega
end Rf
end Go.Proofs.YtfabiidohdkkcaaGreatDoor
