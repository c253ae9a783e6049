/- DelimMatches: the law's walk. -/
import Derived.Test.YtbdcbeghiglfgaaDoorDlAw
import Derived.Test.YtbdcbeghiglfgaaDoorDlR3
namespace Go.Proofs.YtbdcbeghiglfgaaDoor
open Go Go.RowKit
namespace DelimMatches
open Dl
set_option maxRecDepth 100000
set_option linter.unusedVariables false
set_option linter.unusedSimpArgs false

theorem sum_const {f : Nat → Nat} {c : Nat} : ∀ n, (∀ j, j < n → f j ≤ c) → sumf f n ≤ n * c
  | 0, _ => Nat.zero_le _
  | n + 1, h => by
    have h1 := sum_const n (fun j hj => h j (by omega))
    have h2 := h n (by omega)
    rw [Nat.add_mul, Nat.one_mul]
    exact Nat.add_le_add h1 h2

set_option maxHeartbeats 8000000 in
theorem law_any (l : List Rn) (v : Value) (w : World) (hP : Prog13 w) (hR : Runs w v l) (hok : ∀ r ∈ l, RnOk r) :
    Calls Tryd.prog 4 #[v] w fun e w' => e = .returned (.bool true) ∧ Below w.heap.size w w' := by
  have HA := Lib.hid (awake_any w hP)
  have HR := Lib.hid hR
  have HM := Lib.hid (fun W hW hV h1 h2 => hP.mtch l v W hW hV h1 hok h2)
  have hb0 := Below.refl w.heap.size w
  obtain ⟨a, cap, rfl, hlm, hk⟩ := hR
  unfold maxLen at hlm
  have HK := Lib.hid hk
  obtain ⟨N, hN⟩ : ∃ N, l.length = N := ⟨_, rfl⟩
  have HN := Lib.hid hN
  have HV : Hid (Value.slice a l.length cap = .slice a N cap) := Lib.hid (by rw [hN])
  rw [hN] at hlm HR HM ⊢
  clear hN hk hP hok
  by_cases hbig : 80 < N
  · have hb' : (80 : Int) < (N : Int) := by omega
    go_enter Tryd.func4, Tryd.ntmps4
    go_wp2_with fail
    refine HA.out.mono ?_
    rintro e w1 ⟨rfl, hb1⟩
    go_wp2
    go_ret
    exact ⟨rfl, hb1⟩
  have hb' : ¬ (80 : Int) < (N : Int) := by omega
  go_enter Tryd.func4, Tryd.ntmps4
  go_wp2_with fail
  refine HA.out.mono ?_
  rintro e w1 ⟨rfl, hb1⟩
  go_wp2_with fail
  go_loopg [4] N (fun G s4 wr => ∃ i : Nat, i + G = N ∧ s4 = .int .i64 (i : Int) ∧ Hid (∀ j, j < i → caps l j ≤ 200) ∧ Hid (Below w.heap.size w wr))
  case atStart => exact ⟨0, by omega, rfl, Lib.hid (fun j hj => by omega), Lib.hid hb1⟩
  case round =>
    obtain ⟨i, hig, rfl, HC, HB⟩ := hrel
    cases gk with
    | zero =>
      have hlt : ¬ (i : Int) < (N : Int) := by omega
      have HS : Hid (sumf (caps l) l.length ≤ 16000) := Lib.hid (by
        have h1 := sum_const (f := caps l) (c := 200) l.length (fun j hj => HC.out j (by rw [HN.out] at hj; omega))
        rw [HN.out] at h1 ⊢; omega)
      have HL : Hid ((pairs l).length ≤ 16000) := Lib.hid (Nat.le_trans (pairs_len l) HS.out)
      go_wp2_with fail
      refine (HM.out _ HB.out (HR.out.keep HB.out) (by omega) (by have := HL.out; omega)).mono ?_
      rintro e w2 ⟨u, rfl, hu, hb2⟩
      have hB2 := below_later HB.out hb2
      go_wp2_with fail
      refine (theirs_any _ _ _ (by have := HL.out; omega) hu).mono ?_
      rintro e w3 ⟨u3, rfl, hu3, hb3⟩
      have hB3 := below_later hB2 hb3
      go_wp2_with fail
      refine (runs_any l _ _ (by rw [HN.out]; omega) (HR.out.keep hB3)).mono ?_
      rintro e w4 ⟨u4, rfl, hu4, hb4⟩
      have hB4 := below_later hB3 hb4
      go_wp2_with fail
      refine (rmatch_any l _ _ hu4 (by rw [HN.out]; omega) (by have := HS.out; omega)).mono ?_
      rintro e w5 ⟨u5, rfl, hu5, hb5⟩
      have hB5 := below_later hB4 hb5
      have h3 : Prs w5 u3 (pairs l) := (hu3.keep hb4).keep hb5
      go_wp2_with fail
      refine (rsame_any (pairs l) (pairs l) _ _ _ h3 (RowsG.of_owns pairE_len hu5)).mono ?_
      rintro e w6 ⟨rfl, hb6⟩
      have hB6 := below_later hB5 hb6
      rw [decide_eq_true rfl]
      clear hu hu3 hu4 hu5 h3
      go_wp2
      go_ret
      exact ⟨rfl, hB6⟩
    | succ G =>
      have hlt : (i : Int) < (N : Int) := by omega
      have hii : (0 : Int) ≤ (i : Int) := by omega
      have hil : i < l.length := by rw [HN.out]; omega
      rcases HK.out with rfl | ⟨b, off, rfl, hcell⟩
      · simp at hil
      obtain ⟨c0, c1, c2, c3⟩ := run_cells ((hcell i _ (rn_at hil)).keep HB.out)
      have HCap : Hid (caps l i = if 1 ≤ (rn l i).n ∧ (rn l i).n ≤ 1073741824 then (rn l i).n.toNat else 0) := Lib.hid rfl
      clear hcell c0 c2 c3
      generalize (rn l i).n = n at *
      by_cases h1 : 200 < n
      · by_cases h2 : n ≤ 1073741824
        · go_wp2
          go_ret
          exact ⟨rfl, HB.out⟩
        · have HC2 : Hid (∀ j, j < i + 1 → caps l j ≤ 200) := Lib.hid (fun j hj => by
            by_cases e : j = i
            · subst e; rw [HCap.out, if_neg (by omega)]; omega
            · exact HC.out j (by omega))
          go_wp2
          go_roundg G
          case rel => exact ⟨i + 1, by omega, by go_num, HC2, HB⟩
          case measure => omega
      · have HC2 : Hid (∀ j, j < i + 1 → caps l j ≤ 200) := Lib.hid (fun j hj => by
          by_cases e : j = i
          · subst e; rw [HCap.out]; split <;> omega
          · exact HC.out j (by omega))
        go_wp2
        go_roundg G
        case rel => exact ⟨i + 1, by omega, by go_num, HC2, HB⟩
        case measure => omega
end DelimMatches
end Go.Proofs.YtbdcbeghiglfgaaDoor
