/- Layer 13: the reference's Same. -/
import Derived.Test.YtbdcbeghiglfgaaDoorDlR2
import Derived.Test.YtbdcbeghiglfgaaDoorDlT
namespace Go.Proofs.YtbdcbeghiglfgaaDoor
open Go Go.RowKit
namespace Dl
set_option maxRecDepth 100000
set_option linter.unusedVariables false
set_option linter.unusedSimpArgs false

theorem nat_beq (a b : Nat) : ((a : Int) == (b : Int)) = decide (a = b) := by
  rw [Bool.eq_iff_iff, beq_iff_eq, decide_eq_true_iff]
  exact ⟨fun h => Int.ofNat.inj h, fun h => by rw [h]⟩
theorem nat_bne (a b : Nat) : ((a : Int) != (b : Int)) = !decide (a = b) := by
  unfold bne; rw [nat_beq]
theorem take_all {α : Type} [DecidableEq α] {a b : List α} (hl : a.length = b.length) {n : Nat} (hn : a.length ≤ n) (h : a.take n = b.take n) : a = b := by
  rwa [List.take_of_length_le hn, List.take_of_length_le (by omega)] at h
theorem retD {a : Bool} {p : Prop} [Decidable p] (h : (a = true) ↔ p) : Ending.returned (.bool a) = .returned (.bool (decide p)) := by
  rw [show a = decide p from by rw [Bool.eq_iff_iff, h, decide_eq_true_iff]]
set_option maxHeartbeats 16000000 in
theorem rsame_any (a b : List Pr) (w : World) (u v : Value) (ha : Prs w u a) (hb : Prs w v b) :
    Calls Tryd.prog 13 #[u, v] w fun e w' => e = .returned (.bool (decide (a = b))) ∧ Below w.heap.size w w' := by
  obtain ⟨a1, cp, rfl, hlm, hk⟩ := ha
  obtain ⟨b1, cq, rfl, hlm2, hk2⟩ := hb
  unfold maxLen at hlm hlm2
  have HK := Lib.hid hk
  have HK2 := Lib.hid hk2
  have HDD : Hid (∀ t : Bool, ((t = true) ↔ a = b) → Ending.returned (.bool t) = .returned (.bool (decide (a = b)))) := Lib.hid (fun t h => retD h)
  obtain ⟨D, hD⟩ : ∃ D, decide (a = b) = D := ⟨_, rfl⟩
  rw [hD] at HDD ⊢
  clear hD
  obtain ⟨N, hN⟩ : ∃ N, a.length = N := ⟨_, rfl⟩
  obtain ⟨M, hM⟩ : ∃ M, b.length = M := ⟨_, rfl⟩
  rw [hN] at hlm ⊢
  rw [hM] at hlm2 ⊢
  have HN := Lib.hid hN
  have HM := Lib.hid hM
  clear hN hM hk hk2
  go_enter Tryd.func13, Tryd.ntmps13
  by_cases hnm : N = M
  · subst hnm
    have e1 : ((N : Int) != (N : Int)) = false := by simp
    go_wp2
    go_loopg [5] N (fun G s5 wr => ∃ i : Nat, i + G = N ∧ s5 = .int .i64 (i : Int) ∧ Hid (a.take i = b.take i) ∧ Hid (Below w.heap.size w wr))
    case atStart => exact ⟨0, by omega, rfl, Lib.hid (by simp), Lib.hid (Below.refl _ _)⟩
    case round =>
      obtain ⟨i, hig, rfl, HT, HB⟩ := hrel
      cases gk with
      | zero =>
        have hlt : ¬ (i : Int) < (N : Int) := by omega
        have HX := Lib.hid (take_all (by rw [HN.out, HM.out]) (by rw [HN.out]; omega) HT.out)
        go_wp2
        go_ret
        exact ⟨HDD.out true ⟨fun _ => HX.out, fun _ => rfl⟩, HB.out⟩
      | succ G =>
        have hlt : (i : Int) < (N : Int) := by omega
        have hii : (0 : Int) ≤ (i : Int) := by omega
        have hia : i < a.length := by rw [HN.out]; omega
        have hib : i < b.length := by rw [HM.out]; omega
        obtain ⟨p, hp⟩ : ∃ q, a[i]? = some q := ⟨_, List.getElem?_eq_getElem hia⟩
        obtain ⟨q, hq⟩ : ∃ q, b[i]? = some q := ⟨_, List.getElem?_eq_getElem hib⟩
        have HTa := Lib.hid (take_more hp)
        have HTb := Lib.hid (take_more hq)
        have HNe : Hid (p ≠ q → a ≠ b) := Lib.hid (fun h e => by subst e; rw [hp] at hq; exact h (Option.some.inj hq))
        rcases HK.out with rfl | ⟨b0, off, rfl, hcell⟩
        · simp at hia
        rcases HK2.out with rfl | ⟨b2, off2, rfl, hcell2⟩
        · simp at hib
        obtain ⟨c0, c1, c2⟩ := pair_cells ((hcell i _ hp).keep HB.out)
        obtain ⟨d0, d1, d2⟩ := pair_cells ((hcell2 i _ hq).keep HB.out)
        clear hcell hcell2 hp hq
        obtain ⟨x1, x2, x3⟩ := p
        obtain ⟨y1, y2, y3⟩ := q
        have f1 := nat_bne x1 y1
        have f2 := nat_bne x2 y2
        have f3 := nat_bne x3 y3
        by_cases h1 : x1 = y1
        · subst h1
          by_cases h2 : x2 = y2
          · subst h2
            by_cases h3 : x3 = y3
            · subst h3
              rw [decide_eq_true rfl] at f1 f2 f3
              have HTT : Hid (a.take (i + 1) = b.take (i + 1)) := Lib.hid (by rw [HTa.out, HTb.out, HT.out])
              go_wp2_with fail
              go_big_quiet (fail)
              go_wp2
              go_roundg G
              case rel => exact ⟨i + 1, by omega, rfl, HTT, Lib.hid (below_drewN HB.out nq)⟩
              case measure => omega
            · rw [decide_eq_false h3] at f3
              rw [decide_eq_true rfl] at f1 f2
              have HX := Lib.hid (HNe.out (fun e => h3 (by injection e with e1 e2; injection e2)))
              go_wp2_with fail
              go_big_quiet (fail)
              go_wp2
              go_ret
              exact ⟨HDD.out false ⟨fun h => by simp at h, fun h => absurd h HX.out⟩, below_drewN HB.out nq⟩
          · rw [decide_eq_false h2] at f2
            rw [decide_eq_true rfl] at f1
            have HX := Lib.hid (HNe.out (fun e => h2 (by injection e with e1 e2; injection e2)))
            go_wp2_with fail
            go_big_quiet (fail)
            go_wp2
            go_ret
            exact ⟨HDD.out false ⟨fun h => by simp at h, fun h => absurd h HX.out⟩, below_drewN HB.out nq⟩
        · rw [decide_eq_false h1] at f1
          have HX := Lib.hid (HNe.out (fun e => h1 (by injection e)))
          go_wp2_with fail
          go_big_quiet (fail)
          go_wp2
          go_ret
          exact ⟨HDD.out false ⟨fun h => by simp at h, fun h => absurd h HX.out⟩, below_drewN HB.out nq⟩
  · have e1 : ((N : Int) != (M : Int)) = true := by simp; omega
    have HX : Hid (a ≠ b) := Lib.hid (fun e => hnm (by rw [← HN.out, ← HM.out, e]))
    go_wp2
    go_ret
    exact ⟨HDD.out false ⟨fun h => by simp at h, fun h => absurd h HX.out⟩, Below.refl _ _⟩
end Dl
end Go.Proofs.YtbdcbeghiglfgaaDoor
