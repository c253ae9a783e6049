/- Layer 6: lay. -/
import Derived.Test.YtlpfffioidbkeaaTreeU
import Derived.Deep.LoopGhost
namespace Go.Proofs.Ytlpfffioidbkeaa
open Go Go.RowKit
namespace Tr
set_option maxRecDepth 100000
set_option linter.unusedVariables false
set_option linter.unusedSimpArgs false

/-- What laying leaves. -/
def LayEnd (w w' : World) (A g : Nat) (S : Ar) (ch : Nat → List Nat) (p : Nat) (kids : List Tree) : Prop :=
  ∃ g' cap' S' ch' ids, AR w' A g' cap' S' ∧ (g' = g ∨ w.heap.size ≤ g') ∧ Only (two A g) w w' ∧ Inv S' ch' ∧ Up S' ch' ∧ Laid S ch p kids S' ch' ids ∧ Sized S'
theorem Sized.added {S : Ar} (h : Sized S) (p : Nat) {o : Own} (h1 : o.s.size ≤ 281474976710656) (h2 : o.t.size ≤ 281474976710656) : Sized ((S.push o).hang S.n p) := by
  intro i hi
  rw [push_hang_n] at hi
  rw [push_hang_o]
  by_cases e : i = S.n
  · subst e; rw [upd_same]; exact ⟨h1, h2⟩
  · rw [upd_other _ _ e]; exact h i (by omega)
theorem two_trans {w w1 w2 : World} {A g g1 : Nat} (hg : g1 = g ∨ w.heap.size ≤ g1) (h1 : Only (two A g) w w1) (h2 : Only (two A g1) w1 w2) : Only (two A g) w w2 :=
  h1.trans h2 fun i hi hx => by
    rcases hx with hx | hx
    · exact .inl hx
    · rcases hg with e | e
      · exact .inr (by rw [hx, e])
      · omega
theorem g_trans {w w1 : World} {A g g1 g2 : Nat} (hg : g1 = g ∨ w.heap.size ≤ g1) (h1 : Only (two A g) w w1) (hg2 : g2 = g1 ∨ w1.heap.size ≤ g2) : g2 = g ∨ w.heap.size ≤ g2 := by
  have := h1.size
  omega

set_option maxHeartbeats 8000000 in
theorem lay_any (base : Nat) (T : Tree) : ∀ (w : World) (L : Value) (A g cap : Nat) (S : Ar) (ch : Nat → List Nat) (p : Nat), In w (fun b => b < base) T L → Sz T → base ≤ A → base ≤ g → base ≤ w.heap.size → AR w A g cap S → Inv S ch → Up S ch → Sized S → p < S.n → S.n + cntL T.kids ≤ 1000000000 →
    Calls Try.prog 41 #[ptr A, .int .i64 p, L] w fun e w' => e = .returned (.bool true) ∧ LayEnd w w' A g S ch p T.kids := by
  induction T using Tree.ind with
  | h o kids ih =>
    intro w L A g cap S ch p hin hsz0 hbA hbg hbw h hI hU hSz hp hn
    have HIn := Lib.hid hin
    rw [In] at hin
    obtain ⟨a, cp, rfl, hlc, hcm, hk⟩ := hin
    rw [Sz] at hsz0
    have HK := Lib.hid hk
    have HZ := Lib.hid hsz0.2.2.get
    have IH := Lib.hid ih
    simp only [Tree.kids] at hn ⊢
    unfold maxLen at hcm
    have HS0 := Lib.hid (show AR w A g cap S from h)
    have HI0 := Lib.hid hI
    have HU0 := Lib.hid hU
    have HSz0 := Lib.hid hSz
    have hAlt := h.ltA
    have hglt := h.ltg
    clear ih hk hsz0 h hI hU hSz
    unfold ptr
    go_enter Try.func41, Try.ntmps41
    go_wp2
    go_loopg [7, 8] kids.length (fun G s7 s8 wr => ∃ (i : Nat), i + G = kids.length ∧ s7 = .int .i64 i ∧ LayEnd w wr A g S ch p (kids.take i))
    case atStart => exact ⟨0, by omega, rfl, g, cap, S, ch, [], HS0.out, .inl rfl, Only.refl _ _, HI0.out, HU0.out, by rw [List.take_zero]; exact Laid.nil _ _ _, HSz0.out⟩
    case round =>
      obtain ⟨i, hig, rfl, HE⟩ := hrel
      cases gk with
      | zero =>
        have hlt : ¬ ((i : Int) < (kids.length : Int)) := by omega
        have HE := Lib.hid HE
        go_wp2
        go_ret
        exact ⟨rfl, by have := HE.out; rwa [List.take_of_length_le (by omega)] at this⟩
      | succ G =>
        obtain ⟨g1, cap1, S1, ch1, ids, h1, hg1, o1, hI1, hU1, hL1, hSz1⟩ := HE
        obtain ⟨t, hd, hmem⟩ := drop_cons hig
        rcases HK.out with rfl | ⟨b, off, rfl, hbB, hkl⟩
        · simp at hd
        have hbw1 : Below base w wr := o1.below hbw (fun k hk => by rcases hk with rfl | rfl <;> assumption)
        obtain ⟨L1, hcell, hin1⟩ := hkl.get hd
        obtain ⟨a1, c1, rfl, _, _⟩ := hin1.slice
        have hcell1 := hcell.carry (fun o v hc => by rw [hbw1.cell (p := ⟨b, o, none⟩) hbB]; exact hc)
        obtain ⟨c0, e1, c2, c3, c4, c5, c6⟩ := hcell1
        have hin2 : In wr (fun b => b < base) t _ := hin1.below hbw1 (fun b h => h)
        have hlt : (i : Int) < (kids.length : Int) := by omega
        have htake : kids.take (i + 1) = kids.take i ++ [t] := by
          rw [List.take_add_one]
          congr 1
          have : kids[i]? = some t := by
            have := congrArg List.head? hd
            rw [List.head?_drop] at this
            simpa using this
          rw [this]; rfl
        have hcount : cntL kids = cntL (kids.take i) + (t.cnt + cntL (kids.drop (i + 1))) := by
          have e := List.take_append_drop i kids
          rw [hd] at e
          have := congrArg cntL e
          rw [cntL_app, cntL] at this
          omega
        have htn : t.cnt = 1 + cntL t.kids := by cases t with | mk o k => rw [Tree.cnt]; rfl
        have hn1 := hL1.n
        have hp1 : p < S1.n := by omega
        have hs1 : S1.n ≤ 1000000000 := by omega
        have hzt := HZ.out t hmem
        have hsz2 : t.own.s.size ≤ 140737488355328 ∧ t.own.t.size ≤ 140737488355328 := by cases t with | mk o k => rw [Sz] at hzt; exact ⟨hzt.1, hzt.2.1⟩
        have HA := Lib.hid (add_any h1 hp1 hs1 (hI1.lastOk hp1) t.own a1 t.kids.length c1 (by omega) (by omega))
        have HI1 := Lib.hid hI1
        have HU1 := Lib.hid hU1
        have HL1 := Lib.hid hL1
        have HSz2 := Lib.hid (hSz1.added p (o := t.own) (by omega) (by omega))
        have HO1 := Lib.hid o1
        have HG1 := Lib.hid hg1
        have HT := Lib.hid htake
        have HN2 : Hid (S1.n + 1 + cntL t.kids ≤ 1000000000) := Lib.hid (by omega)
        have HIn2 := Lib.hid hin2
        have hszb : base ≤ wr.heap.size := Nat.le_trans hbw hbw1.size
        have hg1b : base ≤ g1 := by omega
        have h0S : ¬ (S1.n : Int) < 0 := by omega
        clear hd hkl hcell hin1 hin2 hcount htn hn1 hzt hsz2 hI1 hU1 hL1 o1 hg1 htake h1 hSz1
        unfold ptr nodeV at HA
        go_wp2_with fail
        refine HA.out.mono ?_
        rintro e w2 ⟨rfl, g2, cap2, h2, hg2, o2⟩
        have hbw2 : Below base wr w2 := o2.below hszb (fun k hk => by rcases hk with rfl | rfl <;> assumption)
        have hszb2 : base ≤ w2.heap.size := Nat.le_trans hszb hbw2.size
        have hg2b : base ≤ g2 := by omega
        have c6' : w2.cell? ⟨b, off + i * 7 + 6, none⟩ = some (.slice a1 t.kids.length c1) := by rw [hbw2.cell (p := ⟨b, off + i * 7 + 6, none⟩) hbB]; exact c6
        have HR := Lib.hid (IH.out t hmem w2 (.slice a1 t.kids.length c1) A g2 cap2 _ _ S1.n (HIn2.out.below hbw2 (fun b h => h)) (HZ.out t hmem) hbA hg2b hszb2 h2 (HI1.out.added hp1 t.own) (HU1.out.hang HI1.out hp1 t.own) HSz2.out (by rw [push_hang_n]; omega) (by rw [push_hang_n]; exact HN2.out))
        have HO2 := Lib.hid o2
        have HG2 := Lib.hid hg2
        clear HA c0 e1 c2 c3 c4 c5 c6 h2 o2 hg2
        unfold ptr at HR
        go_wp2_with fail
        refine HR.out.mono ?_
        rintro e w3 ⟨rfl, g3, cap3, S3, ch3, ids3, h3, hg3, o3, hI3, hU3, hL3, hSz3⟩
        have HE3 : Hid (LayEnd w w3 A g S ch p (kids.take (i + 1))) := Lib.hid (by
          have ob := two_trans HG1.out HO1.out (HO2.out)
          have gb := g_trans HG1.out HO1.out HG2.out
          have oc := two_trans gb ob o3
          have gc := g_trans gb ob hg3
          rw [HT.out]
          exact ⟨g3, cap3, S3, ch3, _, h3, gc, oc, hI3, hU3, Laid.step hp (HI1.out.out _ (Nat.le_refl _)) HL1.out hL3, hSz3⟩)
        clear HR h3 hg3 o3 hI3 hU3 hL3 hSz3
        go_wp2
        go_roundg G
        case rel => exact ⟨i + 1, by omega, by go_num, HE3.out⟩
        case measure => omega
end Tr
end Go.Proofs.Ytlpfffioidbkeaa
