/- Layer 6: walks that go down a tree and only read. -/
import Derived.Test.YtlpfffioidbkeaaTreeA
namespace Go.Proofs.Ytlpfffioidbkeaa
open Go Go.RowKit
namespace Tr
set_option maxRecDepth 100000
set_option linter.unusedVariables false
set_option linter.unusedSimpArgs false

set_option maxHeartbeats 2000000 in
theorem count_any {B : Nat → Prop} (T : Tree) : ∀ (w : World) (L : Value), In w B T L → T.cnt ≤ 4611686018427387904 →
    Calls Try.prog 35 #[nodeV T.own L] w fun e w' => e = .returned (.int .i64 T.cnt) ∧ Below w.heap.size w w' := by
  induction T using Tree.ind with
  | h o kids ih =>
    intro w L hin hc
    rw [In] at hin
    obtain ⟨a, cap, rfl, hlc, hcm, hk⟩ := hin
    rw [Tree.cnt] at hc ⊢
    unfold maxLen at hcm
    have HK := Lib.hid hk
    clear hk
    have IH := Lib.hid ih
    clear ih
    show Calls _ _ #[nodeV o _] _ _
    unfold nodeV
    go_enter Try.func35, Try.ntmps35
    go_wp2
    go_loopg [3, 5, 9] kids.length (fun g s3 s5 s9 wr => ∃ (i acc : Nat), i + g = kids.length ∧ s9 = .int .i64 i ∧ s3 = .int .i64 acc ∧ Hid (acc + cntL (kids.drop i) = 1 + cntL kids) ∧ Below w.heap.size w wr)
    case atStart => exact ⟨0, 1, by omega, rfl, rfl, Lib.hid rfl, (Below.refl _ w).alloc (Nat.le_refl _) _⟩
    case round =>
      obtain ⟨i, acc, hig, rfl, rfl, HA, hbw⟩ := hrel
      have hsz := hbw.size
      cases gk with
      | zero =>
        have hlt : ¬ ((i : Int) < (kids.length : Int)) := by omega
        have HE : Hid (acc = 1 + cntL kids) := Lib.hid (by have := HA.out; rw [List.drop_eq_nil_of_le (by omega)] at this; simpa [cntL] using this)
        go_wp2
        go_ret
        exact ⟨by rw [HE.out]; rfl, hbw⟩
      | succ g =>
        obtain ⟨t, hd, hmem⟩ := drop_cons hig
        rcases HK.out with rfl | ⟨b, off, rfl, hbB, hkl⟩
        · simp at hd
        obtain ⟨L1, hcell, hin1⟩ := hkl.get hd
        obtain ⟨a1, cap1, rfl, _, _⟩ := hin1.slice
        obtain ⟨c0, c1, c2, c3, c4, c5, c6⟩ := cell_at hcell hbw
        have hi1 : In wr B t _ := hin1.keep hbw
        have hlt : (i : Int) < (kids.length : Int) := by omega
        have HA2 : Hid (acc + t.cnt + cntL (kids.drop (i + 1)) = 1 + cntL kids) := Lib.hid (by have := HA.out; rw [hd, cntL] at this; omega)
        have hacc : acc + t.cnt ≤ 4611686018427387904 := by have := HA2.out; omega
        have HC := Lib.hid (fun W (hW : Below wr.heap.size wr W) => IH.out t hmem W _ (hi1.keep hW) (by omega))
        clear hd HK hkl hcell hin1 hi1
        go_wp2_with fail
        refine (HC.out _ ?_).mono ?_
        · exact (Below.refl _ wr).alloc (Nat.le_refl _) _
        rintro e w2 ⟨rfl, hb2⟩
        have hbw2 : Below w.heap.size w w2 := (hbw.alloc hsz _).trans (hb2.mono (by simp; omega))
        go_wp2
        go_roundg g
        case rel => exact ⟨i + 1, acc + t.cnt, by omega, by go_num, by go_num, HA2, hbw2⟩
        case measure => omega
end Tr
end Go.Proofs.Ytlpfffioidbkeaa
