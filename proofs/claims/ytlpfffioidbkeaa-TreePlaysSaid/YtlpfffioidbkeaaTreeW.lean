/- Layer 6: Well. -/
import Derived.Test.YtlpfffioidbkeaaTreeK
import Derived.Deep.RegionHeld3
import Derived.Deep.DrawnRows
import Derived.Deep.Cut
import Derived.Deep.CutRange
import Derived.Deep.DeepCutAuto
namespace Go.Proofs.Ytlpfffioidbkeaa
open Go Go.RowKit
namespace Tr
set_option maxRecDepth 100000
set_option linter.unusedVariables false
set_option linter.unusedSimpArgs false

set_option maxHeartbeats 4000000 in
theorem fits_any {B : Nat → Prop} (T : Tree) : ∀ (linked : Bool) (w : World) (L : Value), In w B T L →
    Calls Try.prog 52 #[nodeV T.own L, .bool linked] w fun e w' => e = .returned (.bool (fits T linked)) ∧ Below w.heap.size w w' := by
  induction T using Tree.ind with
  | h o kids ih =>
    intro linked w L hin
    rw [In] at hin
    obtain ⟨a, cap, rfl, hlc, hcm, hk⟩ := hin
    rw [fits]
    unfold maxLen at hcm
    have HK := Lib.hid hk
    clear hk
    have IH := Lib.hid ih
    clear ih
    obtain ⟨lk, HLK⟩ : ∃ x, Hid ((linked || o.kind == 20) = x) := ⟨_, rfl⟩
    rw [HLK.out]
    show Calls _ _ #[nodeV o _, _] _ _
    unfold nodeV
    go_enter Try.func52, Try.ntmps52
    go_upto_region 1 with fail
    go_cut [1] (fun s1 wx => s1 = .bool lk ∧ CellsAt wx w.heap.size 0 o (.slice a kids.length cap) ∧ Below w.heap.size w wx)
    case first =>
      have HB := Lib.hid (box_cells w o (.slice a kids.length cap) 24)
      cases linked with
      | true =>
        go_wp2
        all_goals (go_meet; exact ⟨by rw [← HLK.out]; rfl, HB.out, (Below.refl _ w).alloc (Nat.le_refl _) _⟩)
      | false =>
        go_wp2
        all_goals (go_meet; exact ⟨by rw [← HLK.out]; simp [*], HB.out, (Below.refl _ w).alloc (Nat.le_refl _) _⟩)
    obtain ⟨rfl, hbx, hbw0⟩ := hcut
    have b6 : wc.cell? ⟨w.heap.size, 6, none⟩ = _ := hbx.c6
    have HX := Lib.hid hbx
    clear hbx
    go_wp2
    clear b6
    go_loopg [6, 16] kids.length (fun g s6 s16 wr => ∃ (i : Nat), i + g = kids.length ∧ s16 = .int .i64 i ∧ Hid (fitsL o.kind (kids.drop i) lk = fitsL o.kind kids lk) ∧ Below w.heap.size w wr ∧ CellsAt wr w.heap.size 0 o (.slice a kids.length cap))
    case atStart => exact ⟨0, by omega, rfl, Lib.hid rfl, hbw0, HX.out⟩
    case round =>
      obtain ⟨i, hig, rfl, HA, hbw, hbx⟩ := hrel
      have b0 : wr.cell? ⟨w.heap.size, 0, none⟩ = _ := hbx.c0
      have b6 : wr.cell? ⟨w.heap.size, 6, none⟩ = _ := hbx.c6
      have HB := Lib.hid hbx
      have hown : w.heap.size < wr.heap.size := World.block_lt_of_cell? wr _ b0
      clear hbx
      have hsz := hbw.size
      cases gk with
      | zero =>
        have hlt : ¬ ((i : Int) < (kids.length : Int)) := by omega
        have HE : Hid (true = fitsL o.kind kids lk) := Lib.hid (by have := HA.out; rw [List.drop_eq_nil_of_le (by omega)] at this; simpa [fitsL] using this)
        go_wp2
        go_ret
        exact ⟨ret_bool HE.out, hbw⟩
      | succ g =>
        obtain ⟨t, hd, hmem⟩ := drop_cons hig
        rcases HK.out with rfl | ⟨b, off, rfl, hbB, hkl⟩
        · simp at hd
        obtain ⟨L1, hcell, hin1⟩ := hkl.get hd
        obtain ⟨a1, cap1, rfl, _, _⟩ := hin1.slice
        obtain ⟨c0, c1, c2, c3, c4, c5, c6⟩ := cell_at hcell hbw
        have hi1 : In wr B t _ := hin1.keep hbw
        have hlt : (i : Int) < (kids.length : Int) := by omega
        have HA2 : Hid ((!(lk && t.own.kind == 20) && may t.own.kind o.kind && fits t lk && fitsL o.kind (kids.drop (i + 1)) lk) = fitsL o.kind kids lk) := Lib.hid (by have := HA.out; rw [hd, fitsL] at this; exact this)
        have HM := Lib.hid (fun W => may_any t.own.kind o.kind W)
        have HC := Lib.hid (fun W (hW : Below wr.heap.size wr W) => IH.out t hmem lk W _ (hi1.keep hW))
        unfold nodeV at HC
        clear hd HK hkl hcell hin1 hi1 HA IH HX
        generalize fits t lk = fv at *
        generalize may t.own.kind o.kind = my at *
        have hbN : Below wr.heap.size wr (wr.alloc (.cells #[.int .i64 t.own.kind, .string t.own.s, .string t.own.t, .int .i64 t.own.n, .int .i64 t.own.m, .bool t.own.flag, .slice a1 t.kids.length cap1] 24)) := (Below.refl _ wr).alloc (Nat.le_refl _) _
        have HBN := Lib.hid hbN
        clear hbN
        by_cases hk20 : lk = true ∧ t.own.kind = 20
        · obtain ⟨rfl, hk20⟩ := hk20
          have e20 : (t.own.kind == 20) = true := by simpa using hk20
          rw [e20] at HA2
          go_wp2
          go_ret
          exact ⟨ret_bool (by rw [← HA2.out]; rfl), hbw.trans (((Below.refl _ wr).alloc (Nat.le_refl _) _).mono hsz)⟩
        · have HA3 : Hid ((my && fv && fitsL o.kind (kids.drop (i + 1)) lk) = fitsL o.kind kids lk) := Lib.hid (by
            rw [← HA2.out]
            cases lk with
            | false => simp
            | true =>
              have : (t.own.kind == 20) = false := by simpa using hk20
              rw [this]; simp)
          have hk : lk = true → ((t.own.kind == 20) = false) := fun e => by simpa using fun h => hk20 ⟨e, h⟩
          clear hk20 HA2
          cases lk with
          | true =>
            have e20 := hk rfl
            have e20' : ¬ t.own.kind = 20 := by simpa using e20
            clear hk
            go_wp2_with fail
            refine (HM.out _).mono ?_
            rintro e w1 ⟨rfl, rfl⟩
            cases my with
            | false =>
              go_wp2
              go_ret
              exact ⟨ret_bool (by rw [← HA3.out]; rfl), hbw.trans (HBN.out.mono hsz)⟩
            | true =>
              go_wp2_with fail
              refine (HC.out _ HBN.out).mono ?_
              rintro e w2 ⟨rfl, hb2⟩
              have hb3 := below_later HBN.out hb2
              have hbw2 : Below w.heap.size w w2 := hbw.trans (hb3.mono hsz)
              cases fv with
              | false =>
                go_wp2
                go_ret
                exact ⟨ret_bool (by rw [← HA3.out]; rfl), hbw2⟩
              | true =>
                go_wp2
                go_roundg g
                case rel => exact ⟨i + 1, by omega, by go_num, Lib.hid (by rw [← HA3.out]; rfl), hbw2, cell_at HB.out hb3⟩
                case measure => omega
          | false =>
            clear hk
            go_wp2_with fail
            refine (HM.out _).mono ?_
            rintro e w1 ⟨rfl, rfl⟩
            cases my with
            | false =>
              go_wp2
              go_ret
              exact ⟨ret_bool (by rw [← HA3.out]; rfl), hbw.trans (HBN.out.mono hsz)⟩
            | true =>
              go_wp2_with fail
              refine (HC.out _ HBN.out).mono ?_
              rintro e w2 ⟨rfl, hb2⟩
              have hb3 := below_later HBN.out hb2
              have hbw2 : Below w.heap.size w w2 := hbw.trans (hb3.mono hsz)
              cases fv with
              | false =>
                go_wp2
                go_ret
                exact ⟨ret_bool (by rw [← HA3.out]; rfl), hbw2⟩
              | true =>
                go_wp2
                go_roundg g
                case rel => exact ⟨i + 1, by omega, by go_num, Lib.hid (by rw [← HA3.out]; rfl), hbw2, cell_at HB.out hb3⟩
                case measure => omega

set_option maxHeartbeats 2000000 in
theorem well_any {B : Nat → Prop} {T : Tree} {w : World} {L : Value} (hin : In w B T L) :
    Calls Try.prog 39 #[nodeV T.own L] w fun e w' => e = .returned (.bool T.well) ∧ Below w.heap.size w w' := by
  obtain ⟨a, cap, rfl, _, _⟩ := hin.slice
  have HC := Lib.hid (fun W (hW : Below w.heap.size w W) => fits_any T false W _ (hin.keep hW))
  unfold nodeV at HC ⊢
  unfold Tree.well
  clear hin
  generalize fits T false = y at *
  obtain ⟨⟨k, s, t, n, m, fl⟩, kids⟩ := T
  simp only [Tree.own, Tree.kids] at HC ⊢
  by_cases hk : k = 1
  · subst hk
    rw [show ((1 : Int) == 1) = true from rfl, Bool.true_and]
    go_enter Try.func39, Try.ntmps39
    go_wp2_with fail
    refine (HC.out _ ?_).mono ?_
    · exact (Below.refl _ w).alloc (Nat.le_refl _) _
    rintro e w2 ⟨rfl, hb2⟩
    go_wp2
    go_ret
    exact ⟨rfl, below_later ((Below.refl _ w).alloc (Nat.le_refl _) _) hb2⟩
  · have hk1 : (k == 1) = false := by simpa using hk
    rw [hk1, Bool.false_and]
    go_enter Try.func39, Try.ntmps39
    go_wp2
    go_ret
    exact ⟨rfl, (Below.refl _ w).alloc (Nat.le_refl _) _⟩
end Tr
end Go.Proofs.Ytlpfffioidbkeaa
