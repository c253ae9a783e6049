/- Layer 6: the reference's Well. -/
import Derived.Test.YtlpfffioidbkeaaTreeW
import Derived.BigQuiet
namespace Go.Proofs.Ytlpfffioidbkeaa
open Go Go.RowKit
namespace Tr
set_option maxRecDepth 100000
set_option linter.unusedVariables false
set_option linter.unusedSimpArgs false

mutual
/-- Well, as the reference goes. -/
def rwell : Tree → Bool → Bool | .mk o kids, linked => !(o.kind == 20 && linked) && rwellL o.kind kids (linked || o.kind == 20)
def rwellL (k : Int) : List Tree → Bool → Bool | [], _ => true | t :: ts, linked => !(holds k == 0) && (sort t.own.kind == holds k) && rwell t linked && rwellL k ts linked
end
theorem sort_small (k : Int) : (k < 0 ∨ 26 ≤ k) → sort k = 0 := by
  intro h
  unfold sort
  rcases h with h | h
  · rw [show k.toNat = 0 by omega]; rfl
  · rw [List.getD, List.getElem?_eq_none (by simp; omega)]; rfl
theorem sort_cases (P : Int → Prop) (hlo : ∀ k, (k < 0 ∨ 26 ≤ k) → P k) (h : ∀ n : Nat, n < 26 → P n) (k : Int) : P k := by
  by_cases h1 : k < 0 ∨ 26 ≤ k
  · exact hlo k h1
  · have := h k.toNat (by omega)
    rwa [Int.toNat_of_nonneg (by omega)] at this
theorem block_eq (k : Int) : block k = (sort k == 1) := by
  refine sort_cases (fun k => block k = (sort k == 1)) ?_ (by decide +kernel) k
  intro k h
  rw [sort_small k h]
  unfold block
  simp
  omega
theorem inline_eq (k : Int) : inline k = (sort k == 2) := by
  refine sort_cases (fun k => inline k = (sort k == 2)) ?_ (by decide +kernel) k
  intro k h
  rw [sort_small k h]
  unfold inline
  simp
  omega
theorem item_eq (k : Int) : (k == 4) = (sort k == 3) := by
  refine sort_cases (fun k => (k == 4) = (sort k == 3)) ?_ (by decide +kernel) k
  intro k h
  rw [sort_small k h]
  simp
  omega
theorem row_eq (k : Int) : (k == 11) = (sort k == 4) := by
  refine sort_cases (fun k => (k == 11) = (sort k == 4)) ?_ (by decide +kernel) k
  intro k h
  rw [sort_small k h]
  simp
  omega
theorem cell_eq (k : Int) : (k == 12) = (sort k == 5) := by
  refine sort_cases (fun k => (k == 12) = (sort k == 5)) ?_ (by decide +kernel) k
  intro k h
  rw [sort_small k h]
  simp
  omega
theorem may_eq (k j : Int) : may k j = (!(holds j == 0) && (sort k == holds j)) := by
  unfold may holds
  rw [block_eq k, inline_eq k, item_eq k, row_eq k, cell_eq k]
  by_cases h1 : (j == 1 || j == 2 || j == 4 || j == 13) = true
  · rw [if_pos h1, if_pos h1]; rfl
  · rw [if_neg h1, if_neg h1]
    have h1' : ¬ (j = 1 ∨ j = 2 ∨ j = 4 ∨ j = 13) := by simpa [or_assoc] using h1
    by_cases h3 : j = 3
    · subst h3; rfl
    by_cases h10 : j = 10
    · subst h10; rfl
    by_cases h11 : j = 11
    · subst h11; rfl
    by_cases h2 : (j == 7 || j == 8 || j == 12 || j == 18 || j == 19 || j == 20 || j == 21 || j == 23) = true
    · simp [h3, h10, h11, h2]
    · simp [h3, h10, h11, h2]
theorem rwell_eq (T : Tree) : ∀ l, rwell T l = (!(T.own.kind == 20 && l) && fits T l) := by
  induction T using Tree.ind with
  | h o kids ih =>
    intro l
    rw [rwell, fits]
    congr 1
    show _ = fitsL o.kind kids _
    generalize (l || o.kind == 20) = lk
    induction kids with
    | nil => rw [rwellL, fitsL]
    | cons t ts ih2 =>
      rw [rwellL, fitsL, ih t (by simp), ih2 (fun t ht => ih t (by simp [ht])), may_eq]
      cases lk <;> cases (t.own.kind == 20) <;> cases (!(holds o.kind == 0)) <;> cases (sort t.own.kind == holds o.kind) <;> simp
theorem rwell_well (T : Tree) : (T.own.kind == 1 && rwell T false) = T.well := by
  rw [rwell_eq]; unfold Tree.well; simp

/-- A region that draws, whose callees may make memory: one walk in the order of the text, over all worlds in which nothing old has turned. -/
theorem wp_region_quietC {P : Program} {C : World → Prop} {id : Nat} {Q : Exit → Act → World → Prop} {a : Act} {w : World} {l : List Oper} (hm : P.follows .mixedOrders = true) (hB : Region.lexB .any l.toArray = true) (hC : C { w with drawn := w.drawn + 1 })
    (h : wpQuiet P l.toArray C (fun a' => ∀ w', C w' → Q .normal a' w') l a) : (Code.region id l.toArray true).wp P Q a w :=
  wp_region_quiet (C := C) hm hB hC (by simpa using h)

set_option maxHeartbeats 8000000 in
theorem rwellf_any {B : Nat → Prop} (T : Tree) : ∀ (linked : Bool) (w : World) (L : Value), In w B T L →
    Calls Try.prog 53 #[nodeV T.own L, .bool linked] w fun e w' => e = .returned (.bool (rwell T linked)) ∧ Below w.heap.size w w' := by
  induction T using Tree.ind with
  | h o kids ih =>
    intro linked w L hin
    rw [In] at hin
    obtain ⟨a, cap, rfl, hlc, hcm, hk⟩ := hin
    rw [rwell]
    obtain ⟨k0, s0, t0, n0, m0, f0⟩ := o
    unfold maxLen at hcm
    have HK := Lib.hid hk
    clear hk
    have IH := Lib.hid ih
    clear ih
    show Calls _ _ #[nodeV ⟨k0, s0, t0, n0, m0, f0⟩ _, _] _ _
    unfold nodeV
    simp only []
    by_cases hbad : (k0 == 20 && linked) = true
    · rw [hbad]
      simp only [Bool.and_eq_true, beq_iff_eq] at hbad
      obtain ⟨rfl, rfl⟩ := hbad
      go_enter Try.func53, Try.ntmps53
      go_wp2
      go_ret
      exact ⟨rfl, (Below.refl _ w).alloc (Nat.le_refl _) _⟩
    have hgood : (k0 == 20 && linked) = false := by simpa using hbad
    rw [hgood]
    have HLK : Hid (linked = true → ¬ k0 = 20) := Lib.hid (fun e h => hbad (by simp [e, h]))
    clear hgood hbad
    obtain ⟨lk, HL2⟩ : ∃ x, Hid ((linked || k0 == 20) = x) := ⟨_, rfl⟩
    rw [HL2.out, Bool.not_false, Bool.true_and]
    go_enter Try.func53, Try.ntmps53
    go_upto_region 1 with fail
    go_cut [11] (fun s11 wx => s11 = .bool false ∧ CellsAt wx w.heap.size 0 ⟨k0, s0, t0, n0, m0, f0⟩ (.slice a kids.length cap) ∧ Below w.heap.size w wx)
    case first =>
      have HB := Lib.hid (box_cells w ⟨k0, s0, t0, n0, m0, f0⟩ (.slice a kids.length cap) 24)
      cases linked with
      | true =>
        have e20 : (k0 == 20) = false := by simpa using HLK.out rfl
        have e20' : ¬ k0 = 20 := HLK.out rfl
        go_wp2
        all_goals (go_meet; exact ⟨by simp [*], HB.out, (Below.refl _ w).alloc (Nat.le_refl _) _⟩)
      | false =>
        by_cases hk20 : k0 = 20
        · subst hk20
          go_wp2
          all_goals (go_meet; exact ⟨by simp [*], HB.out, (Below.refl _ w).alloc (Nat.le_refl _) _⟩)
        · have e20 : (k0 == 20) = false := by simpa using hk20
          go_wp2
          all_goals (go_meet; exact ⟨by simp [*], HB.out, (Below.refl _ w).alloc (Nat.le_refl _) _⟩)
    obtain ⟨rfl, hbx, hbw0⟩ := hcut
    have b6 : wc.cell? ⟨w.heap.size, 6, none⟩ = _ := hbx.c6
    have HX := Lib.hid hbx
    clear hbx
    go_wp2
    clear b6
    go_loopg [5] kids.length (fun g s5 wr => ∃ (i : Nat), i + g = kids.length ∧ s5 = .int .i64 i ∧ Hid (rwellL k0 (kids.drop i) lk = rwellL k0 kids lk) ∧ Below w.heap.size w wr ∧ CellsAt wr w.heap.size 0 ⟨k0, s0, t0, n0, m0, f0⟩ (.slice a kids.length cap))
    case atStart => exact ⟨0, by omega, rfl, Lib.hid rfl, hbw0, HX.out⟩
    case round =>
      obtain ⟨i, hig, rfl, HA, hbw, hbx⟩ := hrel
      have b0 : wr.cell? ⟨w.heap.size, 0, none⟩ = _ := hbx.c0
      have b6 : wr.cell? ⟨w.heap.size, 6, none⟩ = _ := hbx.c6
      have HB := Lib.hid hbx
      have hown : w.heap.size < wr.heap.size := World.block_lt_of_cell? wr _ b0
      clear hbx
      have hsz := hbw.size
      cases gk with
      | zero =>
        have hlt : ¬ ((i : Int) < (kids.length : Int)) := by omega
        have HE : Hid (true = rwellL k0 kids lk) := Lib.hid (by have := HA.out; rw [List.drop_eq_nil_of_le (by omega)] at this; simpa [rwellL] using this)
        go_wp2
        go_ret
        exact ⟨ret_bool HE.out, hbw⟩
      | succ g =>
        obtain ⟨t, hd, hmem⟩ := drop_cons hig
        rcases HK.out with rfl | ⟨b, off, rfl, hbB, hkl⟩
        · simp at hd
        obtain ⟨L1, hcell, hin1⟩ := hkl.get hd
        obtain ⟨a1, cap1, rfl, _, _⟩ := hin1.slice
        obtain ⟨c0, c1, c2, c3, c4, c5, c6⟩ := cell_at hcell hbw
        have hi1 : In wr B t _ := hin1.keep hbw
        have hlt : (i : Int) < (kids.length : Int) := by omega
        have HA2 : Hid ((!(holds k0 == 0) && (sort t.own.kind == holds k0) && rwell t lk && rwellL k0 (kids.drop (i + 1)) lk) = rwellL k0 kids lk) := Lib.hid (by have := HA.out; rw [hd, rwellL] at this; exact this)
        have HM := Lib.hid (fun W => holds_any k0 W)
        have HS : Hid (∀ W, Below wr.heap.size wr W → Calls Try.prog 57 #[.int .i64 t.own.kind] W fun e w' => e = .returned (.int .i64 (sort t.own.kind)) ∧ Below wr.heap.size wr w') := Lib.hid (fun W hW => (sort_any t.own.kind W).mono fun e w' ⟨h1, h2⟩ => ⟨h1, below_later hW h2⟩)
        have HC : Hid (∀ W, Below wr.heap.size wr W → Calls Try.prog 53 #[nodeV t.own (.slice a1 t.kids.length cap1), .bool lk] W fun e w' => e = .returned (.bool (rwell t lk)) ∧ Below wr.heap.size wr w') := Lib.hid (fun W hW => (IH.out t hmem lk W _ (hi1.keep hW)).mono fun e w' ⟨h1, h2⟩ => ⟨h1, below_later hW h2⟩)
        unfold nodeV at HC
        clear hd HK hkl hcell hin1 hi1 HA IH HX
        generalize rwell t lk = fv at *
        generalize sort t.own.kind = sv at *
        generalize holds k0 = hv at *
        have HBR := Lib.hid (Below.refl wr.heap.size wr)
        have HS0 : Hid (∀ W, Below wr.heap.size wr W → (W.cell? ⟨w.heap.size, 0, none⟩ = some (.int .i64 k0) ∧ W.cell? ⟨w.heap.size, 6, none⟩ = some (.slice (some ⟨b, off, none⟩) kids.length cap) ∧ W.cell? ⟨b, off + i * 7, none⟩ = some (.int .i64 t.own.kind) ∧ W.cell? ⟨b, off + i * 7 + 1, none⟩ = some (.string t.own.s) ∧ W.cell? ⟨b, off + i * 7 + 2, none⟩ = some (.string t.own.t) ∧ W.cell? ⟨b, off + i * 7 + 3, none⟩ = some (.int .i64 t.own.n) ∧ W.cell? ⟨b, off + i * 7 + 4, none⟩ = some (.int .i64 t.own.m) ∧ W.cell? ⟨b, off + i * 7 + 5, none⟩ = some (.bool t.own.flag) ∧ W.cell? ⟨b, off + i * 7 + 6, none⟩ = some (.slice a1 t.kids.length cap1))) := Lib.hid (fun W hW => ⟨keep_cell hW b0, keep_cell hW b6, keep_cell hW c0, keep_cell hW c1, keep_cell hW c2, keep_cell hW c3, keep_cell hW c4, keep_cell hW c5, keep_cell hW c6⟩)
        go_upto_region 6 with fail
        go_cut [50] (fun s50 wx => s50 = .bool (!(!(hv == 0) && (sv == hv) && fv)) ∧ Below wr.heap.size wr wx)
        case first =>
          by_cases hv0 : hv = 0
          · subst hv0
            refine wp_region_quietC (C := fun W => Below wr.heap.size wr W) (by kernel_rfl) (by kernel_rfl) HBR.out.drew ?_
            iterate 32 (first
            | go_big_quiet_skip
            | (go_big_quiet_want; go_big_quiet_op; go_big_quiet_on)
            | (refine BigFrame.wpQuiet_want rfl (fun K hK => ?_)
               apply Exists.intro
               refine ⟨fun W hW => ?_, hK _ ?_⟩
               · obtain ⟨q0, q6, p0, p1, p2, p3, p4, p5, p6⟩ := HS0.out W hW
                 unfold Oper.quietAt
                 go_simp
                 first
                   | exact rfl
                   | exact ⟨rfl, rfl⟩
                   | (go_at_call 56; refine (HM.out W).mono ?_; rintro e w2 ⟨rfl, rfl⟩; exact ⟨rfl, hW⟩)
                   | (go_at_call 57; refine (HS.out W hW).mono ?_; rintro e w2 ⟨rfl, hb2⟩; exact ⟨rfl, hb2⟩)
                   | (go_at_call 53; refine (HC.out W hW).mono ?_; rintro e w2 ⟨rfl, hb2⟩; exact ⟨rfl, hb2⟩)
               clear hK K
               try simp only [Act.put, List.setIfInBounds_toArray, List.set_cons_zero, List.set_cons_succ]))
            refine wpQuiet_nil ?_
            intro W hW
            go_wp2_with fail
            go_meet
            exact ⟨by simp, hW⟩
          have hv1 : (hv == 0) = false := by simpa using hv0
          by_cases hsv : sv = hv
          · subst hsv
            cases linked with
            | true =>
              have hlk : lk = true := by rw [← HL2.out]; rfl
              subst hlk
              refine wp_region_quietC (C := fun W => Below wr.heap.size wr W) (by kernel_rfl) (by kernel_rfl) HBR.out.drew ?_
              iterate 32 (first
              | go_big_quiet_skip
              | (go_big_quiet_want; go_big_quiet_op; go_big_quiet_on)
              | (refine BigFrame.wpQuiet_want rfl (fun K hK => ?_)
                 apply Exists.intro
                 refine ⟨fun W hW => ?_, hK _ ?_⟩
                 · obtain ⟨q0, q6, p0, p1, p2, p3, p4, p5, p6⟩ := HS0.out W hW
                   unfold Oper.quietAt
                   go_simp
                   first
                     | exact rfl
                     | exact ⟨rfl, rfl⟩
                     | (go_at_call 56; refine (HM.out W).mono ?_; rintro e w2 ⟨rfl, rfl⟩; exact ⟨rfl, hW⟩)
                     | (go_at_call 57; refine (HS.out W hW).mono ?_; rintro e w2 ⟨rfl, hb2⟩; exact ⟨rfl, hb2⟩)
                     | (go_at_call 53; refine (HC.out W hW).mono ?_; rintro e w2 ⟨rfl, hb2⟩; exact ⟨rfl, hb2⟩)
                 clear hK K
                 try simp only [Act.put, List.setIfInBounds_toArray, List.set_cons_zero, List.set_cons_succ]))
              refine wpQuiet_nil ?_
              intro W hW
              go_wp2_with fail
              go_meet
              exact ⟨by simp [hv1], hW⟩
            | false =>
              have hlk : lk = (k0 == 20) := by rw [← HL2.out]; rfl
              subst hlk
              refine wp_region_quietC (C := fun W => Below wr.heap.size wr W) (by kernel_rfl) (by kernel_rfl) HBR.out.drew ?_
              iterate 32 (first
              | go_big_quiet_skip
              | (go_big_quiet_want; go_big_quiet_op; go_big_quiet_on)
              | (refine BigFrame.wpQuiet_want rfl (fun K hK => ?_)
                 apply Exists.intro
                 refine ⟨fun W hW => ?_, hK _ ?_⟩
                 · obtain ⟨q0, q6, p0, p1, p2, p3, p4, p5, p6⟩ := HS0.out W hW
                   unfold Oper.quietAt
                   go_simp
                   first
                     | exact rfl
                     | exact ⟨rfl, rfl⟩
                     | (go_at_call 56; refine (HM.out W).mono ?_; rintro e w2 ⟨rfl, rfl⟩; exact ⟨rfl, hW⟩)
                     | (go_at_call 57; refine (HS.out W hW).mono ?_; rintro e w2 ⟨rfl, hb2⟩; exact ⟨rfl, hb2⟩)
                     | (go_at_call 53; refine (HC.out W hW).mono ?_; rintro e w2 ⟨rfl, hb2⟩; exact ⟨rfl, hb2⟩)
                 clear hK K
                 try simp only [Act.put, List.setIfInBounds_toArray, List.set_cons_zero, List.set_cons_succ]))
              refine wpQuiet_nil ?_
              intro W hW
              go_wp2_with fail
              go_meet
              exact ⟨by simp [hv1], hW⟩
          · have hs1 : (sv != hv) = true := by simpa using hsv
            have hs2 : (sv == hv) = false := by simpa using hsv
            refine wp_region_quietC (C := fun W => Below wr.heap.size wr W) (by kernel_rfl) (by kernel_rfl) HBR.out.drew ?_
            iterate 32 (first
            | go_big_quiet_skip
            | (go_big_quiet_want; go_big_quiet_op; go_big_quiet_on)
            | (refine BigFrame.wpQuiet_want rfl (fun K hK => ?_)
               apply Exists.intro
               refine ⟨fun W hW => ?_, hK _ ?_⟩
               · obtain ⟨q0, q6, p0, p1, p2, p3, p4, p5, p6⟩ := HS0.out W hW
                 unfold Oper.quietAt
                 go_simp
                 first
                   | exact rfl
                   | exact ⟨rfl, rfl⟩
                   | (go_at_call 56; refine (HM.out W).mono ?_; rintro e w2 ⟨rfl, rfl⟩; exact ⟨rfl, hW⟩)
                   | (go_at_call 57; refine (HS.out W hW).mono ?_; rintro e w2 ⟨rfl, hb2⟩; exact ⟨rfl, hb2⟩)
                   | (go_at_call 53; refine (HC.out W hW).mono ?_; rintro e w2 ⟨rfl, hb2⟩; exact ⟨rfl, hb2⟩)
               clear hK K
               try simp only [Act.put, List.setIfInBounds_toArray, List.set_cons_zero, List.set_cons_succ]))
            refine wpQuiet_nil ?_
            intro W hW
            go_wp2_with fail
            go_meet
            exact ⟨by simp [hv1, hs2], hW⟩
        obtain ⟨rfl, hbX⟩ := hcut
        obtain ⟨ok, HOK⟩ : ∃ ok, Hid ((!(hv == 0) && (sv == hv) && fv) = ok) := ⟨_, rfl⟩
        have HA3 : Hid ((ok && rwellL k0 (kids.drop (i + 1)) lk) = rwellL k0 kids lk) := Lib.hid (by rw [← HOK.out]; exact HA2.out)
        rw [HOK.out]
        have hbw2 : Below w.heap.size w wc := hbw.trans (hbX.mono hsz)
        have HB2 := Lib.hid (cell_at HB.out hbX)
        clear HS0 HM HS HC HA2 hbX
        cases ok with
        | false =>
          go_wp2
          go_ret
          exact ⟨ret_bool (by rw [← HA3.out]; rfl), hbw2⟩
        | true =>
          go_wp2
          go_roundg g
          case rel => exact ⟨i + 1, by omega, by go_num, Lib.hid (by rw [← HA3.out]; rfl), hbw2, HB2.out⟩
          case measure => omega

set_option maxHeartbeats 2000000 in
theorem rwell_any {B : Nat → Prop} {T : Tree} {w : World} {L : Value} (hin : In w B T L) :
    Calls Try.prog 40 #[nodeV T.own L] w fun e w' => e = .returned (.bool T.well) ∧ Below w.heap.size w w' := by
  obtain ⟨a, cap, rfl, _, _⟩ := hin.slice
  have HC := Lib.hid (fun W (hW : Below w.heap.size w W) => rwellf_any T false W _ (hin.keep hW))
  unfold nodeV at HC ⊢
  rw [← rwell_well]
  clear hin
  generalize rwell T false = y at *
  obtain ⟨⟨k, s, t, n, m, fl⟩, kids⟩ := T
  simp only [Tree.own, Tree.kids] at HC ⊢
  by_cases hk : k = 1
  · subst hk
    rw [show ((1 : Int) == 1) = true from rfl, Bool.true_and]
    go_enter Try.func40, Try.ntmps40
    go_wp2_with fail
    refine (HC.out _ ?_).mono ?_
    · exact (Below.refl _ w).alloc (Nat.le_refl _) _
    rintro e w2 ⟨rfl, hb2⟩
    go_wp2
    go_ret
    exact ⟨rfl, below_later ((Below.refl _ w).alloc (Nat.le_refl _) _) hb2⟩
  · have hk1 : (k == 1) = false := by simpa using hk
    rw [hk1, Bool.false_and]
    go_enter Try.func40, Try.ntmps40
    go_wp2
    go_ret
    exact ⟨rfl, (Below.refl _ w).alloc (Nat.le_refl _) _⟩
end Tr
end Go.Proofs.Ytlpfffioidbkeaa
