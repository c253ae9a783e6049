/- Walks of layer 13: the reference's Match. -/
import Derived.Test.YtbdcbeghiglfgaaDoorDlR2
import Derived.Deep.RegionHeld3
import Derived.Deep.DrawnRows
import Derived.BigQuiet
import Derived.Deep.QuietTactic
namespace Go.Proofs.YtbdcbeghiglfgaaDoor
open Go Go.RowKit
namespace Dl
set_option maxRecDepth 100000
set_option linter.unusedVariables false
set_option linter.unusedSimpArgs false
attribute [local go_sem ↓] Go.wp_at_zero Go.wp_at_succ

theorem info_parts {P : Program} {t : TypeId} {z : Value} {a b : Nat} (h : (P.info? t).map (fun i => (i.zero, i.size, i.bytes)) = some (some z, a, b)) : ∃ i, P.info? t = some i ∧ i.zero = some z ∧ i.size = a ∧ i.bytes = b := by
  cases hi : P.info? t with
  | none => rw [hi] at h; cases h
  | some i =>
    rw [hi] at h
    simp only [Option.map_some, Option.some.injEq, Prod.mk.injEq] at h
    exact ⟨i, rfl, h.1, h.2.1, h.2.2⟩
theorem infoPair : (Tryd.prog.info? 46).map (fun i => (i.zero, i.size, i.bytes)) = some (some (.agg (pairE (0, 0, 0)).toArray), 3, 24) := by kernel_rfl
theorem sum_upd {f : Nat → Nat} (n : Nat) (j v : Nat) (hv : v ≤ f j) : sumf (upd f j v) n ≤ sumf f n := sum_le n (fun k _ => by
  unfold upd
  split
  · subst_vars; exact hv
  · exact Nat.le_refl _)
/-- What the last loop has wiped. -/
def wipeTo (f : Nat → Nat) (k j : Nat) : Nat → Nat := fun x => if k < x ∧ x < j then 0 else f x
theorem wipeTo_start (f : Nat → Nat) (k : Nat) : ∀ x, wipeTo f k (k + 1) x = f x := fun x => by unfold wipeTo; rw [if_neg (by omega)]
theorem wipeTo_next (f : Nat → Nat) {k j : Nat} (h : k < j) : ∀ x, wipeTo f k (j + 1) x = upd (wipeTo f k j) j 0 x := by
  intro x
  simp only [wipeTo, upd]
  by_cases hx : x = j
  · subst hx; rw [if_pos ⟨h, by omega⟩, if_pos rfl]
  · rw [if_neg hx]
    by_cases h2 : k < x ∧ x < j
    · rw [if_pos h2, if_pos (by omega)]
    · rw [if_neg h2, if_neg (by omega)]
theorem own_set {t : TypeId} {w : World} {B : Nat} {u : Value} {d : List Pr} (h : OwnG pairE 3 t w (B + 1) u d) (o : Nat) (x : Value) : OwnG pairE 3 t (w.setCell ⟨B, o, none⟩ x) (B + 1) u d :=
  owns_block h fun k hk => heap_setCell_other w ⟨B, o, none⟩ k x (by have := (h.lt k hk).1; show k ≠ B; omega)
/-- What is left of a run is no more than what it had. -/
theorem cap_of {l : List Rn} {f : Nat → Nat} (h : ∀ j, f j ≤ caps l j) (j : Nat) : 1 ≤ f j → 1 ≤ (rn l j).n ∧ (rn l j).n ≤ 1073741824 := by
  intro h1
  have h2 := h j
  unfold caps Dl.cap at h2
  split at h2
  · rename_i h3; exact h3
  · omega
/-- What the first loop has laid. -/
def laidTo (l : List Rn) (i : Nat) : Nat → Nat := fun j => if j < i then caps l j else 0
theorem laidTo_all (l : List Rn) {i : Nat} (h : l.length ≤ i) : ∀ k, k < l.length → laidTo l i k = caps l k := fun k hk => by unfold laidTo; rw [if_pos (by omega)]
theorem laidTo_next {l : List Rn} {i : Nat} : ∀ k, laidTo l (i + 1) k = if k = i then caps l i else laidTo l i k := by
  intro k
  unfold laidTo
  by_cases hk : k = i
  · subst hk; rw [if_pos (by omega), if_pos rfl]
  · rw [if_neg hk]
    by_cases h2 : k < i
    · rw [if_pos h2, if_pos (by omega)]
    · rw [if_neg h2, if_neg (by omega)]

set_option maxHeartbeats 8000000 in
theorem rmatch_any (l : List Rn) (v : Value) (w : World) (h : Runs w v l) (hl : l.length ≤ 1000) (hsum : sumf (caps l) l.length ≤ 100000) :
    Calls Tryd.prog 16 #[v] w fun e w' => ∃ u, e = .returned u ∧ OwnG pairE 3 46 w' (w.heap.size + 1) u (pairs l) ∧ Below w.heap.size w w' := by
  obtain ⟨i0, hi, hz0, hz1, hz2⟩ := info_parts infoPair
  obtain ⟨a, cap, rfl, _, hk⟩ := h
  have HK := Lib.hid hk
  obtain ⟨n, hn⟩ : ∃ n, l.length = n := ⟨_, rfl⟩
  have HN := Lib.hid hn
  have HSum := Lib.hid hsum
  rw [hn] at hl HSum ⊢
  have hlI : (n : Int) ≤ 1000 := by omega
  have hmk := run_make_row' (P := Tryd.prog) 38 3 (.int .i64 0) 8 Tryd.underlying38 infoInt rfl .i64 .i64 n (by omega) (by omega)
  have HM0 : Hid (LeftAt (w.alloc (.cells (madeCells #[.int .i64 0] n) 3)) w.heap.size n (laidTo l 0)) := Lib.hid (LeftAt.start w n)
  have HB0 : Hid (Below w.heap.size w (w.alloc (.cells (madeCells #[.int .i64 0] n) 3))) := Lib.hid ((Below.refl _ w).alloc (Nat.le_refl _) _)
  have HS0 : Hid (w.heap.size < (w.alloc (.cells (madeCells #[.int .i64 0] n) 3)).heap.size) := Lib.hid (by simp)
  clear hk hn hsum
  go_enter Tryd.func16, Tryd.ntmps16
  go_wp2_with fail
  go_loopg [4] n (fun G v4 wr => ∃ i : Nat, i + G = n ∧ v4 = .int .i64 (i : Int) ∧ Hid (LeftAt wr w.heap.size n (laidTo l i)) ∧ Hid (Below w.heap.size w wr) ∧ Hid (w.heap.size < wr.heap.size))
  case atStart => exact ⟨0, by omega, rfl, HM0, HB0, HS0⟩
  case round =>
    obtain ⟨i, hig, rfl, HM, HB, HS⟩ := hrel
    clear HM0 HB0 HS0 hmk
    by_cases hlt : i < n
    · have hlt' : (i : Int) < (n : Int) := by omega
      obtain ⟨r, hr⟩ : ∃ r, l[i]? = some r := ⟨_, List.getElem?_eq_getElem (by have := HN.out; omega)⟩
      rcases HK.out with rfl | ⟨b, off, rfl, hcell⟩
      · simp at hr
      obtain ⟨c0, c1, c2, c3⟩ := run_cells ((hcell i r hr).keep HB.out)
      have hrn := rn_of hr
      have HC : Hid (caps l i = if 1 ≤ r.n ∧ r.n ≤ 1073741824 then r.n.toNat else 0) := Lib.hid (by unfold caps; rw [hrn]; rfl)
      have f0 := HM.out.fr i
      have d0 := HM.out.cell hlt
      clear hcell hr hrn
      by_cases h1 : 1 ≤ r.n
      · by_cases h2 : r.n ≤ 1073741824
        · have HCv : Hid (((caps l i : Nat) : Int) = r.n) := Lib.hid (by rw [HC.out, if_pos ⟨h1, h2⟩]; omega)
          have HM2 : Hid (LeftAt (wr.setCell ⟨w.heap.size, i, none⟩ (.int .i64 r.n)) w.heap.size n (laidTo l (i + 1))) := Lib.hid (by
            have := HM.out.set i (caps l i)
            rw [HCv.out] at this
            exact this.congr (fun k _ => (laidTo_next k).symm))
          have HB2 := Lib.hid (HB.out.setCell (p := ⟨w.heap.size, i, none⟩) (Nat.le_refl _) (.int .i64 r.n))
          have HS2 : Hid (w.heap.size < (wr.setCell ⟨w.heap.size, i, none⟩ (.int .i64 r.n)).heap.size) := Lib.hid (by have := HS.out; simpa [World.setCell] using this)
          clear HC
          go_wp2
          go_roundg (gk - 1)
          case rel => exact ⟨i + 1, by omega, by go_num, HM2, HB2, HS2⟩
          case measure => omega
        · have HM2 : Hid (LeftAt wr w.heap.size n (laidTo l (i + 1))) := Lib.hid (HM.out.congr (fun k _ => by
            rw [laidTo_next]
            split
            · subst_vars; rw [HC.out, if_neg (fun h => h2 h.2)]; unfold laidTo; rw [if_neg (by omega)]
            · rfl))
          clear HC
          go_wp2
          go_roundg (gk - 1)
          case rel => exact ⟨i + 1, by omega, by go_num, HM2, HB, HS⟩
          case measure => omega
      · have HM2 : Hid (LeftAt wr w.heap.size n (laidTo l (i + 1))) := Lib.hid (HM.out.congr (fun k _ => by
          rw [laidTo_next]
          split
          · subst_vars; rw [HC.out, if_neg (fun h => h1 h.1)]; unfold laidTo; rw [if_neg (by omega)]
          · rfl))
        clear HC
        go_wp2
        go_roundg (gk - 1)
        case rel => exact ⟨i + 1, by omega, by go_num, HM2, HB, HS⟩
        case measure => omega
    · have hlt' : ¬ (i : Int) < (n : Int) := by omega
      have HM2 : Hid (LeftAt wr w.heap.size n (caps l)) := Lib.hid (HM.out.congr (fun k hk => laidTo_all l (by rw [HN.out]; omega) k (by rw [HN.out]; exact hk)))
      have HO0 : Hid (OwnG pairE 3 46 wr (w.heap.size + 1) (.slice none 0 0) []) := Lib.hid (World.ownsRow_nil _ _ _ _)
      clear HM hig
      go_wp2_with fail
      go_loopg [5, 6] (mu l 0 (caps l)) (fun G v5 v6 wq => ∃ (i : Nat) (f : Nat → Nat) (d : List Pr), mu l i f ≤ G ∧ i ≤ n ∧ v6 = .int .i64 (i : Int) ∧ OwnG pairE 3 46 wq (w.heap.size + 1) v5 d ∧ Hid (LeftAt wq w.heap.size n f) ∧ Hid (Below w.heap.size w wq) ∧ Hid (w.heap.size < wq.heap.size) ∧ Hid (pairs l = d ++ goF l i f) ∧ d.length + sumf f n ≤ 100000 ∧ Hid (∀ j, f j ≤ caps l j))
      case atStart => exact ⟨0, caps l, [], Nat.le_refl _, Nat.zero_le _, rfl, HO0.out, HM2, HB, HS, Lib.hid rfl, by have := HSum.out; simpa using this, Lib.hid (fun j => Nat.le_refl _)⟩
      case round =>
        obtain ⟨i, f, d, hmu, hin, rfl, hown, HF, HBq, HSq, HP, hds, HLe⟩ := hrel
        clear HM2 HO0 HB HS
        obtain ⟨a5, c5, rfl⟩ := hown.form
        have HO := Lib.hid hown
        obtain ⟨nd, hnd⟩ : ∃ nd, d.length = nd := ⟨_, rfl⟩
        have HND := Lib.hid hnd
        rw [hnd] at hds ⊢
        clear hown hnd
        obtain ⟨wo, rfl⟩ : ∃ wo : World, wo = wr := ⟨_, rfl⟩
        by_cases hlt : i < n
        · have hlt' : (i : Int) < (n : Int) := by omega
          have hll : i < l.length := by rw [HN.out]; exact hlt
          have hr := rn_at hll
          rcases HK.out with rfl | ⟨b, off, rfl, hcell⟩
          · simp at hll
          have HRi := Lib.hid ((hcell i _ hr).keep HBq.out)
          have HRall := Lib.hid (fun j (hj : j < l.length) => (hcell j _ (rn_at hj)).keep HBq.out)
          obtain ⟨c0, c1, c2, c3⟩ := run_cells HRi.out
          have d0 := HF.out.cell hlt
          have g0 := HF.out.fr i
          have hfi : f i ≤ 1073741824 := by
            have := HLe.out i
            have h2 : caps l i ≤ 1073741824 := by
              unfold caps Dl.cap
              split
              · omega
              · omega
            omega
          clear hcell hr
          by_cases hkk : (rn l i).k = false ∨ f i = 0
          · have HP2 : Hid (pairs l = d ++ goF l (i + 1) f) := Lib.hid (by rw [HP.out, goF_pass hll hkk])
            have hmu2 := mu_next (f := f) (g := f) hll (fun j => Nat.le_refl _)
            cases hk0 : (rn l i).k with
            | false =>
              rw [hk0] at c3
              clear hkk
              go_wp2
              go_roundg (mu l (i + 1) f)
              case rel => exact ⟨i + 1, f, d, Nat.le_refl _, by omega, by go_num, by rw [← HND.out]; exact HO.out, HF, HBq, HSq, HP2, by rw [HND.out]; exact hds, HLe⟩
              case measure => omega
            | true =>
              rw [hk0] at c3
              have hf0 : f i = 0 := hkk.resolve_left (by rw [hk0]; simp)
              have e0 : ((f i : Int) == 0) = true := by simp; omega
              clear hkk
              go_wp2
              go_roundg (mu l (i + 1) f)
              case rel => exact ⟨i + 1, f, d, Nat.le_refl _, by omega, by go_num, by rw [← HND.out]; exact HO.out, HF, HBq, HSq, HP2, by rw [HND.out]; exact hds, HLe⟩
              case measure => omega
          · have hk1 : (rn l i).k = true := by
              cases hk : (rn l i).k with
              | true => rfl
              | false => exact absurd (.inl hk) hkk
            have hf1 : f i ≠ 0 := fun h => hkk (.inr h)
            have e0 : ((f i : Int) == 0) = false := by simp; omega
            rw [hk1] at c3
            have hii : (0 : Int) ≤ (i : Int) := by omega
            have HD0 := Lib.hid d0
            go_upto_block 4 with fail
            go_cut [7] (fun v7 wx => Hid (Below wo.heap.size wo wx) ∧ ((look l f i i = none ∧ v7 = .int .i64 (-1)) ∨ (∃ k : Nat, look l f i i = some k ∧ v7 = .int .i64 (k : Int))))
            case first =>
              go_wp2_with fail
              go_loopg [7] i (fun G v7 wq => ∃ (kk : Nat) (z : Int), kk = G ∧ kk ≤ i ∧ (kk : Int) - 1 = z ∧ v7 = .int .i64 z ∧ Hid (Below wo.heap.size wo wq) ∧ Hid (look l f i i = look l f i kk))
              case atStart => exact ⟨i, (i : Int) - 1, rfl, Nat.le_refl _, rfl, rfl, Lib.hid (Below.refl _ _), Lib.hid rfl⟩
              case round =>
                obtain ⟨kk, z, hkg, hki, hz, rfl, HBk, HLk⟩ := hrel
                cases kk with
                | zero =>
                  obtain rfl : z = -1 := by omega
                  have hdec : decide ((0 : Int) ≤ -1) = false := by decide
                  have HX : Hid (look l f i i = none) := Lib.hid HLk.out
                  go_wp2_with fail
                  go_big_quiet (fail)
                  go_wp2
                  go_meet
                  exact ⟨Lib.hid (below_drewN HBk.out nq), .inl ⟨HX.out, rfl⟩⟩
                | succ m =>
                  obtain rfl : z = (m : Int) := by omega
                  have hmn : m < n := by omega
                  have hmI : (m : Int) < (n : Int) := by omega
                  have hdec : decide ((0 : Int) ≤ (m : Int)) = true := by simp
                  obtain ⟨p0, p1, p2, p3⟩ := run_cells ((HRall.out m (by rw [HN.out]; exact hmn)).keep HBk.out)
                  have q0 := keep_cell HBk.out c0
                  have q1 := keep_cell HBk.out c1
                  have q2 := keep_cell HBk.out c2
                  have q3 := keep_cell HBk.out c3
                  have dm := keep_cell HBk.out (HF.out.cell hmn)
                  have di := keep_cell HBk.out d0
                  have HS0 : Hid (∀ W, Below wr.heap.size wr W → W.cell? ⟨b, off + m * 4, none⟩ = some (.int .u8 ((rn l m).c.toNat : Int)) ∧ W.cell? ⟨b, off + m * 4 + 1, none⟩ = some (.int .i64 (rn l m).n) ∧ W.cell? ⟨b, off + m * 4 + 2, none⟩ = some (.bool (rn l m).o) ∧ W.cell? ⟨b, off + m * 4 + 3, none⟩ = some (.bool (rn l m).k) ∧ W.cell? ⟨b, off + i * 4, none⟩ = some (.int .u8 ((rn l i).c.toNat : Int)) ∧ W.cell? ⟨b, off + i * 4 + 1, none⟩ = some (.int .i64 (rn l i).n) ∧ W.cell? ⟨b, off + i * 4 + 2, none⟩ = some (.bool (rn l i).o) ∧ W.cell? ⟨b, off + i * 4 + 3, none⟩ = some (.bool true) ∧ W.cell? ⟨w.heap.size, m, none⟩ = some (.int .i64 (f m : Int)) ∧ W.cell? ⟨w.heap.size, i, none⟩ = some (.int .i64 (f i : Int))) := Lib.hid (fun W hW => ⟨keep_cell hW p0, keep_cell hW p1, keep_cell hW p2, keep_cell hW p3, keep_cell hW q0, keep_cell hW q1, keep_cell hW q2, keep_cell hW q3, keep_cell hW dm, keep_cell hW di⟩)
                  have HFit : Hid (∀ W, Calls Tryd.prog 25 #[.agg #[.int .u8 ((rn l m).c.toNat : Int), .int .i64 (rn l m).n, .bool (rn l m).o, .bool (rn l m).k], .agg #[.int .u8 ((rn l i).c.toNat : Int), .int .i64 (rn l i).n, .bool (rn l i).o, .bool true], .int .i64 (f m : Int), .int .i64 (f i : Int)] W fun e w' => e = .returned (.bool (fit (rn l m) (rn l i) (f m) (f i))) ∧ Below W.heap.size W w') := Lib.hid (fun W => by
                    have := rfits_any (rn l m) (rn l i) (f m) (f i) W (cap_of HLe.out m) (cap_of HLe.out i)
                    unfold runE at this
                    rw [hk1] at this
                    exact this)
                  have HX1 : Hid (fit (rn l m) (rn l i) (f m) (f i) = true → look l f i i = some m) := Lib.hid (fun h => by rw [HLk.out]; unfold look; rw [if_pos h])
                  have HX2 : Hid (fit (rn l m) (rn l i) (f m) (f i) = false → look l f i i = look l f i m) := Lib.hid (fun h => by rw [HLk.out]; conv => lhs; unfold look; rw [if_neg (by rw [h]; simp)])
                  clear hk1 c0 c1 c2 c3 d0
                  generalize fit (rn l m) (rn l i) (f m) (f i) = t at *
                  generalize (rn l m).c.toNat = mc at *
                  generalize (rn l m).n = mn at *
                  generalize (rn l m).o = mo at *
                  generalize (rn l m).k = mk at *
                  generalize (rn l i).c.toNat = ic at *
                  generalize (rn l i).n = iN at *
                  generalize (rn l i).o = io at *
                  generalize f m = fm at *
                  generalize f i = fi at *
                  cases t with
                  | true =>
                    have HX := Lib.hid (HX1.out rfl)
                    clear HX1 HX2
                    go_wp2_with fail
                    go_region_held3 (fun W => W.cell? ⟨b, off + m * 4, none⟩ = some (.int .u8 (mc : Int)) ∧ W.cell? ⟨b, off + m * 4 + 1, none⟩ = some (.int .i64 mn) ∧ W.cell? ⟨b, off + m * 4 + 2, none⟩ = some (.bool mo) ∧ W.cell? ⟨b, off + m * 4 + 3, none⟩ = some (.bool mk) ∧ W.cell? ⟨b, off + i * 4, none⟩ = some (.int .u8 (ic : Int)) ∧ W.cell? ⟨b, off + i * 4 + 1, none⟩ = some (.int .i64 iN) ∧ W.cell? ⟨b, off + i * 4 + 2, none⟩ = some (.bool io) ∧ W.cell? ⟨b, off + i * 4 + 3, none⟩ = some (.bool true) ∧ W.cell? ⟨w.heap.size, m, none⟩ = some (.int .i64 (fm : Int)) ∧ W.cell? ⟨w.heap.size, i, none⟩ = some (.int .i64 (fi : Int))) (first | exact HS0.out _ (Below.refl _ _).drew | exact HS0.out _ hb5) ((go_at_call 25; refine (HFit.out _).mono ?_; rintro e w5 ⟨rfl, hb4⟩; have hb5 := below_later (Below.refl wr.heap.size wr).drew hb4))
                    all_goals
                      go_wp2
                      go_meet
                      exact ⟨Lib.hid (below_later HBk.out hb5), .inr ⟨m, HX.out, rfl⟩⟩
                  | false =>
                    have HX := Lib.hid (HX2.out rfl)
                    clear HX1 HX2
                    go_wp2_with fail
                    go_region_held3 (fun W => W.cell? ⟨b, off + m * 4, none⟩ = some (.int .u8 (mc : Int)) ∧ W.cell? ⟨b, off + m * 4 + 1, none⟩ = some (.int .i64 mn) ∧ W.cell? ⟨b, off + m * 4 + 2, none⟩ = some (.bool mo) ∧ W.cell? ⟨b, off + m * 4 + 3, none⟩ = some (.bool mk) ∧ W.cell? ⟨b, off + i * 4, none⟩ = some (.int .u8 (ic : Int)) ∧ W.cell? ⟨b, off + i * 4 + 1, none⟩ = some (.int .i64 iN) ∧ W.cell? ⟨b, off + i * 4 + 2, none⟩ = some (.bool io) ∧ W.cell? ⟨b, off + i * 4 + 3, none⟩ = some (.bool true) ∧ W.cell? ⟨w.heap.size, m, none⟩ = some (.int .i64 (fm : Int)) ∧ W.cell? ⟨w.heap.size, i, none⟩ = some (.int .i64 (fi : Int))) (first | exact HS0.out _ (Below.refl _ _).drew | exact HS0.out _ hb5) ((go_at_call 25; refine (HFit.out _).mono ?_; rintro e w5 ⟨rfl, hb4⟩; have hb5 := below_later (Below.refl wr.heap.size wr).drew hb4))
                    all_goals
                      go_wp2
                      go_roundg m
                      case rel => exact ⟨m, (m : Int) - 1, rfl, by omega, rfl, by go_num, Lib.hid (below_later HBk.out hb5), HX⟩
                      case measure => omega
            case rest =>
              obtain ⟨HBx, h7⟩ := hcut
              have c0' := keep_cell HBx.out c0
              have c2' := keep_cell HBx.out c2
              have HFc := Lib.hid (HF.out.below HBx.out HSq.out)
              have HOc := Lib.hid (owns_keep HO.out HBx.out)
              have HBc := Lib.hid (below_later HBq.out HBx.out)
              have HSc : Hid (w.heap.size < wc.heap.size) := Lib.hid (Nat.lt_of_lt_of_le HSq.out HBx.out.size)
              have d0' := HFc.out.cell hlt
              have g0' := HFc.out.fr i
              have hmuN : ∀ g : Nat → Nat, (∀ j, g j ≤ f j) → mu l (i + 1) g < mu l i f := fun g hg => mu_next hll hg
              have HMu := Lib.hid hmuN
              clear hmuN c0 c1 c2 c3 d0 g0 HD0
              rcases h7 with ⟨hlk, rfl⟩ | ⟨k, hlk, rfl⟩
              · have HGo := Lib.hid (goF_none hll hkk hlk)
                cases ho : (rn l i).o with
                | true =>
                  rw [ho] at c2' HGo
                  have HP2 : Hid (pairs l = d ++ goF l (i + 1) f) := Lib.hid (by rw [HP.out, HGo.out, if_pos rfl])
                  have hm3 := HMu.out f (fun j => Nat.le_refl _)
                  clear hkk hlk
                  go_wp2
                  go_roundg (mu l (i + 1) f)
                  case rel => exact ⟨i + 1, f, d, Nat.le_refl _, by omega, by go_num, by rw [← HND.out]; exact HOc.out, HFc, HBc, HSc, HP2, by rw [HND.out]; exact hds, HLe⟩
                  case measure => omega
                | false =>
                  rw [ho] at c2' HGo
                  have HP2 : Hid (pairs l = d ++ goF l (i + 1) (upd f i 0)) := Lib.hid (by rw [HP.out, HGo.out, if_neg (by simp)])
                  have hm3 := HMu.out (upd f i 0) (upd0_le f i)
                  have HF2 : Hid (LeftAt (wc.setCell ⟨w.heap.size, i, none⟩ (.int .i64 0)) w.heap.size n (upd f i 0)) := Lib.hid (HFc.out.set i 0)
                  have HB2 := Lib.hid (HBc.out.setCell (p := ⟨w.heap.size, i, none⟩) (Nat.le_refl _) (.int .i64 0))
                  have HS2 : Hid (w.heap.size < (wc.setCell ⟨w.heap.size, i, none⟩ (.int .i64 0)).heap.size) := Lib.hid (by have := HSc.out; simpa [World.setCell] using this)
                  have HO2 : Hid (OwnG pairE 3 46 (wc.setCell ⟨w.heap.size, i, none⟩ (.int .i64 0)) (w.heap.size + 1) (.slice a5 nd c5) d) := Lib.hid (own_set (by rw [← HND.out]; exact HOc.out) i _)
                  have HD2 : Hid (d.length + sumf (upd f i 0) n ≤ 100000) := Lib.hid (by
                    have := sum_upd (f := f) n i 0 (Nat.zero_le _)
                    rw [HND.out]; omega)
                  have HL2 : Hid (∀ j, upd f i 0 j ≤ caps l j) := Lib.hid (fun j => Nat.le_trans (upd0_le f i j) (HLe.out j))
                  clear hkk hlk
                  go_wp2
                  go_roundg (mu l (i + 1) (upd f i 0))
                  case rel => exact ⟨i + 1, upd f i 0, d, Nat.le_refl _, by omega, by go_num, HO2.out, HF2, HB2, HS2, HP2, HD2.out, HL2⟩
                  case measure => omega
              · obtain ⟨hki, hfit, _⟩ := look_some hlk
                have hkn : k < n := by omega
                have hkI : (k : Int) < (n : Int) := by omega
                have hk0 : ¬ (k : Int) < 0 := by omega
                have HGo := Lib.hid (goF_pair hll hkk hlk)
                obtain ⟨n1, n2, n3, _⟩ := amount_le hfit
                have HAm : Hid (amount l f k i = if (rn l i).c = 126 then f i else if 2 ≤ f k ∧ 2 ≤ f i then 2 else 1) := Lib.hid rfl
                have hm3 := mu_pair hll hlk
                have dk := HFc.out.cell hkn
                have gk' := HFc.out.fr k
                have e126 : (((rn l i).c.toNat : Int) == 126) = ((rn l i).c == 126) := eq_u8 (rn l i).c 126 (by decide)
                have HC126 : Hid (((rn l i).c == 126) = decide ((rn l i).c = 126)) := Lib.hid (by rw [Bool.eq_iff_iff, beq_iff_eq, decide_eq_true_iff])
                have HPd := Lib.hid (fun N => paired_at (f := f) (n := N) hki)
                generalize amount l f k i = N at *
                have hNI : (N : Int) ≤ (f k : Int) := by omega
                have hNI2 : (N : Int) ≤ (f i : Int) := by omega
                have hN0 : (1 : Int) ≤ (N : Int) := by omega
                have hfk : (f k : Int) ≤ 1073741824 := by
                  have := HLe.out k
                  have h2 : caps l k ≤ 1073741824 := by
                    unfold caps Dl.cap
                    split
                    · omega
                    · omega
                  omega
                have hm4 : mu l i (paired f k i N) < gk := by omega
                clear hkk hlk hfit hmu hm3
                obtain ⟨t, ht⟩ : ∃ t, (decide (2 ≤ f k) && decide (2 ≤ f i)) = t := ⟨_, rfl⟩
                have HTt := Lib.hid ht.symm
                have HAm2 : Hid ((rn l i).c ≠ 126 → (N : Int) = if t = true then 2 else 1) := Lib.hid (fun h => by
                  rw [HAm.out, if_neg h, ← ht]
                  by_cases x1 : 2 ≤ f k <;> by_cases x2 : 2 ≤ f i <;> simp [x1, x2])
                obtain ⟨z, hz⟩ : ∃ z : Int, (if t = true then (2 : Int) else 1) = z := ⟨_, rfl⟩
                have HZ := Lib.hid hz
                clear ht hz
                go_upto_region 20 with fail
                go_cut [110] (fun v110 wy => v110 = .bool t ∧ wc = wy)
                case first =>
                  by_cases x1 : 2 ≤ f k
                  · have x1' : (2 : Int) ≤ (f k : Int) := by omega
                    by_cases x2 : 2 ≤ f i
                    · have x2' : (2 : Int) ≤ (f i : Int) := by omega
                      go_wp2
                      go_meet
                      exact ⟨by rw [HTt.out, decide_eq_true x1, decide_eq_true x2]; rfl, rfl⟩
                    · have x2' : ¬ (2 : Int) ≤ (f i : Int) := by omega
                      go_wp2
                      go_meet
                      exact ⟨by rw [HTt.out, decide_eq_true x1, decide_eq_false x2]; rfl, rfl⟩
                  · have x1' : ¬ (2 : Int) ≤ (f k : Int) := by omega
                    go_wp2
                    go_meet
                    exact ⟨by rw [HTt.out, decide_eq_false x1]; rfl, rfl⟩
                obtain ⟨rfl, rfl⟩ := hcut
                go_upto_if 110 with fail
                go_cut [8] (fun v8 wy => v8 = .int .i64 z ∧ wc = wy)
                case first =>
                  cases t with
                  | true =>
                    go_wp2
                    go_meet
                    exact ⟨by rw [← HZ.out]; rfl, rfl⟩
                  | false =>
                    go_wp2
                    go_meet
                    exact ⟨by rw [← HZ.out]; rfl, rfl⟩
                obtain ⟨rfl, rfl⟩ := hcut
                go_upto_if 116 with fail
                go_cut [8] (fun v8 wy => v8 = .int .i64 (N : Int) ∧ wc = wy)
                case first =>
                  cases hq : ((rn l i).c == 126) with
                  | true =>
                    rw [hq] at e126
                    have HNv : Hid (N = f i) := Lib.hid (by rw [HAm.out, if_pos (of_decide_eq_true (HC126.out.symm.trans hq))])
                    go_wp2
                    go_meet
                    exact ⟨by rw [HNv.out], rfl⟩
                  | false =>
                    rw [hq] at e126
                    have HNv := Lib.hid (HAm2.out (of_decide_eq_false (HC126.out.symm.trans hq)))
                    go_wp2
                    go_meet
                    exact ⟨by rw [HNv.out, HZ.out], rfl⟩
                obtain ⟨rfl, rfl⟩ := hcut
                clear e126
                have hwcI : w.heap.size + 1 ≤ wc.heap.size := HSc.out
                have hndI : nd ≤ 100000 := by omega
                have HND2 := Lib.hid hds
                have HOn : Hid (wc.ownsRow (w.heap.size + 1) 46 3 (.slice a5 nd c5) nd (rowG pairE d)) := Lib.hid (by
                  have h2 := HOc.out
                  rw [HND.out] at h2; exact h2)
                go_wp2_with (at_builtin; refine wpList_append_own _ rfl _ _ 30 rfl (w.heap.size + 1) 46 i0 (.agg (pairE (0, 0, 0)).toArray) 3 24 Tryd.underlying30 hi hz0 hz1 hz2 rfl (by decide) _ _ _ rfl (owns_keep HOn.out ((Below.refl _ _).alloc (Nat.le_refl _) _)) ⟨wc.heap.size, 0, none⟩ 1 1 (pairE (k, i, N)) rfl rfl ?a1 ?a2 ?a3 ?a4 ?a5 ?_)
                case a1 =>
                  intro j u hu
                  first
                    | (rw [add_off, Nat.zero_add, World.cell?_alloc_new]; simpa [pairE] using hu)
                    | (simpa [pairE] using hu)
                case a2 => first | exact pairE_one (k, i, N) | (intro u hu; exact pairE_one (k, i, N) u (by simpa using hu))
                case a3 => unfold maxLen; omega
                case a4 => omega
                case a5 => first | (simp; omega) | omega
                intro v' w4 hown' hgrow _
                have hOn2 : OwnG pairE 3 46 wc (w.heap.size + 1) (.slice a5 nd c5) d := by rw [← HND.out]; exact HOc.out
                obtain ⟨ho4, hb4⟩ := OwnG.more (x := (k, i, N)) (Nat.le_succ _) hOn2 HBc.out (by rw [HND.out]; exact hown') hgrow
                have hblk : w4.heap[w.heap.size]? = wc.heap[w.heap.size]? := (hgrow.block w.heap.size (by simp; omega) (fun e => by
                  have := (World.ownsRow.lt HOn.out _ e.symm).1
                  omega)).trans (Below.heap_alloc wc _ w.heap.size (by omega))
                have HF4 := Lib.hid (HFc.out.block hblk)
                have HS4 : Hid (w.heap.size < w4.heap.size) := Lib.hid (by have := hgrow.size; simp at this; omega)
                have HO4 := Lib.hid ho4
                have HB4 := Lib.hid hb4
                obtain ⟨a6, c6, rfl⟩ := owns_form hown'
                have HP2 : Hid (pairs l = (d ++ [(k, i, N)]) ++ goF l i (paired f k i N)) := Lib.hid (by rw [HP.out, HGo.out, List.append_assoc]; rfl)
                have HD2 : Hid ((d ++ [(k, i, N)]).length + sumf (paired f k i N) n ≤ 100000) := Lib.hid (by
                  have h1 := sum_lt (f := f) (g := paired f k i N) n (fun j _ => paired_le f k i N j) ⟨k, hkn, by rw [(HPd.out N).2.1]; omega⟩
                  have h2 := HND2.out
                  rw [List.length_append, HND.out]
                  simp only [List.length_cons, List.length_nil]
                  omega)
                have HL2 : Hid (∀ j, paired f k i N j ≤ caps l j) := Lib.hid (fun j => Nat.le_trans (paired_le f k i N j) (HLe.out j))
                have HNle : Hid (N ≤ f k ∧ N ≤ f i) := Lib.hid ⟨n2, n3⟩
                clear hown' hgrow ho4 hb4 hOn2 hblk HFc HOc HBc HOn dk gk' d0' g0' c0' c2' n1 n2 n3 HP HLe hds
                have dk4 := HF4.out.cell hkn
                have gk4 := HF4.out.fr k
                have b1 : -1073741824 ≤ (f k : Int) - (N : Int) := by omega
                have b2 : (f k : Int) - (N : Int) ≤ 1073741824 := by omega
                have b3 : -1073741824 ≤ (f i : Int) - (N : Int) := by omega
                have b4 : (f i : Int) - (N : Int) ≤ 1073741824 := by omega
                go_upto_region 25 with fail
                go_cut [] (fun wy => LeftAt wy w.heap.size n (upd f k (f k - N)) ∧ OwnG pairE 3 46 wy (w.heap.size + 1) (.slice a6 (nd + 1) c6) (d ++ [(k, i, N)]) ∧ Below w.heap.size w wy ∧ w.heap.size < wy.heap.size)
                case first =>
                  go_wp2
                  go_meet
                  refine ⟨?_, own_set HO4.out _ _, HB4.out.setCell (p := ⟨w.heap.size, k, none⟩) (Nat.le_refl _) _, by have := HS4.out; simpa [World.setCell] using this⟩
                  have := HF4.out.set k (f k - N)
                  rw [show ((f k - N : Nat) : Int) = (f k : Int) - (N : Int) by have := HNle.out.1; omega] at this
                  exact this
                obtain ⟨hf5, ho5, hb5, hs5⟩ := hcut
                have HF5 := Lib.hid hf5
                have HO5 := Lib.hid ho5
                have HB5 := Lib.hid hb5
                have HS5 := Lib.hid hs5
                clear hf5 ho5 hb5 hs5 HF4 HO4 HB4 HS4 dk4 gk4
                have di5 := HF5.out.cell hlt
                rw [show upd f k (f k - N) i = f i by unfold upd; rw [if_neg (by omega)]] at di5
                have gi5 := HF5.out.fr i
                go_upto_region 26 with fail
                go_cut [] (fun wy => LeftAt wy w.heap.size n (upd (upd f k (f k - N)) i (f i - N)) ∧ OwnG pairE 3 46 wy (w.heap.size + 1) (.slice a6 (nd + 1) c6) (d ++ [(k, i, N)]) ∧ Below w.heap.size w wy ∧ w.heap.size < wy.heap.size)
                case first =>
                  go_wp2
                  go_meet
                  refine ⟨?_, own_set HO5.out _ _, HB5.out.setCell (p := ⟨w.heap.size, i, none⟩) (Nat.le_refl _) _, by have := HS5.out; simpa [World.setCell] using this⟩
                  have := HF5.out.set i (f i - N)
                  rw [show ((f i - N : Nat) : Int) = (f i : Int) - (N : Int) by have := HNle.out.2; omega] at this
                  exact this
                obtain ⟨hf6, ho6, hb6, hs6⟩ := hcut
                have HF6 := Lib.hid (hf6.congr (fun x _ => (wipeTo_start (upd (upd f k (f k - N)) i (f i - N)) k x).symm))
                have HO6 := Lib.hid ho6
                have HB6 := Lib.hid hb6
                have HS6 := Lib.hid hs6
                clear hf6 ho6 hb6 hs6 HF5 HO5 HB5 HS5 di5 gi5
                go_wp2_with fail
                go_loopg [9] (i - (k + 1)) (fun G v9 wq => ∃ j : Nat, j + G = i ∧ k < j ∧ v9 = .int .i64 (j : Int) ∧ Hid (LeftAt wq w.heap.size n (wipeTo (upd (upd f k (f k - N)) i (f i - N)) k j)) ∧ Hid (OwnG pairE 3 46 wq (w.heap.size + 1) (.slice a6 (nd + 1) c6) (d ++ [(k, i, N)])) ∧ Hid (Below w.heap.size w wq) ∧ Hid (w.heap.size < wq.heap.size))
                case atStart => exact ⟨k + 1, by omega, by omega, by go_num, HF6, HO6, HB6, HS6⟩
                case round =>
                  obtain ⟨j, hji, hkj, rfl, HF7, HO7, HB7, HS7⟩ := hrel
                  clear HF6 HO6 HB6 HS6
                  by_cases hjl : j < i
                  · have hjl' : (j : Int) < (i : Int) := by omega
                    have hjn : (j : Int) < (n : Int) := by omega
                    have gj7 := HF7.out.fr j
                    have dj7 := HF7.out.cell (show j < n by omega)
                    have HF8 : Hid (LeftAt (wr.setCell ⟨w.heap.size, j, none⟩ (.int .i64 0)) w.heap.size n (wipeTo (upd (upd f k (f k - N)) i (f i - N)) k (j + 1))) := Lib.hid ((HF7.out.set j 0).congr (fun x _ => (wipeTo_next _ hkj x).symm))
                    have HO8 := Lib.hid (own_set HO7.out j (.int .i64 0))
                    have HB8 := Lib.hid (HB7.out.setCell (p := ⟨w.heap.size, j, none⟩) (Nat.le_refl _) (.int .i64 0))
                    have HS8 : Hid (w.heap.size < (wr.setCell ⟨w.heap.size, j, none⟩ (.int .i64 0)).heap.size) := Lib.hid (by have := HS7.out; simpa [World.setCell] using this)
                    go_wp2
                    go_roundg (gk - 1)
                    case rel => exact ⟨j + 1, by omega, by omega, by go_num, HF8, HO8, HB8, HS8⟩
                    case measure => omega
                  · have hjl' : ¬ (j : Int) < (i : Int) := by omega
                    obtain rfl : j = i := by omega
                    have HF9 : Hid (LeftAt wr w.heap.size n (paired f k j N)) := Lib.hid HF7.out
                    go_wp2
                    go_roundg (mu l j (paired f k j N))
                    case rel => exact ⟨j, paired f k j N, d ++ [(k, j, N)], Nat.le_refl _, by omega, rfl, HO7.out, HF9, HB7, HS7, HP2, HD2.out, HL2⟩
                    case measure => omega
        · have hlt' : ¬ (i : Int) < (n : Int) := by omega
          have HX : Hid (pairs l = d) := Lib.hid (by rw [HP.out, goF_end (by rw [HN.out]; omega), List.append_nil])
          go_wp2
          go_ret
          exact ⟨_, rfl, by rw [HX.out, ← HND.out]; exact HO.out, HBq.out⟩
end Dl
end Go.Proofs.YtbdcbeghiglfgaaDoor
