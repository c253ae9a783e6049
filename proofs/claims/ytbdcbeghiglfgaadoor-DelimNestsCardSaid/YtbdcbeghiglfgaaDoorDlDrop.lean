/- Layer 13: the nearest opener is taken away: the program's drop. -/
import Derived.Test.YtbdcbeghiglfgaaDoorDlMM
namespace Go.Proofs.YtbdcbeghiglfgaaDoor
open Go Go.RowKit
namespace Dl
set_option maxRecDepth 100000
set_option linter.unusedVariables false
set_option linter.unusedSimpArgs false

set_option maxHeartbeats 8000000 in
theorem drop_any {w0 : World} {zz : Option (Nat × World)} {L : List Rn} {v : Value} {B ml md : Nat} {pv : Value} {q : Nat} {S : List Opn} {G : UInt8 × Int → Bool → Int → Nat} {P : List Pr} {W : World} {x : Opn}
    (h : MM w0 zz L v B ml md pv q (x :: S) G P W) (hq : q ≤ 100000) :
    Calls Tryd.prog 30 #[ptr B] W fun e w' => e = .returned (.tuple #[]) ∧ MM w0 zz L v B ml md pv q S G P w' := by
  obtain ⟨a, cap, rfl, hlm, hr⟩ := h.cells
  have hxp := h.plc x (by simp)
  have hxn := h.new x (by simp)
  obtain ⟨b, off, rfl, hbl, hcell⟩ := hr.resolve_left (fun e => by subst e; simp at hxp)
  obtain ⟨n, hl, hn⟩ := h.last
  simp only [List.length_cons] at hn
  obtain ⟨o1, ho1⟩ := hd_form S
  obtain ⟨z2, hz2⟩ := hd_R (ofK L S (kn (rn L x.p)))
  obtain ⟨o2, ho2⟩ := hd_form (ofK L S (kn (rn L x.p)))
  have hb1 : Blk (W.setCell ⟨B, 1, none⟩ (hd S)) B (matC (.slice (some ⟨b, off, none⟩) L.length cap) (hd S) ml md pv) 51 := h.blk.set 1 _ rfl
  have hx0 := h.ops.1
  have hx1 : Blk (W.setCell ⟨B, 1, none⟩ (hd S)) x.b (opC x (hd S) (hd (ofK L S (kn (rn L x.p))))) 64 := hx0.other _ hxn.2
  have hb0 := h.blk
  have hOn1 : Only (fun g => g = B ∨ g = ml) W (W.setCell ⟨B, 1, none⟩ (hd S)) := Only.setCell (X := fun g => g = B ∨ g = ml) (Only.refl _ W) (.inl rfl) _
  have HFin := Lib.hid (fun (W' : World) (hb : Blk W' B (matC (.slice (some ⟨b, off, none⟩) L.length cap) (hd S) ml md pv) 51) (hl' : LMap W' ml (n + 1) (fun k => if k = kn (rn L x.p) then hd (ofK L S (kn (rn L x.p))) else hd (ofK L (x :: S) k))) (ho : Only (fun g => g = B ∨ g = ml) W W') => h.dropped hb hl' (by omega) ho)
  have hml : ml ≠ B := fun e => h.ne_ml e.symm
  have hxm : x.b ≠ ml := h.op_ml (by simp)
  have hlml := hl.lt
  have hbB := h.hB
  have hbm := h.hl
  have hwf := h.wf x.p hxp
  have hbel : Below w0.heap.size w0 (W.setCell ⟨B, 1, none⟩ (hd S)) := h.below.setCell hbB _
  -- the world behind the store
  have HPut : Hid (∀ w5, Below (W.setCell ⟨B, 1, none⟩ (hd S)).heap.size (W.setCell ⟨B, 1, none⟩ (hd S)) w5 → ∃ w6, (Instr.mapUpdate 47 (.map (some ml)) (kindV (kn (rn L x.p))) (hd (ofK L S (kn (rn L x.p))))).run Tryd.prog w5 = .ok () w6 ∧ Only (fun g => g = ml) w5 w6 ∧ MM w0 zz L (.slice (some ⟨b, off, none⟩) L.length cap) B ml md pv q S G P w6) := Lib.hid (by
    intro w5 hb5
    have ho5 : Only (fun g => g = B ∨ g = ml) W w5 := hOn1.then_below hb5
    have hl1 : LMap (W.setCell ⟨B, 1, none⟩ (hd S)) ml n _ := hl.only (X := fun g => g = B) ((Only.refl _ W).setCell (X := fun g => g = B) rfl _) hml
    obtain ⟨w6, hrun, hl6, ho6⟩ := (hl1.below hb5).put hwf (by omega) (z := (z2, [])) hz2
    exact ⟨w6, hrun, ho6, HFin.out w6 ((hb1.below hb5).only ho6 (fun e => hml e.symm)) hl6 (ho5.trans' (ho6.mono fun _ e => .inr e))⟩)
  have HS : Hid (∀ w5 w6 X, Below (W.setCell ⟨B, 1, none⟩ (hd S)).heap.size (W.setCell ⟨B, 1, none⟩ (hd S)) w5 → Only X w5 w6 → (∀ k, X k → k = ml) → w6.cell? ⟨B, 0, none⟩ = some (.slice (some ⟨b, off, none⟩) L.length cap) ∧ w6.cell? ⟨B, 2, none⟩ = some (.map (some ml)) ∧ w6.cell? ⟨x.b, 0, none⟩ = some (.int .i64 (x.p : Int)) ∧ w6.cell? ⟨x.b, 3, none⟩ = some (hd (ofK L S (kn (rn L x.p)))) ∧ w6.cell? ⟨b, off + x.p * 4, none⟩ = some (.int .u8 ((rn L x.p).c.toNat : Int)) ∧ w6.cell? ⟨b, off + x.p * 4 + 1, none⟩ = some (.int .i64 (rn L x.p).n) ∧ w6.cell? ⟨b, off + x.p * 4 + 2, none⟩ = some (.bool (rn L x.p).o) ∧ w6.cell? ⟨b, off + x.p * 4 + 3, none⟩ = some (.bool (rn L x.p).k)) := Lib.hid (by
    intro w5 w6 X hb5 ho6 hX
    have e1 : Blk w6 B _ _ := (hb1.below hb5).only ho6 (fun e => hml (hX _ e).symm)
    have e2 : Blk w6 x.b _ _ := (hx1.below hb5).only ho6 (fun e => hxm (hX _ e))
    have e3 := run_cells (hcell x.p hxp w6 ((hbel.trans (hb5.mono hbel.size)).trans (ho6.below (Nat.le_trans hbel.size hb5.size) (fun k hk => by have := hX k hk; subst this; exact hbm))))
    exact ⟨e1.cell 0 rfl, e1.cell 2 rfl, e2.cell 0 rfl, e2.cell 3 rfl, e3⟩)
  have HK := Lib.hid (fun W => kindOf_any (rn L x.p) W)
  have c1 : W.cell? ⟨B, 1, none⟩ = some (ptr x.b) := hb0.cell 1 rfl
  have z1 : W.frozen? ⟨B, 1, none⟩ = false := hb0.fr 1
  have c2 : W.cell? ⟨x.b, 2, none⟩ = some (hd S) := hx0.cell 2 rfl
  have hlt : (x.p : Int) < (L.length : Int) := by omega
  have hlb : (L.length : Int) ≤ 9223372036854775807 := by unfold maxLen at hlm; omega
  unfold runE at HK
  unfold ptr at c1
  rw [ho1] at c2 HPut HS
  rw [ho2] at HPut HS
  generalize kindV (kn (rn L x.p)) = KV at *
  generalize (rn L x.p).c.toNat = mc at *
  generalize (rn L x.p).n = mn at *
  generalize (rn L x.p).o = mo at *
  generalize (rn L x.p).k = mk at *
  generalize L.length = N at *
  obtain ⟨xb, xp, xl⟩ := x
  simp only at *
  clear h hr hcell hl hn hz2 hb1 hx0 hx1 hb0 hOn1 HFin hlml hwf hbel hlm ho1 ho2 hbl hbB hbm
  unfold ptr
  go_enter Tryd.func30, Tryd.ntmps30
  go_upto_region 2 with fail
  generalize hW1 : W.setCell ⟨B, 1, none⟩ (.pointer o1) = W1 at *
  clear c1 z1 c2
  go_region_held3 (fun W => W.cell? ⟨B, 0, none⟩ = some (.slice (some ⟨b, off, none⟩) N cap) ∧ W.cell? ⟨B, 2, none⟩ = some (.map (some ml)) ∧ W.cell? ⟨xb, 0, none⟩ = some (.int .i64 (xp : Int)) ∧ W.cell? ⟨xb, 3, none⟩ = some (.pointer o2) ∧ W.cell? ⟨b, off + xp * 4, none⟩ = some (.int .u8 (mc : Int)) ∧ W.cell? ⟨b, off + xp * 4 + 1, none⟩ = some (.int .i64 mn) ∧ W.cell? ⟨b, off + xp * 4 + 2, none⟩ = some (.bool mo) ∧ W.cell? ⟨b, off + xp * 4 + 3, none⟩ = some (.bool mk))
    (first | exact HS.out _ _ (fun _ => False) (Below.refl _ _).drew (Only.refl _ _) (fun k hk => hk.elim) | exact HS.out _ _ (fun _ => False) hb5 (Only.refl _ _) (fun k hk => hk.elim) | exact HS.out _ _ _ hb5 ho6 (fun _ e => e))
    ((go_at_call 32; refine (HK.out _).mono ?_; rintro e w5 ⟨rfl, hb4⟩; have hb5 := below_later (Below.refl W1.heap.size W1).drew hb4; obtain ⟨w6, hrun6, ho6, hM6⟩ := HPut.out w5 hb5))
  all_goals
    go_wp2
    refine bodyPost_end (results_none rfl _ _ _) rfl ?_
    exact ⟨rfl, hM6⟩
end Dl
end Go.Proofs.YtbdcbeghiglfgaaDoor
