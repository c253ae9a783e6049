/- Layer 13: the program's find: the nearest opener that fits, in the row of its kind, down to where nothing is to be looked for again. -/
import Derived.Test.YtbdcbeghiglfgaaDoorDlMM
import Derived.Deep.RegionLaw
namespace Go.Proofs.YtbdcbeghiglfgaaDoor
open Go Go.RowKit
namespace Dl
set_option maxRecDepth 100000
set_option linter.unusedVariables false
set_option linter.unusedSimpArgs false

theorem MM.stopped {w0 : World} {zz : Option (Nat × World)} {L : List Rn} {v : Value} {B ml md : Nat} {pv : Value} {q n : Nat} {S : List Opn} {G G' : UInt8 × Int → Bool → Int → Nat} {P : List Pr} {W W' : World}
    (h : MM w0 zz L v B ml md pv q S G P W) (hd : DMap W' md n G') (hn : n ≤ q + 1) (ho : Only (fun g => g = md) W W') : MM w0 zz L v B ml md pv (q + 1) S G' P W' := by
  obtain ⟨n1, h1, h2⟩ := h.last
  refine ⟨h.runs, h.ok, h.below.trans (ho.below h.below.size (fun k hk => by rw [hk]; exact h.hm)), h.hB, h.hl, h.hm, h.lm, h.blk.only ho h.ne_md, ⟨n1, h1.only ho h.lm, by omega⟩, ⟨n, hd, hn⟩, owns_only h.own ho (fun k hk e => h.p_md (e ▸ hk)), h.pB, h.pS, h.ops.only ho (fun x hx => h.op_md hx), h.sep, h.new, h.plc, fun z wz e => (h.frn z wz e).only ho (h.frn z wz e).nm (h.frn z wz e).nS (h.frn z wz e).np⟩

set_option maxHeartbeats 16000000 in
theorem find_any {w0 : World} {zz : Option (Nat × World)} {L : List Rn} {v : Value} {B ml md : Nat} {pv : Value} {q : Nat} {S : List Opn} {G : UInt8 × Int → Bool → Int → Nat} {P : List Pr} {W : World} {i : Nat}
    (h : MM w0 zz L v B ml md pv q S G P W) (hi : i < L.length) (hi9 : i < 100000) (hq : q ≤ 100000) (hn1 : 1 ≤ (rn L i).n ∧ (rn L i).n ≤ 1073741824) (hcap : ∀ x ∈ S, 1 ≤ (rn L x.p).n ∧ (rn L x.p).n ≤ 1073741824) (hdesc : S.Pairwise (fun x y => y.p < x.p)) (hD : Dn L S i G) :
    Calls Tryd.prog 29 #[ptr B, .int .i64 (i : Int)] W fun e w' =>
      (∃ x, fnd L S i = some x ∧ e = .returned (ptr x.b) ∧ MM w0 zz L v B ml md pv q S G P w') ∨
      (fnd L S i = none ∧ e = .returned (.pointer none) ∧ MM w0 zz L v B ml md pv (q + 1) S (putG G (kn (rn L i)) (rn L i).o ((rn L i).n % 3) i) P w') := by
  obtain ⟨a, cap, rfl, hlm, hr⟩ := h.cells
  obtain ⟨b, off, rfl, hbl, hcell⟩ := hr.resolve_left (fun e => by subst e; simp at hi)
  have hwf := h.wf i hi
  have hwr : wfI ((rn L i).n % 3) := wfI_of (by omega)
  have HMM := Lib.hid h
  have HK := Lib.hid (fun W => kindOf_any (rn L i) W)
  obtain ⟨c0, c1, c2, c3⟩ := run_cells (hcell i hi W h.below)
  have b0 : W.cell? ⟨B, 0, none⟩ = some (.slice (some ⟨b, off, none⟩) L.length cap) := h.blk.cell 0 rfl
  have hlt : (i : Int) < (L.length : Int) := by omega
  have hlb : (L.length : Int) ≤ 9223372036854775807 := by unfold maxLen at hlm; omega
  have hmod : Int.tmod (rn L i).n 3 = (rn L i).n % 3 := Int.tmod_eq_emod_of_nonneg (by omega)
  have HBox : Hid (∀ (W1 W' : World), W1 = W.alloc (.cells (runE (rn L i)).toArray 28) → Below W1.heap.size W1 W' → W'.cell? ⟨W.heap.size, 0, none⟩ = some (.int .u8 ((rn L i).c.toNat : Int)) ∧ W'.cell? ⟨W.heap.size, 1, none⟩ = some (.int .i64 (rn L i).n) ∧ W'.cell? ⟨W.heap.size, 2, none⟩ = some (.bool (rn L i).o) ∧ W'.cell? ⟨W.heap.size, 3, none⟩ = some (.bool (rn L i).k)) := Lib.hid (by
    intro W1 W' e hb
    subst e
    have := run_cells ((one_box W (rn L i) 28).keep hb)
    simpa only [Nat.zero_add] using this)
  have HLike : Hid (∀ W1, Below W.heap.size W W1 → ∀ A R x, ofK L S (kn (rn L i)) = A ++ x :: R → ∃ a, Blk W1 x.b (opC x a (hd R)) 64) := Lib.hid (fun W1 hb A R x e => (h.below' hb).ops.like e)
  have HB1 : Hid (∀ W1, Below W.heap.size W W1 → MM w0 zz L (.slice (some ⟨b, off, none⟩) L.length cap) B ml md pv q S G P W1 ∧ W1.cell? ⟨B, 0, none⟩ = some (.slice (some ⟨b, off, none⟩) L.length cap) ∧ W1.cell? ⟨B, 2, none⟩ = some (.map (some ml)) ∧ W1.cell? ⟨B, 3, none⟩ = some (.map (some md)) ∧
      (Instr.lookup 47 (.map (some ml)) (kindV (kn (rn L i))) false).run Tryd.prog W1 = .ok (hd (ofK L S (kn (rn L i)))) W1 ∧
      (Instr.lookup 48 (.map (some md)) (searchV (kn (rn L i)) (rn L i).o ((rn L i).n % 3)) false).run Tryd.prog W1 = .ok (.int .i64 (G (kn (rn L i)) (rn L i).o ((rn L i).n % 3) : Int)) W1 ∧
      ∃ w6, (Instr.mapUpdate 48 (.map (some md)) (searchV (kn (rn L i)) (rn L i).o ((rn L i).n % 3)) (.int .i64 (i : Int))).run Tryd.prog W1 = .ok () w6 ∧ MM w0 zz L (.slice (some ⟨b, off, none⟩) L.length cap) B ml md pv (q + 1) S (putG G (kn (rn L i)) (rn L i).o ((rn L i).n % 3) i) P w6) := Lib.hid (by
    intro W1 hb
    have hM := h.below' hb
    obtain ⟨n1, h1, _⟩ := hM.last
    obtain ⟨n2, h2, h3⟩ := hM.done
    obtain ⟨w6, hrun, hd6, ho6⟩ := h2.put (o := (rn L i).o) hwf hwr (by omega) (i := i) (by omega)
    exact ⟨hM, hM.blk.cell 0 rfl, hM.blk.cell 2 rfl, hM.blk.cell 3 rfl, h1.look hwf, h2.look _ hwf hwr, w6, hrun, hM.stopped hd6 (by omega) ho6⟩)
  have HRun : Hid (∀ W1 p, p < L.length → Below W.heap.size W W1 → W1.cell? ⟨b, off + p * 4, none⟩ = some (.int .u8 ((rn L p).c.toNat : Int)) ∧ W1.cell? ⟨b, off + p * 4 + 1, none⟩ = some (.int .i64 (rn L p).n) ∧ W1.cell? ⟨b, off + p * 4 + 2, none⟩ = some (.bool (rn L p).o) ∧ W1.cell? ⟨b, off + p * 4 + 3, none⟩ = some (.bool (rn L p).k)) := Lib.hid (fun W1 p hp hb => run_cells (hcell p hp W1 (h.below.trans (hb.mono h.below.size))))
  have HG : Hid (G (kn (rn L i)) (rn L i).o ((rn L i).n % 3) ≤ i) := Lib.hid (hD _ _ _).1
  have HStop : Hid (∀ A R, ofK L S (kn (rn L i)) = A ++ R → (∀ a ∈ A, fitsP (rn L a.p) (rn L i) = false) → (∀ x R', R = x :: R' → x.p < G (kn (rn L i)) (rn L i).o ((rn L i).n % 3)) → fnd L S i = none) := Lib.hid (fun A R e hA hR => hD.stop hdesc e hA hR)
  have HHere : Hid (∀ A R x, ofK L S (kn (rn L i)) = A ++ x :: R → (∀ a ∈ A, fitsP (rn L a.p) (rn L i) = false) → fitsP (rn L x.p) (rn L i) = true → fnd L S i = some x) := Lib.hid (fun A R x e hA hx => fnd_here e hA hx)
  have HFit : Hid (∀ W1 p, 1 ≤ (rn L p).n ∧ (rn L p).n ≤ 1073741824 → Calls Tryd.prog 34 #[.agg (runE (rn L p)).toArray, .agg (runE (rn L i)).toArray] W1 fun e w' => e = .returned (.bool (fitsP (rn L p) (rn L i))) ∧ Below W1.heap.size W1 w') := Lib.hid (fun W1 p hp => fits_any (rn L p) (rn L i) W1 hp hn1)
  have HCap : Hid (∀ A R x, ofK L S (kn (rn L i)) = A ++ x :: R → (1 ≤ (rn L x.p).n ∧ (rn L x.p).n ≤ 1073741824) ∧ x.p < L.length ∧ x ∈ S) := Lib.hid (fun A R x e => by
    have hm := (mem_ofK.1 (show x ∈ ofK L S (kn (rn L i)) by rw [e]; simp)).1
    exact ⟨hcap x hm, h.plc x hm, hm⟩)
  obtain ⟨o2, ho2⟩ := hd_form (ofK L S (kn (rn L i)))
  have HO2 := Lib.hid ho2
  unfold kindV at HK HB1
  unfold searchV at HB1
  obtain ⟨KO, hKO⟩ : ∃ l, ofK L S (kn (rn L i)) = l := ⟨_, rfl⟩
  rw [hKO] at HStop HHere HB1 HCap HLike ho2 HO2
  have HKO := Lib.hid hKO
  rw [ho2] at HB1
  generalize hgd : G (kn (rn L i)) (rn L i).o ((rn L i).n % 3) = gd at *
  generalize hpg : putG G (kn (rn L i)) (rn L i).o ((rn L i).n % 3) i = G' at *
  generalize hkn : kn (rn L i) = kni at *
  obtain ⟨kc', kk⟩ := kni
  simp only at HK HB1
  generalize hkc : kc'.toNat = kc at *
  generalize (rn L i).n % 3 = rr at *
  clear h hr hcell hlm hbl ho2 hKO hgd hpg hkn hkc hD hdesc hcap hwf hwr
  have HX : Hid (runE (rn L i) = [.int .u8 ((rn L i).c.toNat : Int), .int .i64 (rn L i).n, .bool (rn L i).o, .bool (rn L i).k]) := Lib.hid rfl
  unfold runE at HK HFit HBox
  generalize (rn L i).c.toNat = mc at *
  generalize (rn L i).n = mn at *
  generalize (rn L i).o = mo at *
  generalize (rn L i).k = mk at *
  unfold ptr at *
  go_enter Tryd.func29, Tryd.ntmps29
  go_upto_region 2 with fail
  clear c0 c1 c2 c3 b0
  have hbW : Below W.heap.size W (W.alloc (.cells #[.int .u8 (mc : Int), .int .i64 mn, .bool mo, .bool mk] 28)) := (Below.refl _ W).alloc (Nat.le_refl _) _
  have HS : Hid (∀ W', Below (W.alloc (.cells #[.int .u8 (mc : Int), .int .i64 mn, .bool mo, .bool mk] 28)).heap.size (W.alloc (.cells #[.int .u8 (mc : Int), .int .i64 mn, .bool mo, .bool mk] 28)) W' → W'.cell? ⟨W.heap.size, 0, none⟩ = some (.int .u8 (mc : Int)) ∧ W'.cell? ⟨W.heap.size, 1, none⟩ = some (.int .i64 mn) ∧ W'.cell? ⟨W.heap.size, 2, none⟩ = some (.bool mo) ∧ W'.cell? ⟨W.heap.size, 3, none⟩ = some (.bool mk)) := Lib.hid (fun W' hb => HBox.out _ W' rfl hb)
  have HBW := Lib.hid hbW
  clear hbW HBox
  generalize hW1 : W.alloc (.cells #[.int .u8 (mc : Int), .int .i64 mn, .bool mo, .bool mk] 28) = W1 at *
  clear hW1
  obtain ⟨t0, t1, t2, t3⟩ := HS.out W1 (Below.refl _ _)
  obtain ⟨t4, t5, t6, t7⟩ := HS.out (W1.alloc (.cells #[.int .u8 0, .int .i64 0, .bool false, .int .i64 0] 72)) ((Below.refl W1.heap.size W1).alloc (Nat.le_refl _) _)
  have HKa : Hid (Calls Tryd.prog 32 #[.agg #[.int .u8 (mc : Int), .int .i64 mn, .bool mo, .bool mk]] W1.drew fun e w5 => e = .returned (.agg #[.int .u8 (kc : Int), .int .i64 kk]) ∧ Below W1.heap.size W1 w5 ∧
      (w5.cell? ⟨W.heap.size, 0, none⟩ = some (.int .u8 (mc : Int)) ∧ w5.cell? ⟨W.heap.size, 1, none⟩ = some (.int .i64 mn) ∧ w5.cell? ⟨W.heap.size, 2, none⟩ = some (.bool mo) ∧ w5.cell? ⟨W.heap.size, 3, none⟩ = some (.bool mk)) ∧ ((w5.alloc (.cells #[.int .u8 0, .int .i64 0, .bool false, .int .i64 0] 72)).cell? ⟨W.heap.size, 0, none⟩ = some (.int .u8 (mc : Int)) ∧ (w5.alloc (.cells #[.int .u8 0, .int .i64 0, .bool false, .int .i64 0] 72)).cell? ⟨W.heap.size, 1, none⟩ = some (.int .i64 mn) ∧ (w5.alloc (.cells #[.int .u8 0, .int .i64 0, .bool false, .int .i64 0] 72)).cell? ⟨W.heap.size, 2, none⟩ = some (.bool mo) ∧ (w5.alloc (.cells #[.int .u8 0, .int .i64 0, .bool false, .int .i64 0] 72)).cell? ⟨W.heap.size, 3, none⟩ = some (.bool mk))) := Lib.hid ((HK.out W1.drew).mono (by
    rintro e w5 ⟨rfl, hb⟩
    have hb5 := below_later (Below.refl W1.heap.size W1).drew hb
    exact ⟨rfl, hb5, HS.out _ hb5, HS.out _ (Below.alloc hb5 (Below.size hb5) _)⟩))
  have HKb : Hid (∀ w3, w3 = (W1.drew.alloc (.cells #[.int .u8 0, .int .i64 0, .bool false, .int .i64 0] 72)) → Calls Tryd.prog 32 #[.agg #[.int .u8 (mc : Int), .int .i64 mn, .bool mo, .bool mk]] w3 fun e w5 => e = .returned (.agg #[.int .u8 (kc : Int), .int .i64 kk]) ∧ Below W1.heap.size W1 w5 ∧ Blk w5 W1.heap.size #[.int .u8 0, .int .i64 0, .bool false, .int .i64 0] 72 ∧
      (w5.cell? ⟨W.heap.size, 0, none⟩ = some (.int .u8 (mc : Int)) ∧ w5.cell? ⟨W.heap.size, 1, none⟩ = some (.int .i64 mn) ∧ w5.cell? ⟨W.heap.size, 2, none⟩ = some (.bool mo) ∧ w5.cell? ⟨W.heap.size, 3, none⟩ = some (.bool mk)) ∧
      w5.cell? ⟨W1.heap.size, 0, none⟩ = some (.int .u8 0) ∧ w5.cell? ⟨W1.heap.size, 1, none⟩ = some (.int .i64 0) ∧ w5.cell? ⟨W1.heap.size, 2, none⟩ = some (.bool false) ∧ w5.cell? ⟨W1.heap.size, 3, none⟩ = some (.int .i64 0) ∧
      w5.frozen? ⟨W1.heap.size, 0, none⟩ = false ∧ w5.frozen? ⟨W1.heap.size, 1, none⟩ = false ∧ w5.frozen? ⟨W1.heap.size, 2, none⟩ = false ∧ w5.frozen? ⟨W1.heap.size, 3, none⟩ = false) := Lib.hid (fun w3 e3 => (HK.out w3).mono (by
    rintro e w5 ⟨rfl, hb⟩
    subst e3
    have h := (Blk.new W1.drew #[.int .u8 0, .int .i64 0, .bool false, .int .i64 0] 72).below hb
    have hb5 := below_later (Below.alloc (Below.drew (Below.refl W1.heap.size W1)) (Nat.le_refl _) _) hb
    exact ⟨rfl, hb5, h, HS.out _ hb5, h.cell 0 rfl, h.cell 1 rfl, h.cell 2 rfl, h.cell 3 rfl, h.fr 0, h.fr 1, h.fr 2, h.fr 3⟩))
  clear t4 t5 t6 t7
  have HSet : Hid (∀ w5, Below W1.heap.size W1 w5 → Below W1.heap.size W1 ((((w5.setCell ⟨W1.heap.size, 0, none⟩ (.int .u8 (kc : Int))).setCell ⟨W1.heap.size, 1, none⟩ (.int .i64 kk)).setCell ⟨W1.heap.size, 2, none⟩ (.bool mo)).setCell ⟨W1.heap.size, 3, none⟩ (.int .i64 rr))) := Lib.hid (fun w5 hb =>
    (((hb.setCell (p := ⟨W1.heap.size, 0, none⟩) (Nat.le_refl _) _).setCell (p := ⟨W1.heap.size, 1, none⟩) (Nat.le_refl _) _).setCell (p := ⟨W1.heap.size, 2, none⟩) (Nat.le_refl _) _).setCell (p := ⟨W1.heap.size, 3, none⟩) (Nat.le_refl _) _)
  have HCut : Hid (∀ (Y : Nat) (w5 : World), Below W1.heap.size W1 w5 → Blk w5 Y #[.int .u8 (kc : Int), .int .i64 kk, .bool mo, .int .i64 rr] 72 → Below W.heap.size W w5 ∧ (w5.cell? ⟨W.heap.size, 0, none⟩ = some (.int .u8 (mc : Int)) ∧ w5.cell? ⟨W.heap.size, 1, none⟩ = some (.int .i64 mn) ∧ w5.cell? ⟨W.heap.size, 2, none⟩ = some (.bool mo) ∧ w5.cell? ⟨W.heap.size, 3, none⟩ = some (.bool mk)) ∧ Blk w5 Y #[.int .u8 (kc : Int), .int .i64 kk, .bool mo, .int .i64 rr] 72) := Lib.hid (fun Y w5 hb h => ⟨below_later HBW.out hb, HS.out _ hb, h⟩)
  go_cut [6] from 16 to 23 (fun v6 wx => ∃ Y, v6 = .pointer (some ⟨Y, 0, none⟩) ∧ Below W.heap.size W wx ∧ (wx.cell? ⟨W.heap.size, 0, none⟩ = some (.int .u8 (mc : Int)) ∧ wx.cell? ⟨W.heap.size, 1, none⟩ = some (.int .i64 mn) ∧ wx.cell? ⟨W.heap.size, 2, none⟩ = some (.bool mo) ∧ wx.cell? ⟨W.heap.size, 3, none⟩ = some (.bool mk)) ∧ Blk wx Y #[.int .u8 (kc : Int), .int .i64 kk, .bool mo, .int .i64 rr] 72)
  case first =>
    go_region_held3 (fun W' => W'.cell? ⟨W.heap.size, 0, none⟩ = some (.int .u8 (mc : Int)) ∧ W'.cell? ⟨W.heap.size, 1, none⟩ = some (.int .i64 mn) ∧ W'.cell? ⟨W.heap.size, 2, none⟩ = some (.bool mo) ∧ W'.cell? ⟨W.heap.size, 3, none⟩ = some (.bool mk))
      (first | exact HS.out _ (Below.refl _ _).drew | exact HS.out _ hb5 | exact HS.out _ (Below.alloc hb5 (Below.size hb5) _) | exact HS.out _ (Below.alloc (Below.drew (Below.refl _ _)) (Nat.le_refl _) _) | exact HS.out _ hb6)
      (first
      | (go_at_call 32; with_reducible refine HKa.out.mono ?_; rintro e w5 ⟨rfl, hb5, ⟨s0, s1, s2, s3⟩, s4, s5, s6, s7⟩)
      | (go_at_call 32; refine (HKb.out _ rfl).mono ?_; rintro e w5 ⟨rfl, hb5, hY5, ⟨s0, s1, s2, s3⟩, y0, y1, y2, y3, y4, y5, y6, y7⟩; have hb6 := HSet.out w5 hb5))

    all_goals
      go_wp2
      go_meet
      first
        | exact ⟨_, rfl, HCut.out _ _ hb6 (((((hY5.set (cs' := #[.int .u8 (kc : Int), .int .i64 0, .bool false, .int .i64 0]) 0 _ rfl).set (cs' := #[.int .u8 (kc : Int), .int .i64 kk, .bool false, .int .i64 0]) 1 _ rfl).set (cs' := #[.int .u8 (kc : Int), .int .i64 kk, .bool mo, .int .i64 0]) 2 _ rfl)).set 3 _ rfl)⟩
        | exact ⟨_, rfl, HCut.out _ _ (Below.alloc hb5 (Below.size hb5) _) (Blk.new _ _ _)⟩
  obtain ⟨Y, rfl, hbc, ⟨x0, x1, x2, x3⟩, hY⟩ := hcut
  have y0 := hY.cell 0 rfl
  have y1 := hY.cell 1 rfl
  have y2 := hY.cell 2 rfl
  have y3 := hY.cell 3 rfl
  obtain ⟨_, b0, b2, b3, _, lk2, _⟩ := HB1.out wc.drew hbc.drew
  obtain ⟨_, _, _, _, lk1, _, _⟩ := HB1.out wc.drew.drew hbc.drew.drew
  have HBC := Lib.hid hbc
  clear hbc
  go_wp2_with fail
  go_region
  go_wp2_with fail
  go_region
  have HXs : Hid (∀ W', Below wc.heap.size wc W' → (W'.cell? ⟨W.heap.size, 0, none⟩ = some (.int .u8 (mc : Int)) ∧ W'.cell? ⟨W.heap.size, 1, none⟩ = some (.int .i64 mn) ∧ W'.cell? ⟨W.heap.size, 2, none⟩ = some (.bool mo) ∧ W'.cell? ⟨W.heap.size, 3, none⟩ = some (.bool mk)) ∧ Blk W' Y #[.int .u8 (kc : Int), .int .i64 kk, .bool mo, .int .i64 rr] 72) := Lib.hid (fun W' hb => ⟨⟨keep_cell hb x0, keep_cell hb x1, keep_cell hb x2, keep_cell hb x3⟩, hY.below hb⟩)
  clear x0 x1 x2 x3 hY y0 y1 y2 y3 b0 b2 b3 lk1 lk2
  have HB0 := Lib.hid ((Below.refl wc.heap.size wc).drew.drew)
  go_wp2_with fail
  go_loopg [8] KO.length (fun G s8 wr => ∃ A R : List Opn, KO = A ++ R ∧ R.length = G ∧ s8 = hd R ∧ Hid (∀ a ∈ A, fitsP (rn L a.p) (rn L i) = false) ∧ Hid (Below wc.heap.size wc wr))
  case atStart => exact ⟨[], KO, rfl, rfl, HO2.out.symm, Lib.hid (fun a ha => by cases ha), HB0⟩
  case round =>
    obtain ⟨A, R, hKA, hRl, rfl, HA, HBr⟩ := hrel
    obtain ⟨⟨x0, x1, x2, x3⟩, hY⟩ := HXs.out wr HBr.out
    have y0 := hY.cell 0 rfl
    have y1 := hY.cell 1 rfl
    have y2 := hY.cell 2 rfl
    have y3 := hY.cell 3 rfl
    have HBw := Lib.hid (below_later HBC.out HBr.out)
    obtain ⟨_, b0, b2, b3, _, _, w6, hrun6, hM6⟩ := HB1.out wr.drew HBw.out.drew
    cases R with
    | nil =>
      have HN : Hid (fnd L S i = none) := Lib.hid (HStop.out A [] hKA HA.out (fun x R' e => by cases e))
      unfold hd
      clear hKA HA
      go_wp2_with fail
      go_region
      go_wp2
      go_ret
      exact .inr ⟨HN.out, rfl, hM6⟩
    | cons x R =>
      obtain ⟨hxc, hxp, hxS⟩ := HCap.out A R x hKA
      obtain ⟨oa, hxb⟩ := HLike.out wr HBw.out A R x hKA
      have p0 : wr.cell? ⟨x.b, 0, none⟩ = some (.int .i64 (x.p : Int)) := hxb.cell 0 rfl
      by_cases hgd : gd ≤ x.p
      case neg =>
        have hge : ¬ (gd : Int) ≤ (x.p : Int) := by omega
        have HN : Hid (fnd L S i = none) := Lib.hid (HStop.out A (x :: R) hKA HA.out (fun y R' e => by injection e with e1 e2; subst e1; omega))
        unfold hd ptr
        clear hKA HA hxb hxc
        go_wp2_with fail
        go_region
        go_wp2
        go_ret
        exact .inr ⟨HN.out, rfl, hM6⟩
      have hge : (gd : Int) ≤ (x.p : Int) := by omega
      have hlx : (x.p : Int) < (L.length : Int) := by omega
      obtain ⟨or', hor⟩ := hd_form R
      have HOr := Lib.hid hor
      have HR := HRun.out
      have HSS : Hid (∀ W', Below wr.heap.size wr W' → W'.cell? ⟨B, 0, none⟩ = some (.slice (some ⟨b, off, none⟩) L.length cap) ∧ W'.cell? ⟨x.b, 0, none⟩ = some (.int .i64 (x.p : Int)) ∧ (W'.cell? ⟨W.heap.size, 0, none⟩ = some (.int .u8 (mc : Int)) ∧ W'.cell? ⟨W.heap.size, 1, none⟩ = some (.int .i64 mn) ∧ W'.cell? ⟨W.heap.size, 2, none⟩ = some (.bool mo) ∧ W'.cell? ⟨W.heap.size, 3, none⟩ = some (.bool mk)) ∧
          W'.cell? ⟨b, off + x.p * 4, none⟩ = some (.int .u8 ((rn L x.p).c.toNat : Int)) ∧ W'.cell? ⟨b, off + x.p * 4 + 1, none⟩ = some (.int .i64 (rn L x.p).n) ∧ W'.cell? ⟨b, off + x.p * 4 + 2, none⟩ = some (.bool (rn L x.p).o) ∧ W'.cell? ⟨b, off + x.p * 4 + 3, none⟩ = some (.bool (rn L x.p).k)) := Lib.hid (fun W' hb =>
        ⟨(HB1.out W' (below_later HBw.out hb)).2.1, (hxb.below hb).cell 0 rfl, (HXs.out W' (below_later HBr.out hb)).1, HRun.out W' x.p hxp (below_later HBw.out hb)⟩)
      have HP3 : Hid (∀ W', Below wr.heap.size wr W' → W'.cell? ⟨x.b, 3, none⟩ = some (.pointer or')) := Lib.hid (fun W' hb => by have := (hxb.below hb).cell 3 rfl; rw [← hor]; exact this)
      have HFt := Lib.hid (HFit.out · x.p hxc)
      have HHe : Hid (fitsP (rn L x.p) (rn L i) = true → fnd L S i = some x) := Lib.hid (HHere.out A R x hKA HA.out)
      have HNx : Hid (fitsP (rn L x.p) (rn L i) = false → KO = (A ++ [x]) ++ R ∧ ∀ a ∈ A ++ [x], fitsP (rn L a.p) (rn L i) = false) := Lib.hid (fun hf => ⟨by rw [hKA]; simp, fun a ha => by
        rcases List.mem_append.1 ha with ha | ha
        · exact HA.out a ha
        · rw [List.mem_singleton] at ha; subst ha; exact hf⟩)
      have hRl' : R.length + 1 = gk := by simpa using hRl
      have HMr := Lib.hid (fun W' (hb : Below wr.heap.size wr W') => (HB1.out W' (below_later HBw.out hb)).1)
      clear hKA HA hxb hxc hrun6 hM6 HR hor b0 b2 b3 y0 y1 y2 y3 hY x0 x1 x2 x3 hRl
      unfold runE at HFt
      generalize (rn L x.p).c.toNat = pc at *
      generalize (rn L x.p).n = pn at *
      generalize (rn L x.p).o = po at *
      generalize (rn L x.p).k = pk at *
      generalize fitsP (rn L x.p) (rn L i) = t at *
      rw [show hd (x :: R) = Value.pointer (some ⟨x.b, 0, none⟩) from rfl]
      have HEx : Hid (ptr x.b = .pointer (some ⟨x.b, 0, none⟩)) := Lib.hid rfl
      obtain ⟨xb, hxbE⟩ : ∃ k, x.b = k := ⟨_, rfl⟩
      obtain ⟨xp, hxpE⟩ : ∃ k, x.p = k := ⟨_, rfl⟩
      rw [hxbE] at HSS HP3 p0 HEx
      rw [hxpE] at HSS p0 hge hlx
      rw [hxbE]
      go_wp2_with fail
      cases t with
      | true =>
        have HH2 := Lib.hid (HHe.out rfl)
        clear HHe HNx
        go_region_held3 (fun W' => W'.cell? ⟨B, 0, none⟩ = some (.slice (some ⟨b, off, none⟩) L.length cap) ∧ W'.cell? ⟨xb, 0, none⟩ = some (.int .i64 (xp : Int)) ∧ (W'.cell? ⟨W.heap.size, 0, none⟩ = some (.int .u8 (mc : Int)) ∧ W'.cell? ⟨W.heap.size, 1, none⟩ = some (.int .i64 mn) ∧ W'.cell? ⟨W.heap.size, 2, none⟩ = some (.bool mo) ∧ W'.cell? ⟨W.heap.size, 3, none⟩ = some (.bool mk)) ∧
            W'.cell? ⟨b, off + xp * 4, none⟩ = some (.int .u8 (pc : Int)) ∧ W'.cell? ⟨b, off + xp * 4 + 1, none⟩ = some (.int .i64 pn) ∧ W'.cell? ⟨b, off + xp * 4 + 2, none⟩ = some (.bool po) ∧ W'.cell? ⟨b, off + xp * 4 + 3, none⟩ = some (.bool pk))
          (first | exact HSS.out _ (Below.refl _ _).drew | exact HSS.out _ hb5)
          ((go_at_call 34; refine (HFt.out _).mono ?_; rintro e w5 ⟨rfl, hb4⟩; have hb5 := below_later (Below.refl wr.heap.size wr).drew hb4))
        all_goals
          go_wp2
          go_ret
          exact .inl ⟨x, HH2.out, by rw [hxbE]; rfl, HMr.out _ hb5⟩
      | false =>
        have HNN := Lib.hid (HNx.out rfl)
        clear HHe HNx
        go_region_held3 (fun W' => W'.cell? ⟨B, 0, none⟩ = some (.slice (some ⟨b, off, none⟩) L.length cap) ∧ W'.cell? ⟨xb, 0, none⟩ = some (.int .i64 (xp : Int)) ∧ (W'.cell? ⟨W.heap.size, 0, none⟩ = some (.int .u8 (mc : Int)) ∧ W'.cell? ⟨W.heap.size, 1, none⟩ = some (.int .i64 mn) ∧ W'.cell? ⟨W.heap.size, 2, none⟩ = some (.bool mo) ∧ W'.cell? ⟨W.heap.size, 3, none⟩ = some (.bool mk)) ∧
            W'.cell? ⟨b, off + xp * 4, none⟩ = some (.int .u8 (pc : Int)) ∧ W'.cell? ⟨b, off + xp * 4 + 1, none⟩ = some (.int .i64 pn) ∧ W'.cell? ⟨b, off + xp * 4 + 2, none⟩ = some (.bool po) ∧ W'.cell? ⟨b, off + xp * 4 + 3, none⟩ = some (.bool pk))
          (first | exact HSS.out _ (Below.refl _ _).drew | exact HSS.out _ hb5)
          ((go_at_call 34; refine (HFt.out _).mono ?_; rintro e w5 ⟨rfl, hb4⟩; have hb5 := below_later (Below.refl wr.heap.size wr).drew hb4))
        all_goals
          have p3 := HP3.out _ hb5
          have HL5 := Lib.hid (below_later HBr.out hb5)
          go_wp2
          go_roundg R.length
          case rel => exact ⟨A ++ [x], R, HNN.out.1, rfl, HOr.out.symm, Lib.hid HNN.out.2, HL5⟩
          case measure => omega
end Dl
end Go.Proofs.YtbdcbeghiglfgaaDoor
