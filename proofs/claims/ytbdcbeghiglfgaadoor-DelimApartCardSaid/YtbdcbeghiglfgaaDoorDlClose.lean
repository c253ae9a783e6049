/- Layer 13: the program's close: a run is paired with all openers that it closes. -/
import Derived.Test.YtbdcbeghiglfgaaDoorDlSt
import Derived.Deep.AppendLies
import Derived.Deep.RegionHeld3
import Derived.Deep.RegionLaw
import Derived.Lib.Builder
namespace Go.Proofs.YtbdcbeghiglfgaaDoor
open Go Go.RowKit
namespace Dl
set_option maxRecDepth 100000
set_option linter.unusedVariables false
set_option linter.unusedSimpArgs false

theorem infoPr : (Tryd.prog.info? 40).map (fun i => (i.zero, i.size, i.bytes)) = some (some (.agg (pairE (0, 0, 0)).toArray), 3, 24) := by kernel_rfl

theorem infoOpn : ∃ j, Tryd.prog.info? 64 = some j ∧ j.size ≠ 0 := by
  have h : (Tryd.prog.info? 64).map (·.size) = some 4 := by kernel_rfl
  obtain ⟨j, h1, h2⟩ := Option.map_eq_some_iff.1 h
  exact ⟨j, h1, by rw [h2]; decide⟩
theorem run_neq_other (w : World) {a b : Addr} {ca cb : Array Value} {ta tb : TypeId} (hne : a ≠ b) (ha : w.heap[a.block]? = some (.cells ca ta (0, 0))) (hb : w.heap[b.block]? = some (.cells cb tb (0, 0))) :
    (binOp .neq 49 (.pointer (some a)) (.pointer (some b))).run Tryd.prog w = .ok (.bool true) w := by
  obtain ⟨j, hte, hsz⟩ := infoOpn
  have h : ∀ d : Nat, (Op.equalIn (d + 1) 49 (.pointer (some a)) (.pointer (some b))).run Tryd.prog w = .ok false w := fun d => by
    simp [Op.equalIn, run_underlying Tryd.underlying49, sizeOf, typeInfo, hte, hsz, run_sameAddr_other w hne ha hb]
  simp only [binOp]
  simp [Op.equal, Op.maxDepth, h 9999]
theorem run_neq_same (w : World) (a : Addr) : (binOp .neq 49 (.pointer (some a)) (.pointer (some a))).run Tryd.prog w = .ok (.bool false) w := by
  obtain ⟨j, hte, hsz⟩ := infoOpn
  exact Lib.run_neq_ptr_same w a Tryd.underlying49 hte
/-- What close leaves. -/
def Closed (w0 : World) (zz : Option (Nat × World)) (L : List Rn) (v : Value) (B ml md q i : Nat) (e : Ending) (w' : World) : Prop :=
  ∃ f G S P pv l, e = .returned (.int .i64 ((l : Nat) : Int)) ∧ MM w0 zz L v B ml md pv (q + 1) S G P w' ∧ Sn L i f S G P ∧ l ≤ 1073741824 ∧ ((rn L i).o = true → f i = l)

set_option maxHeartbeats 16000000 in
theorem close_any {w0 : World} {zz : Option (Nat × World)} {L : List Rn} {v : Value} {B ml md : Nat} {pv : Value} {q : Nat} {S : List Opn} {G : UInt8 × Int → Bool → Int → Nat} {P : List Pr} {W : World} {i : Nat} {f : Nat → Nat}
    (h : MM w0 zz L v B ml md pv q S G P W) (hst : St L i f S G P) (hi : i < L.length) (hi9 : i < 100000) (hq : q ≤ 90000) (hk : (rn L i).k = true) (hlen : (pairs L).length ≤ 100000) :
    Calls Tryd.prog 23 #[ptr B, .int .i64 (i : Int), .int .i64 (f i : Int)] W (Closed w0 zz L v B ml md q i) := by
  obtain ⟨iN, hti, hz0, hz1, hz2⟩ := info_parts infoPr
  obtain ⟨a, cp, rfl, hlm, hr⟩ := h.cells
  obtain ⟨b, off, rfl, hbl, hcell⟩ := hr.resolve_left (fun e => by subst e; simp at hi)
  have hlt : (i : Int) < (L.length : Int) := by omega
  have hlb : (L.length : Int) ≤ 9223372036854775807 := by unfold maxLen at hlm; omega
  have HC : Hid (∀ W', Below w0.heap.size w0 W' → W'.cell? ⟨b, off + i * 4, none⟩ = some (.int .u8 ((rn L i).c.toNat : Int))) := Lib.hid (fun W' hb => (run_cells (hcell i hi W' hb)).1)
  have hbase := h.below.size
  have HM0 := Lib.hid h
  have HS0 := Lib.hid hst
  have hfi : f i ≤ 1073741824 := Nat.le_trans (hst.le i) (cap_le _)
  clear h hst hr hcell hbl hlm
  unfold ptr
  go_enter Tryd.func23, Tryd.ntmps23
  go_wp2_with fail
  go_loopg [2] (f i) (fun M s2 wr => ∃ f G S P pv, f i = M ∧ M ≤ 1073741824 ∧ s2 = .int .i64 (M : Int) ∧ Hid (MM w0 zz L (.slice (some ⟨b, off, none⟩) L.length cp) B ml md pv q S G P wr) ∧ Hid (St L i f S G P))
  case atStart => exact ⟨f, G, S, P, pv, rfl, hfi, rfl, HM0, HS0⟩
  case round =>
    obtain ⟨f, G, S, P, pv, hfM, hM9, rfl, HM, HS⟩ := hrel
    clear HM0 HS0 hfi
    cases gk with
    | zero =>
      have HE : Hid (Closed w0 zz L (.slice (some ⟨b, off, none⟩) L.length cp) B ml md q i (.returned (.int .i64 ((0 : Nat) : Int))) wr) := Lib.hid ⟨f, G, S, P, pv, 0, rfl, HM.out.mono (by omega), HS.out.pass hi (.inr hfM), by omega, fun _ => hfM⟩
      go_wp2
      go_ret
      exact HE.out
    | succ M =>
      have hpos : (0 : Int) < ((M + 1 : Nat) : Int) := by omega
      have hcp : 1 ≤ cap (rn L i) := by have := HS.out.le i; omega
      have hn1 := cap_pos hcp
      have HFd := Lib.hid (find_any HM.out hi hi9 (by omega) ⟨hn1.1, hn1.2.1⟩ (fun x hx => by
        obtain ⟨m1, m2, m3, m4⟩ := HS.out.stk.mem x hx
        have := HS.out.le x.p
        have := cap_pos (r := rn L x.p) (by omega)
        exact ⟨this.1, this.2.1⟩) HS.out.stk.desc HS.out.dn)
      have HNone : Hid (fnd L S i = none → Sn L i (left' L i f) S (putG G (kn (rn L i)) (rn L i).o ((rn L i).n % 3) i) P) := Lib.hid (fun e => HS.out.none hi hk (by omega) e)
      have HPair : Hid (∀ x, fnd L S i = some x → _) := Lib.hid (fun x e => HS.out.pair hi hk (by omega) e)
      obtain ⟨N, hN⟩ : ∃ N, M + 1 = N := ⟨_, rfl⟩
      rw [hN] at hfM hM9 hpos ⊢
      have hN1 : 1 ≤ N := by omega
      rw [hfM] at HPair
      unfold ptr at HFd
      have HNM := Lib.hid hN
      clear hcp hn1 hN
      go_wp2_with fail
      refine HFd.out.mono ?_
      rintro e w1 (⟨x, hx, rfl, hM1⟩ | ⟨hx, rfl, hM1⟩)
      · -- a pair
        obtain ⟨A, Bs, hSe, t1, t2, t3, t4, t5, hst', hfi'⟩ := HPair.out x hx
        subst hSe
        obtain ⟨n, hn⟩ : ∃ n, takes (rn L i).c x.l N = n := ⟨_, rfl⟩
        rw [hn] at t1 t2 t3 hst' hfi'
        have HTk : Hid (∀ W', Calls Tryd.prog 31 #[.int .u8 ((rn L i).c.toNat : Int), .int .i64 (x.l : Int), .int .i64 (N : Int)] W' fun e w' => e = .returned (.int .i64 (n : Int)) ∧ W' = w') := Lib.hid (fun W' => by rw [← hn]; exact taken_any _ _ _ W' t4 hM9)
        have HSt := Lib.hid hst'
        have HFi := Lib.hid hfi'
        have HM1 := Lib.hid hM1
        have HS9 := Lib.hid HS.out.len
        clear hst' hfi' hM1 hn HNone HPair HFd HM HS hx
        obtain ⟨xb, hxb⟩ : ∃ k, x.b = k := ⟨_, rfl⟩
        rw [hxb]
        have HXb := Lib.hid hxb
        clear hxb
        go_wp2_with fail
        go_loopg [] A.length (fun M2 wr => ∃ A2 : List Opn, A2.length = M2 ∧ Hid (MM w0 zz L (.slice (some ⟨b, off, none⟩) L.length cp) B ml md pv q (A2 ++ x :: Bs) G P wr))
        case atStart => exact ⟨A, rfl, HM1⟩
        case round =>
          obtain ⟨A2, hA2, HM2⟩ := hrel
          clear HM1
          cases A2 with
          | cons a A2 =>
            have d1 : wr.cell? ⟨B, 1, none⟩ = some (.pointer (some ⟨a.b, 0, none⟩)) := HM2.out.blk.cell 1 rfl
            have hne : ¬ a.b = xb := by rw [← HXb.out]; exact (List.pairwise_cons.1 HM2.out.sep).1 x (by simp)
            have HD := Lib.hid (drop_any HM2.out (by omega))
            obtain ⟨_, _, hbx⟩ := HM2.out.ops.mem x (by simp)
            rw [HXb.out] at hbx
            have hcmp := run_neq_other wr (a := ⟨a.b, 0, none⟩) (b := ⟨xb, 0, none⟩) (fun e => hne (by injection e)) HM2.out.ops.1 hbx
            unfold ptr at HD
            have hA3 : A2.length + 1 = gk := by simpa using hA2
            obtain ⟨ab, hab⟩ : ∃ k, a.b = k := ⟨_, rfl⟩
            rw [hab] at d1 hne hcmp
            clear hA2 hab hbx
            go_wp2_with fail
            refine HD.out.mono ?_
            rintro e w2 ⟨rfl, hM2⟩
            have HM3 := Lib.hid hM2
            clear hM2 d1 HM2 HD
            go_wp2
            go_roundg A2.length
            case rel => exact ⟨A2, rfl, HM3⟩
            case measure => omega
          | nil =>
            have d1 : wr.cell? ⟨B, 1, none⟩ = some (.pointer (some ⟨xb, 0, none⟩)) := by rw [← HXb.out]; exact HM2.out.blk.cell 1 rfl
            have hcmp := run_neq_same wr ⟨xb, 0, none⟩
            go_wp2_with fail
            have HM3 : Hid (MM w0 zz L (.slice (some ⟨b, off, none⟩) L.length cp) B ml md pv q (x :: Bs) G P wr) := HM2
            clear HM2 hcmp hA2 d1
            obtain ⟨a3, c3, epv⟩ := HM3.out.own.form
            subst epv
            obtain ⟨np, hnp⟩ : ∃ k, P.length = k := ⟨_, rfl⟩
            have hP9 : np ≤ 100000 := by rw [← hnp]; exact Nat.le_trans HS9.out hlen
            obtain ⟨xp, hxp⟩ : ∃ k, x.p = k := ⟨_, rfl⟩
            obtain ⟨xl, hxl⟩ : ∃ k, x.l = k := ⟨_, rfl⟩
            have HXE : Hid (x = ⟨xb, xp, xl⟩) := Lib.hid (by rw [← HXb.out, ← hxp, ← hxl])
            have HS6 : Hid (∀ W', Below wr.heap.size wr W' → W'.cell? ⟨B, 0, none⟩ = some (.slice (some ⟨b, off, none⟩) L.length cp) ∧ W'.cell? ⟨b, off + i * 4, none⟩ = some (.int .u8 ((rn L i).c.toNat : Int)) ∧ W'.cell? ⟨xb, 1, none⟩ = some (.int .i64 (xl : Int)) ∧ W'.cell? ⟨xb, 0, none⟩ = some (.int .i64 (xp : Int)) ∧ W'.cell? ⟨B, 4, none⟩ = some (.slice a3 np c3)) := Lib.hid (fun W' hb => by
              have hM := HM3.out.below' hb
              have hx := hM.ops.1
              rw [HXE.out] at hx
              exact ⟨hM.blk.cell 0 rfl, HC.out W' hM.below, hx.cell 1 rfl, hx.cell 0 rfl, by rw [← hnp]; exact hM.blk.cell 4 rfl⟩)
            have HRow : Hid (∀ W', Below wr.heap.size wr W' → W'.ownsRow w0.heap.size 40 3 (.slice a3 np c3) np (rowG pairE P)) := Lib.hid (fun W' hb => by have h1 := owns_keep HM3.out.own hb; rwa [hnp] at h1)
            have HKp : Hid (∀ U o W', Below wr.heap.size wr U → (U.alloc o).grownBy W' (Value.slice a3 np c3).ownBlock → W'.cell? ⟨xb, 0, none⟩ = some (.int .i64 (xp : Int)) ∧ W'.cell? ⟨B, 4, none⟩ = some (.slice a3 np c3) ∧ W'.frozen? ⟨B, 4, none⟩ = false ∧ ∀ u, (W'.setCell ⟨B, 4, none⟩ u).cell? ⟨xb, 0, none⟩ = some (.int .i64 (xp : Int))) := Lib.hid (fun U o W' hU hg => by
              rw [← hnp] at hg ⊢
              have HMU := HM3.out.below' hU
              have ho : Only (fun k => (Value.slice a3 P.length c3).ownBlock = some k) U W' := (Only.of_below ((Below.refl _ U).alloc (Nat.le_refl _) _)).trans' (only_grown hg)
              have hb4 := HMU.blk.only ho HMU.pB
              have hx4 := HMU.ops.1.only ho (HMU.pS x (by simp))
              have hxn := HMU.new x (by simp)
              rw [HXE.out] at hx4 hxn
              exact ⟨hx4.cell 0 rfl, hb4.cell 4 rfl, hb4.fr 4, fun u => (hx4.other (p := ⟨B, 4, none⟩) u hxn.2).cell 0 rfl⟩)
            have HPd : Hid (∀ U o w4 g' cap', Below wr.heap.size wr U → (U.alloc o).grownBy w4 (Value.slice a3 np c3).ownBlock → w4.ownsRow w0.heap.size 40 3 (.slice (some ⟨g', 0, none⟩) (np + 1) cap') (np + 1) (rowG pairE P ++ pairE (xp, i, n)) → ((Value.slice a3 np c3).ownBlock = some g' ∨ g' = (U.alloc o).heap.size) →
                MM w0 zz L (.slice (some ⟨b, off, none⟩) L.length cp) B ml md (.slice (some ⟨g', 0, none⟩) (np + 1) cap') q (⟨xb, xp, xl⟩ :: Bs) G (P ++ [(xp, i, n)]) (w4.setCell ⟨B, 4, none⟩ (.slice (some ⟨g', 0, none⟩) (np + 1) cap'))) := Lib.hid (by
              intro U o w4 g' cap' hU h1 h2 h3
              rw [← hnp] at h1 h2 h3 ⊢
              rw [← HXE.out]
              exact (HM3.out.below' hU).paired ((Below.refl _ U).alloc (Nat.le_refl _) _) h1 h2 (h3.imp id (fun e => by rw [e, World.size_alloc]; omega)))
            have hsz0 := HM3.out.below.size
            rw [hxl] at HTk t2 t4
            rw [hxp] at HSt HFi t5
            have hxp9 : (xp : Int) < 100000 := by omega
            have HXl : Hid (rest x n Bs = if xl - n = 0 then Bs else ⟨xb, xp, xl - n⟩ :: Bs) := Lib.hid (by rw [HXE.out]; rfl)
            clear hnp hxp hxl
            obtain ⟨cc, hcc⟩ : ∃ k, (rn L i).c.toNat = k := ⟨_, rfl⟩
            rw [hcc] at HS6 HTk
            go_wp2_with fail
            go_region_held3 (fun W' => W'.cell? ⟨B, 0, none⟩ = some (.slice (some ⟨b, off, none⟩) L.length cp) ∧ W'.cell? ⟨b, off + i * 4, none⟩ = some (.int .u8 (cc : Int)) ∧ W'.cell? ⟨xb, 1, none⟩ = some (.int .i64 (xl : Int)) ∧ W'.cell? ⟨xb, 0, none⟩ = some (.int .i64 (xp : Int)) ∧ W'.cell? ⟨B, 4, none⟩ = some (.slice a3 np c3))
              (first | exact HS6.out _ (Below.refl _ _).drew)
              ((go_at_call 31; refine (HTk.out _).mono ?_; rintro e w5 ⟨rfl, rfl⟩))
            go_wp2_with fail
            have hUo := (Below.refl wr.heap.size wr).drew
            have HU9 := Lib.hid hUo
            have HRw : Hid (∀ W', Below wr.heap.size wr W' → W'.ownsRow w0.heap.size 40 3 (.slice a3 np c3) np (rowG pairE P)) := HRow
            have HSx := HS6
            clear HS6 HRow
            generalize hw7 : wr.drew = w7 at *
            have e7 : (w7.alloc (.cells #[.int .i64 (xp : Int), .int .i64 (i : Int), .int .i64 (n : Int)] 40)).cell? ⟨B, 4, none⟩ = some (.slice a3 np c3) := (HSx.out _ (hUo.alloc hUo.size _)).2.2.2.2
            have e8 : w7.cell? ⟨B, 4, none⟩ = some (.slice a3 np c3) := (HSx.out _ hUo).2.2.2.2
            have e9 : w7.cell? ⟨xb, 0, none⟩ = some (.int .i64 (xp : Int)) := (HSx.out _ hUo).2.2.2.1
            have hsz7 : w0.heap.size ≤ w7.heap.size := Nat.le_trans hsz0 hUo.size
            clear hw7 hUo
            go_cut [] from 38 to 53 (fun wx => ∃ pv', Hid (MM w0 zz L (.slice (some ⟨b, off, none⟩) L.length cp) B ml md pv' q (⟨xb, xp, xl⟩ :: Bs) G (P ++ [(xp, i, n)]) wx))
            case first =>
              go_region_law (refine step_append_lies _ rfl (.tmp 42) (.tmp 50) 32 rfl w0.heap.size 40 iN (.agg (pairE (0, 0, 0)).toArray) 3 24 Tryd.underlying32 hti hz0 hz1 hz2 rfl (by decide) (.slice a3 np c3) np (rowG pairE P) (by simp [Act.eval, Act.put]) (HRw.out _ (Below.drew (Below.alloc HU9.out (Below.size HU9.out) _))) ⟨w7.heap.size, 0, none⟩ 1 1 (pairE (xp, i, n)) (by simp [Act.eval, Act.put]) rfl (World.news_of_block (heap_alloc_new _ _)) (pairE_one _) (by decide) (by unfold maxLen; omega) (by omega) (Nat.le_trans hsz7 (Below.drew (Below.alloc (Below.refl w7.heap.size w7) (Nat.le_refl _) _)).size) _ rfl ?_; intro g' cap' w4 hown4 hgrow4 hat4 hlt4; obtain ⟨hS4, hB4, hz4, hS5⟩ := HKp.out w7.drew _ w4 (Below.drew HU9.out) hgrow4)
              all_goals
                have hM9 := HPd.out w7.drew _ w4 g' cap' (Below.drew HU9.out) hgrow4 hown4 hat4
                go_wp2
                go_meet
                exact ⟨_, Lib.hid hM9⟩
            obtain ⟨pv', HM8⟩ := hcut
            clear e7 e8 e9 HKp HPd HM3 HRw HSx HTk HU9
            obtain ⟨m, hm⟩ : ∃ k, xl - n = k := ⟨_, rfl⟩
            obtain ⟨l2, hl2⟩ : ∃ k, N - n = k := ⟨_, rfl⟩
            have hsub1 : (xl : Int) - (n : Int) = (m : Int) := by omega
            have hsub2 : (N : Int) - (n : Int) = (l2 : Int) := by omega
            have hm9 : (m : Int) ≤ 1073741824 := by omega
            have hl9 : (l2 : Int) ≤ 1073741824 := by omega
            have f1 : wc.cell? ⟨xb, 1, none⟩ = some (.int .i64 (xl : Int)) := HM8.out.ops.1.cell 1 rfl
            have f2 : wc.frozen? ⟨xb, 1, none⟩ = false := HM8.out.ops.1.fr 1
            have HLs := Lib.hid (HM8.out.less m)
            rw [hl2] at HFi
            rw [hm] at HXl
            have hlt2 : l2 < N := by omega
            have hl9' : l2 ≤ 1073741824 := by omega
            by_cases hm0 : m = 0
            · subst hm0
              have HXl2 : Hid (rest x n Bs = Bs) := Lib.hid (by rw [HXl.out, if_pos rfl])
              have HDp := Lib.hid (drop_any HLs.out (by omega))
              unfold ptr at HDp
              clear HXl hm hm9
              go_wp2_with fail
              refine HDp.out.mono ?_
              rintro e w9 ⟨rfl, hM9⟩
              have HM9 := Lib.hid hM9
              clear hM9 f1 f2 HM8 HLs HDp
              go_wp2
              go_roundg l2
              case rel => exact ⟨_, G, Bs, _, pv', HFi.out, hl9', rfl, HM9, Lib.hid (HXl2.out ▸ HSt.out)⟩
              case measure => have := HNM.out; omega
            · have hmne : ((m : Int) == 0) = false := by simp; omega
              have hmne2 : ¬ (m : Int) = 0 := by omega
              have HXl2 : Hid (rest x n Bs = ⟨xb, xp, m⟩ :: Bs) := Lib.hid (by rw [HXl.out, if_neg hm0])
              clear HXl hm
              go_wp2
              go_roundg l2
              case rel => exact ⟨_, G, _, _, pv', HFi.out, hl9', rfl, HLs, Lib.hid (HXl2.out ▸ HSt.out)⟩
              case measure => have := HNM.out; omega
      · have HE : Hid (Closed w0 zz L (.slice (some ⟨b, off, none⟩) L.length cp) B ml md q i (.returned (.int .i64 ((N : Nat) : Int))) w1) := Lib.hid ⟨left' L i f, _, S, P, pv, N, rfl, hM1, HNone.out hx, hM9, fun ho => by rw [left_here f ho]; exact hfM⟩
        clear hM1 HNone HPair HFd
        go_wp2
        go_ret
        exact HE.out
end Dl
end Go.Proofs.YtbdcbeghiglfgaaDoor
