/- TreePlays: the program's arena and the reference's, step by step. -/
import Derived.Test.YtlpfffioidbkeaaTreeTT
import Derived.Test.YtlpfffioidbkeaaTreeF
import Derived.Test.YtlpfffioidbkeaaTreeX
import Derived.Deep.RegionHeld3
import Derived.Deep.DrawnRows
import Derived.Deep.CutBlock
namespace Go.Proofs.Ytlpfffioidbkeaa
open Go Go.RowKit Tr
namespace TreePlays
attribute [local go_sem ↓] Go.wp_at_zero Go.wp_at_succ
set_option maxRecDepth 100000
set_option linter.unusedVariables false
set_option linter.unusedSimpArgs false

/-- The box of a step. -/
def boxC (x : Opr) (L : Value) : Array Value := #[.int .i64 x.what, .int .i64 x.a, .int .i64 x.b, .int .i64 x.o.kind, .string x.o.s, .string x.o.t, .int .i64 x.o.n, .int .i64 x.o.m, .bool x.o.flag, L]
/-- What a step's call reads. -/
def Reads (W : World) (N0 : Nat) (x : Opr) (L : Value) : Prop := W.cell? ⟨N0, 1, none⟩ = some (.int .i64 x.a) ∧ W.cell? ⟨N0, 2, none⟩ = some (.int .i64 x.b) ∧ W.cell? ⟨N0, 3, none⟩ = some (.int .i64 x.o.kind) ∧ W.cell? ⟨N0, 4, none⟩ = some (.string x.o.s) ∧ W.cell? ⟨N0, 5, none⟩ = some (.string x.o.t) ∧ W.cell? ⟨N0, 6, none⟩ = some (.int .i64 x.o.n) ∧ W.cell? ⟨N0, 7, none⟩ = some (.int .i64 x.o.m) ∧ W.cell? ⟨N0, 8, none⟩ = some (.bool x.o.flag) ∧ W.cell? ⟨N0, 9, none⟩ = some L
theorem reads_of {W : World} {N0 : Nat} {x : Opr} {L : Value} {t : TypeId} (h : Blk W N0 (boxC x L) t) : Reads W N0 x L :=
  ⟨h.cell 1 rfl, h.cell 2 rfl, h.cell 3 rfl, h.cell 4 rfl, h.cell 5 rfl, h.cell 6 rfl, h.cell 7 rfl, h.cell 8 rfl, h.cell 9 rfl⟩
theorem sz_add {s : Ab} {a : Int} {q : Own} (h : SzA s) (h1 : q.s.size ≤ 281474976710656) (h2 : q.t.size ≤ 281474976710656) : SzA (s.add a q) := by
  unfold Ab.add
  split
  · intro i hi
    by_cases e : i = s.n
    · subst e; simp only [upd_same]; exact ⟨h1, h2⟩
    · simp only [upd_other _ _ e]; exact h i (by have : i < s.n + 1 := hi; omega)
  · exact h
theorem sz_set {s : Ab} {a : Int} {q : Own} (h : SzA s) (h1 : q.s.size ≤ 281474976710656) (h2 : q.t.size ≤ 281474976710656) : SzA (s.set a q) := by
  unfold Ab.set
  split
  · intro i hi
    by_cases e : i = a.toNat
    · subst e; simp only [upd_same]; exact ⟨h1, h2⟩
    · simp only [upd_other _ _ e]; exact h i hi
  · exact h
theorem sz_unl {s : Ab} {a : Int} (h : SzA s) : SzA (s.unl a) := by
  unfold Ab.unl
  split
  · exact h
  · exact h
theorem n_add (s : Ab) (a : Int) (q : Own) : (s.add a q).n ≤ s.n + 1 := by
  unfold Ab.add
  split
  · exact Nat.le_refl _
  · exact Nat.le_succ _
theorem n_set (s : Ab) (a : Int) (q : Own) : (s.set a q).n = s.n := by unfold Ab.set; split <;> rfl
theorem n_unl (s : Ab) (a : Int) : (s.unl a).n = s.n := by unfold Ab.unl; split <;> rfl

theorem _root_.Go.Proofs.Ytlpfffioidbkeaa.Tr.At2.has {w : World} {A g cap R h cap2 : Nat} {S S2 : Ar} {kv : Value} {K : List (Nat × Nat)} {s : Ab} (H : At2 w A g cap S R h cap2 kv K S2 s) (a : Int) :
    Calls Try.prog 18 #[ptr R, .int .i64 a] w fun e w' => e = .returned (.bool (decide (inR s a))) ∧ w = w' := by
  refine (rhas_any H.r a).mono ?_
  rintro e w' ⟨rfl, rfl⟩
  refine ⟨ret_bool ?_, rfl⟩
  rw [Bool.eq_iff_iff, Bool.and_eq_true, decide_eq_true_iff, decide_eq_true_iff, decide_eq_true_iff]
theorem _root_.Go.Proofs.Ytlpfffioidbkeaa.Tr.T0.below {w w1 w2 : World} {A R k : Nat} {s : Ab} (h : T0 w w1 A R s k) (hb : Below w1.heap.size w1 w2) : T0 w w2 A R s k := by
  obtain ⟨X, Z, h1, h2, h3, h4, h5, h6⟩ := h
  exact ⟨X, Z, h1.only (Y := fun _ => False) (Only.of_below hb) (fun _ _ e => e), h2.only (Y := fun _ => False) (Only.of_below hb) (fun _ _ e => e), h3, h4, h5, below_later h6 hb⟩
theorem eq_self (o : Own) : Own.eq o o = true := (Own.eq_iff o o).2 rfl
theorem unV_out {s : Ab} {a : Int} (h : ¬ inR s a) : unV s a = false := by unfold unV; rw [decide_eq_false h]; rfl
theorem sz_mov {s : Ab} {a p : Int} (h : SzA s) : SzA (s.mov a p) := h


theorem blk_drew {w : World} {B : Nat} {cs : Array Value} {t : TypeId} (h : Blk w B cs t) : Blk w.drew B cs t := h
set_option maxHeartbeats 60000000 in
theorem law_any (T : Tree) (L v : Value) (l : List Opr) (w : World) (hin : In w (fun b => b < w.heap.size) T L) (hz : Sz T) (hl : Ops w w.heap.size v l) :
    Calls Try.prog 3 #[nodeV T.own L, v] w fun e w' => e = .returned (.bool true) ∧ Below w.heap.size w w' := by
  obtain ⟨a0, cap0, hL, _, _⟩ := hin.slice
  obtain ⟨n0, hn0⟩ : ∃ n, T.kids.length = n := ⟨_, rfl⟩
  rw [hn0] at hL
  subst hL
  have hq : T.own.s.size ≤ 140737488355328 ∧ T.own.t.size ≤ 140737488355328 := by
    cases T with
    | mk o ts => rw [Sz] at hz; exact ⟨hz.1, hz.2.1⟩
  obtain ⟨q1, q2⟩ := hq
  obtain ⟨a, cap, rfl, hlm, hls, hc⟩ := hl
  have HC := Lib.hid hc
  have HLs := Lib.hid hls
  have hb0 : Below w.heap.size w (w.alloc (.cells (nodeC T.own (.slice a0 n0 cap0)) 24)) := (Below.refl _ w).alloc (Nat.le_refl _) _
  have HX := Lib.hid (Blk.new w (nodeC T.own (.slice a0 n0 cap0)) 24)
  have HA := Lib.hid (awake_any (w.alloc (.cells (nodeC T.own (.slice a0 n0 cap0)) 24)))
  have HB0 := Lib.hid hb0
  obtain ⟨n, hn⟩ : ∃ n, n = l.length := ⟨_, rfl⟩
  rw [← hn] at hlm ⊢
  have HLn := Lib.hid hn
  clear hin hz hb0 hc hls hn hn0
  unfold nodeC at HA
  unfold nodeV
  generalize T.own = ob at *
  go_enter Try.func3, Try.ntmps3
  go_wp2_with fail
  refine HA.out.mono ?_
  rintro e w1 ⟨rfl, hb1⟩
  have K1 := HX.out.below hb1
  have HB1 := Lib.hid (below_later HB0.out hb1)
  have x0 : w1.cell? ⟨w.heap.size, 0, none⟩ = _ := K1.node.c0
  have x1 : w1.cell? ⟨w.heap.size, 1, none⟩ = _ := K1.node.c1
  have x2 : w1.cell? ⟨w.heap.size, 2, none⟩ = _ := K1.node.c2
  have x3 : w1.cell? ⟨w.heap.size, 3, none⟩ = _ := K1.node.c3
  have x4 : w1.cell? ⟨w.heap.size, 4, none⟩ = _ := K1.node.c4
  have x5 : w1.cell? ⟨w.heap.size, 5, none⟩ = _ := K1.node.c5
  have x6 : w1.cell? ⟨w.heap.size, 6, none⟩ = _ := K1.node.c6
  have HK1 := Lib.hid K1
  clear K1 hb1 HA HX HB0
  by_cases h60 : (60 : Int) < (n : Int)
  · go_wp2
    go_ret
    exact ⟨rfl, HB1.out⟩
  have hd1 : decide ((60 : Int) < (n : Int)) = false := decide_eq_false (by omega)
  by_cases h1000 : (1000 : Int) < (ob.s.size : Int) + (ob.t.size : Int)
  · go_wp2
    go_ret
    exact ⟨rfl, HB1.out⟩
  have hd2 : decide ((1000 : Int) < (ob.s.size : Int) + (ob.t.size : Int)) = false := decide_eq_false (by omega)
  have HN := Lib.hid (new_any ob a0 n0 cap0 w1 (by omega) (by omega))
  unfold nodeV at HN
  go_wp2_with fail
  refine HN.out.mono ?_
  rintro e w2 ⟨A, g, rfl, hA, hA1, hA2, hb2⟩
  have K2 := HK1.out.below hb2
  have HK2 := Lib.hid K2
  have HA2 := Lib.hid hA
  have HB2 := Lib.hid hb2
  have hs1 := HB1.out.size
  have HlA : Hid (w.heap.size ≤ A ∧ w.heap.size ≤ g) := Lib.hid ⟨by omega, by omega⟩
  have y0 : w2.cell? ⟨w.heap.size, 0, none⟩ = _ := K2.node.c0
  have y1 : w2.cell? ⟨w.heap.size, 1, none⟩ = _ := K2.node.c1
  have y2 : w2.cell? ⟨w.heap.size, 2, none⟩ = _ := K2.node.c2
  have y3 : w2.cell? ⟨w.heap.size, 3, none⟩ = _ := K2.node.c3
  have y4 : w2.cell? ⟨w.heap.size, 4, none⟩ = _ := K2.node.c4
  have y5 : w2.cell? ⟨w.heap.size, 5, none⟩ = _ := K2.node.c5
  have y6 : w2.cell? ⟨w.heap.size, 6, none⟩ = _ := K2.node.c6
  have HM := Lib.hid (rnew_any ob a0 n0 cap0 w2)
  unfold nodeV at HM
  clear K2 hA hA1 hA2 hb2 hs1 HN HK1 x0 x1 x2 x3 x4 x5 x6
  unfold ptr
  go_wp2_with fail
  refine HM.out.mono ?_
  rintro e w3 ⟨R, h0, rfl, hR, hR1, hR2, hb3⟩
  have hT : T0 w w3 A R ⟨1, fun _ => ob, fun _ => []⟩ 0 := T0.new HA2.out hR HlA.out.1 HlA.out.2 hR1 hR2 (below_later HB1.out HB2.out) hb3
  have hS : SzA ⟨1, fun _ => ob, fun _ => []⟩ := fun i hi => ⟨by show ob.s.size ≤ _; omega, by show ob.t.size ≤ _; omega⟩
  have HT0 := Lib.hid hT
  have HS0 := Lib.hid hS
  clear hT hS hR hR1 hR2 hb3 HM HK2 HA2 HB2 HlA y0 y1 y2 y3 y4 y5 y6 HB1
  unfold ptr
  go_wp2_with fail
  go_loopg [8] n (fun G s8 wr => ∃ (i : Nat) (s : Ab), i + G = n ∧ s8 = .int .i64 (i : Int) ∧ Hid (T0 w wr A R s i) ∧ Hid (SzA s) ∧ s.n ≤ i + 1)
  case atStart => exact ⟨0, _, by omega, rfl, HT0, HS0, Nat.le_refl _⟩
  case round =>
    obtain ⟨i, s, hig, rfl, HT, HS, hsn⟩ := hrel
    clear HT0 HS0
    have hb := HT.out.on
    cases gk with
    | zero =>
      have hlt : ¬ (i : Int) < (n : Int) := by omega
      obtain ⟨g, cap, S, h0, cap2, kv, K, S2, hat, hK⟩ := HT.out.at2
      obtain ⟨T2, hT2, hL2, hR2⟩ := hat.trees HS.out (by omega) (by omega)
      have HL2 := Lib.hid hL2
      have HR2 := Lib.hid hR2
      have HSm := Lib.hid (fun (B : Nat → Prop) W L L' (h1 : In W B T2 L) (h2 : In W B T2 L') => rsame_any T2 T2 W L L' h1 h2)
      rw [hT2, same_refl] at HSm
      have HBw := Lib.hid hb
      unfold ptr nodeV at HL2 HR2
      unfold nodeV at HSm
      clear hat hT2 hL2 hR2 HC HLs HT HS hK hb
      generalize s.o 0 = o0 at *
      go_wp2_with fail
      refine (HL2.out _ (Below.refl _ _)).mono ?_
      rintro e w4 ⟨a4, n4, c4, rfl, hi4, hb4⟩
      go_wp2_with fail
      refine (HR2.out _ hb4).mono ?_
      rintro e w5 ⟨a5, n5, c5, rfl, hi5, hb5⟩
      have hb45 := below_later hb4 hb5
      have hi4' : In w5 (fun b => wr.heap.size ≤ b) T2 (.slice a4 n4 c4) := hi4.keep hb5
      have hi5' : In w5 (fun b => wr.heap.size ≤ b) T2 (.slice a5 n5 c5) := In.carry_all (fun b off u hq _ => by have := hb4.size; have : w4.heap.size ≤ b := hq; omega) (fun b off u hq hc => hc) _ hi5
      have HI4 := Lib.hid hi4'
      have HI5 := Lib.hid hi5'
      clear hi4 hi5 hi4' hi5' hb4 hb5
      go_wp2_with fail
      refine (HSm.out _ _ _ _ HI4.out HI5.out).mono ?_
      rintro e w6 ⟨rfl, hb6⟩
      go_wp2
      go_ret
      exact ⟨rfl, below_later HBw.out (below_later hb45 hb6)⟩
    | succ G =>
      have hlt : (i : Int) < (n : Int) := by omega
      obtain ⟨x, hx⟩ : ∃ x, l[i]? = some x := ⟨_, List.getElem?_eq_getElem (by have := HLn.out; omega)⟩
      rcases HC.out with rfl | ⟨b, off, rfl, hbw, hcell⟩
      · simp at hx
      obtain ⟨K0, K1, K2, la, ln, lc, K3⟩ := hcell i x hx
      have c0 := keep_cell hb K0
      have c1 := keep_cell hb K1
      have c2 := keep_cell hb K2
      have c3 := keep_cell hb K3.c0
      have c4 := keep_cell hb K3.c1
      have c5 := keep_cell hb K3.c2
      have c6 := keep_cell hb K3.c3
      have c7 := keep_cell hb K3.c4
      have c8 := keep_cell hb K3.c5
      have c9 := keep_cell hb K3.c6
      obtain ⟨z1, z2⟩ := HLs.out x (List.mem_of_getElem? hx)
      clear K0 K1 K2 K3 hcell hx
      by_cases hbig : (1000 : Int) < (x.o.s.size : Int) + (x.o.t.size : Int)
      · have hb2 : Below w.heap.size w (wr.alloc (.cells (boxC x (.slice la ln lc)) 32)) := hb.alloc hb.size _
        unfold boxC at hb2
        go_wp2
        go_ret
        exact ⟨rfl, hb2⟩
      have hds := HT.out.box (boxC x (.slice la ln lc)) 32
      have HB := Lib.hid hds
      have k0 : (wr.alloc (.cells (boxC x (.slice la ln lc)) 32)).cell? ⟨wr.heap.size, 0, none⟩ = some (.int .i64 x.what) := hds.blk.cell 0 rfl
      have hi1 : IntKind.i64.wrap ((i : Int) + 1) = ((i + 1 : Nat) : Int) := by rw [IntKind.wrap_i64]; omega
      clear hds
      have hd3 : decide ((1000 : Int) < (x.o.s.size : Int) + (x.o.t.size : Int)) = false := decide_eq_false (by omega)
      unfold boxC at k0
      go_upto_block 2 with fail
      clear c0 c1 c2 c3 c4 c5 c6 c7 c8 c9 HT hb
      have HSl := Lib.hid (fun (N0 : Nat) (W : World) (h : Blk W N0 (boxC x (.slice la ln lc)) 32) => reads_of h)
      generalize hwb : wr.alloc (.cells (boxC x (.slice la ln lc)) 32) = wb at HB
      unfold boxC at hwb
      rw [hwb] at k0 ⊢
      clear hwb
      generalize wr.heap.size = N0 at *
      have HSl := Lib.hid (HSl.out N0)
      unfold Reads at HSl
      go_cut [] (fun wx => ∃ s', TB w wx A R s' s' (i + 1) N0 (boxC x (.slice la ln lc)) 32 ∧ SzA s' ∧ s'.n ≤ i + 2)
      case first =>
        have w_0 : ∀ j, x.what = j → (x.what == j) = true := fun j e => by simp [e]
        have w_1 : ∀ j, ¬ x.what = j → (x.what == j) = false := fun j e => by simp [e]
        by_cases q0 : x.what = 0
        · have e0 := w_0 0 q0
          clear q0 w_0 w_1
          have C1 := Lib.hid (fun (W : World) (t : Ab) (k : Nat) (h : TB w W A R s t k N0 (boxC x (.slice la ln lc)) 32) => h.addL x.a x.o la ln lc (by omega) (by omega) (by omega))
          have C2 := Lib.hid (fun (W : World) (t : Ab) (h : TB w W A R t s i N0 (boxC x (.slice la ln lc)) 32) => h.addR x.a x.o la ln lc (by omega) (by omega))
          have hd0 := HB.out.below (Below.refl _ _).drew
          have hbx := hd0.blk
          unfold ptr nodeV at C1 C2
          go_wp2_with fail
          go_region_held3 (fun W => W.cell? ⟨N0, 1, none⟩ = some (.int .i64 x.a) ∧ W.cell? ⟨N0, 2, none⟩ = some (.int .i64 x.b) ∧ W.cell? ⟨N0, 3, none⟩ = some (.int .i64 x.o.kind) ∧ W.cell? ⟨N0, 4, none⟩ = some (.string x.o.s) ∧ W.cell? ⟨N0, 5, none⟩ = some (.string x.o.t) ∧ W.cell? ⟨N0, 6, none⟩ = some (.int .i64 x.o.n) ∧ W.cell? ⟨N0, 7, none⟩ = some (.int .i64 x.o.m) ∧ W.cell? ⟨N0, 8, none⟩ = some (.bool x.o.flag) ∧ W.cell? ⟨N0, 9, none⟩ = some (.slice la ln lc)) (exact HSl.out _ (by assumption)) (first
            | (go_at_call_of 13 (Value.pointer (some ⟨A, 0, none⟩)); refine (C1.out _ _ _ (by assumption)).mono ?_; rintro e w' ⟨rfl, hd8⟩; have hbx := hd8.blk)
            | (go_at_call_of 14 (Value.pointer (some ⟨R, 0, none⟩)); refine (C2.out _ _ (by assumption)).mono ?_; rintro e w' ⟨rfl, hd8⟩; have hbx := hd8.blk))
          all_goals
            have hd9 : TB w _ A R (s.add x.a x.o) (s.add x.a x.o) (i + 1) N0 (boxC x (.slice la ln lc)) 32 := hd8
            have HD9 := Lib.hid hd9
            clear hd8 hd9 hbx hd0 C1 C2
            go_wp2
            go_meet
            exact ⟨_, HD9.out, sz_add HS.out (by omega) (by omega), by have := n_add s x.a x.o; omega⟩
        have e0 := w_1 0 q0
        by_cases q1 : x.what = 1
        · have e1 := w_0 1 q1
          clear q0 q1 w_0 w_1
          have C1 := Lib.hid (fun (W : World) (t : Ab) (k : Nat) (h : TB w W A R s t k N0 (boxC x (.slice la ln lc)) 32) => h.setL x.a x.o la ln lc (by omega) (by omega))
          have C2 := Lib.hid (fun (W : World) (t : Ab) (h : TB w W A R t s i N0 (boxC x (.slice la ln lc)) 32) => h.setR x.a x.o la ln lc)
          have hd0 := HB.out.below (Below.refl _ _).drew
          have hbx := hd0.blk
          unfold ptr nodeV at C1 C2
          go_wp2_with fail
          go_region_held3 (fun W => W.cell? ⟨N0, 1, none⟩ = some (.int .i64 x.a) ∧ W.cell? ⟨N0, 2, none⟩ = some (.int .i64 x.b) ∧ W.cell? ⟨N0, 3, none⟩ = some (.int .i64 x.o.kind) ∧ W.cell? ⟨N0, 4, none⟩ = some (.string x.o.s) ∧ W.cell? ⟨N0, 5, none⟩ = some (.string x.o.t) ∧ W.cell? ⟨N0, 6, none⟩ = some (.int .i64 x.o.n) ∧ W.cell? ⟨N0, 7, none⟩ = some (.int .i64 x.o.m) ∧ W.cell? ⟨N0, 8, none⟩ = some (.bool x.o.flag) ∧ W.cell? ⟨N0, 9, none⟩ = some (.slice la ln lc)) (exact HSl.out _ (by assumption)) (first
            | (go_at_call_of 15 (Value.pointer (some ⟨A, 0, none⟩)); refine (C1.out _ _ _ (by assumption)).mono ?_; rintro e w' ⟨rfl, hd8⟩; have hbx := hd8.blk)
            | (go_at_call_of 16 (Value.pointer (some ⟨R, 0, none⟩)); refine (C2.out _ _ (by assumption)).mono ?_; rintro e w' ⟨rfl, hd8⟩; have hbx := hd8.blk))
          all_goals
            have hd9 : TB w _ A R (s.set x.a x.o) (s.set x.a x.o) i N0 (boxC x (.slice la ln lc)) 32 := hd8
            have HD9 := Lib.hid (hd9.more (Nat.le_succ i))
            clear hd8 hd9 hbx hd0 C1 C2
            go_wp2
            go_meet
            exact ⟨_, HD9.out, sz_set HS.out (by omega) (by omega), by have := n_set s x.a x.o; omega⟩
        have e1 := w_1 1 q1
        by_cases q2 : x.what = 2
        · have e2 := w_0 2 q2
          clear q0 q1 q2 w_0 w_1
          have C1 := Lib.hid (fun (W : World) (t : Ab) (k : Nat) (h : TB w W A R s t k N0 (boxC x (.slice la ln lc)) 32) => h.unlL x.a)
          have C2 := Lib.hid (fun (W : World) (t : Ab) (h : TB w W A R t s i N0 (boxC x (.slice la ln lc)) 32) => h.hasR x.a)
          by_cases hi : inR s x.a
          · have C3 := Lib.hid (fun (W : World) (t : Ab) (h : TB w W A R t s i N0 (boxC x (.slice la ln lc)) 32) => h.unlR x.a hi (by omega))
            rw [decide_eq_true hi] at C2
            unfold ptr at C3
            clear hi
            have hd0 := HB.out.below (Below.refl _ _).drew
            have hbx := hd0.blk
            unfold ptr at C1 C2
            go_wp2_with fail
            go_region_held3 (fun W => W.cell? ⟨N0, 1, none⟩ = some (.int .i64 x.a) ∧ W.cell? ⟨N0, 2, none⟩ = some (.int .i64 x.b) ∧ W.cell? ⟨N0, 3, none⟩ = some (.int .i64 x.o.kind) ∧ W.cell? ⟨N0, 4, none⟩ = some (.string x.o.s) ∧ W.cell? ⟨N0, 5, none⟩ = some (.string x.o.t) ∧ W.cell? ⟨N0, 6, none⟩ = some (.int .i64 x.o.n) ∧ W.cell? ⟨N0, 7, none⟩ = some (.int .i64 x.o.m) ∧ W.cell? ⟨N0, 8, none⟩ = some (.bool x.o.flag) ∧ W.cell? ⟨N0, 9, none⟩ = some (.slice la ln lc)) (exact HSl.out _ (by assumption)) (first
              | (go_at_call_of 17 (Value.pointer (some ⟨A, 0, none⟩)); refine (C1.out _ _ _ (by assumption)).mono ?_; rintro e w' ⟨rfl, hd8⟩; have hbx := hd8.blk)
              | (go_at_call_of 18 (Value.pointer (some ⟨R, 0, none⟩)); refine (C2.out _ _ (by assumption)).mono ?_; rintro e w' ⟨rfl, hd8⟩; have hbx := hd8.blk)
              | (go_at_call_of 19 (Value.pointer (some ⟨R, 0, none⟩)); refine (C3.out _ _ (by assumption)).mono ?_; rintro e w' ⟨rfl, hd8⟩; have hbx := hd8.blk))
            all_goals
              have hd9 : TB w _ A R (s.unl x.a) (s.unl x.a) i N0 (boxC x (.slice la ln lc)) 32 := hd8
              have HD9 := Lib.hid (hd9.more (Nat.le_succ i))
              clear hd8 hd9 hbx hd0 C1 C2 C3
              go_wp2
              go_meet
              exact ⟨_, HD9.out, sz_unl HS.out, by have := n_unl s x.a; omega⟩
          · have hun : s.unl x.a = s := if_neg hi
            rw [decide_eq_false hi] at C2
            rw [unV_out hi, hun] at C1
            clear hi hun
            unfold ptr at C1 C2
            have HD0 := Lib.hid (HB.out.below (Below.refl _ _).drew)
            have HS0 : Hid (∀ W, TB w W A R s s i N0 (boxC x (.slice la ln lc)) 32 → W.cell? ⟨N0, 1, none⟩ = some (.int .i64 x.a)) := Lib.hid (fun W h => (HSl.out _ h.blk).1)
            go_wp2_with fail
            refine wp_region_quietC (C := fun W => TB w W A R s s i N0 (boxC x (.slice la ln lc)) 32) (by kernel_rfl) (by kernel_rfl) HD0.out ?_
            iterate 15 (first
              | go_big_quiet_skip
              | (go_big_quiet_want; go_big_quiet_op; go_big_quiet_on)
              | (refine BigFrame.wpQuiet_want rfl (fun K hK => ?_)
                 apply Exists.intro
                 refine ⟨fun W hW => ?_, hK _ ?_⟩
                 · have kk := HS0.out W hW
                   unfold Oper.quietAt
                   go_simp
                   first
                     | exact rfl
                     | exact ⟨rfl, rfl⟩
                     | (go_at_call 17; refine (C1.out W _ _ hW).mono ?_; rintro e w2 ⟨rfl, hb2⟩; exact ⟨rfl, hb2⟩)
                     | (go_at_call 18; refine (C2.out W _ hW).mono ?_; rintro e w2 ⟨rfl, hb2⟩; exact ⟨rfl, hb2⟩)
                 clear hK K
                 try simp only [Act.put, List.setIfInBounds_toArray, List.set_cons_zero, List.set_cons_succ]))
            refine wpQuiet_nil ?_
            intro W hW
            have HD9 := Lib.hid (TB.more hW (Nat.le_succ i))
            clear hW C1 C2 HD0 HS0
            go_wp2
            go_meet
            exact ⟨_, HD9.out, HS.out, by omega⟩
        have e2 := w_1 2 q2
        clear q0 q1 q2 w_0 w_1
        obtain ⟨bb, hbb⟩ : ∃ bb : Bool, bb = true ↔ canP s x.a x.b := by
          rcases Classical.em (canP s x.a x.b) with h | h
          · exact ⟨true, ⟨fun _ => h, fun _ => rfl⟩⟩
          · exact ⟨false, ⟨fun e => (by cases e), fun e => absurd e h⟩⟩
        obtain ⟨s2, hs2⟩ : ∃ s2, s2 = (if bb = true then s.mov x.a x.b else s) := ⟨_, rfl⟩
        have C1 := Lib.hid (fun (W : World) (t : Ab) (k : Nat) (h : TB w W A R s t k N0 (boxC x (.slice la ln lc)) 32) => h.movL x.a x.b bb hbb)
        have C2 := Lib.hid (fun (W : World) (t : Ab) (h : TB w W A R t s i N0 (boxC x (.slice la ln lc)) 32) => h.movR x.a x.b bb hbb (by omega) (by omega))
        rw [← hs2] at C1 C2
        have HS2 : Hid (SzA s2 ∧ s2.n = s.n) := Lib.hid (by
          rw [hs2]
          split
          · exact ⟨sz_mov HS.out, rfl⟩
          · exact ⟨HS.out, rfl⟩)
        clear hbb hs2
        have hd0 := HB.out.below (Below.refl _ _).drew
        have hbx := hd0.blk
        unfold ptr at C1 C2
        go_wp2_with fail
        go_region_held3 (fun W => W.cell? ⟨N0, 1, none⟩ = some (.int .i64 x.a) ∧ W.cell? ⟨N0, 2, none⟩ = some (.int .i64 x.b) ∧ W.cell? ⟨N0, 3, none⟩ = some (.int .i64 x.o.kind) ∧ W.cell? ⟨N0, 4, none⟩ = some (.string x.o.s) ∧ W.cell? ⟨N0, 5, none⟩ = some (.string x.o.t) ∧ W.cell? ⟨N0, 6, none⟩ = some (.int .i64 x.o.n) ∧ W.cell? ⟨N0, 7, none⟩ = some (.int .i64 x.o.m) ∧ W.cell? ⟨N0, 8, none⟩ = some (.bool x.o.flag) ∧ W.cell? ⟨N0, 9, none⟩ = some (.slice la ln lc)) (exact HSl.out _ (by assumption)) (first
          | (go_at_call_of 20 (Value.pointer (some ⟨A, 0, none⟩)); refine (C1.out _ _ _ (by assumption)).mono ?_; rintro e w' ⟨rfl, hd8⟩; have hbx := hd8.blk)
          | (go_at_call_of 21 (Value.pointer (some ⟨R, 0, none⟩)); refine (C2.out _ _ (by assumption)).mono ?_; rintro e w' ⟨rfl, hd8⟩; have hbx := hd8.blk))
        all_goals
          have hd9 : TB w _ A R s2 s2 (i + 1) N0 (boxC x (.slice la ln lc)) 32 := hd8
          have HD9 := Lib.hid hd9
          clear hd8 hd9 hbx hd0 C1 C2
          go_wp2
          go_meet
          exact ⟨_, HD9.out, HS2.out.1, by have := HS2.out.2; omega⟩
      case rest =>
        obtain ⟨s', hB', hS', hn'⟩ := hcut
        have HB2 := Lib.hid hB'
        have HS2 := Lib.hid hS'
        obtain ⟨g, cap, S, h0, cap2, kv, K, S2, hat, hK⟩ := hB'.at2
        have HAt := Lib.hid hat
        have hN0 := hB'.blk.lt
        have HbN : Hid (Below wc.heap.size wc (wc.alloc (.cells (nodeC nilO (.slice none 0 0)) 24))) := Lib.hid ((Below.refl _ _).alloc (Nat.le_refl _) _)
        have HZ : Hid (Blk (wc.alloc (.cells (nodeC nilO (.slice none 0 0)) 24)) wc.heap.size (nodeC nilO (.slice none 0 0)) 24) := Lib.hid (Blk.new _ _ _)
        have HH := Lib.hid ((hat.below HbN.out).has x.a)
        obtain ⟨zi, hzi⟩ : ∃ zi, zi = decide (inR s' x.a) := ⟨_, rfl⟩
        rw [← hzi] at HH
        have HZi := Lib.hid hzi
        clear hzi
        have k1 : (wc.alloc (.cells (nodeC nilO (.slice none 0 0)) 24)).cell? ⟨N0, 1, none⟩ = some (.int .i64 x.a) := (hB'.blk.below HbN.out).cell 1 rfl
        have r0 := (hat.below HbN.out).r.cell0
        have z0 := HZ.out.node.c0
        have zz1 := HZ.out.node.c1
        have zz2 := HZ.out.node.c2
        have zz3 := HZ.out.node.c3
        have zz4 := HZ.out.node.c4
        have zz5 := HZ.out.node.c5
        have zz6 := HZ.out.node.c6
        have fz := fun k => HZ.out.fr k
        clear hB' hS' hat HB HSl HS k0
        unfold ptr at HH
        unfold nodeC nilO at HbN HZ HH k1 r0 z0 zz1 zz2 zz3 zz4 zz5 zz6 fz
        go_wp2_with fail
        refine HH.out.mono ?_
        rintro e wn ⟨rfl, hwn⟩
        subst hwn
        generalize hwa : wc.alloc (.cells #[.int .i64 0, .string ⟨#[]⟩, .string ⟨#[]⟩, .int .i64 0, .int .i64 0, .bool false, .slice none 0 0] 24) = wa at *
        clear hwa
        have hRc := HAt.out.r.ltR
        have hhc := HAt.out.r.lth
        obtain ⟨nb, hnb⟩ : ∃ nb, nb = wc.heap.size := ⟨_, rfl⟩
        have HNb := Lib.hid hnb
        have hnR : nb ≠ R := by omega
        have hnN : nb ≠ N0 := by omega
        have hnh : nb ≠ h0 := by omega
        rw [← hnb] at HZ z0 zz1 zz2 zz3 zz4 zz5 zz6 fz ⊢
        clear hnb hN0
        go_upto_if 117 with fail
        go_cut [] (fun wx => Blk wx nb (nodeC (getO s' x.a) (.slice none 0 0)) 24 ∧ Below wc.heap.size wc wx)
        case first =>
          by_cases hi : inR s' x.a
          · obtain rfl : zi = true := by rw [HZi.out]; exact decide_eq_true hi
            obtain ⟨p, hp⟩ : ∃ p : Nat, x.a = (p : Int) := ⟨x.a.toNat, (toN hi.1).symm⟩
            have hpn : p < s'.n := by have := hi.2; omega
            have HO : Hid (getO s' x.a = s'.o p) := Lib.hid (by unfold getO; rw [if_pos hi, hp]; rfl)
            have nd := (HAt.out.below HbN.out).r.node hpn
            have n0 := nd.c0
            have n1 := nd.c1
            have n2 := nd.c2
            have n3 := nd.c3
            have n4 := nd.c4
            have n5 := nd.c5
            have n6 := nd.c6
            have hp1 : (p : Int) < (s'.n : Int) := by omega
            have hp0 : (0 : Int) ≤ (p : Int) := by omega
            rw [hp] at k1
            clear hi nd HH
            generalize s'.o p = op at *
            clear hp hpn
            go_upto_region 26 with fail
            go_region
            all_goals
              go_wp2_with fail
              go_meet
              rw [HO.out]
              refine ⟨blk_drew (Blk.renode (show Blk wa nb (nodeC nilO (.slice none 0 0)) _ from HZ.out) op (.slice none 0 0)), ?_⟩
              refine Below.drew ?_
              iterate 7 (refine Below.setCell ?_ (by have := HNb.out; show wc.heap.size ≤ nb; omega) _)
              exact HbN.out
          · have HO : Hid (getO s' x.a = nilO) := Lib.hid (if_neg hi)
            obtain rfl : zi = false := by rw [HZi.out]; exact decide_eq_false hi
            go_wp2
            go_meet
            rw [HO.out]
            exact ⟨HZ.out, HbN.out⟩
        case rest =>
          obtain ⟨kb, kw⟩ := hcut
          obtain ⟨wd, rfl⟩ : ∃ wd : World, wd = wc := ⟨_, rfl⟩
          have hat2 := HAt.out.below kw
          have hb2q := HB2.out.below kw
          have HTq := Lib.hid hb2q.to0
          have hkl : K.length ≤ 1000000000 := by omega
          have hnl : s'.n ≤ 1000000000 := by omega
          obtain ⟨ow, how⟩ : ∃ ow, getO s' x.a = ow := ⟨_, rfl⟩
          obtain ⟨cl, hcl⟩ : ∃ cl, chV s' x.a = cl := ⟨_, rfl⟩
          obtain ⟨pv, hpv⟩ : ∃ pv, parV s' x.a = pv := ⟨_, rfl⟩
          rw [how] at kb
          have CG : Hid (∀ W, Below wd.heap.size wd W → Calls Try.prog 23 #[ptr A, .int .i64 x.a] W fun e w' => e = .returned (nodeV ow (.slice none 0 0)) ∧ Below wd.heap.size wd w') :=
            Lib.hid (fun W h => by
              have := (hat2.below h).get HS2.out x.a
              rw [how] at this
              exact this.mono fun e w' ⟨h1, h2⟩ => ⟨h1, below_later h h2⟩)
          have CO : Hid (∀ W, Below wd.heap.size wd W → Calls Try.prog 22 #[nodeV ow (.slice none 0 0), nodeV ow (.slice none 0 0)] W fun e w' => e = .returned (.bool true) ∧ Below wd.heap.size wd w') :=
            Lib.hid (fun W h => by
              have := rown_any ow ow (.slice none 0 0) (.slice none 0 0) W
              rw [eq_self] at this
              exact this.mono fun e w' ⟨h1, h2⟩ => ⟨h1, below_later h h2⟩)
          have CP : Hid (∀ W, Below wd.heap.size wd W → Calls Try.prog 24 #[ptr A, .int .i64 x.a] W fun e w' => e = .returned (.int .i64 pv) ∧ W = w') :=
            Lib.hid (fun W h => by
              have := (hat2.below h).parL x.a
              rw [hpv] at this
              exact this)
          have CQ : Hid (∀ W, Below wd.heap.size wd W → Calls Try.prog 25 #[ptr R, .int .i64 x.a] W fun e w' => e = .returned (.int .i64 pv) ∧ W = w') :=
            Lib.hid (fun W h => by
              have := (hat2.below h).parR hkl x.a
              rw [hpv] at this
              exact this)
          have CC : Hid (∀ W, Below wd.heap.size wd W → Calls Try.prog 27 #[ptr A, .int .i64 x.a] W fun e w' => ∃ v, e = .returned v ∧ Ints w' v cl ∧ Below W.heap.size W w' ∧ Below wd.heap.size wd w') :=
            Lib.hid (fun W h => by
              have := (hat2.below h).chL hnl x.a
              rw [hcl] at this
              exact this.mono fun e w' ⟨v, h1, h2, h3⟩ => ⟨v, h1, h2, h3, below_later h h3⟩)
          have CD : Hid (∀ W, Below wd.heap.size wd W → Calls Try.prog 28 #[ptr R, .int .i64 x.a] W fun e w' => ∃ v, e = .returned v ∧ Ints w' v cl ∧ Below W.heap.size W w' ∧ Below wd.heap.size wd w') :=
            Lib.hid (fun W h => by
              have := (hat2.below h).chR hkl x.a
              rw [hcl] at this
              exact this.mono fun e w' ⟨v, h1, h2, h3⟩ => ⟨v, h1, h2, h3, below_later h h3⟩)
          have CN : Hid (∀ W v v', Below wd.heap.size wd W → Ints W v cl → Ints W v' cl → Calls Try.prog 26 #[v, v'] W fun e w' => e = .returned (.bool true) ∧ Below wd.heap.size wd w') :=
            Lib.hid (fun W v v' h h1 h2 => by
              have := numbers_any cl cl v v' W h1 h2
              rw [decide_eq_true rfl] at this
              exact this.mono fun e w' ⟨h3, h4⟩ => ⟨h3, below_later h h4⟩)
          have CL : Hid (∀ W, Below wd.heap.size wd W → Calls Try.prog 29 #[ptr A] W fun e w' => e = .returned (.int .i64 s'.n) ∧ W = w') :=
            Lib.hid (fun W h => (hat2.below h).len)
          have HSq : Hid (∀ W, Below wd.heap.size wd W → W.cell? ⟨N0, 1, none⟩ = some (.int .i64 x.a) ∧ W.cell? ⟨nb, 0, none⟩ = some (.int .i64 ow.kind) ∧ W.cell? ⟨nb, 1, none⟩ = some (.string ow.s) ∧ W.cell? ⟨nb, 2, none⟩ = some (.string ow.t) ∧ W.cell? ⟨nb, 3, none⟩ = some (.int .i64 ow.n) ∧ W.cell? ⟨nb, 4, none⟩ = some (.int .i64 ow.m) ∧ W.cell? ⟨nb, 5, none⟩ = some (.bool ow.flag) ∧ W.cell? ⟨nb, 6, none⟩ = some (.slice none 0 0) ∧ W.cell? ⟨R, 0, none⟩ = some (.slice (some ⟨h0, 0, none⟩) s'.n cap2)) :=
            Lib.hid (fun W h => ⟨keep_cell h (hb2q.blk.cell 1 rfl), keep_cell h kb.node.c0, keep_cell h kb.node.c1, keep_cell h kb.node.c2, keep_cell h kb.node.c3, keep_cell h kb.node.c4, keep_cell h kb.node.c5, keep_cell h kb.node.c6, keep_cell h hat2.r.cell0⟩)
          have HFin : Hid (SzA s' ∧ s'.n ≤ i + 1 + 1) := Lib.hid ⟨HS2.out, by omega⟩
          unfold ptr nodeV at CG
          unfold nodeV at CO
          unfold ptr at CP CQ CC CD CL
          clear kb kw hat2 hb2q how hcl hpv hkl hnl HAt HB2 HS2 HNb hnR hnN hnh HbN HZ HZi hRc hhc k1 r0 z0 zz1 zz2 zz3 zz4 zz5 zz6 fz
          have hfd : ∀ W : World, (Instr.field 24 (.agg #[.int .i64 ow.kind, .string ow.s, .string ow.t, .int .i64 ow.n, .int .i64 ow.m, .bool ow.flag, .slice none 0 0]) 6).run Try.prog W = .ok (.slice none 0 0) W := fun _ => by kernel_rfl
          have hq0 : Below wd.heap.size wd wd.drew := (Below.refl _ _).drew
          go_wp2_with fail
          go_region_held3 (fun W => W.cell? ⟨N0, 1, none⟩ = some (.int .i64 x.a) ∧ W.cell? ⟨nb, 0, none⟩ = some (.int .i64 ow.kind) ∧ W.cell? ⟨nb, 1, none⟩ = some (.string ow.s) ∧ W.cell? ⟨nb, 2, none⟩ = some (.string ow.t) ∧ W.cell? ⟨nb, 3, none⟩ = some (.int .i64 ow.n) ∧ W.cell? ⟨nb, 4, none⟩ = some (.int .i64 ow.m) ∧ W.cell? ⟨nb, 5, none⟩ = some (.bool ow.flag) ∧ W.cell? ⟨nb, 6, none⟩ = some (.slice none 0 0) ∧ W.cell? ⟨R, 0, none⟩ = some (.slice (some ⟨h0, 0, none⟩) s'.n cap2)) (exact HSq.out _ (by assumption)) (first
            | (go_at_call 23; refine (CG.out _ (by assumption)).mono ?_; rintro e w' ⟨rfl, hq⟩)
            | (go_at_call 22; refine (CO.out _ (by assumption)).mono ?_; rintro e w' ⟨rfl, hq⟩)
            | (go_at_call 24; refine (CP.out _ (by assumption)).mono ?_; rintro e w' ⟨rfl, rfl⟩)
            | (go_at_call 25; refine (CQ.out _ (by assumption)).mono ?_; rintro e w' ⟨rfl, rfl⟩)
            | (go_at_call 27; refine (CC.out _ (by assumption)).mono ?_; rintro e w' ⟨v1, rfl, hi1, hb1, hq⟩)
            | (go_at_call 28; refine (CD.out _ (by assumption)).mono ?_; rintro e w' ⟨v2, rfl, hi2, hb2, hq⟩; have hi1 := hi1.keep hb2)
            | (go_at_call 26; refine (CN.out _ _ _ (by assumption) hi1 hi2).mono ?_; rintro e w' ⟨rfl, hq⟩)
            | (go_at_call 29; refine (CL.out _ (by assumption)).mono ?_; rintro e w' ⟨rfl, rfl⟩))
          all_goals
            have HBf := Lib.hid (HTq.out.below hq)
            clear hq0 hb1 hb2 hi1 hi2 CG CO CP CQ CC CD CN CL HSq hfd HTq
            go_wp2
            go_roundg G
            case rel => exact ⟨i + 1, s', by omega, by go_num, HBf, Lib.hid HFin.out.1, HFin.out.2⟩
            case measure => omega
end TreePlays
end Go.Proofs.Ytlpfffioidbkeaa
