/- DelimNests: pairs do not cross, no run is used up more than it has: the law's walk. -/
import Derived.Test.YtbdcbeghiglfgaaDoorDlAw
import Derived.Test.YtbdcbeghiglfgaaDoorDlR3
import Derived.Test.YtbdcbeghiglfgaaDoorDlBlk
import Derived.Deep.RegionHeld3
import Derived.Deep.RegionLaw
namespace Go.Proofs.YtbdcbeghiglfgaaDoor
open Go Go.RowKit
namespace DelimNests
open Dl
set_option maxRecDepth 100000
set_option linter.unusedVariables false
set_option linter.unusedSimpArgs false

theorem used_append : ∀ (p q : List Pr) (j : Nat), used (p ++ q) j = used p j + used q j
  | [], q, j => by show _ = 0 + _; rw [Nat.zero_add]; rfl
  | a :: t, q, j => by
    show (if a.1 = j then a.2.2 else 0) + (if a.2.1 = j then a.2.2 else 0) + used (t ++ q) j = (if a.1 = j then a.2.2 else 0) + (if a.2.1 = j then a.2.2 else 0) + used t j + used q j
    rw [used_append t q j]; omega
theorem used_take (p : List Pr) (i j : Nat) : used (p.take i) j ≤ used p j := by
  conv => rhs; rw [← List.take_append_drop i p, used_append]
  omega
theorem used_next {p : List Pr} {i : Nat} {o c n : Nat} (h : p[i]? = some (o, c, n)) (hoc : o < c) : ∀ j, upd (upd (used (p.take i)) o (used (p.take i) o + n)) c (used (p.take i) c + n) j = used (p.take (i + 1)) j := by
  intro j
  rw [take_more h, used_append]
  show _ = _ + ((if o = j then n else 0) + (if c = j then n else 0) + 0)
  unfold upd
  by_cases h1 : j = c
  · subst h1
    rw [if_pos rfl, if_pos rfl, if_neg (show ¬ o = j by omega)]; omega
  · rw [if_neg h1, if_neg (show ¬ c = j from fun e => h1 e.symm)]
    by_cases h2 : j = o
    · subst h2; rw [if_pos rfl, if_pos rfl]; omega
    · rw [if_neg h2, if_neg (show ¬ o = j from fun e => h2 e.symm)]; omega
theorem used_sum {p : List Pr} {i : Nat} {o c n : Nat} (h : p[i]? = some (o, c, n)) (hoc : o < c) : used (p.take i) o + n ≤ used p o ∧ used (p.take i) c + n ≤ used p c := by
  have h1 := used_next h hoc o
  have h2 := used_next h hoc c
  unfold upd at h1 h2
  rw [if_neg (by omega), if_pos rfl] at h1
  rw [if_pos rfl] at h2
  exact ⟨h1 ▸ used_take p (i + 1) o, h2 ▸ used_take p (i + 1) c⟩
theorem sum_const {f : Nat → Nat} {c : Nat} : ∀ n, (∀ j, j < n → f j ≤ c) → sumf f n ≤ n * c
  | 0, _ => Nat.zero_le _
  | n + 1, h => by
    have h1 := sum_const n (fun j hj => h j (by omega))
    have h2 := h n (by omega)
    rw [Nat.add_mul, Nat.one_mul]
    exact Nat.add_le_add h1 h2
theorem caps_le {l : List Rn} {j : Nat} (h : (rn l j).n ≤ 200) : caps l j ≤ 200 := by
  unfold caps cap
  split <;> omega
/-- What the law asks of one pair, and of two. -/
structure PairOk (l : List Rn) (N o c n : Nat) : Prop where
  lt : o < c
  le : c < N
  n1 : 1 ≤ n
  sg : (rn l o).c = (rn l c).c
  op : (rn l o).o = true
  cl : (rn l c).k = true
  n2 : (rn l o).c ≠ 126 → n ≤ 2
theorem pair_ok {l : List Rn} {i o c n : Nat} (h : (pairs l)[i]? = some (o, c, n)) : PairOk l l.length o c n ∧ ∀ k b, k < i → (pairs l)[k]? = some b → Apart (o, c, n) b := by
  obtain ⟨h1, _, h3⟩ := nests l 0 (caps l) [] ⟨fun a ha => (by cases ha), fun a ha => (by cases ha), fun a ha => (by cases ha)⟩
  obtain ⟨a1, a2, a3, a4, a5, a6, a7⟩ := h1 _ (List.mem_of_getElem? h)
  refine ⟨⟨a1, a2, a3, a4, a5, a6, a7⟩, fun k b hk hb => ?_⟩
  obtain ⟨hi, e1⟩ := List.getElem?_eq_some_iff.1 h
  obtain ⟨hk2, e2⟩ := List.getElem?_eq_some_iff.1 hb
  have := List.pairwise_iff_getElem.1 h3 k i hk2 hi hk
  have e1' : (goF l 0 (caps l))[i] = (o, c, n) := e1
  have e2' : (goF l 0 (caps l))[k] = b := e2
  rw [← e1', ← e2']; exact this

theorem left_ne {w : World} {U N b off n : Nat} (h : LeftAt w U N (fun _ => 0)) (hc : w.cell? ⟨b, off, none⟩ = some (.int .i64 (n : Int))) (hn : 1 ≤ n) : b ≠ U := by
  intro e
  subst e
  by_cases ho : off < N
  · have := h.cell ho
    rw [hc] at this
    injection this with this
    injection this with _ this
    have h0 : (n : Int) = 0 := this
    omega
  · obtain ⟨c, hb, hs, _⟩ := h
    rw [cell_of_row w b off _ _ _ hb, Array.getElem?_eq_none (by omega)] at hc
    cases hc
set_option maxHeartbeats 16000000 in
theorem law_any (l : List Rn) (v : Value) (w : World) (hP : Prog13 w) (hR : Runs w v l) (hok : ∀ r ∈ l, RnOk r) :
    Calls Tryd.prog 5 #[v] w fun e w' => e = .returned (.bool true) ∧ Below w.heap.size w w' := by
  have HA := Lib.hid (awake_any w hP)
  have HR := Lib.hid hR
  have HM := Lib.hid (fun W hW hV h1 h2 => hP.mtch l v W hW hV h1 hok h2)
  have HOk : Hid (∀ j, j < l.length → RnOk (rn l j)) := Lib.hid (fun j hj => hok _ (List.mem_of_getElem? (rn_at hj)))
  obtain ⟨a, cap, rfl, hlm, hk⟩ := hR
  unfold maxLen at hlm
  have HK := Lib.hid hk
  obtain ⟨N, hN⟩ : ∃ N, l.length = N := ⟨_, rfl⟩
  have HN := Lib.hid hN
  rw [hN] at hlm HR HM HOk ⊢
  clear hN hk hP hok
  by_cases hbig : 80 < N
  · have hb' : (80 : Int) < (N : Int) := by omega
    go_enter Tryd.func5, Tryd.ntmps5
    go_wp2_with fail
    refine HA.out.mono ?_
    rintro e w1 ⟨rfl, hb1⟩
    go_wp2
    go_ret
    exact ⟨rfl, hb1⟩
  have hb' : ¬ (80 : Int) < (N : Int) := by omega
  have hlI : (N : Int) ≤ 80 := by omega
  have hmk := run_make_row' (P := Tryd.prog) 38 3 (.int .i64 0) 8 Tryd.underlying38 infoInt rfl .i64 .i64 N (by omega) (by omega)
  go_enter Tryd.func5, Tryd.ntmps5
  go_wp2_with fail
  refine HA.out.mono ?_
  rintro e w1 ⟨rfl, hb1⟩
  have HM0 : Hid (LeftAt (w1.alloc (.cells (madeCells #[.int .i64 0] N) 3)) w1.heap.size N (fun _ => 0)) := Lib.hid (LeftAt.start w1 N)
  have HB0 : Hid (Below w.heap.size w (w1.alloc (.cells (madeCells #[.int .i64 0] N) 3))) := Lib.hid (hb1.alloc hb1.size _)
  have HS0 : Hid (w1.heap.size < (w1.alloc (.cells (madeCells #[.int .i64 0] N) 3)).heap.size) := Lib.hid (by simp)
  have HS1 : Hid (w.heap.size ≤ w1.heap.size) := Lib.hid hb1.size
  clear hb1 HA
  go_wp2_with fail
  generalize hU : w1.heap.size = U at *
  generalize hw2 : w1.alloc (.cells (madeCells #[.int .i64 0] N) 3) = w2 at *
  clear hw2 hU hmk
  go_loopg [5] N (fun G s5 wr => ∃ i : Nat, i + G = N ∧ s5 = .int .i64 (i : Int) ∧ Hid (∀ j, j < i → (rn l j).n ≤ 200) ∧ wr = w2)
  case atStart => exact ⟨0, by omega, rfl, Lib.hid (fun j hj => by omega), rfl⟩
  case round =>
    obtain ⟨i, hig, rfl, HC, rfl⟩ := hrel
    cases gk with
    | succ G =>
      have hlt : (i : Int) < (N : Int) := by omega
      have hii : (0 : Int) ≤ (i : Int) := by omega
      have hil : i < l.length := by rw [HN.out]; omega
      rcases HK.out with rfl | ⟨b, off, rfl, hcell⟩
      · simp at hil
      have c1 := keep_cell HB0.out (run_cells (hcell i _ (rn_at hil))).2.1
      clear hcell
      by_cases h1 : 200 < (rn l i).n
      · generalize (rn l i).n = n at *
        go_wp2
        go_ret
        exact ⟨rfl, HB0.out⟩
      · have HC2 : Hid (∀ j, j < i + 1 → (rn l j).n ≤ 200) := Lib.hid (fun j hj => by
          by_cases e : j = i
          · subst e; omega
          · exact HC.out j (by omega))
        generalize (rn l i).n = n at *
        go_wp2
        go_roundg G
        case rel => exact ⟨i + 1, by omega, by go_num, HC2, rfl⟩
        case measure => omega
    | zero =>
      have hlt : ¬ (i : Int) < (N : Int) := by omega
      have HC2 : Hid (∀ j, j < N → (rn l j).n ≤ 200) := Lib.hid (fun j hj => HC.out j (by omega))
      have HCp : Hid (∀ j, j < N → caps l j ≤ 200) := Lib.hid (fun j hj => caps_le (HC2.out j hj))
      have HL : Hid ((pairs l).length ≤ 16000) := Lib.hid (by
        have h1 := sum_const (f := caps l) (c := 200) l.length (fun j hj => HCp.out j (by rw [HN.out] at hj; omega))
        have := pairs_len l
        rw [HN.out] at h1 this; omega)
      have HUs : Hid (∀ j, j < N → used (pairs l) j ≤ 200) := Lib.hid (fun j hj => Nat.le_trans (used_le l 0 (caps l) j) (HCp.out j hj))
      clear HC HCp
      go_wp2_with fail
      refine (HM.out _ HB0.out (HR.out.keep HB0.out) (by omega) (by have := HL.out; omega)).mono ?_
      rintro e w3 ⟨u, rfl, hu, hb3⟩
      have hB3 := below_later HB0.out hb3
      have HU3 := Lib.hid (HM0.out.below hb3 HS0.out)
      have HUlt : Hid (U < w3.heap.size) := Lib.hid (Nat.lt_of_lt_of_le HS0.out hb3.size)
      obtain ⟨ap, cp, rfl, _, hps⟩ := hu
      have HPs := Lib.hid hps
      obtain ⟨T, hT⟩ : ∃ T, (pairs l).length = T := ⟨_, rfl⟩
      have HT := Lib.hid hT
      have hT9 : (T : Int) ≤ 16000 := by have := HL.out; omega
      have HB3 := Lib.hid hB3
      rw [hT]
      clear hps hb3 hB3 hT HM
      go_wp2_with fail
      have HX0 := Lib.hid (fun (i : Nat) (h : i = 0) => HU3)
      go_loopg [7] T (fun G s7 wr => ∃ i : Nat, i + G = T ∧ s7 = .int .i64 (i : Int) ∧ Hid (LeftAt wr U N (used ((pairs l).take i))) ∧ Hid (Only (fun k => k = U) w3 wr))
      case atStart => exact ⟨0, by omega, rfl, HU3, Lib.hid (Only.refl _ _)⟩
      case round =>
        as_aux_lemma =>
          obtain ⟨i, hiT, rfl, HU, HO⟩ := hrel
          cases gk with
          | succ G =>
            have hltT : (i : Int) < (T : Int) := by omega
            have hii : (0 : Int) ≤ (i : Int) := by omega
            have hil : i < (pairs l).length := by rw [HT.out]; omega
            obtain ⟨⟨o, c, n⟩, hx⟩ : ∃ x, (pairs l)[i]? = some x := ⟨_, List.getElem?_eq_getElem hil⟩
            obtain ⟨hpk, hpap⟩ := pair_ok hx
            rw [HN.out] at hpk
            obtain ⟨hs1, hs2⟩ := used_sum hx hpk.lt
            have hU1 := HUs.out o (by have := hpk.lt; have := hpk.le; omega)
            have hU2 := HUs.out c hpk.le
            obtain ⟨bP, oP, rfl, hPc⟩ := HPs.out.resolve_left (fun e => by rw [e] at hil; simp at hil)
            have hbPU : bP ≠ U := left_ne HU3.out (pair_cells (hPc i _ hx)).2.2 hpk.n1
            have HPw : Hid (∀ (W : World), Only (fun k => k = U) w3 W → ∀ (k : Nat) (x : Pr), (pairs l)[k]? = some x → AtG pairE W bP (oP + k * 3) x) := Lib.hid (fun W hW k x hx j u hu => by
              have h1 := hPc k x hx j u hu
              rw [World.cell?_of_block (hW.block bP (World.block_lt_of_cell? w3 _ h1) hbPU)]; exact h1)
            obtain ⟨P0, P1, P2⟩ := pair_cells (HPw.out wr HO.out i _ hx)
            have hNl : 0 < l.length := by rw [HN.out]; have := hpk.le; omega
            rcases HK.out with rfl | ⟨b, off, rfl, hcell⟩
            · simp at hNl
            have HRn : Hid (∀ (W : World), Only (fun k => k = U) w3 W → ∀ j, j < N → W.cell? ⟨b, off + j * 4, none⟩ = some (.int .u8 ((rn l j).c.toNat : Int)) ∧ W.cell? ⟨b, off + j * 4 + 1, none⟩ = some (.int .i64 (rn l j).n) ∧ W.cell? ⟨b, off + j * 4 + 2, none⟩ = some (.bool (rn l j).o) ∧ W.cell? ⟨b, off + j * 4 + 3, none⟩ = some (.bool (rn l j).k)) := Lib.hid (fun W hW j hj => by
              have h1 := hcell j _ (rn_at (by rw [HN.out]; exact hj))
              have hb : b < w.heap.size := World.block_lt_of_cell? w _ (h1 0 _ rfl)
              have h3 := h1.keep HB3.out
              refine run_cells (fun q u hu => ?_)
              have h4 := h3 q u hu
              rw [World.cell?_of_block (hW.block b (World.block_lt_of_cell? w3 _ h4) (fun e => by have := HS1.out; omega))]; exact h4)
            clear hcell hPc
            have HXn := Lib.hid (used_next hx hpk.lt)
            have HAp : Hid (∀ k x, k < i → (pairs l)[k]? = some x → Apart (o, c, n) x) := Lib.hid hpap
            clear hpap hil
            go_wp2_with fail
            have HPk := Lib.hid hpk
            have hoc : o < c := hpk.lt
            have hcN : c < N := hpk.le
            have hn1 : 1 ≤ n := hpk.n1
            obtain ⟨W2, hW2⟩ : ∃ W2, wr.alloc (.cells #[.int .i64 (o : Int), .int .i64 (c : Int), .int .i64 (n : Int)] 40) = W2 := ⟨_, rfl⟩
            have hO2 : Only (fun k => k = U) w3 W2 := by rw [← hW2]; exact HO.out.alloc _
            have hbx : Blk W2 wr.heap.size #[.int .i64 (o : Int), .int .i64 (c : Int), .int .i64 (n : Int)] 40 := by rw [← hW2]; exact Blk.new _ _ _
            have hUw : U < wr.heap.size := Nat.lt_of_lt_of_le HUlt.out HO.out.size
            have hU2' : LeftAt W2 U N (used ((pairs l).take i)) := HU.out.below (B := wr.heap.size) (by rw [← hW2]; exact (Below.refl _ wr).alloc (Nat.le_refl _) _) hUw
            have z0 : W2.cell? ⟨wr.heap.size, 0, none⟩ = some (.int .i64 (o : Int)) := hbx.cell 0 rfl
            have z1 : W2.cell? ⟨wr.heap.size, 1, none⟩ = some (.int .i64 (c : Int)) := hbx.cell 1 rfl
            have z2 : W2.cell? ⟨wr.heap.size, 2, none⟩ = some (.int .i64 (n : Int)) := hbx.cell 2 rfl
            obtain ⟨r0, _, r2, _⟩ := HRn.out W2 hO2 o (by omega)
            obtain ⟨s0, _, _, s3⟩ := HRn.out W2 hO2 c hcN
            rw [HPk.out.op] at r2
            rw [HPk.out.cl] at s3
            rw [← HPk.out.sg] at s0
            have HO2 := Lib.hid hO2
            have HU2 := Lib.hid hU2'
            have HBx := Lib.hid hbx
            have hsz2 : W2.heap.size = wr.heap.size + 1 := by rw [← hW2]; exact World.size_alloc _ _
            rw [hW2]
            have HSz := Lib.hid hsz2
            have h126 : n ≤ 2 ∨ (rn l o).c = 126 := by
              by_cases e : (rn l o).c = 126
              · exact .inr e
              · exact .inl (HPk.out.n2 e)
            have e126 : (((rn l o).c.toNat : Int) != 126) = !((rn l o).c == 126) := by unfold bne; rw [show (((rn l o).c.toNat : Int) == 126) = ((rn l o).c == 126) from eq_u8 (rn l o).c 126 (by decide)]
            have h126' : n ≤ 2 ∨ (((rn l o).c.toNat : Int) != 126) = false := h126.imp id (fun e => by rw [e126, e]; rfl)
            clear hW2 hO2 hU2' hbx P0 P1 P2 h126 e126 hpk hsz2
            generalize (rn l o).c.toNat = mc at *
            have q1 : decide ((o : Int) < 0) = false := by simp
            have q2 : decide ((N : Int) ≤ (c : Int)) = false := by simp; omega
            have q3 : decide ((c : Int) ≤ (o : Int)) = false := by simp; omega
            have q4 : decide ((n : Int) < 1) = false := by simp; omega
            have q5 : ((mc : Int) != (mc : Int)) = false := by simp
            have i1 : (o : Int) < (N : Int) := by omega
            have i2 : (c : Int) < (N : Int) := by omega
            have i3 : (0 : Int) ≤ (o : Int) := by omega
            have i4 : (0 : Int) ≤ (c : Int) := by omega
            have i5 : ¬ (N : Int) ≤ (c : Int) := by omega
            have i6 : ¬ (c : Int) ≤ (o : Int) := by omega
            have i7 : ¬ (n : Int) < 1 := by omega
            go_cut [113] from 45 to 112 (fun v113 wx => v113 = .bool false ∧ Below W2.heap.size W2 wx)
            case first =>
              by_cases hn2 : 2 < n
              · have q6 : decide ((2 : Int) < (n : Int)) = true := by simp; omega
                have q7 : (2 : Int) < (n : Int) := by omega
                have q8 := h126'.resolve_left (by omega)
                clear h126'
                go_big_quiet (fail)
                go_wp2
                go_meet
                exact ⟨rfl, below_drewN (Below.refl _ _) nq⟩
              · have q6 : decide ((2 : Int) < (n : Int)) = false := by simp; omega
                have q7 : ¬ (2 : Int) < (n : Int) := by omega
                clear h126'
                go_big_quiet (fail)
                go_wp2
                go_meet
                exact ⟨rfl, below_drewN (Below.refl _ _) nq⟩
            obtain ⟨rfl, hbc⟩ := hcut
            clear q1 q2 q3 q4 q5 i5 i6 i7 r0 r2 s0 s3 h126' z0 z1 z2
            as_aux_lemma =>
              obtain ⟨fo, hfo⟩ : ∃ k, used ((pairs l).take i) o = k := ⟨_, rfl⟩
              obtain ⟨fc, hfc⟩ : ∃ k, used ((pairs l).take i) c = k := ⟨_, rfl⟩
              rw [hfo] at hs1
              rw [hfc] at hs2
              have hUc := HU2.out.below hbc (Nat.lt_of_lt_of_le hUw (by rw [HSz.out]; omega))
              have hbxc := HBx.out.below hbc
              have y0 : wc.cell? ⟨wr.heap.size, 0, none⟩ = some (.int .i64 (o : Int)) := hbxc.cell 0 rfl
              have y2 : wc.cell? ⟨wr.heap.size, 2, none⟩ = some (.int .i64 (n : Int)) := hbxc.cell 2 rfl
              have uo : wc.cell? ⟨U, o, none⟩ = some (.int .i64 (fo : Int)) := by rw [← hfo]; exact hUc.cell (by omega)
              have uz : wc.frozen? ⟨U, o, none⟩ = false := hUc.fr o
              obtain ⟨so, hso⟩ : ∃ k, fo + n = k := ⟨_, rfl⟩
              obtain ⟨sc, hsc⟩ : ∃ k, fc + n = k := ⟨_, rfl⟩
              have hsoI : (fo : Int) + (n : Int) = (so : Int) := by omega
              have hscI : (fc : Int) + (n : Int) = (sc : Int) := by omega
              have hso9 : (so : Int) ≤ 200 := by omega
              have hsc9 : (sc : Int) ≤ 200 := by omega
              have hneA : wr.heap.size ≠ U := by omega
              have HU3' : Hid (LeftAt ((wc.setCell ⟨U, o, none⟩ (.int .i64 (so : Int))).drew) U N (upd (used ((pairs l).take i)) o so)) := Lib.hid (by
                exact (hUc.set o so).block rfl)
              have HO3 : Hid (Only (fun k => k = U) w3 ((wc.setCell ⟨U, o, none⟩ (.int .i64 (so : Int))).drew)) := Lib.hid (Only.setCell (X := fun k => k = U) (HO2.out.then_below hbc) rfl _).drew
              have HB3' : Hid (Blk ((wc.setCell ⟨U, o, none⟩ (.int .i64 (so : Int))).drew) wr.heap.size #[.int .i64 (o : Int), .int .i64 (c : Int), .int .i64 (n : Int)] 40) := Lib.hid (show Blk _ _ _ _ from Blk.other (p := ⟨U, o, none⟩) hbxc _ hneA)
              clear hUc hbxc hbc
              go_wp2_with fail
              go_region
              go_wp2_with fail
              generalize hw5 : (wc.setCell ⟨U, o, none⟩ (.int .i64 (so : Int))).drew = w5 at *
              clear hw5 y0 y2 uo uz
              have y1 : w5.cell? ⟨wr.heap.size, 1, none⟩ = some (.int .i64 (c : Int)) := HB3'.out.cell 1 rfl
              have y2 : w5.cell? ⟨wr.heap.size, 2, none⟩ = some (.int .i64 (n : Int)) := HB3'.out.cell 2 rfl
              have uc : w5.cell? ⟨U, c, none⟩ = some (.int .i64 (fc : Int)) := by
                have := HU3'.out.cell hcN
                unfold upd at this
                rw [if_neg (by omega), hfc] at this
                exact this
              have uz : w5.frozen? ⟨U, c, none⟩ = false := HU3'.out.fr c
              have HU4 : Hid (LeftAt ((w5.setCell ⟨U, c, none⟩ (.int .i64 (sc : Int))).drew) U N (used ((pairs l).take (i + 1)))) := Lib.hid (by
                have h1 := HU3'.out.set c sc
                refine LeftAt.congr (h1.block (w' := (w5.setCell ⟨U, c, none⟩ (.int .i64 (sc : Int))).drew) rfl) fun j _ => ?_
                rw [← HXn.out j, hfo, hfc, hso, hsc])
              have HO4 : Hid (Only (fun k => k = U) w3 ((w5.setCell ⟨U, c, none⟩ (.int .i64 (sc : Int))).drew)) := Lib.hid (Only.setCell (X := fun k => k = U) HO3.out rfl _).drew
              have HB4 : Hid (Blk ((w5.setCell ⟨U, c, none⟩ (.int .i64 (sc : Int))).drew) wr.heap.size #[.int .i64 (o : Int), .int .i64 (c : Int), .int .i64 (n : Int)] 40) := Lib.hid (show Blk _ _ _ _ from Blk.other (p := ⟨U, c, none⟩) HB3'.out _ hneA)
              clear HU3' HO3 HB3' hfo hfc hso hsc HXn
              go_region
              go_wp2_with fail
              generalize hw6 : (w5.setCell ⟨U, c, none⟩ (.int .i64 (sc : Int))).drew = w6 at *
              clear hw6 y1 y2 uc uz
              have HUw6 : Hid (U < w6.heap.size) := Lib.hid (Nat.lt_of_lt_of_le HUlt.out HO4.out.size)
              as_aux_lemma =>
                obtain ⟨bx, hbx⟩ : ∃ k, wr.heap.size = k := ⟨_, rfl⟩
                rw [hbx] at HB4 ⊢
                go_loopg [9] i (fun M s9 wq => ∃ k : Nat, k + M = i ∧ s9 = .int .i64 (k : Int) ∧ Hid (Below w6.heap.size w6 wq))
                case atStart => exact ⟨0, by omega, rfl, Lib.hid (Below.refl _ _)⟩
                case round =>
                  as_aux_lemma =>
                    obtain ⟨k, hkM, rfl, HBq⟩ := hrel
                    cases gk with
                    | zero =>
                      have hlk : ¬ (k : Int) < (i : Int) := by omega
                      have HU5 : Hid (LeftAt wr U N (used ((pairs l).take (i + 1)))) := Lib.hid (HU4.out.below HBq.out HUw6.out)
                      have HO5 : Hid (Only (fun k => k = U) w3 wr) := Lib.hid (HO4.out.then_below HBq.out)
                      go_wp2
                      go_roundg G
                      case rel => exact ⟨i + 1, by omega, by go_num, HU5, HO5⟩
                      case measure => omega
                    | succ M =>
                      have hlk : (k : Int) < (i : Int) := by omega
                      have hk0 : (0 : Int) ≤ (k : Int) := by omega
                      have hki : k < i := by omega
                      have hkT : (k : Int) < (T : Int) := by omega
                      obtain ⟨⟨o', c', n'⟩, hx'⟩ : ∃ x, (pairs l)[k]? = some x := ⟨_, List.getElem?_eq_getElem (by rw [HT.out]; omega)⟩
                      obtain ⟨P0, P1, P2⟩ := pair_cells (HPw.out wr (HO4.out.then_below HBq.out) k _ hx')
                      obtain ⟨ap1, ap2⟩ := HAp.out k _ hki hx'
                      simp only at ap1 ap2
                      have hbl : Below wr.heap.size wr (wr.alloc (.cells #[.int .i64 (o' : Int), .int .i64 (c' : Int), .int .i64 (n' : Int)] 40)) := (Below.refl _ wr).alloc (Nat.le_refl _) _
                      have hbA := (HB4.out.below HBq.out).below hbl
                      have hbB := Blk.new wr #[.int .i64 (o' : Int), .int .i64 (c' : Int), .int .i64 (n' : Int)] 40
                      have HBn := Lib.hid (below_later HBq.out hbl)
                      have z0 : (wr.alloc (.cells #[.int .i64 (o' : Int), .int .i64 (c' : Int), .int .i64 (n' : Int)] 40)).cell? ⟨bx, 0, none⟩ = some (.int .i64 (o : Int)) := hbA.cell 0 rfl
                      have z1 : (wr.alloc (.cells #[.int .i64 (o' : Int), .int .i64 (c' : Int), .int .i64 (n' : Int)] 40)).cell? ⟨bx, 1, none⟩ = some (.int .i64 (c : Int)) := hbA.cell 1 rfl
                      have z3 : (wr.alloc (.cells #[.int .i64 (o' : Int), .int .i64 (c' : Int), .int .i64 (n' : Int)] 40)).cell? ⟨wr.heap.size, 0, none⟩ = some (.int .i64 (o' : Int)) := hbB.cell 0 rfl
                      have z4 : (wr.alloc (.cells #[.int .i64 (o' : Int), .int .i64 (c' : Int), .int .i64 (n' : Int)] 40)).cell? ⟨wr.heap.size, 1, none⟩ = some (.int .i64 (c' : Int)) := hbB.cell 1 rfl
                      clear hbl hbA hbB hx'
                      go_upto_region 23 with fail
                      generalize hW7 : wr.alloc (.cells #[.int .i64 (o' : Int), .int .i64 (c' : Int), .int .i64 (n' : Int)] 40) = W7 at *
                      obtain ⟨by', hby⟩ : ∃ k, wr.heap.size = k := ⟨_, rfl⟩
                      rw [hby] at z3 z4 ⊢
                      clear hW7 hby P0 P1 P2
                      go_cut [186] from 147 to 185 (fun v186 wx => v186 = .bool false ∧ wx = W7)
                      case first =>
                        try clear HPw; try clear HAp; try clear HRn; try clear HPk; try clear HU4; try clear HO4; try clear HB4; try clear HUw6; try clear HBq; try clear HBn; try clear HPs; try clear HU3; try clear HX0; try clear HUs; try clear HC2; try clear HL; try clear HK; try clear HR; try clear HOk; try clear HB0; try clear HM0; try clear HS0; try clear HB3; try clear HO2; try clear HU2; try clear HBx; try clear HSz; try clear HU; try clear HO; try clear hk0; try clear hlk; try clear hkT; try clear hsoI; try clear hscI; try clear hso9; try clear hsc9; try clear i1; try clear i2; try clear i3; try clear i4; try clear hlI; try clear hlm; try clear hT9; try clear hltT; try clear hii
                        by_cases g1 : o' < o
                        · by_cases g2 : o < c'
                          · have j1 : (o' : Int) < (o : Int) := by omega
                            have j2 : (o : Int) < (c' : Int) := by omega
                            have j3 : ¬ (c' : Int) < (c : Int) := by omega
                            have j4 : ¬ (o : Int) < (o' : Int) := by omega
                            go_wp2
                            go_meet
                            exact ⟨rfl, rfl⟩
                          · have j1 : (o' : Int) < (o : Int) := by omega
                            have j2 : ¬ (o : Int) < (c' : Int) := by omega
                            have j4 : ¬ (o : Int) < (o' : Int) := by omega
                            go_wp2
                            go_meet
                            exact ⟨rfl, rfl⟩
                        · by_cases g2 : o < o'
                          · by_cases g3 : o' < c
                            · have j1 : ¬ (o' : Int) < (o : Int) := by omega
                              have j2 : (o : Int) < (o' : Int) := by omega
                              have j3 : (o' : Int) < (c : Int) := by omega
                              have j4 : ¬ (c : Int) < (c' : Int) := by omega
                              go_wp2
                              go_meet
                              exact ⟨rfl, rfl⟩
                            · have j1 : ¬ (o' : Int) < (o : Int) := by omega
                              have j2 : (o : Int) < (o' : Int) := by omega
                              have j3 : ¬ (o' : Int) < (c : Int) := by omega
                              go_wp2
                              go_meet
                              exact ⟨rfl, rfl⟩
                          · have j1 : ¬ (o' : Int) < (o : Int) := by omega
                            have j2 : ¬ (o : Int) < (o' : Int) := by omega
                            go_wp2
                            go_meet
                            exact ⟨rfl, rfl⟩
                      obtain ⟨rfl, rfl⟩ := hcut
                      go_wp2
                      go_roundg M
                      case rel => exact ⟨k + 1, by omega, by go_num, HBn⟩
                      case measure => omega
          | zero =>
            have hltT : ¬ (i : Int) < (T : Int) := by omega
            have HUe : Hid (LeftAt wr U N (used (pairs l))) := Lib.hid (by
              have h1 := HU.out
              rwa [List.take_of_length_le (by rw [HT.out]; omega)] at h1)
            have HBe : Hid (Below w.heap.size w wr) := Lib.hid (HB3.out.trans (HO.out.below HB3.out.size (fun k hk => by rw [hk]; exact HS1.out)))
            have hUw : U < wr.heap.size := Nat.lt_of_lt_of_le HUlt.out HO.out.size
            clear HU HO HPs HU3 HX0
            go_wp2_with fail
            obtain ⟨w8, hw8⟩ : ∃ w8, wr = w8 := ⟨_, rfl⟩
            rw [hw8] at HUe HBe hUw ⊢
            go_loopg [11] N (fun M s11 wz => ∃ j : Nat, j + M = N ∧ s11 = .int .i64 (j : Int) ∧ Hid (Below w8.heap.size w8 wz))
            case atStart => exact ⟨0, by omega, rfl, Lib.hid (Below.refl _ _)⟩
            case round =>
              obtain ⟨j, hjM, rfl, HBz⟩ := hrel
              cases gk with
              | zero =>
                have hlj : ¬ (j : Int) < (N : Int) := by omega
                have HBf := Lib.hid (below_later HBe.out HBz.out)
                go_wp2
                go_ret
                exact ⟨rfl, HBf.out⟩
              | succ M =>
                have hlj : (j : Int) < (N : Int) := by omega
                have hj0 : (0 : Int) ≤ (j : Int) := by omega
                have hjl : j < l.length := by rw [HN.out]; omega
                rcases HK.out with rfl | ⟨b, off, rfl, hcell⟩
                · simp at hjl
                have c1 := keep_cell (below_later HBe.out HBz.out) (run_cells (hcell j _ (rn_at hjl))).2.1
                have u1 : wr.cell? ⟨U, j, none⟩ = some (.int .i64 (used (pairs l) j : Int)) := (HUe.out.below HBz.out hUw).cell (by omega)
                have hule : used (pairs l) j ≤ caps l j := used_le l 0 (caps l) j
                have hcj : caps l j = if 1 ≤ (rn l j).n ∧ (rn l j).n ≤ 1073741824 then (rn l j).n.toNat else 0 := rfl
                have HBd := Lib.hid HBz.out.drew
                clear hcell
                generalize used (pairs l) j = uj at *
                generalize caps l j = cj at *
                generalize (rn l j).n = nj at *
                by_cases hp : 0 < nj
                · have hle : ¬ nj < (uj : Int) := by
                    split at hcj <;> omega
                  clear hcj hule
                  go_wp2_with fail
                  go_region
                  all_goals
                    go_wp2
                    go_roundg M
                    case rel => exact ⟨j + 1, by omega, by go_num, HBd⟩
                    case measure => omega
                · have hle : ¬ (0 : Int) < (uj : Int) := by
                    rw [if_neg (by omega)] at hcj
                    omega
                  clear hcj hule
                  go_wp2_with fail
                  go_region
                  all_goals
                    go_wp2
                    go_roundg M
                    case rel => exact ⟨j + 1, by omega, by go_num, HBd⟩
                    case measure => omega
end DelimNests
end Go.Proofs.YtbdcbeghiglfgaaDoor
