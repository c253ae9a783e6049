/- TreeAbove: the law's walk. -/
import Derived.Test.YtlpfffioidbkeaaTreeDD
import Derived.Deep.RegionHeld3
import Derived.Deep.DrawnRows
import Derived.Deep.LoopGhost
namespace Go.Proofs.Ytlpfffioidbkeaa
open Go Go.RowKit
namespace TreeAbove
open Tr
set_option maxRecDepth 100000
set_option linter.unusedVariables false
set_option linter.unusedSimpArgs false
attribute [local go_sem ↓] Go.wp_at_zero Go.wp_at_succ

def kO (i : Int) : Own := ⟨i, ⟨#[]⟩, ⟨#[]⟩, 0, 0, false⟩
theorem kO_sz (i : Int) : (kO i).s.size ≤ 281474976710656 ∧ (kO i).t.size ≤ 281474976710656 := ⟨by show 0 ≤ _; omega, by show 0 ≤ _; omega⟩
/-- So many steps up from a node, over nodes that differ. -/
def Way (w : World) (A k : Nat) (at' : Int) (s : Nat) : Prop :=
  (∃ g cap S ch, AR w A g cap S ∧ Tr.Good S ch ∧ S.n = k ∧ ∃ ht : Nat → Nat, (∀ p, p < S.n → ∀ c ∈ ch p, ht c < ht p) ∧
    ((at' = -1 ∧ s ≤ k) ∨ ∃ a : Nat, at' = (a : Int) ∧ a < k ∧ ∃ vs : List Nat, vs.length = s ∧ vs.Nodup ∧ (∀ v ∈ vs, v < k) ∧ ∀ v ∈ vs, ht v < ht a))
theorem Way.le {w : World} {A k : Nat} {at' : Int} {s : Nat} (h : Way w A k at' s) : s ≤ k := by
  obtain ⟨g, cap, S, ch, _, _, _, ht, _, h⟩ := h
  rcases h with ⟨_, h⟩ | ⟨a, _, ha, vs, h1, h2, h3, h4⟩
  · exact h
  · have := nodup_len k vs h2 h3; omega
theorem Way.next {w : World} {A k : Nat} {at' : Int} {s : Nat} (h : Way w A k at' s) (h0 : 0 ≤ at') :
    Calls Try.prog 24 #[ptr A, .int .i64 at'] w fun e w' => ∃ q : Int, e = .returned (.int .i64 q) ∧ w = w' ∧ Way w A k q (s + 1) := by
  obtain ⟨g, cap, S, ch, h1, hG, hn, ht, hr, h⟩ := h
  rcases h with ⟨e, _⟩ | ⟨a, rfl, ha, vs, g1, g2, g3, g4⟩
  · omega
  subst hn
  refine (parent_in h1 ha).mono ?_
  rintro e w' ⟨rfl, rfl⟩
  refine ⟨S.par a, rfl, rfl, g, cap, S, ch, h1, hG, rfl, ht, hr, ?_⟩
  have hav : a ∉ vs := fun hm => by have := g4 a hm; omega
  have hnd : (a :: vs).Nodup := List.nodup_cons.2 ⟨hav, g2⟩
  have hlt : ∀ v ∈ a :: vs, v < S.n := fun v hv => by rcases List.mem_cons.1 hv with rfl | hv; exact ha; exact g3 v hv
  rcases Classical.em (S.par a = -1) with hp | hp
  · left
    refine ⟨hp, ?_⟩
    have := nodup_len S.n _ hnd hlt
    rw [List.length_cons] at this
    omega
  · right
    obtain ⟨p, j, hp1, hp2, hj⟩ := hG.inv.parent ha hp
    have hra := hr p hp1 a (List.mem_of_getElem? hj)
    exact ⟨p, hp2, hp1, a :: vs, by rw [List.length_cons]; omega, hnd, hlt, fun v hv => by
      rcases List.mem_cons.1 hv with rfl | hv
      · exact hra
      · have := g4 v hv; omega⟩
theorem Way.start {w0 w : World} {A k i : Nat} (h : St Tr.Conn w0 w A k) (hi : i < k) : Way w A k (i : Int) 0 := by
  obtain ⟨g, cap, S, ch, h1, h2, h3, h4, h5, h6, rfl, h8⟩ := h
  obtain ⟨ht, hr⟩ := h4.rank
  exact ⟨g, cap, S, ch, h1, h4, rfl, ht, hr, .inr ⟨i, rfl, hi, [], rfl, List.nodup_nil, fun v hv => (by cases hv), fun v hv => (by cases hv)⟩⟩
theorem St.root {w0 w : World} {A k : Nat} (h : St Tr.Conn w0 w A k) :
    Calls Try.prog 24 #[ptr A, .int .i64 0] w fun e w' => e = .returned (.int .i64 (-1)) ∧ w = w' := by
  obtain ⟨g, cap, S, ch, h1, h2, h3, h4, h5, h6, rfl, h8⟩ := h
  have := parent_in h1 (i := 0) h4.inv.pos
  rw [(h4.inv.alone 0 h4.inv.pos h5.root).1] at this
  exact this
theorem St.tree {w0 w : World} {A k : Nat} (h : St Tr.Conn w0 w A k) (hk : k ≤ 1000000000) :
    Calls Try.prog 31 #[ptr A] w fun e w' => ∃ T a n c, e = .returned (nodeV (Tree.own T) (.slice a n c)) ∧ In w' (fun b => w.heap.size ≤ b) T (.slice a n c) ∧ T.cnt = k ∧ Below w.heap.size w w' := by
  obtain ⟨g, cap, S, ch, h1, h2, h3, h4, h5, h6, rfl, h8⟩ := h
  obtain ⟨ht, hr⟩ := h4.rank
  refine (tree_any (h4.inv.kids hk) h6 hr (ht 0 + 1) h4.inv.pos (by omega) h1).mono ?_
  rintro e w' ⟨a, n, c, rfl, g1, g2⟩
  exact ⟨tr S.o ch (ht 0 + 1) 0, a, n, c, by rw [tr_own], g1, Tr.Conn.count h4.inv h5 hr _ (by omega), g2⟩

set_option maxHeartbeats 8000000 in
theorem law_any (v : Value) (l : List (Int × Int)) (n : Int) (w : World) (hl : Prs w w.heap.size v l) (hn : (Lit.int .i64 n).wf = true) :
    Calls Try.prog 6 #[v, .int .i64 n] w fun e w' => e = .returned (.bool true) ∧ Below w.heap.size w w' := by
  obtain ⟨a, cap, rfl, hlm, hk⟩ := hl
  unfold maxLen at hlm
  have HK := Lib.hid hk
  have HA := Lib.hid (awake_any w)
  clear hk
  by_cases hbig : 60 < l.length
  · have hb' : (60 : Int) < (l.length : Int) := by omega
    go_enter Try.func6, Try.ntmps6
    go_wp2_with fail
    refine HA.out.mono ?_
    rintro e w1 ⟨rfl, hb1⟩
    go_wp2
    go_ret
    exact ⟨rfl, hb1⟩
  have hb' : (l.length : Int) ≤ 60 := by omega
  have hmsk := bits_and n 31 (by decide)
  have hmle := msk_le n 31 (by decide)
  rw [show ((31 : Nat) : Int) = 31 from rfl] at hmsk
  obtain ⟨m, hm⟩ : ∃ m, msk n 31 = m := ⟨_, rfl⟩
  rw [hm] at hmsk hmle
  clear hm hbig
  go_enter Try.func6, Try.ntmps6
  go_wp2_with fail
  refine HA.out.mono ?_
  rintro e w1 ⟨rfl, hb1⟩
  have HN := Lib.hid (new_any (kO 1) none 0 0 w1 (kO_sz 1).1 (kO_sz 1).2)
  unfold nodeV kO at HN
  have HB1 := Lib.hid hb1
  clear hb1 HA
  go_wp2_with fail
  refine HN.out.mono ?_
  rintro e w2 ⟨A, g, rfl, h1, hA, hg, hb2⟩
  have HS := Lib.hid (St.new (C := Tr.Conn) (o := kO 1) (Tr.Conn.one _) HB1.out h1 hA hg hb2 (kO_sz 1))
  clear h1 hA hg hb2 HN
  unfold ptr
  go_wp2
  go_loopg [8] m (fun G s8 wr => ∃ i : Nat, 1 ≤ i ∧ i + G = m + 1 ∧ s8 = .int .i64 i ∧ St Tr.Conn w wr A i)
  case atStart => exact ⟨1, by omega, by omega, rfl, HS.out⟩
  case round =>
    obtain ⟨i, hi1, hig, rfl, hS⟩ := hrel
    cases gk with
    | succ G =>
      have hlt : (i : Int) < 1 + (m : Int) := by omega
      have hi32 : (i : Int) ≤ 32 := by omega
      have hi0 : (1 : Int) ≤ (i : Int) := by omega
      have hz : ¬ (i : Int) = 0 := by omega
      have hz2 : ((i : Int) == 0) = false := by simp; omega
      have hmod : ((i : Int) * 7).tmod (i : Int) = 0 := Int.mul_tmod_right ..
      have HAd := Lib.hid (St.add (fun hC hG hp => hC.added hG.inv hp _) hS (p := 0) (by omega) (by omega) (kO i) (kO_sz i))
      rw [show ((0 : Nat) : Int) = 0 from rfl] at HAd
      unfold ptr nodeV kO at HAd
      clear hS
      go_wp2_with fail
      refine HAd.out.mono ?_
      rintro e w3 ⟨rfl, hS3⟩
      have HS3 := Lib.hid hS3
      clear hS3
      go_wp2
      go_roundg G
      case rel => exact ⟨i + 1, by omega, by omega, by go_num, HS3.out⟩
      case measure => omega
    | zero =>
      have him : i = m + 1 := by omega
      subst him
      have hlt : ¬ ((m + 1 : Nat) : Int) < 1 + (m : Int) := by omega
      have HS2 := Lib.hid hS
      clear hS HS hig hi1 hmsk
      go_wp2
      clear hlt
      go_loopg [9] l.length (fun G s9 wr => ∃ j : Nat, j + G = l.length ∧ s9 = .int .i64 j ∧ St Tr.Conn w wr A (m + 1))
      case atStart => exact ⟨0, by omega, rfl, HS2.out⟩
      case round =>
        obtain ⟨j, hjg, rfl, hS⟩ := hrel
        cases gk with
        | succ G =>
          rcases HK.out with rfl | ⟨b, off, rfl, hbB, hcell⟩
          · simp at hjg
          obtain ⟨x, hx⟩ : ∃ x, l[j]? = some x := ⟨_, List.getElem?_eq_getElem (by omega)⟩
          obtain ⟨q0, q1⟩ := hcell j x hx
          have hlt : (j : Int) < (l.length : Int) := by omega
          have hbase := hS.base
          have HM := Lib.hid (St.move (fun hC h1 h2 h3 => hC.move h1 h2 h3) (hS.keep (Below.refl _ wr).drew) x.1 x.2)
          have HC : Hid (∀ W, Below w.heap.size w W → (W.cell? ⟨b, off + j * 2, none⟩ = some (.int .i64 x.1) ∧ W.cell? ⟨b, off + j * 2 + 1, none⟩ = some (.int .i64 x.2))) := Lib.hid (fun W hW => ⟨by rw [hW.cell (p := ⟨b, off + j * 2, none⟩) hbB]; exact q0, by rw [hW.cell (p := ⟨b, off + j * 2 + 1, none⟩) hbB]; exact q1⟩)
          have HBs := Lib.hid hbase
          unfold ptr at HM
          clear hcell hx q0 q1 hS hbase
          go_wp2_with fail
          go_region_held3 (fun W => W.cell? ⟨b, off + j * 2, none⟩ = some (.int .i64 x.1) ∧ W.cell? ⟨b, off + j * 2 + 1, none⟩ = some (.int .i64 x.2)) (first | exact HC.out _ HBs.out.drew | exact HC.out _ (St.base (by assumption))) ((go_at_call 20; refine HM.out.mono ?_; rintro e w4 ⟨⟨b4, rfl⟩, hS4⟩))
          have HS4 := Lib.hid hS4
          clear hS4
          go_wp2
          go_roundg G
          case rel => exact ⟨j + 1, by omega, by go_num, HS4.out⟩
          case measure => omega
        | zero =>
          have hlt : ¬ (j : Int) < (l.length : Int) := by omega
          have HS3 := Lib.hid hS
          clear hS HS2
          go_wp2
          clear hlt
          go_loopg [10, 11, 12] (m + 1) (fun G s10 s11 s12 wr => ∃ i : Nat, i + G = m + 1 ∧ s10 = .int .i64 i ∧ St Tr.Conn w wr A (m + 1))
          case atStart => exact ⟨0, by omega, rfl, HS3.out⟩
          case round =>
            obtain ⟨i, hig, rfl, hS⟩ := hrel
            cases gk with
            | zero =>
              have hlt : ¬ (i : Int) < 1 + (m : Int) := by omega
              have HP := Lib.hid (St.root hS)
              have HT := Lib.hid (St.tree hS (by omega))
              have HB := Lib.hid hS.base
              unfold ptr at HP HT
              unfold nodeV at HT
              clear hS HS3 hig
              go_wp2_with fail
              refine HP.out.mono ?_
              rintro e w5 ⟨rfl, rfl⟩
              go_wp2_with fail
              refine HT.out.mono ?_
              rintro e w6 ⟨T, a6, n6, c6, rfl, hin6, hcnt6, hb6⟩
              have HCt := Lib.hid (count_any T w6 _ hin6 (by omega))
              rw [hcnt6] at HCt
              have HB6 := Lib.hid hb6
              unfold nodeV at HCt
              rw [show (((m + 1 : Nat)) : Int) = 1 + (m : Int) by omega] at HCt
              clear hin6 hcnt6 hb6 HP HT
              go_wp2_with fail
              refine HCt.out.mono ?_
              rintro e w7 ⟨rfl, hb7⟩
              go_wp2
              go_ret
              exact ⟨rfl, HB.out.trans ((below_later HB6.out hb7).mono HB.out.size)⟩
            | succ G =>
              have hlt : (i : Int) < 1 + (m : Int) := by omega
              have HW0 := Lib.hid (Way.start hS (i := i) (by omega))
              have HS5 := Lib.hid hS
              clear hS HS3
              go_wp2
              go_loopg [11, 12] (m + 2) (fun G2 s11 s12 wr2 => ∃ (q : Int) (s : Nat), s + G2 = m + 2 ∧ s11 = .int .i64 q ∧ s12 = .int .i64 s ∧ Way wr2 A (m + 1) q s ∧ St Tr.Conn w wr2 A (m + 1))
              case atStart => exact ⟨i, 0, by omega, rfl, rfl, HW0.out, HS5.out⟩
              case round =>
                obtain ⟨q, s, hsg, rfl, rfl, hW, hS6⟩ := hrel
                have hle := hW.le
                clear HW0 HS5
                cases gk with
                | zero => omega
                | succ G2 =>
                  have HS6 := Lib.hid hS6
                  clear hS6
                  by_cases hq : 0 ≤ q
                  · have HP := Lib.hid (hW.next hq)
                    have hsk : ¬ 1 + (m : Int) < (s : Int) := by omega
                    unfold ptr at HP
                    clear hW
                    go_wp2_with fail
                    refine HP.out.mono ?_
                    rintro e w8 ⟨q2, rfl, rfl, hW2⟩
                    have HW2 := Lib.hid hW2
                    clear hW2 HP
                    go_wp2
                    go_roundg G2
                    case rel => exact ⟨q2, s + 1, by omega, rfl, by go_num, HW2.out, HS6.out⟩
                    case measure => omega
                  · clear hW
                    go_wp2
                    go_roundg G
                    case rel => exact ⟨i + 1, by omega, by go_num, HS6.out⟩
                    case measure => omega
end TreeAbove
end Go.Proofs.Ytlpfffioidbkeaa
