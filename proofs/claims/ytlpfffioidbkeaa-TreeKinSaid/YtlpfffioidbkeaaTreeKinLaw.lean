/- TreeKin: the law's walk. -/
import Derived.Test.YtlpfffioidbkeaaTreeEE
import Derived.Deep.RegionHeld3
import Derived.Deep.DrawnRows
namespace Go.Proofs.Ytlpfffioidbkeaa
open Go Go.RowKit
namespace TreeKin
open Tr
set_option maxRecDepth 100000
set_option linter.unusedVariables false
set_option linter.unusedSimpArgs false
attribute [local go_sem ↓] Go.wp_at_zero Go.wp_at_succ

def kO (i : Int) : Own := ⟨i, ⟨#[]⟩, ⟨#[]⟩, 0, 0, false⟩
theorem kO_sz (i : Int) : (kO i).s.size ≤ 281474976710656 ∧ (kO i).t.size ≤ 281474976710656 := ⟨by show 0 ≤ _; omega, by show 0 ≤ _; omega⟩
abbrev Any : Ar → (Nat → List Nat) → Prop := fun _ _ => True
theorem unlink_st {w0 w : World} {A n : Nat} (h : St Any w0 w A n) (id : Int) :
    Calls Try.prog 17 #[ptr A, .int .i64 id] w fun e w' => (∃ b, e = .returned (.bool b)) ∧ St Any w0 w' A n := by
  obtain ⟨g, cap, S, ch, h1, h2, h3, h4, h5, h6, rfl, h8⟩ := h
  rcases Classical.em (0 ≤ id ∧ id < (S.n : Int)) with hi | hi
  · obtain ⟨i, rfl⟩ : ∃ i : Nat, id = i := ⟨id.toNat, by omega⟩
    refine (unlink_step h4 h1 (by omega)).mono ?_
    rintro e w' ⟨⟨b, rfl, _⟩, S', h1', ho, hn', ho', hI'⟩
    have hw := h8.size
    exact ⟨⟨b, rfl⟩, g, cap, S', _, h1', h2, h3, h4.cut i hn' hI', trivial, fun i hi => by rw [ho']; exact h6 i (by omega), hn', h8.trans (ho.below hw (fun k hk => by rcases hk with rfl | rfl <;> assumption))⟩
  · refine (unlink_false h1 (.inl hi)).mono ?_
    rintro e w' ⟨rfl, rfl⟩
    exact ⟨⟨false, rfl⟩, g, cap, S, ch, h1, h2, h3, h4, h5, h6, rfl, h8⟩
/-- How many children the first nodes have. -/
def tot (ch : Nat → List Nat) : Nat → Nat | 0 => 0 | i + 1 => tot ch i + (ch i).length
def cntP (S : Ar) : Nat → Nat | 0 => 0 | i + 1 => cntP S i + if 0 ≤ S.par i then 1 else 0
theorem tot_eq (ch : Nat → List Nat) : ∀ i, tot ch i = ((List.range i).flatMap ch).length
  | 0 => rfl
  | i + 1 => by rw [tot, List.range_succ, List.flatMap_append, List.length_append, ← tot_eq ch i]; simp
theorem cntP_eq (S : Ar) : ∀ i, cntP S i = ((List.range i).filter (fun x => decide (0 ≤ S.par x))).length
  | 0 => rfl
  | i + 1 => by
    rw [cntP, List.range_succ, List.filter_append, List.length_append, ← cntP_eq S i]
    congr 1
    by_cases h : 0 ≤ S.par i
    · rw [if_pos h, List.filter_cons_of_pos (by simpa using h)]; rfl
    · rw [if_neg h, List.filter_cons_of_neg (by simpa using h)]; rfl
section
variable {S : Ar} {ch : Nat → List Nat}
theorem tot_mono (i j : Nat) (h : i ≤ j) : tot ch i ≤ tot ch j := by
  induction j with
  | zero => have : i = 0 := by omega
            subst this; exact Nat.le_refl _
  | succ j ih =>
    rcases Nat.lt_or_ge i (j + 1) with h1 | h1
    · have := ih (by omega); rw [tot]; omega
    · have : i = j + 1 := by omega
      subst this; exact Nat.le_refl _
theorem cntP_le (S : Ar) : ∀ i, cntP S i ≤ i
  | 0 => Nat.le_refl _
  | i + 1 => by have := cntP_le S i; rw [cntP]; split <;> omega
theorem kin (hI : Inv S ch) : tot ch S.n = cntP S S.n := by
  rw [tot_eq, cntP_eq]
  have hmem : ∀ x, x ∈ (List.range S.n).flatMap ch ↔ x ∈ (List.range S.n).filter (fun x => decide (0 ≤ S.par x)) := by
    intro x
    rw [List.mem_flatMap, List.mem_filter, List.mem_range, decide_eq_true_eq]
    constructor
    · rintro ⟨p, hp, hm⟩
      rw [List.mem_range] at hp
      have := hI.par p hp x hm
      exact ⟨hI.lt p hp x hm, by omega⟩
    · rintro ⟨hx, hp⟩
      obtain ⟨p, j, h1, h2, h3⟩ := hI.parent hx (by omega)
      exact ⟨p, List.mem_range.2 h1, List.mem_of_getElem? h3⟩
  have hnd : ((List.range S.n).flatMap ch).Nodup := by
    unfold List.Nodup
    rw [List.pairwise_flatMap]
    refine ⟨fun c h1 => hI.nodup c (List.mem_range.1 h1), ?_⟩
    have : List.Pairwise (fun a b => a ∈ List.range S.n ∧ b ∈ List.range S.n ∧ a ≠ b) (List.range S.n) := by
      rw [List.pairwise_iff_forall_sublist]
      intro a b hab
      have h3 : a ≠ b := List.pairwise_iff_forall_sublist.1 List.nodup_range hab
      exact ⟨hab.subset (by simp), hab.subset (by simp), h3⟩
    refine this.imp ?_
    rintro a b ⟨ha, hb, hne⟩ x hx y hy rfl
    exact hne (hI.uniq (List.mem_range.1 ha) (List.mem_range.1 hb) hx hy)
  have h1 := sub_len hnd (fun x hx => (hmem x).1 hx)
  have h2 := sub_len (List.nodup_range.filter _) (fun x hx => (hmem x).2 hx)
  omega
end

set_option maxHeartbeats 16000000 in
theorem law_any (v : Value) (l : List (Int × Int)) (n : Int) (w : World) (hl : Prs w w.heap.size v l) (hn : (Lit.int .i64 n).wf = true) :
    Calls Try.prog 8 #[v, .int .i64 n] w fun e w' => e = .returned (.bool true) ∧ Below w.heap.size w w' := by
  obtain ⟨a, cap, rfl, hlm, hk⟩ := hl
  unfold maxLen at hlm
  have HK := Lib.hid hk
  have HA := Lib.hid (awake_any w)
  clear hk
  by_cases hbig : 60 < l.length
  · have hb' : (60 : Int) < (l.length : Int) := by omega
    go_enter Try.func8, Try.ntmps8
    go_wp2_with fail
    refine HA.out.mono ?_
    rintro e w1 ⟨rfl, hb1⟩
    go_wp2
    go_ret
    exact ⟨rfl, hb1⟩
  have hb' : (l.length : Int) ≤ 60 := by omega
  have hmsk := bits_and n 31 (by decide)
  have hmle := msk_le n 31 (by decide)
  rw [show ((31 : Nat) : Int) = 31 from rfl] at hmsk
  obtain ⟨m, hm⟩ : ∃ m, msk n 31 = m := ⟨_, rfl⟩
  rw [hm] at hmsk hmle
  clear hm hbig
  go_enter Try.func8, Try.ntmps8
  go_wp2_with fail
  refine HA.out.mono ?_
  rintro e w1 ⟨rfl, hb1⟩
  have HN := Lib.hid (new_any (kO 1) none 0 0 w1 (kO_sz 1).1 (kO_sz 1).2)
  unfold nodeV kO at HN
  have HB1 := Lib.hid hb1
  clear hb1 HA
  go_wp2_with fail
  refine HN.out.mono ?_
  rintro e w2 ⟨A, g, rfl, h1, hA, hg, hb2⟩
  have HS := Lib.hid (St.new (C := Any) (o := kO 1) trivial HB1.out h1 hA hg hb2 (kO_sz 1))
  clear h1 hA hg hb2 HN
  unfold ptr
  go_wp2
  go_loopg [8] m (fun G s8 wr => ∃ i : Nat, 1 ≤ i ∧ i + G = m + 1 ∧ s8 = .int .i64 i ∧ St Any w wr A i)
  case atStart => exact ⟨1, by omega, by omega, rfl, HS.out⟩
  case round =>
    obtain ⟨i, hi1, hig, rfl, hS⟩ := hrel
    cases gk with
    | succ G =>
      have hlt : (i : Int) < 1 + (m : Int) := by omega
      have hi32 : (i : Int) ≤ 32 := by omega
      have hi0 : (1 : Int) ≤ (i : Int) := by omega
      have hdiv : (i : Int).tdiv 2 = ((i / 2 : Nat) : Int) := by rw [Int.tdiv_eq_ediv_of_nonneg (by omega)]; omega
      have HAd := Lib.hid (St.add (fun _ _ _ => trivial) hS (p := i / 2) (by omega) (by omega) (kO i) (kO_sz i))
      unfold ptr nodeV kO at HAd
      clear hS
      go_wp2_with fail
      refine HAd.out.mono ?_
      rintro e w3 ⟨rfl, hS3⟩
      have HS3 := Lib.hid hS3
      clear hS3
      go_wp2
      go_roundg G
      case rel => exact ⟨i + 1, by omega, by omega, by go_num, HS3.out⟩
      case measure => omega
    | zero =>
      have him : i = m + 1 := by omega
      subst him
      have hlt : ¬ ((m + 1 : Nat) : Int) < 1 + (m : Int) := by omega
      have HS2 := Lib.hid hS
      clear hS HS hig hi1 hmsk
      go_wp2
      clear hlt
      go_loopg [9] l.length (fun G s9 wr => ∃ j : Nat, j + G = l.length ∧ s9 = .int .i64 j ∧ St Any w wr A (m + 1))
      case atStart => exact ⟨0, by omega, rfl, HS2.out⟩
      case round =>
        obtain ⟨j, hjg, rfl, hS⟩ := hrel
        cases gk with
        | succ G =>
          rcases HK.out with rfl | ⟨b, off, rfl, hbB, hcell⟩
          · simp at hjg
          obtain ⟨x, hx⟩ : ∃ x, l[j]? = some x := ⟨_, List.getElem?_eq_getElem (by omega)⟩
          obtain ⟨q0, q1⟩ := hcell j x hx
          have hlt : (j : Int) < (l.length : Int) := by omega
          have hbase := hS.base
          have HM := Lib.hid (St.move (fun _ _ _ _ => trivial) (hS.keep (Below.refl _ wr).drew) x.1 x.2)
          have HU := Lib.hid (unlink_st hS x.1)
          have HC : Hid (∀ W, Below w.heap.size w W → (W.cell? ⟨b, off + j * 2, none⟩ = some (.int .i64 x.1) ∧ W.cell? ⟨b, off + j * 2 + 1, none⟩ = some (.int .i64 x.2))) := Lib.hid (fun W hW => ⟨by rw [hW.cell (p := ⟨b, off + j * 2, none⟩) hbB]; exact q0, by rw [hW.cell (p := ⟨b, off + j * 2 + 1, none⟩) hbB]; exact q1⟩)
          have HBs := Lib.hid hbase
          have q0' : wr.cell? ⟨b, off + j * 2, none⟩ = some (.int .i64 x.1) := (HC.out wr hbase).1
          unfold ptr at HM HU
          clear hcell hx q0 q1 hS hbase
          by_cases h3 : x.1.tmod 3 = 0
          · have h3' : (x.1.tmod 3 == 0) = true := by simpa using h3
            go_wp2_with fail
            refine HU.out.mono ?_
            rintro e w4 ⟨⟨b4, rfl⟩, hS4⟩
            have HS4 := Lib.hid hS4
            clear hS4 q0'
            go_wp2
            go_roundg G
            case rel => exact ⟨j + 1, by omega, by go_num, HS4.out⟩
            case measure => omega
          · have h3' : (x.1.tmod 3 == 0) = false := by simpa using h3
            go_wp2_with fail
            go_region_held3 (fun W => W.cell? ⟨b, off + j * 2, none⟩ = some (.int .i64 x.1) ∧ W.cell? ⟨b, off + j * 2 + 1, none⟩ = some (.int .i64 x.2)) (first | exact HC.out _ HBs.out.drew | exact HC.out _ (St.base (by assumption))) ((go_at_call 20; refine HM.out.mono ?_; rintro e w4 ⟨⟨b4, rfl⟩, hS4⟩))
            have HS4 := Lib.hid hS4
            clear hS4 q0'
            go_wp2
            go_roundg G
            case rel => exact ⟨j + 1, by omega, by go_num, HS4.out⟩
            case measure => omega
        | zero =>
          have hlt : ¬ (j : Int) < (l.length : Int) := by omega
          obtain ⟨wo, rfl⟩ : ∃ wo : World, wo = wr := ⟨_, rfl⟩
          have hS' := hS
          obtain ⟨g3, cap3, S, ch, h3, hA3, hg3, hG3, _, hSz3, hn3, hb3⟩ := hS'
          have HAR := Lib.hid h3
          have HG3 := Lib.hid hG3
          have HN3 := Lib.hid hn3
          have HB3 := Lib.hid hb3
          have hw3 := hb3.size
          have HKi := Lib.hid (hG3.inv.kids (by omega))
          have hkin := kin hG3.inv
          rw [hn3] at hkin
          have htm : ∀ i, i ≤ m + 1 → tot ch i ≤ 32 := fun i hi => by
            have h1 := tot_mono (ch := ch) i (m + 1) hi
            have h2 := cntP_le S (m + 1)
            omega
          have HTM := Lib.hid htm
          have HKin := Lib.hid hkin
          clear hS HS2 h3 hG3 hSz3 hn3 hb3 htm hkin
          go_wp2
          clear hlt
          go_loopg [10, 11, 12, 13] (m + 1) (fun G s10 s11 s12 s13 wr' => ∃ i : Nat, i + G = m + 1 ∧ s11 = .int .i64 i ∧ s10 = .int .i64 (tot ch i) ∧ Below wo.heap.size wo wr')
          case atStart => exact ⟨0, by omega, rfl, rfl, Below.refl _ _⟩
          case round =>
            obtain ⟨i, hig, rfl, rfl, hb4⟩ := hrel
            cases gk with
            | succ G =>
              have hlt : (i : Int) < 1 + (m : Int) := by omega
              have hin : i < S.n := by have := HN3.out; omega
              have HC := Lib.hid (children_in HKi.out (HAR.out.below hb4) hin)
              have ht1 : tot ch i ≤ 32 := HTM.out i (by omega)
              have ht2 : tot ch i + (ch i).length ≤ 32 := by have := HTM.out (i + 1) (by omega); rw [tot] at this; exact this
              have HB4 := Lib.hid hb4
              unfold ptr at HC
              clear hb4
              go_wp2_with fail
              refine HC.out.mono ?_
              rintro e w5 ⟨vc, rfl, hown5, hb5⟩
              obtain ⟨ac, cc, rfl⟩ := owns_form hown5
              have HO5 := Lib.hid hown5
              have HB5 := Lib.hid (below_later HB4.out hb5)
              clear hown5 hb5 HC
              go_wp2
              go_loopg [13] (ch i).length (fun G2 s13 wr2 => ∃ j2 : Nat, j2 + G2 = (ch i).length ∧ s13 = .int .i64 j2 ∧ w5 = wr2)
              case atStart => exact ⟨0, by omega, rfl, rfl⟩
              case round =>
                obtain ⟨j2, hj2, rfl, rfl⟩ := hrel
                cases gk with
                | zero =>
                  have hlt2 : ¬ (j2 : Int) < ((ch i).length : Int) := by omega
                  go_wp2
                  go_roundg G
                  case rel => exact ⟨i + 1, by omega, by go_num, by rw [tot]; go_num, HB5.out⟩
                  case measure => omega
                | succ G2 =>
                  obtain ⟨c, hc⟩ : ∃ c, (ch i)[j2]? = some c := ⟨_, List.getElem?_eq_getElem (by omega)⟩
                  have hlt2 : (j2 : Int) < ((ch i).length : Int) := by omega
                  have hcm := List.mem_of_getElem? hc
                  have hcn := HG3.out.inv.lt i hin c hcm
                  have HP := Lib.hid (parent_in (HAR.out.below HB5.out) hcn)
                  rw [HG3.out.inv.par i hin c hcm] at HP
                  obtain ⟨gc, rfl⟩ : ∃ gc, ac = some ⟨gc, 0, none⟩ := by
                    rcases HO5.out.2 with ⟨hv, h0⟩ | ⟨gc, cap', cur, hv, _⟩
                    · omega
                    · injection hv with hv _ _; exact ⟨gc, hv⟩
                  have cx := HO5.out.cells (g := gc) rfl j2 _ (ints_get hc)
                  rw [add_off, Nat.zero_add] at cx
                  unfold ptr at HP
                  clear hc hcm
                  go_wp2_with fail
                  refine HP.out.mono ?_
                  rintro e w6 ⟨rfl, rfl⟩
                  clear cx
                  go_wp2
                  go_roundg G2
                  case rel => exact ⟨j2 + 1, by omega, by go_num, rfl⟩
                  case measure => omega
            | zero =>
              have hlt : ¬ (i : Int) < 1 + (m : Int) := by omega
              have him : i = m + 1 := by omega
              have htl : tot ch i ≤ 32 := HTM.out i (by omega)
              have HKin2 : Hid (tot ch i = cntP S (m + 1)) := Lib.hid (by rw [him]; exact HKin.out)
              have HB4 := Lib.hid hb4
              clear hb4 him
              go_wp2
              go_loopg [14, 15] (m + 1) (fun G s14 s15 wr2 => ∃ i2 : Nat, i2 + G = m + 1 ∧ s15 = .int .i64 i2 ∧ s14 = .int .i64 (cntP S i2) ∧ Below wo.heap.size wo wr2)
              case atStart => exact ⟨0, by omega, rfl, rfl, HB4.out⟩
              case round =>
                obtain ⟨i2, hig2, rfl, rfl, hb6⟩ := hrel
                have hcl := cntP_le S i2
                cases gk with
                | zero =>
                  have hlt3 : ¬ (i2 : Int) < 1 + (m : Int) := by omega
                  have HL := Lib.hid (len_any (HAR.out.below hb6))
                  rw [HN3.out, show (((m + 1 : Nat)) : Int) = 1 + (m : Int) by omega] at HL
                  have hieq : Hid (tot ch i = cntP S i2) := Lib.hid (by rw [HKin2.out]; congr 1; omega)
                  rw [hieq.out]
                  have HB6 := Lib.hid hb6
                  unfold ptr at HL
                  clear hb6 hig2
                  go_wp2_with fail
                  refine HL.out.mono ?_
                  rintro e w7 ⟨rfl, rfl⟩
                  go_wp2
                  go_ret
                  exact ⟨rfl, HB3.out.trans (HB6.out.mono hw3)⟩
                | succ G2 =>
                  have hlt3 : (i2 : Int) < 1 + (m : Int) := by omega
                  have hin2 : i2 < S.n := by have := HN3.out; omega
                  have HP := Lib.hid (parent_in (HAR.out.below hb6) hin2)
                  have HB6 := Lib.hid hb6
                  have hce : Hid (cntP S (i2 + 1) = cntP S i2 + if 0 ≤ S.par i2 then 1 else 0) := Lib.hid rfl
                  unfold ptr at HP
                  clear hb6
                  by_cases hp0 : 0 ≤ S.par i2
                  · go_wp2_with fail
                    refine HP.out.mono ?_
                    rintro e w7 ⟨rfl, rfl⟩
                    go_wp2
                    go_roundg G2
                    case rel => exact ⟨i2 + 1, by omega, by go_num, by rw [hce.out, if_pos (show 0 ≤ S.par i2 by omega)]; go_num, HB6.out⟩
                    case measure => omega
                  · go_wp2_with fail
                    refine HP.out.mono ?_
                    rintro e w7 ⟨rfl, rfl⟩
                    go_wp2
                    go_roundg G2
                    case rel => exact ⟨i2 + 1, by omega, by go_num, by rw [hce.out, if_neg (show ¬ 0 ≤ S.par i2 by omega)]; rfl, HB6.out⟩
                    case measure => omega
end TreeKin
end Go.Proofs.Ytlpfffioidbkeaa
