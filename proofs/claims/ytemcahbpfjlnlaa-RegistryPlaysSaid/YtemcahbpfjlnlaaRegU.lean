/- Layer 7: the reference's Sorted. -/
import Derived.Test.YtemcahbpfjlnlaaRegT
import Derived.Test.YtemcahbpfjlnlaaRegQ
import Derived.Laws.Cover1
namespace Go.Proofs.Ytemcahbpfjlnlaa
open Go Go.RowKit
namespace Rg
set_option maxRecDepth 100000
set_option linter.unusedVariables false
set_option linter.unusedSimpArgs false

section
variable {w w' : World} {Z : Nat → Prop} {T : Nat} {m : Int} {hs : List Hk} {sl : Bool} {st : Int}
theorem row_at {w : World} {B n : Nat} {a : Option Addr} {cap : Nat} {L : List Hk} (h : w.ownsRow B 29 5 (.slice a n cap) L.length (rowC L)) {i : Nat} {o : Hk} (hi : L[i]? = some o) : ∃ g, a = some ⟨g, 0, none⟩ ∧ CellsAt w g (i * 5) o := by
  have hlt : i < L.length := (List.getElem?_eq_some_iff.1 hi).1
  obtain ⟨g, cap', hv', _, _⟩ := h.form (by omega)
  injection hv' with e1 e2 e3
  subst e1 e2 e3
  refine ⟨g, rfl, ?_⟩
  have hc := fun j v (hj : (hookC o)[j]? = some v) => h.cells rfl _ _ (rowC_get hi j v hj)
  refine ⟨?_, ?_, ?_, ?_, ?_⟩
  · have := hc 0 _ rfl; rwa [add_off, Nat.zero_add, Nat.add_zero] at this
  · have := hc 1 _ rfl; rwa [add_off, Nat.zero_add] at this
  · have := hc 2 _ rfl; rwa [add_off, Nat.zero_add] at this
  · have := hc 3 _ rfl; rwa [add_off, Nat.zero_add] at this
  · have := hc 4 _ rfl; rwa [add_off, Nat.zero_add] at this
/-- How far the selection has come: what has been told, what is left. -/
structure Sel (m p : Int) (hs O L : List Hk) : Prop where
  perm : (O ++ L).Perm (hs.filter (pick m p))
  ord : InOrder O
  le : ∀ a ∈ O, ∀ b ∈ L, ¬ cmpH b a < 0
theorem Sel.start (m p : Int) (hs : List Hk) : Sel m p hs [] (hs.filter (pick m p)) := ⟨List.Perm.refl _, List.Pairwise.nil, fun a ha => by cases ha⟩
theorem Sel.done {m p : Int} {hs O : List Hk} (hn : Names hs) (h : Sel m p hs O []) : O = told m hs p := told_eq hn (by have := h.perm; rwa [List.append_nil] at this) h.ord
theorem Sel.step {m p : Int} {hs O L : List Hk} (h : Sel m p hs O L) {k : Nat} {b : Hk} (hk : L[k]? = some b) (hm : ∀ (j : Nat) a, L[j]? = some a → ¬ cmpH a b < 0) : Sel m p hs (O ++ [b]) (L.eraseIdx k) := by
  have hb : b ∈ L := List.mem_of_getElem? hk
  have hsub : ∀ c ∈ L.eraseIdx k, c ∈ L := fun c hc => (List.eraseIdx_sublist L k).subset hc
  refine ⟨?_, ?_, fun a ha c hc => ?_⟩
  · refine List.Perm.trans ?_ h.perm
    rw [List.append_assoc]
    exact (erase_perm hk).symm.append_left O
  · refine List.pairwise_append.2 ⟨h.ord, List.pairwise_singleton _ _, fun a ha c hc => ?_⟩
    rw [List.mem_singleton] at hc
    subst hc
    exact h.le a ha c hb
  · rcases List.mem_append.1 ha with ha | ha
    · exact h.le a ha c (hsub c hc)
    · rw [List.mem_singleton] at ha
      subst ha
      obtain ⟨j, hj⟩ := List.getElem?_of_mem (hsub c hc)
      exact hm j c hj

set_option maxHeartbeats 40000000 in
theorem rsorted_any (h : RF w Z T m hs sl st) (p : Int) (hlen : hs.length ≤ 1000000) (hnm : Names hs) :
    Calls Try.prog 17 #[ptr T, .int .i64 p] w fun e w' => ∃ v, e = .returned v ∧ Hooks w' v (told m hs p) ∧ FreeV w.heap.size Z v ∧ RF w' Z T m hs true st ∧ Only Z w w' := by
  have HSet := Lib.hid (h.set (j := 2) (v := .bool true) (sl' := true) (st' := st) fun lv => rfl)
  obtain ⟨lv, hb1, _, _⟩ := h.body
  have c2 : w.cell? ⟨T, 2, none⟩ = some (.bool sl) := hb1.cell 2 rfl
  have f2 : w.frozen? ⟨T, 2, none⟩ = false := hb1.fr 2
  have HLt := Lib.hid h.lt
  clear hb1 h
  obtain ⟨n, hn⟩ : ∃ n, n = hs.length := ⟨_, rfl⟩
  rw [← hn] at hlen
  have HLn := Lib.hid hn
  obtain ⟨i0, hi, hz0, hz1, hz2⟩ := info_parts hookInfo2
  clear hn
  unfold ptr
  go_enter Try.func17, Try.ntmps17
  go_upto_region 1 with fail
  go_cut [] from 10 (fun wx => RF wx Z T m hs true st ∧ Only Z w wx)
  case first =>
    go_wp2
    go_meet
    exact HSet.out
  have HC := Lib.hid hcut
  obtain ⟨a, cap, c0, hown, hz, hcell⟩ := hcut.1.rows
  have hm := hcut.1.mask
  have HCell := Lib.hid hcell
  have HM := Lib.hid hm
  rw [← HLn.out] at c0
  have HC0 := Lib.hid c0
  clear hown hz hcell hcut c2 f2 HSet c0 hm
  go_wp2_with fail
  go_loopg [5, 6] n (fun G s5 s6 wr => ∃ i : Nat, i + G = n ∧ s6 = .int .i64 i ∧ wr.ownsRow wc.heap.size 29 5 s5 ((hs.take i).filter (pick m p)).length (rowC ((hs.take i).filter (pick m p))) ∧ Below wc.heap.size wc wr)
  case atStart => exact ⟨0, by omega, rfl, by simpa [rowC] using World.ownsRow_nil wc wc.heap.size 29 5, Below.refl _ _⟩
  case round =>
    obtain ⟨i, hig, rfl, hown, hbw⟩ := hrel
    have hsz := hbw.size
    have c0 := keep_cell hbw HC0.out
    cases gk with
    | zero =>
      have hlt : ¬ ((i : Int) < (n : Int)) := by omega
      have hall : hs.take i = hs := List.take_of_length_le (by have := HLn.out; omega)
      rw [hall] at hown
      have hFl : (hs.filter (pick m p)).length ≤ 1000000 := Nat.le_trans (List.length_filter_le _ _) (by rw [← HLn.out]; exact hlen)
      obtain ⟨n1, hn1⟩ : ∃ n1, n1 = (hs.filter (pick m p)).length := ⟨_, rfl⟩
      have HN1 := Lib.hid hn1
      rw [← hn1] at hFl
      clear hn1 hall
      go_wp2_with fail
      go_loopg [5, 7] n1 (fun G s5 s7 wq => ∃ (L O : List Hk), Hid (L.length = G) ∧ O.length + G = n1 ∧ wq.ownsRow wc.heap.size 29 5 s5 L.length (rowC L) ∧ wq.ownsRow wc.heap.size 29 5 s7 O.length (rowC O) ∧ (∀ g, s5.ownBlock = some g → s7.ownBlock ≠ some g) ∧ Sel m p hs O L ∧ Below wc.heap.size wc wq)
      case atStart => exact ⟨_, [], Lib.hid HN1.out.symm, by simp, hown, ⟨rfl, .inl ⟨rfl, rfl⟩⟩, (fun g _ e => by cases e), Sel.start m p hs, hbw⟩
      case round =>
        obtain ⟨L, O, HLG, hOG, hown5, hown7, hsep, hsel, hbq⟩ := hrel
        obtain ⟨a5, cap5, hv5⟩ := owns_form hown5
        obtain ⟨a7, cap7, hv7⟩ := owns_form hown7
        rw [HLG.out] at hv5
        subst hv5 hv7
        have HO5 := Lib.hid hown5
        have HO7 := Lib.hid hown7
        have HSep := Lib.hid hsep
        have HSel := Lib.hid hsel
        have HBq := Lib.hid hbq
        have hszq := hbq.size
        clear hown hbw hown5 hown7 hsep hsel hbq
        cases gk with
        | zero =>
          have hL0 : L = [] := List.length_eq_zero_iff.1 HLG.out
          have HEnd : Hid (Hooks wr (.slice a7 O.length cap7) (told m hs p) ∧ FreeV w.heap.size Z (.slice a7 O.length cap7) ∧ RF wr Z T m hs true st ∧ Only Z w wr) := Lib.hid (by
            have h1 := HSel.out
            rw [hL0] at h1
            have h2 := h1.done hnm
            refine ⟨?_, FreeV.of_owns HO7.out HC.out.2.size fun k hk => HC.out.1.lt k hk, HC.out.1.below HBq.out, HC.out.2.then_below HBq.out⟩
            rw [← h2]
            exact Hooks.of_owns HO7.out)
          clear hL0
          go_wp2
          go_ret
          exact ⟨_, rfl, HEnd.out⟩
        | succ G =>
          have hltG : (0 : Int) < ((G + 1 : Nat) : Int) := by omega
          have hltG2 : (0 : Int) < (G : Int) + 1 := by omega
          obtain ⟨Wq, rfl⟩ : ∃ Wq : World, Wq = wr := ⟨_, rfl⟩
          obtain ⟨g, capg, hvf, _, hglt⟩ := HO5.out.form (by have := HLG.out; omega)
          injection hvf with e1 e2 e3
          subst e1 e3
          clear e2
          have HO5' : Hid (Wq.ownsRow wc.heap.size 29 5 (.slice (some ⟨g, 0, none⟩) (G + 1) cap5) L.length (rowC L)) := Lib.hid HO5.out
          go_wp2_with fail
          go_loopg [8, 9] G (fun G3 s8 s9 wx => ∃ k i3 : Nat, s8 = .int .i64 k ∧ s9 = .int .i64 i3 ∧ i3 + G3 = G + 1 ∧ k < i3 ∧ Hid (∀ (j : Nat) a b, j < i3 → L[j]? = some a → L[k]? = some b → ¬ cmpH a b < 0) ∧ Below Wq.heap.size Wq wx)
          case atStart =>
            refine ⟨0, 1, rfl, rfl, by omega, by omega, Lib.hid fun j a b hj ha hb => ?_, Below.refl _ _⟩
            obtain rfl : j = 0 := by omega
            rw [ha] at hb; injection hb with hb; subst hb
            exact cmpH_refl _
          case round =>
            obtain ⟨k, i3, rfl, rfl, hi3, hk3, HMin, hbx⟩ := hrel
            have HBx := Lib.hid hbx
            cases gk with
            | zero =>
              have hlt3 : ¬ ((i3 : Int) < ((G + 1 : Nat) : Int)) := by omega
              have hlt4 : ¬ ((i3 : Int) < (G : Int) + 1) := by omega
              have hkl : (k : Int) < ((G + 1 : Nat) : Int) := by omega
              have hkl2 : (k : Int) < (G : Int) + 1 := by omega
              have hkG : k ≤ G := by omega
              have hi3G : i3 = G + 1 := by omega
              obtain ⟨b, hbL⟩ : ∃ b, L[k]? = some b := ⟨_, List.getElem?_eq_getElem (by rw [HLG.out]; omega)⟩
              have HBL := Lib.hid hbL
              have HMn : Hid (∀ (j : Nat) a, L[j]? = some a → ¬ cmpH a b < 0) := Lib.hid fun j a ha => HMin.out j a b (by
                have := (List.getElem?_eq_some_iff.1 ha).1
                rw [HLG.out] at this
                omega) ha hbL
              obtain ⟨g1, hg1, K⟩ := row_at HO5'.out hbL
              injection hg1 with hg1; injection hg1 with hg1 _ _; subst hg1
              have K := K.keep hbx
              have k0 : wr.cell? ⟨g, k * 5, none⟩ = some (.string b.name) := K.c0
              have k1 : wr.cell? ⟨g, k * 5 + 1, none⟩ = some (.int .i64 b.ph) := K.c1
              have k2 : wr.cell? ⟨g, k * 5 + 2, none⟩ = some (.int .i64 b.pri) := K.c2
              have k3 : wr.cell? ⟨g, k * 5 + 3, none⟩ = some (.string b.trig) := K.c3
              have k4 : wr.cell? ⟨g, k * 5 + 4, none⟩ = some (.int .i64 b.bit) := K.c4
              have HO7w := Lib.hid (owns_keep HO7.out hbx)
              have HO5w := Lib.hid (owns_keep HO5'.out hbx)
              have HBw := Lib.hid (HBq.out.trans (hbx.mono hszq))
              have hszx := hbx.size
              have hO7l : O.length ≤ 1000000 := by omega
              have HNew : Hid (Blk (wr.alloc (.cells (hookC b) 29)) wr.heap.size (hookC b) 29) := Lib.hid (Blk.new wr (hookC b) _)
              unfold hookC at HNew
              clear K hbL hi3G hbx
              go_wp2_with (at_builtin; refine wpList_append_lies _ rfl _ _ 34 rfl wc.heap.size 29 i0 (.agg #[.string ⟨#[]⟩, .int .i64 0, .int .i64 0, .string ⟨#[]⟩, .int .i64 0]) 5 56 Try.underlying34 hi hz0 hz1 hz2 rfl (by decide) _ O.length (rowC O) rfl (HO7w.out.alloc _) ⟨wr.heap.size, 0, none⟩ 1 1 (hookC b).toList rfl rfl (World.news_of_block HNew.out) (hookC_one b) (by decide) ?c3 ?c4 ?c5 _ rfl ?_)
              case c3 => unfold maxLen; omega
              case c4 => omega
              case c5 => first | omega | (simp; omega)
              intro g' cap' w5 hown5 hgrow5 hat5 hlt5
              have HB5 : Hid (Below wc.heap.size wc w5) := Lib.hid ((HBw.out.alloc (by omega) _).grown hgrow5 (by simp; omega) (fun k hk => (HO7w.out.lt k hk).1))
              have hB5 : wc.heap.size ≤ w5.heap.size := HB5.out.size
              have HO55 : Hid (w5.ownsRow wc.heap.size 29 5 (.slice (some ⟨g, 0, none⟩) (G + 1) cap5) L.length (rowC L)) := Lib.hid (owns_only (HO5w.out.alloc _) (only_grown hgrow5) (fun k hk h => HSep.out k hk h))
              have HO75 := Lib.hid hown5
              have hg5 : g < w5.heap.size := (HO55.out.lt g rfl).2
              have hcg : G + 1 ≤ cap5 := by
                rcases HO55.out.2 with ⟨h0, _⟩ | ⟨_, _, _, hv, _, _, hle, _⟩
                · cases h0
                · injection hv with _ _ e3
                  rw [HLG.out] at hle
                  omega
              clear hown5 hgrow5 hat5 HNew k0 k1 k2 k3 k4
              have hcell5 := fun j v (hj : (rowC L)[j]? = some v) => HO55.out.cells rfl j v hj
              have HCell5 : Hid (∀ W, Below w5.heap.size w5 W → ∀ j v, (rowC L)[j]? = some v → W.cell? ⟨g, j, none⟩ = some v) := Lib.hid (fun W hW j v hj => by
                have := hcell5 j v hj
                rw [add_off, Nat.zero_add] at this
                exact keep_cell hW this)
              have hN1 : ∀ W, Below w5.heap.size w5 W → ∀ j u, (rowC (L.take k))[j]? = some u → W.cell? ((⟨g, 0, none⟩ : Addr).add j) = some u := fun W hW j u hj => by
                rw [add_off, Nat.zero_add]
                refine HCell5.out W hW j u ?_
                rw [← rowC_take] at hj
                rw [List.getElem?_take] at hj
                split at hj
                · exact hj
                · cases hj
              have hN2 : ∀ W, Below w5.heap.size w5 W → ∀ j u, (rowC (L.drop (k + 1)))[j]? = some u → W.cell? ((⟨g, (k + 1) * 5, none⟩ : Addr).add j) = some u := fun W hW j u hj => by
                rw [add_off]
                refine HCell5.out W hW _ u ?_
                rw [← rowC_drop, List.getElem?_drop] at hj
                exact hj
              have HN1 := Lib.hid hN1
              have HN2 := Lib.hid hN2
              have HEm := Lib.hid (owns_empty (B := wc.heap.size) (show Blk ((w5.alloc (.cells #[] 29)).drew) w5.heap.size #[] 29 from Blk.new w5 #[] _) hB5)
              have HT1l : Hid ((rowC (L.take k)).length = k * 5) := Lib.hid (by rw [rowC_len, List.length_take, Nat.min_eq_left (by rw [HLG.out]; omega)])
              have HT2l : Hid ((rowC (L.drop (k + 1))).length = (G - k) * 5) := Lib.hid (by rw [rowC_len, List.length_drop, HLG.out]; congr 1; omega)
              have hp1 : IntKind.i64.wrap ((k : Int) + 1) = ((k + 1 : Nat) : Int) := by rw [IntKind.wrap_i64]; omega
              have hc0 : ¬ cap5 = 0 := by omega
              have hpg : (k : Int) ≤ (cap5 : Int) := by omega
              have hpg2 : ((k + 1 : Nat) : Int) ≤ ((G + 1 : Nat) : Int) := by omega
              have HOG := Lib.hid hOG
              have hGb : G ≤ 1000000 := by omega
              clear hcell5 hN1 hN2 hOG hi3
              go_wp2_with fail
              by_cases hcp : cap5 = k + 1
              · obtain rfl : k = G := by omega
                subst hcp
                go_region_held_law (fun _ => True) (trivial) (first
                  | (refine step_append_at _ rfl (.tmp 107) (.tmp 110) 34 rfl wc.heap.size 29 i0 (.agg #[.string ⟨#[]⟩, .int .i64 0, .int .i64 0, .string ⟨#[]⟩, .int .i64 0]) 5 56 Try.underlying34 hi hz0 hz1 hz2 rfl (by decide) (.slice (some ⟨w5.heap.size, 0, none⟩) 0 0) 0 (rowC []) (by simp [Act.eval, Act.put]) HEm.out ⟨g, 0, none⟩ k (k + 1) (rowC (L.take k)) (by simp [Act.eval, Act.put]) HT1l.out (HN1.out _ (((Below.refl _ _).alloc (Nat.le_refl _) _).drew)) (rowC_one _) (by unfold maxLen; omega) (by omega) (by simp; omega) ?_; intro v1 w6 ho6 hg6 ha6)
                  | (refine step_append_at _ rfl (.tmp 111) (.tmp 115) 34 rfl wc.heap.size 29 i0 (.agg #[.string ⟨#[]⟩, .int .i64 0, .int .i64 0, .string ⟨#[]⟩, .int .i64 0]) 5 56 Try.underlying34 hi hz0 hz1 hz2 rfl (by decide) v1 (0 + k) (rowC [] ++ rowC (L.take k)) (by simp [Act.eval, Act.put]) ho6 ⟨g, 0, none⟩ 0 0 [] (by simp [Act.eval, Act.put]) rfl (fun _ _ h => by cases h) (fun _ h => by cases h) (by unfold maxLen; omega) (by omega) (by have := hg6.size; simp at this; omega) ?_; intro v2 w7 ho7 hg7 ha7))
                all_goals
                  dsimp only [Array.reduceGetElem]
                  have hOG := HOG.out
                  have hown7 : w7.ownsRow wc.heap.size 29 5 v2 (L.eraseIdx k).length (rowC (L.eraseIdx k)) := by
                    have h1 := ho7
                    have e1 : rowC [] ++ rowC (L.take k) ++ [] = rowC (L.eraseIdx k) := by
                      rw [show rowC [] = [] from rfl, List.nil_append, List.append_nil, ← erase_split, List.drop_of_length_le (by rw [HLG.out]; exact Nat.le_refl _), List.append_nil]
                    have e2 : 0 + k + 0 = (L.eraseIdx k).length := by
                      rw [List.length_eraseIdx_of_lt (by rw [HLG.out]; omega), HLG.out]; omega
                    rw [e1, e2] at h1
                    exact h1
                  have hlen7 : (L.eraseIdx k).length = k := by rw [List.length_eraseIdx_of_lt (by rw [HLG.out]; omega), HLG.out]; omega
                  have hb6 : Only (fun k => w5.heap.size ≤ k) w5 w6 := ((Only.of_below (((Below.refl _ _).alloc (Nat.le_refl _) (.cells #[] 29)).drew)).trans' ((only_grown hg6).mono fun k hk => by simp [Value.ownBlock] at hk; omega))
                  have hv1 : ∀ k, v1.ownBlock = some k → w5.heap.size ≤ k := fun k hk => by
                    rcases ha6 with e | e
                    · rw [e] at hk; simp [Value.ownBlock] at hk; omega
                    · rw [e] at hk; injection hk with hk; subst hk
                      have : (w5.alloc (.cells #[] 29)).heap.size = w5.heap.size + 1 := by simp
                      show w5.heap.size ≤ (w5.alloc (.cells #[] 29)).heap.size
                      omega
                  have hb7 : Only (fun k => w5.heap.size ≤ k) w5 w7 := hb6.trans' ((only_grown hg7).mono fun k hk => hv1 k hk)
                  have hbw7 : Below w5.heap.size w5 w7 := hb7.below (Nat.le_refl _) fun k hk => hk
                  have hv2 : ∀ k, v2.ownBlock = some k → w5.heap.size ≤ k := fun k hk => by
                    rcases ha7 with e | e
                    · rw [e] at hk; exact hv1 k hk
                    · rw [e] at hk; injection hk with hk; subst hk
                      exact hb6.size
                  have HO75' := Lib.hid (owns_keep HO75.out hbw7)
                  have HO57 := Lib.hid hown7
                  have HL7 := Lib.hid hlen7
                  have HB7 : Hid (Below wc.heap.size wc w7) := Lib.hid (HB5.out.trans (hbw7.mono hB5))
                  have HSep7 : Hid (∀ q, v2.ownBlock = some q → (Value.slice (some ⟨g', 0, none⟩) (O.length + 1) cap').ownBlock ≠ some q) := Lib.hid fun q hq e => by
                    have h1 := hv2 q hq
                    have h2 := (HO75.out.lt q e).2
                    omega
                  have HSel7 := Lib.hid (HSel.out.step HBL.out (fun j a h => Int.not_lt.mpr (HMn.out j a h)))
                  have hon7 : (O ++ [b]).length + k = n1 := by rw [List.length_append, List.length_singleton]; omega
                  clear ho6 hg6 ha6 ho7 hg7 ha7 hown7 hlen7 hb6 hb7 hv1 hv2 hbw7 hon7
                  go_wp2_with fail
                  go_roundg k
                  case rel => exact ⟨L.eraseIdx k, O ++ [b], HL7, by rw [List.length_append, List.length_singleton]; omega, HO57.out, by rw [rowC_snoc, List.length_append, List.length_singleton]; exact HO75'.out, HSep7.out, HSel7.out, HB7.out⟩
                  case measure => omega
              · go_region_held_law (fun _ => True) (trivial) (first
                  | (refine step_append_at _ rfl (.tmp 107) (.tmp 110) 34 rfl wc.heap.size 29 i0 (.agg #[.string ⟨#[]⟩, .int .i64 0, .int .i64 0, .string ⟨#[]⟩, .int .i64 0]) 5 56 Try.underlying34 hi hz0 hz1 hz2 rfl (by decide) (.slice (some ⟨w5.heap.size, 0, none⟩) 0 0) 0 (rowC []) (by simp [Act.eval, Act.put]) HEm.out ⟨g, 0, none⟩ k cap5 (rowC (L.take k)) (by simp [Act.eval, Act.put]) HT1l.out (HN1.out _ (((Below.refl _ _).alloc (Nat.le_refl _) _).drew)) (rowC_one _) (by unfold maxLen; omega) (by omega) (by simp; omega) ?_; intro v1 w6 ho6 hg6 ha6)
                  | (refine step_append_at _ rfl (.tmp 111) (.tmp 115) 34 rfl wc.heap.size 29 i0 (.agg #[.string ⟨#[]⟩, .int .i64 0, .int .i64 0, .string ⟨#[]⟩, .int .i64 0]) 5 56 Try.underlying34 hi hz0 hz1 hz2 rfl (by decide) v1 (0 + k) (rowC [] ++ rowC (L.take k)) (by simp [Act.eval, Act.put]) ho6 ⟨g, (k + 1) * 5, none⟩ (G - k) (cap5 - (k + 1)) (rowC (L.drop (k + 1))) (by simp [Act.eval, Act.put]) HT2l.out (HN2.out _ (((Below.refl _ _).alloc (Nat.le_refl _) _).drew.grown hg6 (by simp) (fun k hk => by simp [Value.ownBlock] at hk; omega))) (rowC_one _) (by unfold maxLen; omega) (by omega) (by have := hg6.size; simp at this; omega) ?_; intro v2 w7 ho7 hg7 ha7))
                all_goals
                  dsimp only [Array.reduceGetElem]
                  have hOG := HOG.out
                  have hown7 : w7.ownsRow wc.heap.size 29 5 v2 (L.eraseIdx k).length (rowC (L.eraseIdx k)) := by
                    have h1 := ho7
                    have e1 : rowC [] ++ rowC (L.take k) ++ rowC (L.drop (k + 1)) = rowC (L.eraseIdx k) := by
                      rw [show rowC [] = [] from rfl, List.nil_append, ← rowC_append, erase_split]
                    have e2 : 0 + k + (G - k) = (L.eraseIdx k).length := by
                      rw [List.length_eraseIdx_of_lt (by rw [HLG.out]; omega), HLG.out]; omega
                    rw [e1, e2] at h1
                    exact h1
                  have hlen7 : (L.eraseIdx k).length = G := by rw [List.length_eraseIdx_of_lt (by rw [HLG.out]; omega), HLG.out]; omega
                  have hb6 : Only (fun k => w5.heap.size ≤ k) w5 w6 := ((Only.of_below (((Below.refl _ _).alloc (Nat.le_refl _) (.cells #[] 29)).drew)).trans' ((only_grown hg6).mono fun k hk => by simp [Value.ownBlock] at hk; omega))
                  have hv1 : ∀ k, v1.ownBlock = some k → w5.heap.size ≤ k := fun k hk => by
                    rcases ha6 with e | e
                    · rw [e] at hk; simp [Value.ownBlock] at hk; omega
                    · rw [e] at hk; injection hk with hk; subst hk
                      have : (w5.alloc (.cells #[] 29)).heap.size = w5.heap.size + 1 := by simp
                      show w5.heap.size ≤ (w5.alloc (.cells #[] 29)).heap.size
                      omega
                  have hb7 : Only (fun k => w5.heap.size ≤ k) w5 w7 := hb6.trans' ((only_grown hg7).mono fun k hk => hv1 k hk)
                  have hbw7 : Below w5.heap.size w5 w7 := hb7.below (Nat.le_refl _) fun k hk => hk
                  have hv2 : ∀ k, v2.ownBlock = some k → w5.heap.size ≤ k := fun k hk => by
                    rcases ha7 with e | e
                    · rw [e] at hk; exact hv1 k hk
                    · rw [e] at hk; injection hk with hk; subst hk
                      exact hb6.size
                  have HO75' := Lib.hid (owns_keep HO75.out hbw7)
                  have HO57 := Lib.hid hown7
                  have HL7 := Lib.hid hlen7
                  have HB7 : Hid (Below wc.heap.size wc w7) := Lib.hid (HB5.out.trans (hbw7.mono hB5))
                  have HSep7 : Hid (∀ q, v2.ownBlock = some q → (Value.slice (some ⟨g', 0, none⟩) (O.length + 1) cap').ownBlock ≠ some q) := Lib.hid fun q hq e => by
                    have h1 := hv2 q hq
                    have h2 := (HO75.out.lt q e).2
                    omega
                  have HSel7 := Lib.hid (HSel.out.step HBL.out (fun j a h => Int.not_lt.mpr (HMn.out j a h)))
                  have hon7 : (O ++ [b]).length + G = n1 := by rw [List.length_append, List.length_singleton]; omega
                  clear ho6 hg6 ha6 ho7 hg7 ha7 hown7 hlen7 hb6 hb7 hv1 hv2 hbw7 hon7
                  go_wp2_with fail
                  go_roundg G
                  case rel => exact ⟨L.eraseIdx k, O ++ [b], HL7, by rw [List.length_append, List.length_singleton]; omega, HO57.out, by rw [rowC_snoc, List.length_append, List.length_singleton]; exact HO75'.out, HSep7.out, HSel7.out, HB7.out⟩
                  case measure => omega
            | succ G3 =>
              have hlt3 : (i3 : Int) < ((G + 1 : Nat) : Int) := by omega
              have hlt4 : (i3 : Int) < (G : Int) + 1 := by omega
              have hkl : (k : Int) < ((G + 1 : Nat) : Int) := by omega
              have hkl2 : (k : Int) < (G : Int) + 1 := by omega
              obtain ⟨x, hx⟩ : ∃ x, L[i3]? = some x := ⟨_, List.getElem?_eq_getElem (by rw [HLG.out]; omega)⟩
              obtain ⟨y, hy⟩ : ∃ y, L[k]? = some y := ⟨_, List.getElem?_eq_getElem (by rw [HLG.out]; omega)⟩
              obtain ⟨g1, hg1, Kx⟩ := row_at HO5'.out hx
              injection hg1 with hg1; injection hg1 with hg1 _ _; subst hg1
              obtain ⟨g1, hg1, Ky⟩ := row_at HO5'.out hy
              injection hg1 with hg1; injection hg1 with hg1 _ _; subst hg1
              have Kx := Kx.keep hbx
              have Ky := Ky.keep hbx
              have x0 : wr.cell? ⟨g, i3 * 5, none⟩ = some (.string x.name) := Kx.c0
              have x2 : wr.cell? ⟨g, i3 * 5 + 2, none⟩ = some (.int .i64 x.pri) := Kx.c2
              have y0 : wr.cell? ⟨g, k * 5, none⟩ = some (.string y.name) := Ky.c0
              have y2 : wr.cell? ⟨g, k * 5 + 2, none⟩ = some (.int .i64 y.pri) := Ky.c2
              have hi31 : IntKind.i64.wrap ((i3 : Int) + 1) = ((i3 + 1 : Nat) : Int) := by rw [IntKind.wrap_i64]; omega
              have HX := Lib.hid hx
              have HY := Lib.hid hy
              have HCm := Lib.hid (cmpH_lt x y)
              clear Kx Ky hx hy hbx
              go_upto_region 14 with fail
              go_cut [98] from 62 to 99 (fun v98 wz => v98 = .bool (decide (cmpH x y < 0)) ∧ Below Wq.heap.size Wq wz)
              case first =>
                by_cases h1 : x.pri < y.pri
                · have q1 : decide (x.pri < y.pri) = true := by simpa using h1
                  have HD : Hid (decide (cmpH x y < 0) = true) := Lib.hid (by rw [decide_eq_true_eq, HCm.out]; exact .inl h1)
                  clear q1
                  go_wp2_with fail
                  go_big_quiet (fail)
                  have HBn := Lib.hid (below_drewN HBx.out nq)
                  go_wp2
                  go_meet
                  exact ⟨by rw [HD.out], HBn.out⟩
                · have q1 : decide (x.pri < y.pri) = false := by simpa using h1
                  by_cases h2 : x.pri = y.pri
                  · have q2 : (x.pri == y.pri) = true := by simp [h2]
                    have HD : Hid (decide (cmpH x y < 0) = Op.bytesLess x.name.toList y.name.toList) := Lib.hid (by
                      rw [toList_eq, toList_eq, cb_lt]
                      congr 1
                      rw [HCm.out]
                      exact propext ⟨fun h => h.elim (fun h => absurd h h1) And.right, fun h => .inr ⟨h2, h⟩⟩)
                    clear h1 h2
                    go_wp2_with fail
                    go_big_quiet (fail)
                    have HBn := Lib.hid (below_drewN HBx.out nq)
                    go_wp2
                    go_meet
                    exact ⟨by rw [HD.out], HBn.out⟩
                  · have q2 : (x.pri == y.pri) = false := by simp [h2]
                    have HD : Hid (decide (cmpH x y < 0) = false) := Lib.hid (by
                      rw [decide_eq_false_iff_not, HCm.out]
                      exact fun h => h.elim h1 (fun h => h2 h.1))
                    clear h1 h2
                    go_wp2_with fail
                    go_big_quiet (fail)
                    have HBn := Lib.hid (below_drewN HBx.out nq)
                    go_wp2
                    go_meet
                    exact ⟨by rw [HD.out], HBn.out⟩
              obtain ⟨rfl, hbz⟩ := hcut
              have HBz := Lib.hid hbz
              clear hbz x0 x2 y0 y2
              by_cases hd : cmpH x y < 0
              · have e0 : decide (cmpH x y < 0) = true := by simpa using hd
                have HMin1 : Hid (∀ (j : Nat) a b, j < i3 + 1 → L[j]? = some a → L[i3]? = some b → ¬ cmpH a b < 0) := Lib.hid fun j a b hj ha hb => by
                  rw [HX.out] at hb; injection hb with hb; subst hb
                  rcases Nat.lt_or_ge j i3 with h | h
                  · exact fun h2 => HMin.out j a y h ha HY.out (cmpH_trans h2 hd)
                  · obtain rfl : j = i3 := by omega
                    rw [HX.out] at ha; injection ha with ha; subst ha
                    exact cmpH_refl _
                rw [e0]
                clear e0 hd
                go_wp2
                go_roundg G3
                case rel => exact ⟨i3, i3 + 1, rfl, by first | rfl | go_num, by omega, by omega, HMin1, HBz.out⟩
                case measure => omega
              · have e0 : decide (cmpH x y < 0) = false := by simpa using hd
                have HMin1 : Hid (∀ (j : Nat) a b, j < i3 + 1 → L[j]? = some a → L[k]? = some b → ¬ cmpH a b < 0) := Lib.hid fun j a b hj ha hb => by
                  rcases Nat.lt_or_ge j i3 with h | h
                  · exact HMin.out j a b h ha hb
                  · obtain rfl : j = i3 := by omega
                    rw [HX.out] at ha; injection ha with ha; subst ha
                    rw [HY.out] at hb; injection hb with hb; subst hb
                    exact hd
                rw [e0]
                clear e0 hd
                go_wp2
                go_roundg G3
                case rel => exact ⟨k, i3 + 1, rfl, by first | rfl | go_num, by omega, by omega, HMin1, HBz.out⟩
                case measure => omega
    | succ G =>
      have hlt : (i : Int) < (n : Int) := by omega
      obtain ⟨o, ho⟩ : ∃ o, hs[i]? = some o := ⟨_, List.getElem?_eq_getElem (by have := HLn.out; omega)⟩
      obtain ⟨g, rfl, hK⟩ := HCell.out i o ho
      have HK := Lib.hid hK
      have K := hK wr hbw
      have k0 : wr.cell? ⟨g, i * 5, none⟩ = some (.string o.name) := K.c0
      have k1 : wr.cell? ⟨g, i * 5 + 1, none⟩ = some (.int .i64 o.ph) := K.c1
      have k2 : wr.cell? ⟨g, i * 5 + 2, none⟩ = some (.int .i64 o.pri) := K.c2
      have k3 : wr.cell? ⟨g, i * 5 + 3, none⟩ = some (.string o.trig) := K.c3
      have k4 : wr.cell? ⟨g, i * 5 + 4, none⟩ = some (.int .i64 o.bit) := K.c4
      have hi1 : IntKind.i64.wrap ((i : Int) + 1) = ((i + 1 : Nat) : Int) := by rw [IntKind.wrap_i64]; omega
      have HTK : Hid (hs.take (i + 1) = hs.take i ++ [o]) := Lib.hid (by rw [List.take_add_one, ho]; rfl)
      have HO := Lib.hid hown
      have HB := Lib.hid hbw
      have HFl : Hid (((hs.take i).filter (pick m p)).length ≤ 1000000) := Lib.hid (Nat.le_trans (List.length_filter_le _ _) (by rw [List.length_take]; omega))
      have HOn := Lib.hid (ron_any o T m wr (keep_cell hbw HM.out))
      unfold ptr hookV hookC at HOn
      clear K hK ho hown hbw
      by_cases hph : o.ph = p
      · have e0 : (o.ph == p) = true := by simp [hph]
        clear hph
        go_wp2_with fail
        refine HOn.out.mono ?_
        rintro e w2 ⟨rfl, hb2⟩
        have hbw2 := HB.out.trans (hb2.mono hsz)
        have K := HK.out w2 hbw2
        have k0 : w2.cell? ⟨g, i * 5, none⟩ = some (.string o.name) := K.c0
        have k1 : w2.cell? ⟨g, i * 5 + 1, none⟩ = some (.int .i64 o.ph) := K.c1
        have k2 : w2.cell? ⟨g, i * 5 + 2, none⟩ = some (.int .i64 o.pri) := K.c2
        have k3 : w2.cell? ⟨g, i * 5 + 3, none⟩ = some (.string o.trig) := K.c3
        have k4 : w2.cell? ⟨g, i * 5 + 4, none⟩ = some (.int .i64 o.bit) := K.c4
        have c0 := keep_cell hbw2 HC0.out
        have HO2 := Lib.hid (owns_keep HO.out hb2)
        have HB2 := Lib.hid hbw2
        have hsz2 := hbw2.size
        clear HOn hb2 hbw2 K
        cases hon : onB m o with
        | false =>
          have HR : Hid ((hs.take (i + 1)).filter (pick m p) = (hs.take i).filter (pick m p)) := Lib.hid (by
            have hpk : pick m p o = false := by unfold pick; rw [hon, Bool.and_false]
            rw [HTK.out, List.filter_append, List.filter_cons_of_neg (p := pick m p) (by rw [hpk]; exact Bool.false_ne_true), List.filter_nil, List.append_nil])
          go_wp2
          go_roundg G
          case rel => exact ⟨i + 1, by omega, by first | rfl | go_num, by rw [HR.out]; exact HO2.out, HB2.out⟩
          case measure => omega
        | true =>
          have HR : Hid ((hs.take (i + 1)).filter (pick m p) = (hs.take i).filter (pick m p) ++ [o]) := Lib.hid (by
            have hpk : pick m p o = true := by unfold pick; rw [hon, e0]; rfl
            rw [HTK.out, List.filter_append, List.filter_cons_of_pos (p := pick m p) hpk, List.filter_nil])
          have HNew : Hid (Blk (w2.alloc (.cells (hookC o) 29)) w2.heap.size (hookC o) 29) := Lib.hid (Blk.new w2 (hookC o) _)
          unfold hookC at HNew
          go_wp2_with (at_builtin; refine wpList_append_lies _ rfl _ _ 34 rfl wc.heap.size 29 i0 (.agg #[.string ⟨#[]⟩, .int .i64 0, .int .i64 0, .string ⟨#[]⟩, .int .i64 0]) 5 56 Try.underlying34 hi hz0 hz1 hz2 rfl (by decide) _ ((hs.take i).filter (pick m p)).length (rowC ((hs.take i).filter (pick m p))) rfl (HO2.out.alloc _) ⟨w2.heap.size, 0, none⟩ 1 1 (hookC o).toList rfl rfl (World.news_of_block HNew.out) (hookC_one o) (by decide) ?c3 ?c4 ?c5 _ rfl ?_)
          case c3 => have := HFl.out; unfold maxLen; omega
          case c4 => have := HFl.out; omega
          case c5 => simp; omega
          intro g' cap' w5 hown5 hgrow5 hat5 hlt5
          have HB5 : Hid (Below wc.heap.size wc w5) := Lib.hid ((HB2.out.alloc hsz2 _).grown hgrow5 (by simp; omega) (fun k hk => (HO2.out.lt k hk).1))
          have HO5 := Lib.hid hown5
          clear hown5 hgrow5 hat5
          go_wp2
          go_roundg G
          case rel => exact ⟨i + 1, by omega, by first | rfl | go_num, by rw [HR.out, rowC_snoc, List.length_append, List.length_singleton]; exact HO5.out, HB5.out⟩
          case measure => omega
      · have e0 : (o.ph == p) = false := by simp [hph]
        have HR : Hid ((hs.take (i + 1)).filter (pick m p) = (hs.take i).filter (pick m p)) := Lib.hid (by
          have hpk : pick m p o = false := by unfold pick; rw [e0, Bool.false_and]
          rw [HTK.out, List.filter_append, List.filter_cons_of_neg (p := pick m p) (by rw [hpk]; exact Bool.false_ne_true), List.filter_nil, List.append_nil])
        clear hph
        go_wp2
        go_roundg G
        case rel => exact ⟨i + 1, by omega, by first | rfl | go_num, by rw [HR.out]; exact HO.out, HB.out⟩
        case measure => omega
end
end Rg
end Go.Proofs.Ytemcahbpfjlnlaa
