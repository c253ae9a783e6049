/- Walks of layer 8, the fifteenth part: names in HTML. -/
import Derived.Test.YtnpaagglnfocpaaGreatDoorScO
namespace Go.Proofs.YtnpaagglnfocpaaGreatDoor
open Go Go.RowKit
namespace Sc
set_option maxRecDepth 100000
set_option linter.unusedVariables false
set_option linter.unusedSimpArgs false
attribute [local go_sem ↓] Go.wp_at_zero Go.wp_at_succ

theorem con_mem {L : List (List UInt8)} {l : List UInt8} (h : l ∈ L) : L.contains l = true := by rw [List.contains_iff_mem]; exact h
theorem con_not {L : List (List UInt8)} {l : List UInt8} (h : l ∉ L) : L.contains l = false := by
  cases hc : L.contains l with
  | false => rfl
  | true => rw [List.contains_iff_mem] at hc; exact absurd hc h

theorem isVerbatim_any (s : ByteArray) (w : World) :
    Calls Tryz.prog 88 #[.string s] w fun e w' => e = .returned (.bool (rawsL.contains s.data.toList)) ∧ w = w' := by
  rw [← toList_eq]
  go_enter Tryz.func88, Tryz.ntmps88
  go_wp2
  all_goals go_ret
  all_goals refine ⟨ret_bool' ?_, rfl⟩
  all_goals simp only [rawsL, List.contains_cons, List.contains_nil, *, Bool.false_or, Bool.true_or, Bool.or_true, Bool.or_false]
  all_goals (exfalso; rename_i h1 h2; rw [h1] at h2; cases h2)

set_option maxHeartbeats 8000000 in
theorem isKnown_any (s : ByteArray) (w : World) :
    Calls Tryz.prog 91 #[.string s] w fun e w' => e = .returned (.bool (blocksL.contains s.data.toList)) ∧ w = w' := by
  rw [← toList_eq]
  go_enter Tryz.func91, Tryz.ntmps91
  go_wp2
  all_goals go_ret
  all_goals refine ⟨ret_bool' ?_, rfl⟩
  all_goals simp only [blocksL, List.contains_cons, List.contains_nil, *, Bool.false_or, Bool.true_or, Bool.or_true, Bool.or_false]
  all_goals (exfalso; rename_i h1 h2; rw [h1] at h2; cases h2)

theorem low_mk (l : List UInt8) : ∃ S : ByteArray, low l = S.data.toList := ba_mk _
/-- A name without capitals, and what stands behind it. -/
def cutV (l : List UInt8) : Value := .tuple #[.string ⟨(low (nameS l).1).toArray⟩, .string ⟨(nameS l).2.toArray⟩]
theorem nameS_drop {s : ByteArray} {k : Nat} (hk : k ≤ s.size) (h : (name s.data.toList).getD s.data.toList = s.data.toList.drop k) : nameS s.data.toList = (s.data.toList.take k, s.data.toList.drop k) := by
  unfold nameS
  cases hn : name s.data.toList with
  | some r =>
    rw [hn, Option.getD_some] at h
    subst h
    simp only [Prod.mk.injEq, and_true]
    congr 1
    rw [List.length_drop, sz]; omega
  | none =>
    rw [hn, Option.getD_none] at h
    have : k = 0 ∨ s.size = 0 := by
      have := congrArg List.length h
      rw [List.length_drop, sz] at this
      omega
    have hk0 : k = 0 := by omega
    subst hk0
    simp
set_option maxHeartbeats 2000000 in
theorem cutName_any (s : ByteArray) (w : World) (hs : s.size ≤ 1000000) (hL : Ks.Laid w) :
    Calls Tryz.prog 87 #[.string s] w fun e w' => e = .returned (cutV s.data.toList) ∧ Below w.heap.size w w' := by
  have hRK : Hid (RK (w.alloc (.cells #[.string s, .int .i64 0] 42)) w.heap.size s 0) := Lib.hid (new_block _ _)
  have HL := Lib.hid hL
  clear hL
  go_enter Tryz.func87, Tryz.ntmps87
  go_wp2_with fail
  refine (does_name.2 _ w.heap.size s s.data.toList hs ⟨0, Nat.zero_le _, rfl, hRK.out⟩).mono ?_
  rintro e w1 ⟨rfl, h1, h2⟩
  obtain ⟨k, hk, hl, hr⟩ := h1
  have HN := Lib.hid (nameS_drop hk hl)
  have c0 := hr.c0
  have c1 := hr.c1
  have hb0 : Below w.heap.size w w1 := ((Below.refl _ w).alloc (Nat.le_refl _) _).trans (h2.below (Nat.le_refl _) (by rw [alloc_size]; omega))
  have hlt := hr.lt
  have HS0 : Hid (∀ W, Below w1.heap.size w1 W → W.cell? ⟨w.heap.size, 1, none⟩ = some (.int .i64 (k : Int)) ∧ W.cell? ⟨w.heap.size, 0, none⟩ = some (.string s)) := Lib.hid (fun W hW => ⟨by rw [hW.cell (p := ⟨w.heap.size, 1, none⟩) hlt]; exact c1, by rw [hW.cell (p := ⟨w.heap.size, 0, none⟩) hlt]; exact c0⟩)
  have HF : Hid (∀ W, Below w1.heap.size w1 W → Calls Tryz.prog 107 #[.string (s.extract 0 k)] W fun e w' => e = .returned (.string ⟨(low (nameS s.data.toList).1).toArray⟩) ∧ Below w1.heap.size w1 w') := Lib.hid (fun W hW => by
    have hz : (s.extract 0 k).size ≤ 100000000 := by simp; omega
    have := Ks.fold_any (s.extract 0 k) W hz ((HL.out.below hb0).below hW)
    rw [ext_to] at this
    have e2 : s.data.toList.take k = (nameS s.data.toList).1 := by rw [HN.out]
    rw [e2, nameS_fold] at this
    exact this.mono fun e w' ⟨h1, h2⟩ => ⟨h1, hW.trans (h2.mono hW.size)⟩)
  have HE : Hid ((⟨(nameS s.data.toList).2.toArray⟩ : ByteArray) = s.extract k s.size) := Lib.hid (by rw [HN.out]; exact (ba_eq (by rw [ext_rest])).symm)
  have HB := Lib.hid hb0
  have hk' : (k : Int) ≤ (s.size : Int) := by omega
  have hk0 : (0 : Int) ≤ (k : Int) := by omega
  obtain ⟨N, hN⟩ : ∃ N : ByteArray, (⟨(low (nameS s.data.toList).1).toArray⟩ : ByteArray) = N := ⟨_, rfl⟩
  rw [hN] at HF
  have HNN := Lib.hid hN
  clear hl hr h2 hb0 hlt HN HL hRK hN
  go_wp2_with fail
  go_region_held3 (fun W => W.cell? ⟨w.heap.size, 1, none⟩ = some (.int .i64 (k : Int)) ∧ W.cell? ⟨w.heap.size, 0, none⟩ = some (.string s)) (first | exact HS0.out _ (Below.refl _ _).drew | exact HS0.out _ hb5) ((go_at_call 107; refine (HF.out _ (Below.refl _ _).drew).mono ?_; rintro e w5 ⟨rfl, hb5⟩))
  all_goals
    go_wp2
    go_ret2
    exact ⟨ret_val (by unfold cutV; rw [HE.out, HNN.out]; rfl), HB.out.trans (hb5.mono HB.out.size)⟩

theorem cutP_pre (c : UInt8) (l : List UInt8) : Lib.hasPrefix l [c] = (sgn c l).isSome ∧ Lib.trimPrefix l [c] = (sgn c l).getD l := by
  cases l with
  | nil => exact ⟨rfl, rfl⟩
  | cons x t =>
    by_cases h : x = c
    · subst h
      rw [sgn_self]
      have : Lib.hasPrefix (x :: t) [x] = true := by simp [Lib.hasPrefix]
      refine ⟨this, ?_⟩
      unfold Lib.trimPrefix
      rw [if_pos this]; rfl
    · rw [sgn_no t h]
      have : Lib.hasPrefix (x :: t) [c] = false := by
        unfold Lib.hasPrefix
        rw [List.isPrefixOf_cons_cons]
        have : (c == x) = false := by rw [beq_eq_false_iff_ne]; exact Ne.symm h
        rw [this]; rfl
      refine ⟨this, ?_⟩
      unfold Lib.trimPrefix
      rw [if_neg (by rw [this]; simp)]; rfl
theorem cutPre_any (s : ByteArray) (c : UInt8) (w : World) :
    Calls Tryz.prog 86 #[.string s, .string ⟨#[c]⟩] w fun e w' => e = .returned (.tuple #[.string ⟨((sgn c s.data.toList).getD s.data.toList).toArray⟩, .bool (sgn c s.data.toList).isSome]) ∧ w = w' := by
  have := Tryz.strings_CutPrefix s ⟨#[c]⟩ w
  rw [show (⟨#[c]⟩ : ByteArray).data.toList = [c] from rfl, (cutP_pre c _).1, (cutP_pre c _).2] at this
  exact this.mono fun _ _ ⟨a, b⟩ => ⟨a, b.symm⟩
theorem trimPre_any (s : ByteArray) (c : UInt8) (w : World) :
    Calls Tryz.prog 108 #[.string s, .string ⟨#[c]⟩] w fun e w' => e = .returned (.string ⟨((sgn c s.data.toList).getD s.data.toList).toArray⟩) ∧ w = w' := by
  have := Tryz.strings_TrimPrefix s ⟨#[c]⟩ w
  rw [show (⟨#[c]⟩ : ByteArray).data.toList = [c] from rfl, (cutP_pre c _).2] at this
  exact this.mono fun _ _ ⟨a, b⟩ => ⟨a, b.symm⟩
theorem pre_any (s p : ByteArray) (w : World) :
    Calls Tryz.prog 53 #[.string s, .string p] w fun e w' => e = .returned (.bool (Lib.hasPrefix s.data.toList p.data.toList)) ∧ w = w' :=
  (Tryz.strings_HasPrefix s p w).mono fun _ _ ⟨a, b⟩ => ⟨a, b.symm⟩
theorem sgn_size {s T : ByteArray} {c : UInt8} (h : (sgn c s.data.toList).getD s.data.toList = T.data.toList) : T.size ≤ s.size := by
  rw [← sz, ← sz, ← h]
  cases hs : sgn c s.data.toList with
  | none => exact Nat.le_refl _
  | some r => rw [sgn_some hs, Option.getD_some]; simp

/-- A name and what stands behind it, as texts. -/
theorem cut_at {s N R : ByteArray} (h1 : low (nameS s.data.toList).1 = N.data.toList) (h2 : (nameS s.data.toList).2 = R.data.toList) (w : World) (hs : s.size ≤ 1000000) (hL : Ks.Laid w) :
    Calls Tryz.prog 87 #[.string s] w fun e w' => e = .returned (.tuple #[.string N, .string R]) ∧ Below w.heap.size w w' := by
  have := cutName_any s w hs hL
  unfold cutV at this
  rw [h1, h2, ba_self, ba_self] at this
  exact this
theorem cut_size {s R : ByteArray} (h2 : (nameS s.data.toList).2 = R.data.toList) : R.size ≤ s.size := by
  have := nameS_len s.data.toList
  rw [h2, sz, sz] at this
  omega

theorem cutTag_any {s N R : ByteArray} (h1 : (tagName s.data.toList).1 = N.data.toList) (h2 : (tagName s.data.toList).2 = R.data.toList) (w : World) (hs : s.size ≤ 1000000) (hL : Ks.Laid w) :
    Calls Tryz.prog 90 #[.string s] w fun e w' => e = .returned (.tuple #[.string N, .string R]) ∧ Below w.heap.size w w' := by
  obtain ⟨T, hT⟩ := ba_mk ((sgn 60 s.data.toList).getD s.data.toList)
  have HC := Lib.hid (fun w => cutPre_any s 60 w)
  rw [hT, ba_self] at HC
  have hTs := sgn_size hT
  obtain ⟨U, hU⟩ := ba_mk ((sgn 47 T.data.toList).getD T.data.toList)
  have HT := Lib.hid (fun w => trimPre_any T 47 w)
  rw [hU, ba_self] at HT
  have hUs := sgn_size hU
  cases hs60 : sgn 60 s.data.toList with
  | none =>
    have HN : Hid (N = ByteArray.empty) := Lib.hid (by unfold tagName at h1; rw [hs60] at h1; exact ba_eq h1.symm)
    have HR : Hid (R = s) := Lib.hid (by unfold tagName at h2; rw [hs60] at h2; rw [ba_eq h2.symm, ba_self])
    rw [hs60] at HC
    clear h1 h2 hs60 hT hU
    go_enter Tryz.func90, Tryz.ntmps90
    go_wp2_with fail
    refine (HC.out _).mono ?_
    rintro e w1 ⟨rfl, rfl⟩
    go_wp2
    go_ret2
    rw [HN.out, HR.out]
    exact ⟨rfl, Below.refl _ _⟩
  | some t =>
    rw [hs60, Option.getD_some] at hT
    have e1 : low (nameS U.data.toList).1 = N.data.toList := by
      rw [← h1]; unfold tagName; rw [hs60]; simp only; unfold tailS; rw [hT, hU]
    have e2 : (nameS U.data.toList).2 = R.data.toList := by
      rw [← h2]; unfold tagName; rw [hs60]; simp only; unfold tailS; rw [hT, hU]
    have HCut := Lib.hid (cut_at e1 e2 w (by omega) hL)
    rw [hs60] at HC
    clear h1 h2 hs60 hT hU e1 e2
    go_enter Tryz.func90, Tryz.ntmps90
    go_wp2_with fail
    refine (HC.out _).mono ?_
    rintro e w1 ⟨rfl, rfl⟩
    go_wp2_with fail
    refine (HT.out _).mono ?_
    rintro e w1 ⟨rfl, rfl⟩
    go_wp2_with fail
    refine HCut.out.mono ?_
    rintro e w1 ⟨rfl, hb⟩
    go_wp2
    go_ret2
    exact ⟨rfl, hb⟩

theorem headIs_at {R : ByteArray} (h0 : 0 < R.size) (h : atE R.data.toList = false) : ∃ c, (∃ h : 0 < R.size, R[0] = c) ∧ headIs R.data.toList 62 = (c == 62) := by
  obtain ⟨c, t, hd, hck, ht, hsz⟩ := cons_of h0
  exact ⟨c, ⟨h0, hck⟩, by rw [hd]; rfl⟩
theorem atE_pos {R : ByteArray} (h : atE R.data.toList = false) : 0 < R.size := by
  rcases Nat.eq_zero_or_pos R.size with e | e
  · rw [nil_of (by omega)] at h; cases h
  · exact e
set_option maxHeartbeats 1000000 in
theorem begVer_any (s : ByteArray) (w : World) (hs : s.size ≤ 1000000) (hL : Ks.Laid w) :
    Calls Tryz.prog 52 #[.string s] w fun e w' => e = .returned (.bool (verP s.data.toList)) ∧ Below w.heap.size w w' := by
  obtain ⟨T, hT⟩ := ba_mk ((sgn 60 s.data.toList).getD s.data.toList)
  have HC := Lib.hid (fun w => cutPre_any s 60 w)
  rw [hT, ba_self] at HC
  have hTs := sgn_size hT
  cases hs60 : sgn 60 s.data.toList with
  | none =>
    have HV : Hid (verP s.data.toList = false) := Lib.hid (by unfold verP; rw [hs60])
    rw [hs60] at HC
    clear hs60 hT
    go_enter Tryz.func52, Tryz.ntmps52
    go_wp2_with fail
    refine (HC.out _).mono ?_
    rintro e w1 ⟨rfl, rfl⟩
    go_wp2
    go_ret
    rw [HV.out]
    exact ⟨rfl, Below.refl _ _⟩
  | some t =>
    rw [hs60, Option.getD_some] at hT
    obtain ⟨N, hN⟩ := ba_mk (low (nameS T.data.toList).1)
    obtain ⟨R, hR⟩ := ba_mk (nameS T.data.toList).2
    have HV : Hid (verP s.data.toList = (rawsL.contains N.data.toList && (atE R.data.toList || headIs R.data.toList 62))) := Lib.hid (by unfold verP; rw [hs60]; simp only; rw [hT, hN, hR]; rfl)
    have HCut := Lib.hid (cut_at hN hR w (by omega) hL)
    have HI := Lib.hid (isVerbatim_any N)
    have HA := Lib.hid (atEnd_any R)
    rw [hs60] at HC
    clear hs60 hT hN hR
    have HP : Hid (atE R.data.toList = false → ∃ c, (∃ h : 0 < R.size, R[0] = c) ∧ headIs R.data.toList 62 = (c == 62)) := Lib.hid (fun h => headIs_at (atE_pos h) h)
    generalize rawsL.contains N.data.toList = b1 at *
    generalize atE R.data.toList = b2 at *
    cases b1 with
    | false =>
      go_enter Tryz.func52, Tryz.ntmps52
      go_wp2_with fail
      refine (HC.out _).mono ?_
      rintro e w1 ⟨rfl, rfl⟩
      go_wp2_with fail
      refine HCut.out.mono ?_
      rintro e w1 ⟨rfl, hb⟩
      go_wp2_with fail
      refine (HI.out _).mono ?_
      rintro e w2 ⟨rfl, rfl⟩
      go_wp2
      go_ret
      rw [HV.out]
      exact ⟨rfl, hb⟩
    | true =>
    cases b2 with
    | true =>
      go_enter Tryz.func52, Tryz.ntmps52
      go_wp2_with fail
      refine (HC.out _).mono ?_
      rintro e w1 ⟨rfl, rfl⟩
      go_wp2_with fail
      refine HCut.out.mono ?_
      rintro e w1 ⟨rfl, hb⟩
      go_wp2_with fail
      refine (HI.out _).mono ?_
      rintro e w2 ⟨rfl, rfl⟩
      go_wp2_with fail
      refine (HA.out _).mono ?_
      rintro e w2 ⟨rfl, rfl⟩
      go_wp2
      go_ret
      rw [HV.out]
      exact ⟨rfl, hb⟩
    | false =>
      obtain ⟨c, ⟨h0, hck⟩, hh⟩ := HP.out rfl
      have hr0 : (0 : Int) < (R.size : Int) := by omega
      have e62 : ((c.toNat : Int) == 62) = (c == 62) := eq_u8 c 62 (by decide)
      rw [hh] at HV
      clear hh HP
      generalize (c == 62) = b3 at *
      cases b3 <;>
      · go_enter Tryz.func52, Tryz.ntmps52
        go_wp2_with fail
        refine (HC.out _).mono ?_
        rintro e w1 ⟨rfl, rfl⟩
        go_wp2_with fail
        refine HCut.out.mono ?_
        rintro e w1 ⟨rfl, hb⟩
        go_wp2_with fail
        refine (HI.out _).mono ?_
        rintro e w2 ⟨rfl, rfl⟩
        go_wp2_with fail
        refine (HA.out _).mono ?_
        rintro e w2 ⟨rfl, rfl⟩
        go_wp2
        go_ret
        rw [HV.out]
        exact ⟨rfl, hb⟩
end Sc
end Go.Proofs.YtnpaagglnfocpaaGreatDoor
