/- Walks of layer 8, the eighteenth part: the reference's HtmlStart. -/
import Derived.Test.YtnpaagglnfocpaaGreatDoorScS
namespace Go.Proofs.YtnpaagglnfocpaaGreatDoor
open Go Go.RowKit
namespace Sc
set_option maxRecDepth 100000
set_option linter.unusedVariables false
set_option linter.unusedSimpArgs false

theorem sz_cons {s : ByteArray} {c : UInt8} {t : List UInt8} (h : s.data.toList = c :: t) : s.size = t.length + 1 := by rw [← sz, h]; rfl
def amB (S : ByteArray) (L : List (List UInt8)) : Bool := L.contains S.data.toList
theorem pre60 (p t : List UInt8) : Lib.hasPrefix (60 :: t) (60 :: p) = Lib.hasPrefix t p := by
  unfold Lib.hasPrefix
  rw [List.isPrefixOf_cons_cons]
  rfl

set_option maxHeartbeats 16000000 in
theorem rhtml_any (s : ByteArray) (w : World) (hs : s.size ≤ 1000000) :
    Calls Tryz.prog 28 #[.string s] w fun e w' => e = .returned (.int .i64 (htmlS s.data.toList : Nat)) ∧ Below w.heap.size w w' := by
  by_cases hz : sgn 60 s.data.toList = none
  · have HV : Hid (htmlS s.data.toList = 0) := Lib.hid (htmlS_none hz)
    by_cases h0 : 0 < s.size
    · obtain ⟨c, t, hd, hck, ht, hsz⟩ := cons_of h0
      have he := emp_false h0
      have hs0 : (0 : Int) < (s.size : Int) := by omega
      have e60 : ((c.toNat : Int) != 60) = true := u8_neq (n := 60) (by decide) (fun e => by
        rw [hd, show c = 60 from e, sgn_self] at hz
        cases hz)
      clear hd ht hsz hz
      go_enter Tryz.func28, Tryz.ntmps28
      go_wp2
      go_ret
      rw [HV.out]
      exact ⟨rfl, Below.refl _ _⟩
    · have hn := nil_of h0
      have he := emp_true hn
      clear hn hz
      go_enter Tryz.func28, Tryz.ntmps28
      go_wp2
      go_ret
      rw [HV.out]
      exact ⟨rfl, Below.refl _ _⟩
  · obtain ⟨t, hl⟩ : ∃ t, s.data.toList = 60 :: t := by
      cases hx : sgn 60 s.data.toList with
      | none => exact absurd hx hz
      | some t => exact ⟨t, sgn_some hx⟩
    have h0 : 0 < s.size := by rw [sz_cons hl]; omega
    obtain ⟨c, t', hd, hck, ht, hsz⟩ := cons_of h0
    obtain ⟨rfl, rfl⟩ : c = 60 ∧ t' = t := by rw [hl] at hd; simp only [List.cons.injEq] at hd; exact ⟨hd.1.symm, hd.2.symm⟩
    have he := emp_false h0
    have hs0 : (0 : Int) < (s.size : Int) := by omega
    have hs1 : (1 : Int) ≤ (s.size : Int) := by omega
    obtain ⟨T0, hT0⟩ : ∃ T0 : ByteArray, s.extract 1 s.size = T0 := ⟨_, rfl⟩
    have hT0d : T0.data.toList = t' := by rw [← hT0, ht]
    have hT0s : T0.size ≤ 1000000 := by rw [← hT0]; simp; omega
    obtain ⟨NN0, hNN0⟩ := ba_mk (nameS T0.data.toList).1
    obtain ⟨R0, hR0⟩ := ba_mk (nameS T0.data.toList).2
    obtain ⟨NL0, hNL0⟩ := ba_mk (low NN0.data.toList)
    have hNs : NN0.size ≤ 1000000 := by have := nameS_len T0.data.toList; rw [hNN0, sz, sz] at this; omega
    have hR0s : R0.size ≤ 1000000 := by have := nameS_len T0.data.toList; rw [hR0, sz, sz] at this; omega
    have FN0 : Hid (∀ W, Below w.heap.size w W → Calls Tryz.prog 49 #[.string T0] W fun e w' => e = .returned (.tuple #[.string NN0, .string R0]) ∧ Below w.heap.size w w') := Lib.hid (fun W hW => (rname_at hNN0 hR0 W hT0s).mono fun e w' ⟨a, b⟩ => ⟨a, hW.trans (b.mono hW.size)⟩)
    have FL0 : Hid (∀ W, Below w.heap.size w W → Calls Tryz.prog 57 #[.string NN0] W fun e w' => e = .returned (.string NL0) ∧ Below w.heap.size w w') := Lib.hid (fun W hW => by
      have := rlower_any NN0 W hNs
      rw [hNL0, ba_self] at this
      exact this.mono fun e w' ⟨a, b⟩ => ⟨a, hW.trans (b.mono hW.size)⟩)
    have FRaw : Hid (∀ W, Below w.heap.size w W → Calls Tryz.prog 59 #[] W fun e w' => (∃ g, e = .returned (.slice (some ⟨g, 0, none⟩) 4 4) ∧ SB w' g rawsL 4) ∧ Below w.heap.size w w') := Lib.hid (fun W hW => (raws_any W).mono fun e w' ⟨a, b⟩ => ⟨a, hW.trans (b.mono hW.size)⟩)
    have FBlk : Hid (∀ W, Below w.heap.size w W → Calls Tryz.prog 62 #[] W fun e w' => (∃ g, e = .returned (.slice (some ⟨g, 0, none⟩) 62 62) ∧ SB w' g blocksL 62) ∧ Below w.heap.size w w') := Lib.hid (fun W hW => (blocks_any W).mono fun e w' ⟨a, b⟩ => ⟨a, hW.trans (b.mono hW.size)⟩)
    have FAm : Hid (∀ (S : ByteArray) (g n : Nat) (W : World) (L : List (List UInt8)), SB W g L n → n ≤ 1000 → Calls Tryz.prog 58 #[.string S, .slice (some ⟨g, 0, none⟩) n n] W fun e w' => e = .returned (.bool (amB S L)) ∧ W = w') := Lib.hid (fun S g n W L h h2 => among_any S W h h2)
    have FEnd := Lib.hid rend_any
    have FLt := Lib.hid (fun (c : UInt8) W => does_rletter.2 c W)
    have P2 := Lib.hid (fun W => begins_any s ⟨#[60, 33, 45, 45]⟩ W hs (by decide))
    have P3 := Lib.hid (fun W => begins_any s ⟨#[60, 63]⟩ W hs (by decide))
    have P5 := Lib.hid (fun W => begins_any s ⟨#[60, 33, 91, 67, 68, 65, 84, 65, 91]⟩ W hs (by decide))
    have P8 := Lib.hid (fun W => begins_any s ⟨#[60, 47]⟩ W hs (by decide))
    rw [show (⟨#[60, 33, 45, 45]⟩ : ByteArray).data.toList = [60, 33, 45, 45] from rfl] at P2
    rw [show (⟨#[60, 63]⟩ : ByteArray).data.toList = [60, 63] from rfl] at P3
    rw [show (⟨#[60, 33, 91, 67, 68, 65, 84, 65, 91]⟩ : ByteArray).data.toList = [60, 33, 91, 67, 68, 65, 84, 65, 91] from rfl] at P5
    rw [show (⟨#[60, 47]⟩ : ByteArray).data.toList = [60, 47] from rfl] at P8
    have HVer : Hid (verP s.data.toList = (amB NL0 rawsL && (atE R0.data.toList || headIs R0.data.toList 62))) := Lib.hid (by
      unfold verP; rw [hl, sgn_self]; simp only; rw [← hT0d, hNN0, hR0, hNL0]; rfl)
    have HP0 : Hid (atE R0.data.toList = false → ∃ c, (∃ h : 0 < R0.size, R0[0] = c) ∧ headIs R0.data.toList 62 = (c == 62)) := Lib.hid (fun h => headIs_at (atE_pos h) h)
    have HV : Hid (htmlS s.data.toList = if verP s.data.toList = true then 1 else if Lib.hasPrefix s.data.toList [60, 33, 45, 45] = true then 2 else if Lib.hasPrefix s.data.toList [60, 63] = true then 3 else if declP s.data.toList = true then 4
      else if Lib.hasPrefix s.data.toList [60, 33, 91, 67, 68, 65, 84, 65, 91] = true then 5 else if knownP s.data.toList = true then 6 else if otherP s.data.toList = true then 7 else 0) := Lib.hid rfl
    -- the declaration
    have HDecl : Hid ((¬ (2 : Int) < (s.size : Int) ∧ declP s.data.toList = false) ∨ ∃ c1 c2 : UInt8, (2 : Int) < (s.size : Int) ∧ (∃ h : 1 < s.size, s[1] = c1) ∧ (∃ h : 2 < s.size, s[2] = c2) ∧ declP s.data.toList = ((c1 == 33) && letU c2)) := Lib.hid (by
      by_cases h2 : 2 < s.size
      · right
        have h1 : 1 < s.size := by omega
        refine ⟨s[1], s[2], by omega, ⟨h1, rfl⟩, ⟨h2, rfl⟩, ?_⟩
        have g1 : s.data.toList[1]? = some s[1] := by rw [List.getElem?_eq_getElem (by rw [sz]; exact h1)]; rfl
        have g2 : s.data.toList[2]? = some s[2] := by rw [List.getElem?_eq_getElem (by rw [sz]; exact h2)]; rfl
        unfold declP
        rw [g2]
        unfold isLet
        rw [hl] at g1 ⊢
        rw [pre60]
        cases t' with
        | nil => simp at g1
        | cons a b =>
          simp only [List.getElem?_cons_succ, List.getElem?_cons_zero, Option.some.injEq] at g1
          unfold Lib.hasPrefix
          rw [List.isPrefixOf_cons_cons, g1]
          congr 1
          rw [Bool.eq_iff_iff]
          simp
          exact eq_comm
      · left
        refine ⟨by omega, ?_⟩
        unfold declP
        rw [List.getElem?_eq_none (by rw [sz]; omega)]
        simp [isLet])
    -- the name behind < or </
    have HT1 : Hid (∀ T1 : ByteArray, s.extract 2 s.size = T1 → Lib.hasPrefix s.data.toList [60, 47] = true → T1.data.toList = tailS t') := Lib.hid (fun T1 h1 h2 => by
      rw [hl, pre60] at h2
      have e1 : T1.data.toList = s.data.toList.drop 2 := by rw [← h1, ext_rest]
      cases t' with
      | nil => cases h2
      | cons a b =>
        unfold Lib.hasPrefix at h2
        rw [List.isPrefixOf_cons_cons] at h2
        have ha : a = 47 := by simp at h2; exact h2.symm
        rw [e1, hl, ha]
        unfold tailS
        rw [sgn_self]
        rfl)
    have HT0 : Hid (Lib.hasPrefix s.data.toList [60, 47] = false → T0.data.toList = tailS t') := Lib.hid (fun h2 => by
      rw [hl, pre60] at h2
      rw [hT0d]
      unfold tailS
      cases t' with
      | nil => rfl
      | cons a b =>
        unfold Lib.hasPrefix at h2
        rw [List.isPrefixOf_cons_cons] at h2
        have ha : a ≠ 47 := by rintro rfl; simp at h2
        rw [sgn_no b ha]
        rfl)
    have HTN : Hid (tagName s.data.toList = (low (nameS (tailS t')).1, (nameS (tailS t')).2)) := Lib.hid (by unfold tagName; rw [hl, sgn_self])
    have HSz : Hid (Lib.hasPrefix s.data.toList [60, 47] = true → 2 ≤ s.size) := Lib.hid (fun h2 => by
      have := (List.isPrefixOf_iff_prefix.1 h2).length_le
      rw [sz] at this
      exact this)
    -- a tag
    obtain ⟨K, hK⟩ : ∃ K, tagN s.data.toList = K := ⟨_, rfl⟩
    have hks : K ≤ s.size := by rw [← hK, ← sz]; exact tagN_le _
    have hks' : (K : Int) ≤ (s.size : Int) := by omega
    have FT : Hid (∀ W, Below w.heap.size w W → Calls Tryz.prog 26 #[.string s] W fun e w' => e = .returned (.int .i64 (K : Int)) ∧ Below w.heap.size w w') := Lib.hid (fun W hW => by
      have := rtag_any s W hs
      rw [hK] at this
      exact this.mono fun e w' ⟨a, b⟩ => ⟨a, hW.trans (b.mono hW.size)⟩)
    obtain ⟨TT, hTT, hTTe, _⟩ := rtrim_at (s.extract K s.size) (by rw [ext_size]; omega)
    rw [ext_rest] at hTTe
    have FTr := Lib.hid hTT
    have HOth : Hid (otherP s.data.toList = (decide (0 < K) && !rawsL.contains (tagName s.data.toList).1 && TT.toList.isEmpty)) := Lib.hid (by rw [hTTe, ← hK, hl]; exact otherP_eq t')
    have hb0 := Below.refl w.heap.size w
    have HT0N : Hid (low NN0.data.toList = NL0.data.toList ∧ (nameS T0.data.toList).1 = NN0.data.toList ∧ (nameS T0.data.toList).2 = R0.data.toList) := Lib.hid ⟨hNL0, hNN0, hR0⟩
    clear hd ht hsz hz hT0d hNN0 hR0 hNL0 hK hTT hTTe hl
    go_enter Tryz.func28, Tryz.ntmps28
    go_upto_region 5 with (first | (go_at_call_of 49 (Value.string T0); refine (FN0.out _ (by assumption)).mono ?_; rintro e w1 ⟨rfl, hb⟩) | (go_at_call_of 57 (Value.string NN0); refine (FL0.out _ (by assumption)).mono ?_; rintro e w1 ⟨rfl, hb⟩) | (go_at_call 59; refine (FRaw.out _ (by assumption)).mono ?_; rintro e w1 ⟨⟨g, rfl, hsb⟩, hb⟩) | (go_at_call 62; refine (FBlk.out _ (by assumption)).mono ?_; rintro e w1 ⟨⟨g, rfl, hsb⟩, hb⟩) | (go_at_call 58; refine (FAm.out _ _ _ _ _ (by assumption) (by decide)).mono ?_; rintro e w1 ⟨rfl, rfl⟩) | (go_at_call 37; refine (FEnd.out _ _).mono ?_; rintro e w1 ⟨rfl, rfl⟩) | (go_at_call_of 60 (Value.string ⟨#[60, 33, 45, 45]⟩); refine (P2.out _).mono ?_; rintro e w1 ⟨rfl, rfl⟩) | (go_at_call_of 60 (Value.string ⟨#[60, 63]⟩); refine (P3.out _).mono ?_; rintro e w1 ⟨rfl, rfl⟩) | (go_at_call_of 60 (Value.string ⟨#[60, 33, 91, 67, 68, 65, 84, 65, 91]⟩); refine (P5.out _).mono ?_; rintro e w1 ⟨rfl, rfl⟩) | (go_at_call_of 60 (Value.string ⟨#[60, 47]⟩); refine (P8.out _).mono ?_; rintro e w1 ⟨rfl, rfl⟩) | (go_at_call 61; refine (FLt.out _ _).mono ?_; rintro e w1 ⟨rfl, rfl⟩))
    go_cut [21] (fun v21 wx => v21 = .bool (verP s.data.toList) ∧ Hid (Below w.heap.size w wx))
    case first =>
      cases hk : amB NL0 rawsL with
      | false =>
        go_wp2_with (first | (go_at_call_of 49 (Value.string T0); refine (FN0.out _ (by assumption)).mono ?_; rintro e w1 ⟨rfl, hb⟩) | (go_at_call_of 57 (Value.string NN0); refine (FL0.out _ (by assumption)).mono ?_; rintro e w1 ⟨rfl, hb⟩) | (go_at_call 59; refine (FRaw.out _ (by assumption)).mono ?_; rintro e w1 ⟨⟨g, rfl, hsb⟩, hb⟩) | (go_at_call 62; refine (FBlk.out _ (by assumption)).mono ?_; rintro e w1 ⟨⟨g, rfl, hsb⟩, hb⟩) | (go_at_call 58; refine (FAm.out _ _ _ _ _ (by assumption) (by decide)).mono ?_; rintro e w1 ⟨rfl, rfl⟩) | (go_at_call 37; refine (FEnd.out _ _).mono ?_; rintro e w1 ⟨rfl, rfl⟩) | (go_at_call_of 60 (Value.string ⟨#[60, 33, 45, 45]⟩); refine (P2.out _).mono ?_; rintro e w1 ⟨rfl, rfl⟩) | (go_at_call_of 60 (Value.string ⟨#[60, 63]⟩); refine (P3.out _).mono ?_; rintro e w1 ⟨rfl, rfl⟩) | (go_at_call_of 60 (Value.string ⟨#[60, 33, 91, 67, 68, 65, 84, 65, 91]⟩); refine (P5.out _).mono ?_; rintro e w1 ⟨rfl, rfl⟩) | (go_at_call_of 60 (Value.string ⟨#[60, 47]⟩); refine (P8.out _).mono ?_; rintro e w1 ⟨rfl, rfl⟩) | (go_at_call 61; refine (FLt.out _ _).mono ?_; rintro e w1 ⟨rfl, rfl⟩))
        all_goals (go_meet; exact ⟨congrArg Value.bool (by rw [HVer.out, hk]; rfl), Lib.hid (by assumption)⟩)
      | true =>
      cases ha : atE R0.data.toList with
      | true =>
        go_wp2_with (first | (go_at_call_of 49 (Value.string T0); refine (FN0.out _ (by assumption)).mono ?_; rintro e w1 ⟨rfl, hb⟩) | (go_at_call_of 57 (Value.string NN0); refine (FL0.out _ (by assumption)).mono ?_; rintro e w1 ⟨rfl, hb⟩) | (go_at_call 59; refine (FRaw.out _ (by assumption)).mono ?_; rintro e w1 ⟨⟨g, rfl, hsb⟩, hb⟩) | (go_at_call 62; refine (FBlk.out _ (by assumption)).mono ?_; rintro e w1 ⟨⟨g, rfl, hsb⟩, hb⟩) | (go_at_call 58; refine (FAm.out _ _ _ _ _ (by assumption) (by decide)).mono ?_; rintro e w1 ⟨rfl, rfl⟩) | (go_at_call 37; refine (FEnd.out _ _).mono ?_; rintro e w1 ⟨rfl, rfl⟩) | (go_at_call_of 60 (Value.string ⟨#[60, 33, 45, 45]⟩); refine (P2.out _).mono ?_; rintro e w1 ⟨rfl, rfl⟩) | (go_at_call_of 60 (Value.string ⟨#[60, 63]⟩); refine (P3.out _).mono ?_; rintro e w1 ⟨rfl, rfl⟩) | (go_at_call_of 60 (Value.string ⟨#[60, 33, 91, 67, 68, 65, 84, 65, 91]⟩); refine (P5.out _).mono ?_; rintro e w1 ⟨rfl, rfl⟩) | (go_at_call_of 60 (Value.string ⟨#[60, 47]⟩); refine (P8.out _).mono ?_; rintro e w1 ⟨rfl, rfl⟩) | (go_at_call 61; refine (FLt.out _ _).mono ?_; rintro e w1 ⟨rfl, rfl⟩))
        all_goals (go_meet; exact ⟨congrArg Value.bool (by rw [HVer.out, hk, ha]; rfl), Lib.hid (by assumption)⟩)
      | false =>
        obtain ⟨c, ⟨hr0, hrk⟩, hh⟩ := HP0.out ha
        have hr0' : (0 : Int) < (R0.size : Int) := by omega
        have e62 : ((c.toNat : Int) == 62) = (c == 62) := eq_u8 c 62 (by decide)
        rw [hh] at HVer
        clear hh
        generalize (c == 62) = b3 at *
        cases b3
        all_goals
          go_wp2_with (first | (go_at_call_of 49 (Value.string T0); refine (FN0.out _ (by assumption)).mono ?_; rintro e w1 ⟨rfl, hb⟩) | (go_at_call_of 57 (Value.string NN0); refine (FL0.out _ (by assumption)).mono ?_; rintro e w1 ⟨rfl, hb⟩) | (go_at_call 59; refine (FRaw.out _ (by assumption)).mono ?_; rintro e w1 ⟨⟨g, rfl, hsb⟩, hb⟩) | (go_at_call 62; refine (FBlk.out _ (by assumption)).mono ?_; rintro e w1 ⟨⟨g, rfl, hsb⟩, hb⟩) | (go_at_call 58; refine (FAm.out _ _ _ _ _ (by assumption) (by decide)).mono ?_; rintro e w1 ⟨rfl, rfl⟩) | (go_at_call 37; refine (FEnd.out _ _).mono ?_; rintro e w1 ⟨rfl, rfl⟩) | (go_at_call_of 60 (Value.string ⟨#[60, 33, 45, 45]⟩); refine (P2.out _).mono ?_; rintro e w1 ⟨rfl, rfl⟩) | (go_at_call_of 60 (Value.string ⟨#[60, 63]⟩); refine (P3.out _).mono ?_; rintro e w1 ⟨rfl, rfl⟩) | (go_at_call_of 60 (Value.string ⟨#[60, 33, 91, 67, 68, 65, 84, 65, 91]⟩); refine (P5.out _).mono ?_; rintro e w1 ⟨rfl, rfl⟩) | (go_at_call_of 60 (Value.string ⟨#[60, 47]⟩); refine (P8.out _).mono ?_; rintro e w1 ⟨rfl, rfl⟩) | (go_at_call 61; refine (FLt.out _ _).mono ?_; rintro e w1 ⟨rfl, rfl⟩))
          all_goals (go_meet; exact ⟨congrArg Value.bool (by rw [HVer.out, hk, ha]; rfl), Lib.hid (by assumption)⟩)
    obtain ⟨rfl, HW⟩ := hcut
    clear hb
    have hb := HW.out
    cases hver : verP s.data.toList with
    | true =>
      go_wp2
      go_ret
      rw [HV.out, hver]
      exact ⟨rfl, hb⟩
    | false =>
    cases hp2 : Lib.hasPrefix s.data.toList [60, 33, 45, 45] with
    | true =>
      go_wp2_with (first | (go_at_call_of 49 (Value.string T0); refine (FN0.out _ (by assumption)).mono ?_; rintro e w1 ⟨rfl, hb⟩) | (go_at_call_of 57 (Value.string NN0); refine (FL0.out _ (by assumption)).mono ?_; rintro e w1 ⟨rfl, hb⟩) | (go_at_call 59; refine (FRaw.out _ (by assumption)).mono ?_; rintro e w1 ⟨⟨g, rfl, hsb⟩, hb⟩) | (go_at_call 62; refine (FBlk.out _ (by assumption)).mono ?_; rintro e w1 ⟨⟨g, rfl, hsb⟩, hb⟩) | (go_at_call 58; refine (FAm.out _ _ _ _ _ (by assumption) (by decide)).mono ?_; rintro e w1 ⟨rfl, rfl⟩) | (go_at_call 37; refine (FEnd.out _ _).mono ?_; rintro e w1 ⟨rfl, rfl⟩) | (go_at_call_of 60 (Value.string ⟨#[60, 33, 45, 45]⟩); refine (P2.out _).mono ?_; rintro e w1 ⟨rfl, rfl⟩) | (go_at_call_of 60 (Value.string ⟨#[60, 63]⟩); refine (P3.out _).mono ?_; rintro e w1 ⟨rfl, rfl⟩) | (go_at_call_of 60 (Value.string ⟨#[60, 33, 91, 67, 68, 65, 84, 65, 91]⟩); refine (P5.out _).mono ?_; rintro e w1 ⟨rfl, rfl⟩) | (go_at_call_of 60 (Value.string ⟨#[60, 47]⟩); refine (P8.out _).mono ?_; rintro e w1 ⟨rfl, rfl⟩) | (go_at_call 61; refine (FLt.out _ _).mono ?_; rintro e w1 ⟨rfl, rfl⟩))
      go_ret
      rw [HV.out, hver, hp2]
      exact ⟨rfl, hb⟩
    | false =>
    cases hp3 : Lib.hasPrefix s.data.toList [60, 63] with
    | true =>
      go_wp2_with (first | (go_at_call_of 49 (Value.string T0); refine (FN0.out _ (by assumption)).mono ?_; rintro e w1 ⟨rfl, hb⟩) | (go_at_call_of 57 (Value.string NN0); refine (FL0.out _ (by assumption)).mono ?_; rintro e w1 ⟨rfl, hb⟩) | (go_at_call 59; refine (FRaw.out _ (by assumption)).mono ?_; rintro e w1 ⟨⟨g, rfl, hsb⟩, hb⟩) | (go_at_call 62; refine (FBlk.out _ (by assumption)).mono ?_; rintro e w1 ⟨⟨g, rfl, hsb⟩, hb⟩) | (go_at_call 58; refine (FAm.out _ _ _ _ _ (by assumption) (by decide)).mono ?_; rintro e w1 ⟨rfl, rfl⟩) | (go_at_call 37; refine (FEnd.out _ _).mono ?_; rintro e w1 ⟨rfl, rfl⟩) | (go_at_call_of 60 (Value.string ⟨#[60, 33, 45, 45]⟩); refine (P2.out _).mono ?_; rintro e w1 ⟨rfl, rfl⟩) | (go_at_call_of 60 (Value.string ⟨#[60, 63]⟩); refine (P3.out _).mono ?_; rintro e w1 ⟨rfl, rfl⟩) | (go_at_call_of 60 (Value.string ⟨#[60, 33, 91, 67, 68, 65, 84, 65, 91]⟩); refine (P5.out _).mono ?_; rintro e w1 ⟨rfl, rfl⟩) | (go_at_call_of 60 (Value.string ⟨#[60, 47]⟩); refine (P8.out _).mono ?_; rintro e w1 ⟨rfl, rfl⟩) | (go_at_call 61; refine (FLt.out _ _).mono ?_; rintro e w1 ⟨rfl, rfl⟩))
      go_ret
      rw [HV.out, hver, hp2, hp3]
      exact ⟨rfl, hb⟩
    | false =>
    go_upto_region 11 with (first | (go_at_call_of 49 (Value.string T0); refine (FN0.out _ (by assumption)).mono ?_; rintro e w1 ⟨rfl, hb⟩) | (go_at_call_of 57 (Value.string NN0); refine (FL0.out _ (by assumption)).mono ?_; rintro e w1 ⟨rfl, hb⟩) | (go_at_call 59; refine (FRaw.out _ (by assumption)).mono ?_; rintro e w1 ⟨⟨g, rfl, hsb⟩, hb⟩) | (go_at_call 62; refine (FBlk.out _ (by assumption)).mono ?_; rintro e w1 ⟨⟨g, rfl, hsb⟩, hb⟩) | (go_at_call 58; refine (FAm.out _ _ _ _ _ (by assumption) (by decide)).mono ?_; rintro e w1 ⟨rfl, rfl⟩) | (go_at_call 37; refine (FEnd.out _ _).mono ?_; rintro e w1 ⟨rfl, rfl⟩) | (go_at_call_of 60 (Value.string ⟨#[60, 33, 45, 45]⟩); refine (P2.out _).mono ?_; rintro e w1 ⟨rfl, rfl⟩) | (go_at_call_of 60 (Value.string ⟨#[60, 63]⟩); refine (P3.out _).mono ?_; rintro e w1 ⟨rfl, rfl⟩) | (go_at_call_of 60 (Value.string ⟨#[60, 33, 91, 67, 68, 65, 84, 65, 91]⟩); refine (P5.out _).mono ?_; rintro e w1 ⟨rfl, rfl⟩) | (go_at_call_of 60 (Value.string ⟨#[60, 47]⟩); refine (P8.out _).mono ?_; rintro e w1 ⟨rfl, rfl⟩) | (go_at_call 61; refine (FLt.out _ _).mono ?_; rintro e w1 ⟨rfl, rfl⟩))
    go_cut [40] (fun v40 wx => v40 = .bool (declP s.data.toList) ∧ Hid (Below w.heap.size w wx))
    case first =>
      rcases HDecl.out with ⟨hx, hdl⟩ | ⟨c1, c2, hx, ⟨hx1, hc1⟩, ⟨hx2, hc2⟩, hdl⟩
      · have HDL := Lib.hid hdl
        clear hdl
        go_wp2_with (first | (go_at_call_of 49 (Value.string T0); refine (FN0.out _ (by assumption)).mono ?_; rintro e w1 ⟨rfl, hb⟩) | (go_at_call_of 57 (Value.string NN0); refine (FL0.out _ (by assumption)).mono ?_; rintro e w1 ⟨rfl, hb⟩) | (go_at_call 59; refine (FRaw.out _ (by assumption)).mono ?_; rintro e w1 ⟨⟨g, rfl, hsb⟩, hb⟩) | (go_at_call 62; refine (FBlk.out _ (by assumption)).mono ?_; rintro e w1 ⟨⟨g, rfl, hsb⟩, hb⟩) | (go_at_call 58; refine (FAm.out _ _ _ _ _ (by assumption) (by decide)).mono ?_; rintro e w1 ⟨rfl, rfl⟩) | (go_at_call 37; refine (FEnd.out _ _).mono ?_; rintro e w1 ⟨rfl, rfl⟩) | (go_at_call_of 60 (Value.string ⟨#[60, 33, 45, 45]⟩); refine (P2.out _).mono ?_; rintro e w1 ⟨rfl, rfl⟩) | (go_at_call_of 60 (Value.string ⟨#[60, 63]⟩); refine (P3.out _).mono ?_; rintro e w1 ⟨rfl, rfl⟩) | (go_at_call_of 60 (Value.string ⟨#[60, 33, 91, 67, 68, 65, 84, 65, 91]⟩); refine (P5.out _).mono ?_; rintro e w1 ⟨rfl, rfl⟩) | (go_at_call_of 60 (Value.string ⟨#[60, 47]⟩); refine (P8.out _).mono ?_; rintro e w1 ⟨rfl, rfl⟩) | (go_at_call 61; refine (FLt.out _ _).mono ?_; rintro e w1 ⟨rfl, rfl⟩))
        all_goals (go_meet; exact ⟨congrArg Value.bool HDL.out.symm, Lib.hid (by assumption)⟩)
      · have HDL := Lib.hid hdl
        have e33 : ((c1.toNat : Int) == 33) = (c1 == 33) := eq_u8 c1 33 (by decide)
        have hx3 : (1 : Int) < (s.size : Int) := by omega
        clear hdl
        generalize (c1 == 33) = b33 at *
        cases b33
        all_goals
          go_wp2_with (first | (go_at_call_of 49 (Value.string T0); refine (FN0.out _ (by assumption)).mono ?_; rintro e w1 ⟨rfl, hb⟩) | (go_at_call_of 57 (Value.string NN0); refine (FL0.out _ (by assumption)).mono ?_; rintro e w1 ⟨rfl, hb⟩) | (go_at_call 59; refine (FRaw.out _ (by assumption)).mono ?_; rintro e w1 ⟨⟨g, rfl, hsb⟩, hb⟩) | (go_at_call 62; refine (FBlk.out _ (by assumption)).mono ?_; rintro e w1 ⟨⟨g, rfl, hsb⟩, hb⟩) | (go_at_call 58; refine (FAm.out _ _ _ _ _ (by assumption) (by decide)).mono ?_; rintro e w1 ⟨rfl, rfl⟩) | (go_at_call 37; refine (FEnd.out _ _).mono ?_; rintro e w1 ⟨rfl, rfl⟩) | (go_at_call_of 60 (Value.string ⟨#[60, 33, 45, 45]⟩); refine (P2.out _).mono ?_; rintro e w1 ⟨rfl, rfl⟩) | (go_at_call_of 60 (Value.string ⟨#[60, 63]⟩); refine (P3.out _).mono ?_; rintro e w1 ⟨rfl, rfl⟩) | (go_at_call_of 60 (Value.string ⟨#[60, 33, 91, 67, 68, 65, 84, 65, 91]⟩); refine (P5.out _).mono ?_; rintro e w1 ⟨rfl, rfl⟩) | (go_at_call_of 60 (Value.string ⟨#[60, 47]⟩); refine (P8.out _).mono ?_; rintro e w1 ⟨rfl, rfl⟩) | (go_at_call 61; refine (FLt.out _ _).mono ?_; rintro e w1 ⟨rfl, rfl⟩))
          all_goals (go_meet; exact ⟨congrArg Value.bool (by rw [HDL.out]; first | rfl | simp), Lib.hid (by assumption)⟩)
    obtain ⟨rfl, HW2⟩ := hcut
    have hb2 := HW2.out
    cases hdc : declP s.data.toList with
    | true =>
      go_wp2
      go_ret
      rw [HV.out, hver, hp2, hp3, hdc]
      exact ⟨rfl, hb2⟩
    | false =>
    cases hp5 : Lib.hasPrefix s.data.toList [60, 33, 91, 67, 68, 65, 84, 65, 91] with
    | true =>
      go_wp2_with (first | (go_at_call_of 49 (Value.string T0); refine (FN0.out _ (by assumption)).mono ?_; rintro e w1 ⟨rfl, hb⟩) | (go_at_call_of 57 (Value.string NN0); refine (FL0.out _ (by assumption)).mono ?_; rintro e w1 ⟨rfl, hb⟩) | (go_at_call 59; refine (FRaw.out _ (by assumption)).mono ?_; rintro e w1 ⟨⟨g, rfl, hsb⟩, hb⟩) | (go_at_call 62; refine (FBlk.out _ (by assumption)).mono ?_; rintro e w1 ⟨⟨g, rfl, hsb⟩, hb⟩) | (go_at_call 58; refine (FAm.out _ _ _ _ _ (by assumption) (by decide)).mono ?_; rintro e w1 ⟨rfl, rfl⟩) | (go_at_call 37; refine (FEnd.out _ _).mono ?_; rintro e w1 ⟨rfl, rfl⟩) | (go_at_call_of 60 (Value.string ⟨#[60, 33, 45, 45]⟩); refine (P2.out _).mono ?_; rintro e w1 ⟨rfl, rfl⟩) | (go_at_call_of 60 (Value.string ⟨#[60, 63]⟩); refine (P3.out _).mono ?_; rintro e w1 ⟨rfl, rfl⟩) | (go_at_call_of 60 (Value.string ⟨#[60, 33, 91, 67, 68, 65, 84, 65, 91]⟩); refine (P5.out _).mono ?_; rintro e w1 ⟨rfl, rfl⟩) | (go_at_call_of 60 (Value.string ⟨#[60, 47]⟩); refine (P8.out _).mono ?_; rintro e w1 ⟨rfl, rfl⟩) | (go_at_call 61; refine (FLt.out _ _).mono ?_; rintro e w1 ⟨rfl, rfl⟩))
      go_ret
      rw [HV.out, hver, hp2, hp3, hdc, hp5]
      exact ⟨rfl, hb2⟩
    | false =>
    have HVL : Hid (htmlS s.data.toList = if knownP s.data.toList = true then 6 else if otherP s.data.toList = true then 7 else 0) := Lib.hid (by rw [HV.out, hver, hp2, hp3, hdc, hp5]; rfl)
    clear HV HDecl HVer HP0 hver hp2 hp3 hdc
    cases hp8 : Lib.hasPrefix s.data.toList [60, 47] with
    | true =>
      obtain ⟨T1, hT1⟩ : ∃ T1 : ByteArray, s.extract 2 s.size = T1 := ⟨_, rfl⟩
      have hT1d := HT1.out T1 hT1 hp8
      have hs2 := HSz.out hp8
      have hs2' : (2 : Int) ≤ (s.size : Int) := by omega
      have hT1s : T1.size ≤ 1000000 := by rw [← hT1]; simp; omega
      obtain ⟨NN1, hNN1⟩ := ba_mk (nameS T1.data.toList).1
      obtain ⟨R1, hR1⟩ := ba_mk (nameS T1.data.toList).2
      obtain ⟨NL1, hNL1⟩ := ba_mk (low NN1.data.toList)
      have hNs1 : NN1.size ≤ 1000000 := by have := nameS_len T1.data.toList; rw [hNN1, sz, sz] at this; omega
      have hR1s : R1.size ≤ 1000000 := by have := nameS_len T1.data.toList; rw [hR1, sz, sz] at this; omega
      have FN1 : Hid (∀ W, Below w.heap.size w W → Calls Tryz.prog 49 #[.string T1] W fun e w' => e = .returned (.tuple #[.string NN1, .string R1]) ∧ Below w.heap.size w w') := Lib.hid (fun W hW => (rname_at hNN1 hR1 W hT1s).mono fun e w' ⟨a, b⟩ => ⟨a, hW.trans (b.mono hW.size)⟩)
      have FL1 : Hid (∀ W, Below w.heap.size w W → Calls Tryz.prog 57 #[.string NN1] W fun e w' => e = .returned (.string NL1) ∧ Below w.heap.size w w') := Lib.hid (fun W hW => by
        have := rlower_any NN1 W hNs1
        rw [hNL1, ba_self] at this
        exact this.mono fun e w' ⟨a, b⟩ => ⟨a, hW.trans (b.mono hW.size)⟩)
      have HK : Hid (tagName s.data.toList = (NL1.data.toList, R1.data.toList)) := Lib.hid (by rw [HTN.out, ← hT1d, hNN1, hNL1, hR1])
      clear hT1d hNN1 hR1 hNL1 HTN HT0 HT1 HT0N HSz
      have HKn : Hid (knownP s.data.toList = (amB NL1 blocksL && (atE R1.data.toList || headIs R1.data.toList 62 || Lib.hasPrefix R1.data.toList [47, 62]))) := Lib.hid (by unfold knownP; rw [HK.out]; rfl)
      have HOt : Hid (otherP s.data.toList = (decide (0 < K) && !amB NL1 rawsL && TT.toList.isEmpty)) := Lib.hid (by rw [HOth.out, HK.out]; rfl)
      have PX := Lib.hid (fun W => begins_any R1 ⟨#[47, 62]⟩ W (hR1s) (by decide))
      rw [show (⟨#[47, 62]⟩ : ByteArray).data.toList = [47, 62] from rfl] at PX
      have HPR : Hid (atE R1.data.toList = false → ∃ c, (∃ h : 0 < R1.size, R1[0] = c) ∧ headIs R1.data.toList 62 = (c == 62)) := Lib.hid (fun h => headIs_at (atE_pos h) h)
      clear HOth HK
      go_upto_region 18 with (first | (go_at_call_of 49 (Value.string T0); refine (FN0.out _ (by assumption)).mono ?_; rintro e w1 ⟨rfl, hb⟩) | (go_at_call_of 57 (Value.string NN0); refine (FL0.out _ (by assumption)).mono ?_; rintro e w1 ⟨rfl, hb⟩) | (go_at_call 59; refine (FRaw.out _ (by assumption)).mono ?_; rintro e w1 ⟨⟨g, rfl, hsb⟩, hb⟩) | (go_at_call 62; refine (FBlk.out _ (by assumption)).mono ?_; rintro e w1 ⟨⟨g, rfl, hsb⟩, hb⟩) | (go_at_call 58; refine (FAm.out _ _ _ _ _ (by assumption) (by decide)).mono ?_; rintro e w1 ⟨rfl, rfl⟩) | (go_at_call 37; refine (FEnd.out _ _).mono ?_; rintro e w1 ⟨rfl, rfl⟩) | (go_at_call_of 60 (Value.string ⟨#[60, 33, 45, 45]⟩); refine (P2.out _).mono ?_; rintro e w1 ⟨rfl, rfl⟩) | (go_at_call_of 60 (Value.string ⟨#[60, 63]⟩); refine (P3.out _).mono ?_; rintro e w1 ⟨rfl, rfl⟩) | (go_at_call_of 60 (Value.string ⟨#[60, 33, 91, 67, 68, 65, 84, 65, 91]⟩); refine (P5.out _).mono ?_; rintro e w1 ⟨rfl, rfl⟩) | (go_at_call_of 60 (Value.string ⟨#[60, 47]⟩); refine (P8.out _).mono ?_; rintro e w1 ⟨rfl, rfl⟩) | (go_at_call 61; refine (FLt.out _ _).mono ?_; rintro e w1 ⟨rfl, rfl⟩) | (go_at_call_of 49 (Value.string T1); refine (FN1.out _ (by assumption)).mono ?_; rintro e w1 ⟨rfl, hb⟩) | (go_at_call_of 57 (Value.string NN1); refine (FL1.out _ (by assumption)).mono ?_; rintro e w1 ⟨rfl, hb⟩) | (go_at_call 60; refine (PX.out _).mono ?_; rintro e w1 ⟨rfl, rfl⟩) | (go_at_call 26; refine (FT.out _ (by assumption)).mono ?_; rintro e w1 ⟨rfl, hb⟩) | (go_at_call 38; refine (FTr.out _).mono ?_; rintro e w1 ⟨rfl, rfl⟩))
      go_cut [82] (fun v82 wx => v82 = .bool (knownP s.data.toList) ∧ Hid (Below w.heap.size w wx))
      case first =>
        cases hkb : amB NL1 blocksL with
        | false =>
          go_wp2_with (first | (go_at_call_of 49 (Value.string T0); refine (FN0.out _ (by assumption)).mono ?_; rintro e w1 ⟨rfl, hb⟩) | (go_at_call_of 57 (Value.string NN0); refine (FL0.out _ (by assumption)).mono ?_; rintro e w1 ⟨rfl, hb⟩) | (go_at_call 59; refine (FRaw.out _ (by assumption)).mono ?_; rintro e w1 ⟨⟨g, rfl, hsb⟩, hb⟩) | (go_at_call 62; refine (FBlk.out _ (by assumption)).mono ?_; rintro e w1 ⟨⟨g, rfl, hsb⟩, hb⟩) | (go_at_call 58; refine (FAm.out _ _ _ _ _ (by assumption) (by decide)).mono ?_; rintro e w1 ⟨rfl, rfl⟩) | (go_at_call 37; refine (FEnd.out _ _).mono ?_; rintro e w1 ⟨rfl, rfl⟩) | (go_at_call_of 60 (Value.string ⟨#[60, 33, 45, 45]⟩); refine (P2.out _).mono ?_; rintro e w1 ⟨rfl, rfl⟩) | (go_at_call_of 60 (Value.string ⟨#[60, 63]⟩); refine (P3.out _).mono ?_; rintro e w1 ⟨rfl, rfl⟩) | (go_at_call_of 60 (Value.string ⟨#[60, 33, 91, 67, 68, 65, 84, 65, 91]⟩); refine (P5.out _).mono ?_; rintro e w1 ⟨rfl, rfl⟩) | (go_at_call_of 60 (Value.string ⟨#[60, 47]⟩); refine (P8.out _).mono ?_; rintro e w1 ⟨rfl, rfl⟩) | (go_at_call 61; refine (FLt.out _ _).mono ?_; rintro e w1 ⟨rfl, rfl⟩) | (go_at_call_of 49 (Value.string T1); refine (FN1.out _ (by assumption)).mono ?_; rintro e w1 ⟨rfl, hb⟩) | (go_at_call_of 57 (Value.string NN1); refine (FL1.out _ (by assumption)).mono ?_; rintro e w1 ⟨rfl, hb⟩) | (go_at_call 60; refine (PX.out _).mono ?_; rintro e w1 ⟨rfl, rfl⟩) | (go_at_call 26; refine (FT.out _ (by assumption)).mono ?_; rintro e w1 ⟨rfl, hb⟩) | (go_at_call 38; refine (FTr.out _).mono ?_; rintro e w1 ⟨rfl, rfl⟩))
          all_goals (go_meet; exact ⟨congrArg Value.bool (by rw [HKn.out, hkb]; rfl), Lib.hid (by assumption)⟩)
        | true =>
        cases hae : atE R1.data.toList with
        | true =>
          go_wp2_with (first | (go_at_call_of 49 (Value.string T0); refine (FN0.out _ (by assumption)).mono ?_; rintro e w1 ⟨rfl, hb⟩) | (go_at_call_of 57 (Value.string NN0); refine (FL0.out _ (by assumption)).mono ?_; rintro e w1 ⟨rfl, hb⟩) | (go_at_call 59; refine (FRaw.out _ (by assumption)).mono ?_; rintro e w1 ⟨⟨g, rfl, hsb⟩, hb⟩) | (go_at_call 62; refine (FBlk.out _ (by assumption)).mono ?_; rintro e w1 ⟨⟨g, rfl, hsb⟩, hb⟩) | (go_at_call 58; refine (FAm.out _ _ _ _ _ (by assumption) (by decide)).mono ?_; rintro e w1 ⟨rfl, rfl⟩) | (go_at_call 37; refine (FEnd.out _ _).mono ?_; rintro e w1 ⟨rfl, rfl⟩) | (go_at_call_of 60 (Value.string ⟨#[60, 33, 45, 45]⟩); refine (P2.out _).mono ?_; rintro e w1 ⟨rfl, rfl⟩) | (go_at_call_of 60 (Value.string ⟨#[60, 63]⟩); refine (P3.out _).mono ?_; rintro e w1 ⟨rfl, rfl⟩) | (go_at_call_of 60 (Value.string ⟨#[60, 33, 91, 67, 68, 65, 84, 65, 91]⟩); refine (P5.out _).mono ?_; rintro e w1 ⟨rfl, rfl⟩) | (go_at_call_of 60 (Value.string ⟨#[60, 47]⟩); refine (P8.out _).mono ?_; rintro e w1 ⟨rfl, rfl⟩) | (go_at_call 61; refine (FLt.out _ _).mono ?_; rintro e w1 ⟨rfl, rfl⟩) | (go_at_call_of 49 (Value.string T1); refine (FN1.out _ (by assumption)).mono ?_; rintro e w1 ⟨rfl, hb⟩) | (go_at_call_of 57 (Value.string NN1); refine (FL1.out _ (by assumption)).mono ?_; rintro e w1 ⟨rfl, hb⟩) | (go_at_call 60; refine (PX.out _).mono ?_; rintro e w1 ⟨rfl, rfl⟩) | (go_at_call 26; refine (FT.out _ (by assumption)).mono ?_; rintro e w1 ⟨rfl, hb⟩) | (go_at_call 38; refine (FTr.out _).mono ?_; rintro e w1 ⟨rfl, rfl⟩))
          all_goals (go_meet; exact ⟨congrArg Value.bool (by rw [HKn.out, hkb, hae]; rfl), Lib.hid (by assumption)⟩)
        | false =>
          obtain ⟨c, ⟨hr0, hrk⟩, hh⟩ := HPR.out hae
          have hr0' : (0 : Int) < (R1.size : Int) := by omega
          have e62 : ((c.toNat : Int) == 62) = (c == 62) := eq_u8 c 62 (by decide)
          rw [hh] at HKn
          clear hh
          generalize (c == 62) = b3 at *
          cases b3 with
          | true =>
            go_wp2_with (first | (go_at_call_of 49 (Value.string T0); refine (FN0.out _ (by assumption)).mono ?_; rintro e w1 ⟨rfl, hb⟩) | (go_at_call_of 57 (Value.string NN0); refine (FL0.out _ (by assumption)).mono ?_; rintro e w1 ⟨rfl, hb⟩) | (go_at_call 59; refine (FRaw.out _ (by assumption)).mono ?_; rintro e w1 ⟨⟨g, rfl, hsb⟩, hb⟩) | (go_at_call 62; refine (FBlk.out _ (by assumption)).mono ?_; rintro e w1 ⟨⟨g, rfl, hsb⟩, hb⟩) | (go_at_call 58; refine (FAm.out _ _ _ _ _ (by assumption) (by decide)).mono ?_; rintro e w1 ⟨rfl, rfl⟩) | (go_at_call 37; refine (FEnd.out _ _).mono ?_; rintro e w1 ⟨rfl, rfl⟩) | (go_at_call_of 60 (Value.string ⟨#[60, 33, 45, 45]⟩); refine (P2.out _).mono ?_; rintro e w1 ⟨rfl, rfl⟩) | (go_at_call_of 60 (Value.string ⟨#[60, 63]⟩); refine (P3.out _).mono ?_; rintro e w1 ⟨rfl, rfl⟩) | (go_at_call_of 60 (Value.string ⟨#[60, 33, 91, 67, 68, 65, 84, 65, 91]⟩); refine (P5.out _).mono ?_; rintro e w1 ⟨rfl, rfl⟩) | (go_at_call_of 60 (Value.string ⟨#[60, 47]⟩); refine (P8.out _).mono ?_; rintro e w1 ⟨rfl, rfl⟩) | (go_at_call 61; refine (FLt.out _ _).mono ?_; rintro e w1 ⟨rfl, rfl⟩) | (go_at_call_of 49 (Value.string T1); refine (FN1.out _ (by assumption)).mono ?_; rintro e w1 ⟨rfl, hb⟩) | (go_at_call_of 57 (Value.string NN1); refine (FL1.out _ (by assumption)).mono ?_; rintro e w1 ⟨rfl, hb⟩) | (go_at_call 60; refine (PX.out _).mono ?_; rintro e w1 ⟨rfl, rfl⟩) | (go_at_call 26; refine (FT.out _ (by assumption)).mono ?_; rintro e w1 ⟨rfl, hb⟩) | (go_at_call 38; refine (FTr.out _).mono ?_; rintro e w1 ⟨rfl, rfl⟩))
            all_goals (go_meet; exact ⟨congrArg Value.bool (by rw [HKn.out, hkb, hae]; rfl), Lib.hid (by assumption)⟩)
          | false =>
            generalize Lib.hasPrefix R1.data.toList [47, 62] = b4 at *
            cases b4
            all_goals
              go_wp2_with (first | (go_at_call_of 49 (Value.string T0); refine (FN0.out _ (by assumption)).mono ?_; rintro e w1 ⟨rfl, hb⟩) | (go_at_call_of 57 (Value.string NN0); refine (FL0.out _ (by assumption)).mono ?_; rintro e w1 ⟨rfl, hb⟩) | (go_at_call 59; refine (FRaw.out _ (by assumption)).mono ?_; rintro e w1 ⟨⟨g, rfl, hsb⟩, hb⟩) | (go_at_call 62; refine (FBlk.out _ (by assumption)).mono ?_; rintro e w1 ⟨⟨g, rfl, hsb⟩, hb⟩) | (go_at_call 58; refine (FAm.out _ _ _ _ _ (by assumption) (by decide)).mono ?_; rintro e w1 ⟨rfl, rfl⟩) | (go_at_call 37; refine (FEnd.out _ _).mono ?_; rintro e w1 ⟨rfl, rfl⟩) | (go_at_call_of 60 (Value.string ⟨#[60, 33, 45, 45]⟩); refine (P2.out _).mono ?_; rintro e w1 ⟨rfl, rfl⟩) | (go_at_call_of 60 (Value.string ⟨#[60, 63]⟩); refine (P3.out _).mono ?_; rintro e w1 ⟨rfl, rfl⟩) | (go_at_call_of 60 (Value.string ⟨#[60, 33, 91, 67, 68, 65, 84, 65, 91]⟩); refine (P5.out _).mono ?_; rintro e w1 ⟨rfl, rfl⟩) | (go_at_call_of 60 (Value.string ⟨#[60, 47]⟩); refine (P8.out _).mono ?_; rintro e w1 ⟨rfl, rfl⟩) | (go_at_call 61; refine (FLt.out _ _).mono ?_; rintro e w1 ⟨rfl, rfl⟩) | (go_at_call_of 49 (Value.string T1); refine (FN1.out _ (by assumption)).mono ?_; rintro e w1 ⟨rfl, hb⟩) | (go_at_call_of 57 (Value.string NN1); refine (FL1.out _ (by assumption)).mono ?_; rintro e w1 ⟨rfl, hb⟩) | (go_at_call 60; refine (PX.out _).mono ?_; rintro e w1 ⟨rfl, rfl⟩) | (go_at_call 26; refine (FT.out _ (by assumption)).mono ?_; rintro e w1 ⟨rfl, hb⟩) | (go_at_call 38; refine (FTr.out _).mono ?_; rintro e w1 ⟨rfl, rfl⟩))
              all_goals (go_meet; exact ⟨congrArg Value.bool (by rw [HKn.out, hkb, hae]; rfl), Lib.hid (by assumption)⟩)
      obtain ⟨rfl, HW3⟩ := hcut
      have hb3 := HW3.out
      cases hkn : knownP s.data.toList with
      | true =>
        go_wp2
        go_ret
        rw [HVL.out, hkn]
        exact ⟨rfl, hb3⟩
      | false =>
      by_cases hk0 : 0 < K
      · have hk0' : (0 : Int) < (K : Int) := by omega
        rw [decide_eq_true hk0] at HOt
        clear hk0
        cases hraw : amB NL1 rawsL with
        | true =>
          have HZ : Hid (htmlS s.data.toList = 0) := Lib.hid (by rw [HVL.out, hkn, HOt.out, hraw]; rfl)
          go_wp2_with (first | (go_at_call_of 49 (Value.string T0); refine (FN0.out _ (by assumption)).mono ?_; rintro e w1 ⟨rfl, hb⟩) | (go_at_call_of 57 (Value.string NN0); refine (FL0.out _ (by assumption)).mono ?_; rintro e w1 ⟨rfl, hb⟩) | (go_at_call 59; refine (FRaw.out _ (by assumption)).mono ?_; rintro e w1 ⟨⟨g, rfl, hsb⟩, hb⟩) | (go_at_call 62; refine (FBlk.out _ (by assumption)).mono ?_; rintro e w1 ⟨⟨g, rfl, hsb⟩, hb⟩) | (go_at_call 58; refine (FAm.out _ _ _ _ _ (by assumption) (by decide)).mono ?_; rintro e w1 ⟨rfl, rfl⟩) | (go_at_call 37; refine (FEnd.out _ _).mono ?_; rintro e w1 ⟨rfl, rfl⟩) | (go_at_call_of 60 (Value.string ⟨#[60, 33, 45, 45]⟩); refine (P2.out _).mono ?_; rintro e w1 ⟨rfl, rfl⟩) | (go_at_call_of 60 (Value.string ⟨#[60, 63]⟩); refine (P3.out _).mono ?_; rintro e w1 ⟨rfl, rfl⟩) | (go_at_call_of 60 (Value.string ⟨#[60, 33, 91, 67, 68, 65, 84, 65, 91]⟩); refine (P5.out _).mono ?_; rintro e w1 ⟨rfl, rfl⟩) | (go_at_call_of 60 (Value.string ⟨#[60, 47]⟩); refine (P8.out _).mono ?_; rintro e w1 ⟨rfl, rfl⟩) | (go_at_call 61; refine (FLt.out _ _).mono ?_; rintro e w1 ⟨rfl, rfl⟩) | (go_at_call_of 49 (Value.string T1); refine (FN1.out _ (by assumption)).mono ?_; rintro e w1 ⟨rfl, hb⟩) | (go_at_call_of 57 (Value.string NN1); refine (FL1.out _ (by assumption)).mono ?_; rintro e w1 ⟨rfl, hb⟩) | (go_at_call 60; refine (PX.out _).mono ?_; rintro e w1 ⟨rfl, rfl⟩) | (go_at_call 26; refine (FT.out _ (by assumption)).mono ?_; rintro e w1 ⟨rfl, hb⟩) | (go_at_call 38; refine (FTr.out _).mono ?_; rintro e w1 ⟨rfl, rfl⟩))
          go_ret
          rw [HZ.out]
          exact ⟨rfl, by assumption⟩
        | false =>
        cases hte : TT.toList.isEmpty with
        | true =>
          have HZ : Hid (htmlS s.data.toList = 7) := Lib.hid (by rw [HVL.out, hkn, HOt.out, hraw, hte]; rfl)
          go_wp2_with (first | (go_at_call_of 49 (Value.string T0); refine (FN0.out _ (by assumption)).mono ?_; rintro e w1 ⟨rfl, hb⟩) | (go_at_call_of 57 (Value.string NN0); refine (FL0.out _ (by assumption)).mono ?_; rintro e w1 ⟨rfl, hb⟩) | (go_at_call 59; refine (FRaw.out _ (by assumption)).mono ?_; rintro e w1 ⟨⟨g, rfl, hsb⟩, hb⟩) | (go_at_call 62; refine (FBlk.out _ (by assumption)).mono ?_; rintro e w1 ⟨⟨g, rfl, hsb⟩, hb⟩) | (go_at_call 58; refine (FAm.out _ _ _ _ _ (by assumption) (by decide)).mono ?_; rintro e w1 ⟨rfl, rfl⟩) | (go_at_call 37; refine (FEnd.out _ _).mono ?_; rintro e w1 ⟨rfl, rfl⟩) | (go_at_call_of 60 (Value.string ⟨#[60, 33, 45, 45]⟩); refine (P2.out _).mono ?_; rintro e w1 ⟨rfl, rfl⟩) | (go_at_call_of 60 (Value.string ⟨#[60, 63]⟩); refine (P3.out _).mono ?_; rintro e w1 ⟨rfl, rfl⟩) | (go_at_call_of 60 (Value.string ⟨#[60, 33, 91, 67, 68, 65, 84, 65, 91]⟩); refine (P5.out _).mono ?_; rintro e w1 ⟨rfl, rfl⟩) | (go_at_call_of 60 (Value.string ⟨#[60, 47]⟩); refine (P8.out _).mono ?_; rintro e w1 ⟨rfl, rfl⟩) | (go_at_call 61; refine (FLt.out _ _).mono ?_; rintro e w1 ⟨rfl, rfl⟩) | (go_at_call_of 49 (Value.string T1); refine (FN1.out _ (by assumption)).mono ?_; rintro e w1 ⟨rfl, hb⟩) | (go_at_call_of 57 (Value.string NN1); refine (FL1.out _ (by assumption)).mono ?_; rintro e w1 ⟨rfl, hb⟩) | (go_at_call 60; refine (PX.out _).mono ?_; rintro e w1 ⟨rfl, rfl⟩) | (go_at_call 26; refine (FT.out _ (by assumption)).mono ?_; rintro e w1 ⟨rfl, hb⟩) | (go_at_call 38; refine (FTr.out _).mono ?_; rintro e w1 ⟨rfl, rfl⟩))
          go_ret
          rw [HZ.out]
          exact ⟨rfl, by assumption⟩
        | false =>
          have HZ : Hid (htmlS s.data.toList = 0) := Lib.hid (by rw [HVL.out, hkn, HOt.out, hraw, hte]; rfl)
          go_wp2_with (first | (go_at_call_of 49 (Value.string T0); refine (FN0.out _ (by assumption)).mono ?_; rintro e w1 ⟨rfl, hb⟩) | (go_at_call_of 57 (Value.string NN0); refine (FL0.out _ (by assumption)).mono ?_; rintro e w1 ⟨rfl, hb⟩) | (go_at_call 59; refine (FRaw.out _ (by assumption)).mono ?_; rintro e w1 ⟨⟨g, rfl, hsb⟩, hb⟩) | (go_at_call 62; refine (FBlk.out _ (by assumption)).mono ?_; rintro e w1 ⟨⟨g, rfl, hsb⟩, hb⟩) | (go_at_call 58; refine (FAm.out _ _ _ _ _ (by assumption) (by decide)).mono ?_; rintro e w1 ⟨rfl, rfl⟩) | (go_at_call 37; refine (FEnd.out _ _).mono ?_; rintro e w1 ⟨rfl, rfl⟩) | (go_at_call_of 60 (Value.string ⟨#[60, 33, 45, 45]⟩); refine (P2.out _).mono ?_; rintro e w1 ⟨rfl, rfl⟩) | (go_at_call_of 60 (Value.string ⟨#[60, 63]⟩); refine (P3.out _).mono ?_; rintro e w1 ⟨rfl, rfl⟩) | (go_at_call_of 60 (Value.string ⟨#[60, 33, 91, 67, 68, 65, 84, 65, 91]⟩); refine (P5.out _).mono ?_; rintro e w1 ⟨rfl, rfl⟩) | (go_at_call_of 60 (Value.string ⟨#[60, 47]⟩); refine (P8.out _).mono ?_; rintro e w1 ⟨rfl, rfl⟩) | (go_at_call 61; refine (FLt.out _ _).mono ?_; rintro e w1 ⟨rfl, rfl⟩) | (go_at_call_of 49 (Value.string T1); refine (FN1.out _ (by assumption)).mono ?_; rintro e w1 ⟨rfl, hb⟩) | (go_at_call_of 57 (Value.string NN1); refine (FL1.out _ (by assumption)).mono ?_; rintro e w1 ⟨rfl, hb⟩) | (go_at_call 60; refine (PX.out _).mono ?_; rintro e w1 ⟨rfl, rfl⟩) | (go_at_call 26; refine (FT.out _ (by assumption)).mono ?_; rintro e w1 ⟨rfl, hb⟩) | (go_at_call 38; refine (FTr.out _).mono ?_; rintro e w1 ⟨rfl, rfl⟩))
          go_ret
          rw [HZ.out]
          exact ⟨rfl, by assumption⟩
      · have hk0' : ¬ (0 : Int) < (K : Int) := by omega
        rw [decide_eq_false hk0] at HOt
        clear hk0
        have HZ : Hid (htmlS s.data.toList = 0) := Lib.hid (by rw [HVL.out, hkn, HOt.out]; rfl)
        go_wp2_with (first | (go_at_call_of 49 (Value.string T0); refine (FN0.out _ (by assumption)).mono ?_; rintro e w1 ⟨rfl, hb⟩) | (go_at_call_of 57 (Value.string NN0); refine (FL0.out _ (by assumption)).mono ?_; rintro e w1 ⟨rfl, hb⟩) | (go_at_call 59; refine (FRaw.out _ (by assumption)).mono ?_; rintro e w1 ⟨⟨g, rfl, hsb⟩, hb⟩) | (go_at_call 62; refine (FBlk.out _ (by assumption)).mono ?_; rintro e w1 ⟨⟨g, rfl, hsb⟩, hb⟩) | (go_at_call 58; refine (FAm.out _ _ _ _ _ (by assumption) (by decide)).mono ?_; rintro e w1 ⟨rfl, rfl⟩) | (go_at_call 37; refine (FEnd.out _ _).mono ?_; rintro e w1 ⟨rfl, rfl⟩) | (go_at_call_of 60 (Value.string ⟨#[60, 33, 45, 45]⟩); refine (P2.out _).mono ?_; rintro e w1 ⟨rfl, rfl⟩) | (go_at_call_of 60 (Value.string ⟨#[60, 63]⟩); refine (P3.out _).mono ?_; rintro e w1 ⟨rfl, rfl⟩) | (go_at_call_of 60 (Value.string ⟨#[60, 33, 91, 67, 68, 65, 84, 65, 91]⟩); refine (P5.out _).mono ?_; rintro e w1 ⟨rfl, rfl⟩) | (go_at_call_of 60 (Value.string ⟨#[60, 47]⟩); refine (P8.out _).mono ?_; rintro e w1 ⟨rfl, rfl⟩) | (go_at_call 61; refine (FLt.out _ _).mono ?_; rintro e w1 ⟨rfl, rfl⟩) | (go_at_call_of 49 (Value.string T1); refine (FN1.out _ (by assumption)).mono ?_; rintro e w1 ⟨rfl, hb⟩) | (go_at_call_of 57 (Value.string NN1); refine (FL1.out _ (by assumption)).mono ?_; rintro e w1 ⟨rfl, hb⟩) | (go_at_call 60; refine (PX.out _).mono ?_; rintro e w1 ⟨rfl, rfl⟩) | (go_at_call 26; refine (FT.out _ (by assumption)).mono ?_; rintro e w1 ⟨rfl, hb⟩) | (go_at_call 38; refine (FTr.out _).mono ?_; rintro e w1 ⟨rfl, rfl⟩))
        go_ret
        rw [HZ.out]
        exact ⟨rfl, by assumption⟩
    | false =>
      have HK : Hid (tagName s.data.toList = (NL0.data.toList, R0.data.toList)) := Lib.hid (by rw [HTN.out, ← HT0.out hp8, HT0N.out.2.1, HT0N.out.1, HT0N.out.2.2])
      clear HTN HT0 HT1 HT0N HSz
      have HKn : Hid (knownP s.data.toList = (amB NL0 blocksL && (atE R0.data.toList || headIs R0.data.toList 62 || Lib.hasPrefix R0.data.toList [47, 62]))) := Lib.hid (by unfold knownP; rw [HK.out]; rfl)
      have HOt : Hid (otherP s.data.toList = (decide (0 < K) && !amB NL0 rawsL && TT.toList.isEmpty)) := Lib.hid (by rw [HOth.out, HK.out]; rfl)
      have PX := Lib.hid (fun W => begins_any R0 ⟨#[47, 62]⟩ W (hR0s) (by decide))
      rw [show (⟨#[47, 62]⟩ : ByteArray).data.toList = [47, 62] from rfl] at PX
      have HPR : Hid (atE R0.data.toList = false → ∃ c, (∃ h : 0 < R0.size, R0[0] = c) ∧ headIs R0.data.toList 62 = (c == 62)) := Lib.hid (fun h => headIs_at (atE_pos h) h)
      clear HOth HK
      go_upto_region 18 with (first | (go_at_call_of 49 (Value.string T0); refine (FN0.out _ (by assumption)).mono ?_; rintro e w1 ⟨rfl, hb⟩) | (go_at_call_of 57 (Value.string NN0); refine (FL0.out _ (by assumption)).mono ?_; rintro e w1 ⟨rfl, hb⟩) | (go_at_call 59; refine (FRaw.out _ (by assumption)).mono ?_; rintro e w1 ⟨⟨g, rfl, hsb⟩, hb⟩) | (go_at_call 62; refine (FBlk.out _ (by assumption)).mono ?_; rintro e w1 ⟨⟨g, rfl, hsb⟩, hb⟩) | (go_at_call 58; refine (FAm.out _ _ _ _ _ (by assumption) (by decide)).mono ?_; rintro e w1 ⟨rfl, rfl⟩) | (go_at_call 37; refine (FEnd.out _ _).mono ?_; rintro e w1 ⟨rfl, rfl⟩) | (go_at_call_of 60 (Value.string ⟨#[60, 33, 45, 45]⟩); refine (P2.out _).mono ?_; rintro e w1 ⟨rfl, rfl⟩) | (go_at_call_of 60 (Value.string ⟨#[60, 63]⟩); refine (P3.out _).mono ?_; rintro e w1 ⟨rfl, rfl⟩) | (go_at_call_of 60 (Value.string ⟨#[60, 33, 91, 67, 68, 65, 84, 65, 91]⟩); refine (P5.out _).mono ?_; rintro e w1 ⟨rfl, rfl⟩) | (go_at_call_of 60 (Value.string ⟨#[60, 47]⟩); refine (P8.out _).mono ?_; rintro e w1 ⟨rfl, rfl⟩) | (go_at_call 61; refine (FLt.out _ _).mono ?_; rintro e w1 ⟨rfl, rfl⟩) | (go_at_call 60; refine (PX.out _).mono ?_; rintro e w1 ⟨rfl, rfl⟩) | (go_at_call 26; refine (FT.out _ (by assumption)).mono ?_; rintro e w1 ⟨rfl, hb⟩) | (go_at_call 38; refine (FTr.out _).mono ?_; rintro e w1 ⟨rfl, rfl⟩))
      go_cut [82] (fun v82 wx => v82 = .bool (knownP s.data.toList) ∧ Hid (Below w.heap.size w wx))
      case first =>
        cases hkb : amB NL0 blocksL with
        | false =>
          go_wp2_with (first | (go_at_call_of 49 (Value.string T0); refine (FN0.out _ (by assumption)).mono ?_; rintro e w1 ⟨rfl, hb⟩) | (go_at_call_of 57 (Value.string NN0); refine (FL0.out _ (by assumption)).mono ?_; rintro e w1 ⟨rfl, hb⟩) | (go_at_call 59; refine (FRaw.out _ (by assumption)).mono ?_; rintro e w1 ⟨⟨g, rfl, hsb⟩, hb⟩) | (go_at_call 62; refine (FBlk.out _ (by assumption)).mono ?_; rintro e w1 ⟨⟨g, rfl, hsb⟩, hb⟩) | (go_at_call 58; refine (FAm.out _ _ _ _ _ (by assumption) (by decide)).mono ?_; rintro e w1 ⟨rfl, rfl⟩) | (go_at_call 37; refine (FEnd.out _ _).mono ?_; rintro e w1 ⟨rfl, rfl⟩) | (go_at_call_of 60 (Value.string ⟨#[60, 33, 45, 45]⟩); refine (P2.out _).mono ?_; rintro e w1 ⟨rfl, rfl⟩) | (go_at_call_of 60 (Value.string ⟨#[60, 63]⟩); refine (P3.out _).mono ?_; rintro e w1 ⟨rfl, rfl⟩) | (go_at_call_of 60 (Value.string ⟨#[60, 33, 91, 67, 68, 65, 84, 65, 91]⟩); refine (P5.out _).mono ?_; rintro e w1 ⟨rfl, rfl⟩) | (go_at_call_of 60 (Value.string ⟨#[60, 47]⟩); refine (P8.out _).mono ?_; rintro e w1 ⟨rfl, rfl⟩) | (go_at_call 61; refine (FLt.out _ _).mono ?_; rintro e w1 ⟨rfl, rfl⟩) | (go_at_call 60; refine (PX.out _).mono ?_; rintro e w1 ⟨rfl, rfl⟩) | (go_at_call 26; refine (FT.out _ (by assumption)).mono ?_; rintro e w1 ⟨rfl, hb⟩) | (go_at_call 38; refine (FTr.out _).mono ?_; rintro e w1 ⟨rfl, rfl⟩))
          all_goals (go_meet; exact ⟨congrArg Value.bool (by rw [HKn.out, hkb]; rfl), Lib.hid (by assumption)⟩)
        | true =>
        cases hae : atE R0.data.toList with
        | true =>
          go_wp2_with (first | (go_at_call_of 49 (Value.string T0); refine (FN0.out _ (by assumption)).mono ?_; rintro e w1 ⟨rfl, hb⟩) | (go_at_call_of 57 (Value.string NN0); refine (FL0.out _ (by assumption)).mono ?_; rintro e w1 ⟨rfl, hb⟩) | (go_at_call 59; refine (FRaw.out _ (by assumption)).mono ?_; rintro e w1 ⟨⟨g, rfl, hsb⟩, hb⟩) | (go_at_call 62; refine (FBlk.out _ (by assumption)).mono ?_; rintro e w1 ⟨⟨g, rfl, hsb⟩, hb⟩) | (go_at_call 58; refine (FAm.out _ _ _ _ _ (by assumption) (by decide)).mono ?_; rintro e w1 ⟨rfl, rfl⟩) | (go_at_call 37; refine (FEnd.out _ _).mono ?_; rintro e w1 ⟨rfl, rfl⟩) | (go_at_call_of 60 (Value.string ⟨#[60, 33, 45, 45]⟩); refine (P2.out _).mono ?_; rintro e w1 ⟨rfl, rfl⟩) | (go_at_call_of 60 (Value.string ⟨#[60, 63]⟩); refine (P3.out _).mono ?_; rintro e w1 ⟨rfl, rfl⟩) | (go_at_call_of 60 (Value.string ⟨#[60, 33, 91, 67, 68, 65, 84, 65, 91]⟩); refine (P5.out _).mono ?_; rintro e w1 ⟨rfl, rfl⟩) | (go_at_call_of 60 (Value.string ⟨#[60, 47]⟩); refine (P8.out _).mono ?_; rintro e w1 ⟨rfl, rfl⟩) | (go_at_call 61; refine (FLt.out _ _).mono ?_; rintro e w1 ⟨rfl, rfl⟩) | (go_at_call 60; refine (PX.out _).mono ?_; rintro e w1 ⟨rfl, rfl⟩) | (go_at_call 26; refine (FT.out _ (by assumption)).mono ?_; rintro e w1 ⟨rfl, hb⟩) | (go_at_call 38; refine (FTr.out _).mono ?_; rintro e w1 ⟨rfl, rfl⟩))
          all_goals (go_meet; exact ⟨congrArg Value.bool (by rw [HKn.out, hkb, hae]; rfl), Lib.hid (by assumption)⟩)
        | false =>
          obtain ⟨c, ⟨hr0, hrk⟩, hh⟩ := HPR.out hae
          have hr0' : (0 : Int) < (R0.size : Int) := by omega
          have e62 : ((c.toNat : Int) == 62) = (c == 62) := eq_u8 c 62 (by decide)
          rw [hh] at HKn
          clear hh
          generalize (c == 62) = b3 at *
          cases b3 with
          | true =>
            go_wp2_with (first | (go_at_call_of 49 (Value.string T0); refine (FN0.out _ (by assumption)).mono ?_; rintro e w1 ⟨rfl, hb⟩) | (go_at_call_of 57 (Value.string NN0); refine (FL0.out _ (by assumption)).mono ?_; rintro e w1 ⟨rfl, hb⟩) | (go_at_call 59; refine (FRaw.out _ (by assumption)).mono ?_; rintro e w1 ⟨⟨g, rfl, hsb⟩, hb⟩) | (go_at_call 62; refine (FBlk.out _ (by assumption)).mono ?_; rintro e w1 ⟨⟨g, rfl, hsb⟩, hb⟩) | (go_at_call 58; refine (FAm.out _ _ _ _ _ (by assumption) (by decide)).mono ?_; rintro e w1 ⟨rfl, rfl⟩) | (go_at_call 37; refine (FEnd.out _ _).mono ?_; rintro e w1 ⟨rfl, rfl⟩) | (go_at_call_of 60 (Value.string ⟨#[60, 33, 45, 45]⟩); refine (P2.out _).mono ?_; rintro e w1 ⟨rfl, rfl⟩) | (go_at_call_of 60 (Value.string ⟨#[60, 63]⟩); refine (P3.out _).mono ?_; rintro e w1 ⟨rfl, rfl⟩) | (go_at_call_of 60 (Value.string ⟨#[60, 33, 91, 67, 68, 65, 84, 65, 91]⟩); refine (P5.out _).mono ?_; rintro e w1 ⟨rfl, rfl⟩) | (go_at_call_of 60 (Value.string ⟨#[60, 47]⟩); refine (P8.out _).mono ?_; rintro e w1 ⟨rfl, rfl⟩) | (go_at_call 61; refine (FLt.out _ _).mono ?_; rintro e w1 ⟨rfl, rfl⟩) | (go_at_call 60; refine (PX.out _).mono ?_; rintro e w1 ⟨rfl, rfl⟩) | (go_at_call 26; refine (FT.out _ (by assumption)).mono ?_; rintro e w1 ⟨rfl, hb⟩) | (go_at_call 38; refine (FTr.out _).mono ?_; rintro e w1 ⟨rfl, rfl⟩))
            all_goals (go_meet; exact ⟨congrArg Value.bool (by rw [HKn.out, hkb, hae]; rfl), Lib.hid (by assumption)⟩)
          | false =>
            generalize Lib.hasPrefix R0.data.toList [47, 62] = b4 at *
            cases b4
            all_goals
              go_wp2_with (first | (go_at_call_of 49 (Value.string T0); refine (FN0.out _ (by assumption)).mono ?_; rintro e w1 ⟨rfl, hb⟩) | (go_at_call_of 57 (Value.string NN0); refine (FL0.out _ (by assumption)).mono ?_; rintro e w1 ⟨rfl, hb⟩) | (go_at_call 59; refine (FRaw.out _ (by assumption)).mono ?_; rintro e w1 ⟨⟨g, rfl, hsb⟩, hb⟩) | (go_at_call 62; refine (FBlk.out _ (by assumption)).mono ?_; rintro e w1 ⟨⟨g, rfl, hsb⟩, hb⟩) | (go_at_call 58; refine (FAm.out _ _ _ _ _ (by assumption) (by decide)).mono ?_; rintro e w1 ⟨rfl, rfl⟩) | (go_at_call 37; refine (FEnd.out _ _).mono ?_; rintro e w1 ⟨rfl, rfl⟩) | (go_at_call_of 60 (Value.string ⟨#[60, 33, 45, 45]⟩); refine (P2.out _).mono ?_; rintro e w1 ⟨rfl, rfl⟩) | (go_at_call_of 60 (Value.string ⟨#[60, 63]⟩); refine (P3.out _).mono ?_; rintro e w1 ⟨rfl, rfl⟩) | (go_at_call_of 60 (Value.string ⟨#[60, 33, 91, 67, 68, 65, 84, 65, 91]⟩); refine (P5.out _).mono ?_; rintro e w1 ⟨rfl, rfl⟩) | (go_at_call_of 60 (Value.string ⟨#[60, 47]⟩); refine (P8.out _).mono ?_; rintro e w1 ⟨rfl, rfl⟩) | (go_at_call 61; refine (FLt.out _ _).mono ?_; rintro e w1 ⟨rfl, rfl⟩) | (go_at_call 60; refine (PX.out _).mono ?_; rintro e w1 ⟨rfl, rfl⟩) | (go_at_call 26; refine (FT.out _ (by assumption)).mono ?_; rintro e w1 ⟨rfl, hb⟩) | (go_at_call 38; refine (FTr.out _).mono ?_; rintro e w1 ⟨rfl, rfl⟩))
              all_goals (go_meet; exact ⟨congrArg Value.bool (by rw [HKn.out, hkb, hae]; rfl), Lib.hid (by assumption)⟩)
      obtain ⟨rfl, HW3⟩ := hcut
      have hb3 := HW3.out
      cases hkn : knownP s.data.toList with
      | true =>
        go_wp2
        go_ret
        rw [HVL.out, hkn]
        exact ⟨rfl, hb3⟩
      | false =>
      by_cases hk0 : 0 < K
      · have hk0' : (0 : Int) < (K : Int) := by omega
        rw [decide_eq_true hk0] at HOt
        clear hk0
        cases hraw : amB NL0 rawsL with
        | true =>
          have HZ : Hid (htmlS s.data.toList = 0) := Lib.hid (by rw [HVL.out, hkn, HOt.out, hraw]; rfl)
          go_wp2_with (first | (go_at_call_of 49 (Value.string T0); refine (FN0.out _ (by assumption)).mono ?_; rintro e w1 ⟨rfl, hb⟩) | (go_at_call_of 57 (Value.string NN0); refine (FL0.out _ (by assumption)).mono ?_; rintro e w1 ⟨rfl, hb⟩) | (go_at_call 59; refine (FRaw.out _ (by assumption)).mono ?_; rintro e w1 ⟨⟨g, rfl, hsb⟩, hb⟩) | (go_at_call 62; refine (FBlk.out _ (by assumption)).mono ?_; rintro e w1 ⟨⟨g, rfl, hsb⟩, hb⟩) | (go_at_call 58; refine (FAm.out _ _ _ _ _ (by assumption) (by decide)).mono ?_; rintro e w1 ⟨rfl, rfl⟩) | (go_at_call 37; refine (FEnd.out _ _).mono ?_; rintro e w1 ⟨rfl, rfl⟩) | (go_at_call_of 60 (Value.string ⟨#[60, 33, 45, 45]⟩); refine (P2.out _).mono ?_; rintro e w1 ⟨rfl, rfl⟩) | (go_at_call_of 60 (Value.string ⟨#[60, 63]⟩); refine (P3.out _).mono ?_; rintro e w1 ⟨rfl, rfl⟩) | (go_at_call_of 60 (Value.string ⟨#[60, 33, 91, 67, 68, 65, 84, 65, 91]⟩); refine (P5.out _).mono ?_; rintro e w1 ⟨rfl, rfl⟩) | (go_at_call_of 60 (Value.string ⟨#[60, 47]⟩); refine (P8.out _).mono ?_; rintro e w1 ⟨rfl, rfl⟩) | (go_at_call 61; refine (FLt.out _ _).mono ?_; rintro e w1 ⟨rfl, rfl⟩) | (go_at_call 60; refine (PX.out _).mono ?_; rintro e w1 ⟨rfl, rfl⟩) | (go_at_call 26; refine (FT.out _ (by assumption)).mono ?_; rintro e w1 ⟨rfl, hb⟩) | (go_at_call 38; refine (FTr.out _).mono ?_; rintro e w1 ⟨rfl, rfl⟩))
          go_ret
          rw [HZ.out]
          exact ⟨rfl, by assumption⟩
        | false =>
        cases hte : TT.toList.isEmpty with
        | true =>
          have HZ : Hid (htmlS s.data.toList = 7) := Lib.hid (by rw [HVL.out, hkn, HOt.out, hraw, hte]; rfl)
          go_wp2_with (first | (go_at_call_of 49 (Value.string T0); refine (FN0.out _ (by assumption)).mono ?_; rintro e w1 ⟨rfl, hb⟩) | (go_at_call_of 57 (Value.string NN0); refine (FL0.out _ (by assumption)).mono ?_; rintro e w1 ⟨rfl, hb⟩) | (go_at_call 59; refine (FRaw.out _ (by assumption)).mono ?_; rintro e w1 ⟨⟨g, rfl, hsb⟩, hb⟩) | (go_at_call 62; refine (FBlk.out _ (by assumption)).mono ?_; rintro e w1 ⟨⟨g, rfl, hsb⟩, hb⟩) | (go_at_call 58; refine (FAm.out _ _ _ _ _ (by assumption) (by decide)).mono ?_; rintro e w1 ⟨rfl, rfl⟩) | (go_at_call 37; refine (FEnd.out _ _).mono ?_; rintro e w1 ⟨rfl, rfl⟩) | (go_at_call_of 60 (Value.string ⟨#[60, 33, 45, 45]⟩); refine (P2.out _).mono ?_; rintro e w1 ⟨rfl, rfl⟩) | (go_at_call_of 60 (Value.string ⟨#[60, 63]⟩); refine (P3.out _).mono ?_; rintro e w1 ⟨rfl, rfl⟩) | (go_at_call_of 60 (Value.string ⟨#[60, 33, 91, 67, 68, 65, 84, 65, 91]⟩); refine (P5.out _).mono ?_; rintro e w1 ⟨rfl, rfl⟩) | (go_at_call_of 60 (Value.string ⟨#[60, 47]⟩); refine (P8.out _).mono ?_; rintro e w1 ⟨rfl, rfl⟩) | (go_at_call 61; refine (FLt.out _ _).mono ?_; rintro e w1 ⟨rfl, rfl⟩) | (go_at_call 60; refine (PX.out _).mono ?_; rintro e w1 ⟨rfl, rfl⟩) | (go_at_call 26; refine (FT.out _ (by assumption)).mono ?_; rintro e w1 ⟨rfl, hb⟩) | (go_at_call 38; refine (FTr.out _).mono ?_; rintro e w1 ⟨rfl, rfl⟩))
          go_ret
          rw [HZ.out]
          exact ⟨rfl, by assumption⟩
        | false =>
          have HZ : Hid (htmlS s.data.toList = 0) := Lib.hid (by rw [HVL.out, hkn, HOt.out, hraw, hte]; rfl)
          go_wp2_with (first | (go_at_call_of 49 (Value.string T0); refine (FN0.out _ (by assumption)).mono ?_; rintro e w1 ⟨rfl, hb⟩) | (go_at_call_of 57 (Value.string NN0); refine (FL0.out _ (by assumption)).mono ?_; rintro e w1 ⟨rfl, hb⟩) | (go_at_call 59; refine (FRaw.out _ (by assumption)).mono ?_; rintro e w1 ⟨⟨g, rfl, hsb⟩, hb⟩) | (go_at_call 62; refine (FBlk.out _ (by assumption)).mono ?_; rintro e w1 ⟨⟨g, rfl, hsb⟩, hb⟩) | (go_at_call 58; refine (FAm.out _ _ _ _ _ (by assumption) (by decide)).mono ?_; rintro e w1 ⟨rfl, rfl⟩) | (go_at_call 37; refine (FEnd.out _ _).mono ?_; rintro e w1 ⟨rfl, rfl⟩) | (go_at_call_of 60 (Value.string ⟨#[60, 33, 45, 45]⟩); refine (P2.out _).mono ?_; rintro e w1 ⟨rfl, rfl⟩) | (go_at_call_of 60 (Value.string ⟨#[60, 63]⟩); refine (P3.out _).mono ?_; rintro e w1 ⟨rfl, rfl⟩) | (go_at_call_of 60 (Value.string ⟨#[60, 33, 91, 67, 68, 65, 84, 65, 91]⟩); refine (P5.out _).mono ?_; rintro e w1 ⟨rfl, rfl⟩) | (go_at_call_of 60 (Value.string ⟨#[60, 47]⟩); refine (P8.out _).mono ?_; rintro e w1 ⟨rfl, rfl⟩) | (go_at_call 61; refine (FLt.out _ _).mono ?_; rintro e w1 ⟨rfl, rfl⟩) | (go_at_call 60; refine (PX.out _).mono ?_; rintro e w1 ⟨rfl, rfl⟩) | (go_at_call 26; refine (FT.out _ (by assumption)).mono ?_; rintro e w1 ⟨rfl, hb⟩) | (go_at_call 38; refine (FTr.out _).mono ?_; rintro e w1 ⟨rfl, rfl⟩))
          go_ret
          rw [HZ.out]
          exact ⟨rfl, by assumption⟩
      · have hk0' : ¬ (0 : Int) < (K : Int) := by omega
        rw [decide_eq_false hk0] at HOt
        clear hk0
        have HZ : Hid (htmlS s.data.toList = 0) := Lib.hid (by rw [HVL.out, hkn, HOt.out]; rfl)
        go_wp2_with (first | (go_at_call_of 49 (Value.string T0); refine (FN0.out _ (by assumption)).mono ?_; rintro e w1 ⟨rfl, hb⟩) | (go_at_call_of 57 (Value.string NN0); refine (FL0.out _ (by assumption)).mono ?_; rintro e w1 ⟨rfl, hb⟩) | (go_at_call 59; refine (FRaw.out _ (by assumption)).mono ?_; rintro e w1 ⟨⟨g, rfl, hsb⟩, hb⟩) | (go_at_call 62; refine (FBlk.out _ (by assumption)).mono ?_; rintro e w1 ⟨⟨g, rfl, hsb⟩, hb⟩) | (go_at_call 58; refine (FAm.out _ _ _ _ _ (by assumption) (by decide)).mono ?_; rintro e w1 ⟨rfl, rfl⟩) | (go_at_call 37; refine (FEnd.out _ _).mono ?_; rintro e w1 ⟨rfl, rfl⟩) | (go_at_call_of 60 (Value.string ⟨#[60, 33, 45, 45]⟩); refine (P2.out _).mono ?_; rintro e w1 ⟨rfl, rfl⟩) | (go_at_call_of 60 (Value.string ⟨#[60, 63]⟩); refine (P3.out _).mono ?_; rintro e w1 ⟨rfl, rfl⟩) | (go_at_call_of 60 (Value.string ⟨#[60, 33, 91, 67, 68, 65, 84, 65, 91]⟩); refine (P5.out _).mono ?_; rintro e w1 ⟨rfl, rfl⟩) | (go_at_call_of 60 (Value.string ⟨#[60, 47]⟩); refine (P8.out _).mono ?_; rintro e w1 ⟨rfl, rfl⟩) | (go_at_call 61; refine (FLt.out _ _).mono ?_; rintro e w1 ⟨rfl, rfl⟩) | (go_at_call 60; refine (PX.out _).mono ?_; rintro e w1 ⟨rfl, rfl⟩) | (go_at_call 26; refine (FT.out _ (by assumption)).mono ?_; rintro e w1 ⟨rfl, hb⟩) | (go_at_call 38; refine (FTr.out _).mono ?_; rintro e w1 ⟨rfl, rfl⟩))
        go_ret
        rw [HZ.out]
        exact ⟨rfl, by assumption⟩
end Sc
end Go.Proofs.YtnpaagglnfocpaaGreatDoor
