import Derived.Test.YtkiipaaaakhhfaaGreatDoorCBk9
section
namespace Go.Proofs.YtkiipaaaakhhfaaGreatDoor
open Go Go.RowKit
namespace Bk
set_option maxRecDepth 100000
set_option linter.unusedVariables false
set_option linter.unusedSimpArgs false
theorem isOrd_nat (c : UInt8) : isOrd c = (decide (c.toNat = 46) || decide (c.toNat = 41)) := by
 unfold isOrd
 have h : ∀ x y : UInt8, (x == y) = decide (x.toNat = y.toNat) := fun x y => by
  by_cases e : x = y
  ·subst e; simp
  ·rw [beq_eq_false_iff_ne.2 e, decide_eq_false (fun e' => e (UInt8.toNat_inj.1 e'))]
 rw [h, h]
 rfl
theorem stays_iff {L : Ln} {n : Nat} {c : UInt8} {bh : Str} : staysB L n c.toNat bh = true ↔ L.us = [] ∧ L.goes = true ∧ (blank bh = true ∨ (isOrd c = true ∧ n ≠ 1)) := by
 unfold staysB
 rw [← isOrd_nat]
 simp only [Bool.and_eq_true, Bool.or_eq_true, List.isEmpty_iff, Bool.not_eq_true', decide_eq_false_iff_not]
 constructor
 ·rintro ⟨⟨a, b⟩, c⟩; exact ⟨b, a, c⟩
 ·rintro ⟨a, b, c⟩; exact ⟨⟨b, a⟩, c⟩
theorem item_no {X : Scan Rf.Rb} {i : Nat} {L : Ln} (h : (sign X L.r.aft).2.2 = 0 ∨ staysB L (sign X L.r.aft).1 (sign X L.r.aft).2.1.toNat (L.r.aft.drop (sign X L.r.aft).2.2) = true) : item X i L = none := by
 unfold item
 by_cases h0 : (sign X L.r.aft).2.2 = 0
 ·exact if_pos h0
 ·rcases h with h | h
  ·exact absurd h h0
  ·show (if _ then _ else if _ then _ else _) = _
   rw [if_neg h0, if_pos (stays_iff.1 h)]
def itemR (L : Ln) (k : Nat) : Ln := { L with r := (L.r.past k).skip (width L k) }
def itemL (i : Nat) (L : Ln) (n : Nat) (c : UInt8) (k : Nat) : Ln := if lastIs c.toNat L.ms = true then itemR L k else (itemR L k).contain i { nilF with k := 3, n := n, m := c.toNat } false
def itemQ (i : Nat) (L : Ln) (n : Nat) (c : UInt8) (k : Nat) : Ln := (itemL i L n c k).contain i { nilF with k := 4, need := L.r.ind + k + width L k } true
def itemOf (X : Scan Rf.Rb) (i : Nat) (L : Ln) : Ln := itemQ i L (sign X L.r.aft).1 (sign X L.r.aft).2.1 (sign X L.r.aft).2.2
theorem past_ind (r : Rest) (k : Nat) : (r.past k).s = r.aft.drop k ∧ (r.past k).ind = Cl.indC (r.aft.drop k) (r.col + r.ind + k) := by
 have e : (r.past k).s = r.aft.drop k := by
  show r.s.drop (Cl.indB r.s r.col + k) = (r.s.drop (Cl.indB r.s r.col)).drop k
  rw [List.drop_drop]
 refine ⟨e, ?_⟩
 show Cl.indC (r.past k).s (r.past k).col = _
 rw [e]
 rfl
theorem width_eq (L : Ln) (k : Nat) : width L k = if blank (L.r.past k).s = true ∨ 5 ≤ (L.r.past k).ind then 1 else (L.r.past k).ind := by
 obtain ⟨e1, e2⟩ := past_ind L.r k
 rw [e1, e2]
 rfl
theorem item_yes {X : Scan Rf.Rb} {i : Nat} {L : Ln} (h0 : (sign X L.r.aft).2.2 ≠ 0) (h : staysB L (sign X L.r.aft).1 (sign X L.r.aft).2.1.toNat (L.r.aft.drop (sign X L.r.aft).2.2) = false) : item X i L = some (itemOf X i L) := by
 unfold item
 show (if _ then _ else if _ then _ else _) = _
 rw [if_neg h0, if_neg (fun e => by rw [stays_iff.2 e] at h; cases h)]
 rfl
section
variable {w0 w w' : World} {P a b hi num sgn N : Nat} {mask : Int} {tag tag' : Tag} {S : PS} {p pb q q' : Pt} {L : Ln} {X : Scan Rf.Rb} {v : Value}
theorem sign_len (HL : LowB w0 X) {t : Str} (ht : t.length ≤ 4000) : (sign X t).1 ≤ 1000000000 ∧ (sign X t).2.2 ≤ t.length := by
 unfold sign
 obtain ⟨b1, b2, b3, -⟩ := HL.bul t ht
 obtain ⟨o1, o2, -⟩ := HL.ord t ht
 split
 ·exact ⟨Nat.zero_le _, b2⟩
 ·exact ⟨o1, o2⟩
theorem Abs.lastMet (h : Abs S L hi) : ∃ a p f, S.op[S.met - 1]? = some a ∧ S.H a = some p ∧ FrAt p f ∧ L.ms.getLast? = some f := by
 have hne := h.ne
 have e := List.dropLast_concat_getLast hne
 have ho := h.op
 rw [← e, List.append_assoc] at ho
 obtain ⟨a, p, h1, h2, h3, h4, h5, h6, h7⟩ := frame_at (xs := L.ms.dropLast) (f := L.ms.getLast hne) (ys := L.us) ho
 refine ⟨a, p, L.ms.getLast hne, ?_, h4, h5, List.getLast?_eq_some_getLast hne⟩
 rw [List.length_dropLast] at h1
 rw [h.met]
 exact h1
set_option maxHeartbeats 8000000 in
theorem beginsItem_any (HL : LowB w0 X) (h : PL X w0 w P mask num sgn N L tag S hi) (hN : N + 4 ≤ 1000000) :
  Calls Tryz.prog 69 #[ptr P] w fun e w' => e = .returned (.bool (item X num L).isSome) ∧ PLx X w0 w' P mask num sgn (N + 4) ((item X num L).getD L) := by
 have hr : L.r = S.r := h.abs.r
 have hal := aft_len h.pm
 have HPL := Lib.hid h
 have HLL := Lib.hid HL
 have HBH := Lib.hid (fun W (hW : Below w.heap.size w W) => (behind_any (h.pm.below hW)).below)
 have HLO := Lib.hid (fun W (hW : Below w.heap.size w W) => listOf_any HL (below_later h.pm.low hW) S.r.aft (by omega))
 obtain ⟨s1, s2⟩ := sign_len HL (t := S.r.aft) (by omega)
 have hq3 : (sign X S.r.aft).2.1.toNat ≤ 255 := by have := (sign X S.r.aft).2.1.toNat_lt; omega
 have hil := hal.1
 have HST := Lib.hid (fun W (hW : Below w.heap.size w W) => stays_any HL (h.below hW) (sign X S.r.aft).1 (sign X S.r.aft).2.1.toNat hq3 s1 (S.r.aft.drop (sign X S.r.aft).2.2) (by rw [List.length_drop]; omega))
 by_cases h0 : (sign X S.r.aft).2.2 = 0
 ·rw [item_no (.inl (by rw [hr]; exact h0))]
  show Calls Tryz.prog 69 #[ptr P] w fun e w' => e = .returned (.bool false) ∧ PLx X w0 w' P mask num sgn (N + 4) L
  rw [h0] at HLO
  generalize (sign X S.r.aft).1 = qn at *
  generalize (sign X S.r.aft).2.1.toNat = qm at *
  clear h HL hr hal h0 s1 s2 hq3 hil HST
  unfold ptr str agg at *
  go_enter Tryz.func69, Tryz.ntmps69
  go_wp2_with fail
  refine (HBH.out _ (Below.refl _ _)).mono ?_
  rintro e w1 ⟨rfl, hb1⟩
  go_wp2_with fail
  refine (HLO.out _ hb1).mono ?_
  rintro e w2 ⟨rfl, hb2⟩
  go_upto_region 2 with fail
  go_cut [28] (fun v28 wx => v28 = .bool true ∧ Below w.heap.size w wx)
  case first =>
   have hb3 := (hb2.mono (by have := hb1.size; omega : w.heap.size ≤ w1.heap.size))
   have HB3 := Lib.hid ((hb1.trans hb3).alloc (o := .cells #[.int .i64 3, .string ⟨#[]⟩, .string ⟨#[]⟩, .int .i64 (qn : Nat), .int .i64 (qm : Nat), .bool false, .int .i64 0, .int .i64 0, .slice none 0 0] 41) (by have := hb1.size; have := hb2.size; omega))
   clear hb1 hb2 hb3
   go_quiet (fail)
   go_wp2
   go_meet
   exact ⟨rfl, below_drewN HB3.out _⟩
  obtain ⟨rfl, hb4⟩ := hcut
  have HE := Lib.hid (HPL.out.below hb4)
  clear hb1 hb2 hb4
  go_wp2
  go_ret
  exact ⟨rfl, _, _, _, HE.out.more (M := N + 4) (by omega)⟩
 ·obtain ⟨⟨qn, qc, qk⟩, hg⟩ : ∃ g, sign X S.r.aft = g := ⟨_, rfl⟩
  have hgL : sign X L.r.aft = (qn, qc, qk) := by rw [hr]; exact hg
  obtain ⟨sq, hsq⟩ : ∃ sq, staysB L (sign X S.r.aft).1 (sign X S.r.aft).2.1.toNat (S.r.aft.drop (sign X S.r.aft).2.2) = sq := ⟨_, rfl⟩
  rw [hsq] at HST
  have hit : item X num L = if sq = true then none else some (itemOf X num L) := by
   cases sq with
   | true => rw [if_pos rfl]; exact item_no (.inr (by rw [hr]; exact hsq))
   | false => rw [if_neg Bool.false_ne_true]; exact item_yes (by rw [hr]; exact h0) (by rw [hr]; exact hsq)
  have hio : itemOf X num L = itemQ num L qn qc qk := by unfold itemOf; rw [hgL]
  have HINL : Hid (sq = false → InL num (itemQ num L qn qc qk)) := Lib.hid (fun e => in_item X h.inl (by rw [hit, e, hio]; rfl))
  rw [hit, hio]
  rw [hg] at h0 s1 s2 hq3 HLO HST
  dsimp only at h0 s1 s2 hq3 HLO HST
  clear hsq hit hio hgL hg
  have b0 : ¬ (qk : Int) = 0 := by omega
  have b1 : ((qk : Int) == 0) = false := by rw [beq_eq_false_iff_ne]; exact b0
  have b2 : decide ((qk : Int) = 0) = false := decide_eq_false b0
  have hX := drop_list S.r.aft qk
  have hz : (⟨S.r.aft.toArray⟩ : ByteArray).size = S.r.aft.length := rfl
  have e1 : (qk : Int) ≤ (S.r.aft.length : Int) := by omega
  have e5 : (0 : Int) ≤ (qk : Int) := by omega
  have HPA := Lib.hid (fun W (hW : Below w.heap.size w W) => pass_atO HL.toLow (h.pm.below hW) qk s2)
  have HIN := Lib.hid (fun W (hW : Below w.heap.size w W) => (indent_any (h.pm.below hW)).below)
  have hPlt : P < w.heap.size := h.pm.cellsV.blk.lt
  have HPLT := Lib.hid hPlt
  have HR := Lib.hid hr
  have HQ3 := Lib.hid hq3
  have HS1 := Lib.hid s1
  have HAL := Lib.hid hal
  have HS2 := Lib.hid s2
  clear h HL hr hPlt hq3 s1 h0 hal s2 hil
  unfold lsC at HST
  unfold ptr str agg at *
  cases sq with
  | true =>
   rw [if_pos rfl]
   show Calls Tryz.prog 69 _ w fun e w' => e = .returned (.bool false) ∧ PLx X w0 w' P mask num sgn (N + 4) L
   generalize S.r.aft.length = z at *
   generalize (⟨S.r.aft.toArray⟩ : ByteArray) = A at *
   generalize (⟨(S.r.aft.drop qk).toArray⟩ : ByteArray) = D at *
   go_enter Tryz.func69, Tryz.ntmps69
   go_wp2_with fail
   refine (HBH.out _ (Below.refl _ _)).mono ?_
   rintro e w1 ⟨rfl, hb1⟩
   go_wp2_with fail
   refine (HLO.out _ hb1).mono ?_
   rintro e w2 ⟨rfl, hb2⟩
   go_upto_region 2 with fail
   have HB2 := Lib.hid (hb1.trans (hb2.mono hb1.size))
   have HX3 := Lib.hid (Hb.new w2 #[.int .i64 3, .string ⟨#[]⟩, .string ⟨#[]⟩, .int .i64 (qn : Nat), .int .i64 (qc.toNat : Nat), .bool false, .int .i64 0, .int .i64 0, .slice none 0 0] 41)
   have HB3 := Lib.hid (HB2.out.alloc (o := .cells #[.int .i64 3, .string ⟨#[]⟩, .string ⟨#[]⟩, .int .i64 (qn : Nat), .int .i64 (qc.toNat : Nat), .bool false, .int .i64 0, .int .i64 0, .slice none 0 0] 41) HB2.out.size)
   generalize w2.alloc (.cells #[.int .i64 3, .string ⟨#[]⟩, .string ⟨#[]⟩, .int .i64 (qn : Nat), .int .i64 (qc.toNat : Nat), .bool false, .int .i64 0, .int .i64 0, .slice none 0 0] 41) = W3 at *
   obtain ⟨F, hF⟩ : ∃ F, w2.heap.size = F := ⟨_, rfl⟩
   rw [hF] at HX3 ⊢
   have hFP : Hid (P < F) := Lib.hid (by have := HPLT.out; have := HB2.out.size; omega)
   clear hF hb1 hb2
   have HBW : Hid (∀ W, Below W3.heap.size W3 W → Below w.heap.size w W) := Lib.hid (fun W hW => HB3.out.trans (hW.mono HB3.out.size))
   have HBH3 := Lib.hid (fun W (hW : Below W3.heap.size W3 W) => (HBH.out W (HBW.out W hW)).mono fun e w' hh => (⟨hh.1, below_later hW hh.2⟩ : e = .returned (.string A) ∧ Below W3.heap.size W3 w'))
   have HST3 := Lib.hid (fun W (hW : Below W3.heap.size W3 W) => (HST.out W (HBW.out W hW)).mono fun e w' hh => (⟨hh.1, below_later hW hh.2⟩ : e = .returned (.bool true) ∧ Below W3.heap.size W3 w'))
   have HC9 : Hid (∀ W, Below W3.heap.size W3 W → W.cell? ⟨F, 0, none⟩ = some (.int .i64 3) ∧ W.cell? ⟨F, 1, none⟩ = some (.string ⟨#[]⟩) ∧ W.cell? ⟨F, 2, none⟩ = some (.string ⟨#[]⟩) ∧ W.cell? ⟨F, 3, none⟩ = some (.int .i64 (qn : Nat)) ∧ W.cell? ⟨F, 4, none⟩ = some (.int .i64 (qc.toNat : Nat)) ∧ W.cell? ⟨F, 5, none⟩ = some (.bool false) ∧ W.cell? ⟨F, 6, none⟩ = some (.int .i64 0) ∧ W.cell? ⟨F, 7, none⟩ = some (.int .i64 0) ∧ W.cell? ⟨F, 8, none⟩ = some (.slice none 0 0)) := Lib.hid (fun W hW => by
    have h2 := HX3.out.below hW
    exact ⟨h2.cell 0 rfl, h2.cell 1 rfl, h2.cell 2 rfl, h2.cell 3 rfl, h2.cell 4 rfl, h2.cell 5 rfl, h2.cell 6 rfl, h2.cell 7 rfl, h2.cell 8 rfl⟩)
   have HW := Lib.hid (Below.refl W3.heap.size W3)
   go_cut [28] (fun v28 wx => v28 = .bool true ∧ Below W3.heap.size W3 wx)
   case first =>
    go_region_held3 (fun W => W.cell? ⟨F, 0, none⟩ = some (.int .i64 3) ∧ W.cell? ⟨F, 1, none⟩ = some (.string ⟨#[]⟩) ∧ W.cell? ⟨F, 2, none⟩ = some (.string ⟨#[]⟩) ∧ W.cell? ⟨F, 3, none⟩ = some (.int .i64 (qn : Nat)) ∧ W.cell? ⟨F, 4, none⟩ = some (.int .i64 (qc.toNat : Nat)) ∧ W.cell? ⟨F, 5, none⟩ = some (.bool false) ∧ W.cell? ⟨F, 6, none⟩ = some (.int .i64 0) ∧ W.cell? ⟨F, 7, none⟩ = some (.int .i64 0) ∧ W.cell? ⟨F, 8, none⟩ = some (.slice none 0 0)) (first | exact HC9.out _ HW.out.drew | exact HC9.out _ (by assumption)) (first
     | (go_at_call 74; with_reducible refine (HBH3.out _ (by first | exact HW.out.drew | assumption)).mono ?_; rintro e w4 ⟨rfl, hb4⟩)
     | (go_at_call 110; with_reducible refine (HST3.out _ (by first | exact hb4 | assumption)).mono ?_; rintro e w5 ⟨rfl, hb5⟩))
    all_goals
     go_wp2
     go_meet
     exact ⟨rfl, hb5⟩
   obtain ⟨rfl, hb6⟩ := hcut
   have HE := Lib.hid (HPL.out.below (HBW.out _ hb6))
   clear hb6
   go_wp2
   go_ret
   exact ⟨rfl, _, _, _, HE.out.more (M := N + 4) (by omega)⟩
  | false =>
   rw [if_neg Bool.false_ne_true]
   show Calls Tryz.prog 69 _ w fun e w' => e = .returned (.bool true) ∧ PLx X w0 w' P mask num sgn (N + 4) (itemQ num L qn qc qk)
   generalize S.r.aft.length = z at *
   generalize (⟨S.r.aft.toArray⟩ : ByteArray) = A at *
   generalize (⟨(S.r.aft.drop qk).toArray⟩ : ByteArray) = D at *
   go_enter Tryz.func69, Tryz.ntmps69
   go_wp2_with fail
   refine (HBH.out _ (Below.refl _ _)).mono ?_
   rintro e w1 ⟨rfl, hb1⟩
   go_wp2_with fail
   refine (HLO.out _ hb1).mono ?_
   rintro e w2 ⟨rfl, hb2⟩
   go_upto_region 2 with fail
   have HB2 := Lib.hid (hb1.trans (hb2.mono hb1.size))
   have HX3 := Lib.hid (Hb.new w2 #[.int .i64 3, .string ⟨#[]⟩, .string ⟨#[]⟩, .int .i64 (qn : Nat), .int .i64 (qc.toNat : Nat), .bool false, .int .i64 0, .int .i64 0, .slice none 0 0] 41)
   have HB3 := Lib.hid (HB2.out.alloc (o := .cells #[.int .i64 3, .string ⟨#[]⟩, .string ⟨#[]⟩, .int .i64 (qn : Nat), .int .i64 (qc.toNat : Nat), .bool false, .int .i64 0, .int .i64 0, .slice none 0 0] 41) HB2.out.size)
   generalize w2.alloc (.cells #[.int .i64 3, .string ⟨#[]⟩, .string ⟨#[]⟩, .int .i64 (qn : Nat), .int .i64 (qc.toNat : Nat), .bool false, .int .i64 0, .int .i64 0, .slice none 0 0] 41) = W3 at *
   obtain ⟨F, hF⟩ : ∃ F, w2.heap.size = F := ⟨_, rfl⟩
   rw [hF] at HX3 ⊢
   have hFP : Hid (P < F) := Lib.hid (by have := HPLT.out; have := HB2.out.size; omega)
   clear hF hb1 hb2
   have HBW : Hid (∀ W, Below W3.heap.size W3 W → Below w.heap.size w W) := Lib.hid (fun W hW => HB3.out.trans (hW.mono HB3.out.size))
   have HBH3 := Lib.hid (fun W (hW : Below W3.heap.size W3 W) => (HBH.out W (HBW.out W hW)).mono fun e w' hh => (⟨hh.1, below_later hW hh.2⟩ : e = .returned (.string A) ∧ Below W3.heap.size W3 w'))
   have HST3 := Lib.hid (fun W (hW : Below W3.heap.size W3 W) => (HST.out W (HBW.out W hW)).mono fun e w' hh => (⟨hh.1, below_later hW hh.2⟩ : e = .returned (.bool false) ∧ Below W3.heap.size W3 w'))
   have HC9 : Hid (∀ W, Below W3.heap.size W3 W → W.cell? ⟨F, 0, none⟩ = some (.int .i64 3) ∧ W.cell? ⟨F, 1, none⟩ = some (.string ⟨#[]⟩) ∧ W.cell? ⟨F, 2, none⟩ = some (.string ⟨#[]⟩) ∧ W.cell? ⟨F, 3, none⟩ = some (.int .i64 (qn : Nat)) ∧ W.cell? ⟨F, 4, none⟩ = some (.int .i64 (qc.toNat : Nat)) ∧ W.cell? ⟨F, 5, none⟩ = some (.bool false) ∧ W.cell? ⟨F, 6, none⟩ = some (.int .i64 0) ∧ W.cell? ⟨F, 7, none⟩ = some (.int .i64 0) ∧ W.cell? ⟨F, 8, none⟩ = some (.slice none 0 0)) := Lib.hid (fun W hW => by
    have h2 := HX3.out.below hW
    exact ⟨h2.cell 0 rfl, h2.cell 1 rfl, h2.cell 2 rfl, h2.cell 3 rfl, h2.cell 4 rfl, h2.cell 5 rfl, h2.cell 6 rfl, h2.cell 7 rfl, h2.cell 8 rfl⟩)
   have HW := Lib.hid (Below.refl W3.heap.size W3)
   go_cut [28] (fun v28 wx => v28 = .bool false ∧ Below W3.heap.size W3 wx)
   case first =>
    go_region_held3 (fun W => W.cell? ⟨F, 0, none⟩ = some (.int .i64 3) ∧ W.cell? ⟨F, 1, none⟩ = some (.string ⟨#[]⟩) ∧ W.cell? ⟨F, 2, none⟩ = some (.string ⟨#[]⟩) ∧ W.cell? ⟨F, 3, none⟩ = some (.int .i64 (qn : Nat)) ∧ W.cell? ⟨F, 4, none⟩ = some (.int .i64 (qc.toNat : Nat)) ∧ W.cell? ⟨F, 5, none⟩ = some (.bool false) ∧ W.cell? ⟨F, 6, none⟩ = some (.int .i64 0) ∧ W.cell? ⟨F, 7, none⟩ = some (.int .i64 0) ∧ W.cell? ⟨F, 8, none⟩ = some (.slice none 0 0)) (first | exact HC9.out _ HW.out.drew | exact HC9.out _ (by assumption)) (first
     | (go_at_call 74; with_reducible refine (HBH3.out _ (by first | exact HW.out.drew | assumption)).mono ?_; rintro e w4 ⟨rfl, hb4⟩)
     | (go_at_call 110; with_reducible refine (HST3.out _ (by first | exact hb4 | assumption)).mono ?_; rintro e w5 ⟨rfl, hb5⟩))
    all_goals
     go_wp2
     go_meet
     exact ⟨rfl, hb5⟩
   obtain ⟨rfl, hb6⟩ := hcut
   have HX6 := Lib.hid (HX3.out.below hb6)
   have HB6 := Lib.hid (HBW.out _ hb6)
   have HIN6 := Lib.hid (HIN.out _ HB6.out)
   clear hb6 HBH HLO HST HBH3 HST3 HC9 HBW HX3 HB3 HB2 HW hX hz b0 b1 b2 D A
   obtain ⟨d, hd⟩ : ∃ d, S.r.ind = d := ⟨_, rfl⟩
   have HD := Lib.hid hd
   rw [hd] at HIN6
   obtain ⟨an, han⟩ : ∃ an, d + qk = an := ⟨_, rfl⟩
   have HAN := Lib.hid han
   have e7 : IntKind.i64.wrap ((d : Int) + (qk : Int)) = (an : Int) := by
    have := HAL.out
    have := HS2.out
    rw [IntWalk.i64_in _ (by omega)]; omega
   clear hd han
   go_wp2_with fail
   refine HIN6.out.mono ?_
   rintro e w7 ⟨rfl, hb7⟩
   have HB7 := Lib.hid (HB6.out.trans (hb7.mono HB6.out.size))
   have HX7 := Lib.hid (HX6.out.below hb7)
   have HP7 := Lib.hid (HPA.out _ HB7.out)
   clear hb7
   go_wp2_with fail
   refine HP7.out.mono ?_
   rintro e w8 ⟨rfl, ⟨S8, h8, hs8, hr8⟩, ho8⟩
   have HX8 := Lib.hid (HX7.out.keep (ho8.block F HX7.out.lt (fun e => by have := hFP.out; omega)))
   have HE8 := Lib.hid ((HPL.out.below HB7.out).like h8 hs8 hr8)
   have hi8 := (aft_len h8).2
   have H8 := Lib.hid h8
   have HI8 := Lib.hid ((indent_any h8).below)
   have HBL8 := Lib.hid (fun W (hW : Below w8.heap.size w8 W) => (blank_any (h8.below hW)).at hW)
   have hwd : width L qk = if blank S8.r.s = true ∨ 5 ≤ S8.r.ind then 1 else S8.r.ind := by rw [width_eq, HR.out, hr8]
   obtain ⟨i0, hi0⟩ : ∃ i0, S8.r.ind = i0 := ⟨_, rfl⟩
   obtain ⟨bq, hbq⟩ : ∃ bq, blank S8.r.s = bq := ⟨_, rfl⟩
   obtain ⟨wd, hwe⟩ : ∃ wd, width L qk = wd := ⟨_, rfl⟩
   rw [hi0] at HI8 hwd hi8
   rw [hbq] at HBL8 hwd
   rw [hwe] at hwd
   have HWD := Lib.hid hwd
   have HWE := Lib.hid hwe
   have hwl : wd ≤ 4000 := by rw [hwd]; split <;> omega
   have HWL := Lib.hid hwl
   have HSK := Lib.hid (fun W (hW : Below w8.heap.size w8 W) => skip_atO (h8.below hW) wd (by omega))
   have HR8 := Lib.hid hr8
   clear h8 hs8 hr8 ho8 hi0 hbq hwe hwl hwd HP7 HIN6 HIN HPA HX6 HB6 HX7
   unfold ptr at *
   go_wp2_with fail
   refine HI8.out.mono ?_
   rintro e w9 ⟨rfl, hb9⟩
   have HB9 := Lib.hid hb9
   clear hb9
   go_upto_region 7 with fail
   obtain ⟨cq, hcq⟩ : ∃ cq, (bq || decide (5 ≤ i0)) = cq := ⟨_, rfl⟩
   have HCQ := Lib.hid hcq
   clear hcq
   go_cut [51] (fun v51 wx => v51 = .bool cq ∧ Below w8.heap.size w8 wx)
   case first =>
    have hcq := HCQ.out
    cases bq with
    | true =>
     have e : cq = true := hcq.symm
     subst e
     clear hcq
     go_wp2_with fail
     refine (HBL8.out _ HB9.out).mono ?_
     rintro e w10 ⟨rfl, hb10⟩
     have HB10 := Lib.hid hb10
     clear hb10
     go_wp2
     go_meet
     exact ⟨rfl, HB10.out⟩
    | false =>
     by_cases h5 : 5 ≤ i0
     ·have k1 : (i0 : Int) > 4 := by omega
      have k2 : decide ((i0 : Int) > 4) = true := decide_eq_true k1
      rw [decide_eq_true h5] at hcq
      have e : cq = true := hcq.symm
      subst e
      clear hcq
      go_wp2_with fail
      refine (HBL8.out _ HB9.out).mono ?_
      rintro e w10 ⟨rfl, hb10⟩
      have HB10 := Lib.hid hb10
      clear hb10
      go_wp2
      go_meet
      exact ⟨rfl, HB10.out⟩
     ·have k1 : ¬ (i0 : Int) > 4 := by omega
      have k2 : decide ((i0 : Int) > 4) = false := decide_eq_false k1
      rw [decide_eq_false h5] at hcq
      have e : cq = false := hcq.symm
      subst e
      clear hcq
      go_wp2_with fail
      refine (HBL8.out _ HB9.out).mono ?_
      rintro e w10 ⟨rfl, hb10⟩
      have HB10 := Lib.hid hb10
      clear hb10
      go_wp2
      go_meet
      exact ⟨rfl, HB10.out⟩
   obtain ⟨rfl, hb11⟩ := hcut
   have HB11 := Lib.hid hb11
   clear hb11 HB9
   go_upto_if 51 with fail
   go_cut [6] (fun v6 wx => v6 = .int .i64 (wd : Nat) ∧ Below w8.heap.size w8 wx)
   case first =>
    have hcq := HCQ.out
    have hwd := HWD.out
    cases cq with
    | true =>
     have e : wd = 1 := by
      rw [hwd]
      refine if_pos ?_
      cases bq with
      | true => exact .inl rfl
      | false => exact .inr (of_decide_eq_true hcq)
     subst e
     clear hcq hwd
     go_wp2
     go_meet
     exact ⟨rfl, HB11.out⟩
    | false =>
     have e : wd = i0 := by
      rw [hwd]
      refine if_neg ?_
      rintro (e | e)
      ·rw [e] at hcq; cases hcq
      ·rw [decide_eq_true e] at hcq; cases bq <;> cases hcq
     subst e
     clear hcq hwd
     go_wp2
     go_meet
     exact ⟨rfl, HB11.out⟩
   obtain ⟨rfl, hb12⟩ := hcut
   have HX12 := Lib.hid (HX8.out.below hb12)
   have HS12 := Lib.hid (HSK.out _ hb12)
   clear hb12 HB11 HSK HI8 HBL8 HX8
   go_wp2_with fail
   refine HS12.out.mono ?_
   rintro e w13 ⟨rfl, ⟨S13, h13, hs13, hr13⟩, ho13⟩
   have HX13 := Lib.hid (HX12.out.keep (ho13.block F HX12.out.lt (fun e => by have := hFP.out; omega)))
   have hR : S8.r.skip wd = (L.r.past qk).skip (width L qk) := by rw [HWE.out, HR.out, ← HR8.out]
   have he13 := HE8.out.like h13 hs13 hr13
   rw [hR] at he13
   have HE13 : Hid (PL X w0 w13 P mask num sgn N (itemR L qk) tag S13 hi) := Lib.hid he13
   obtain ⟨a0, p0, f0, l1, l2, l3, l4⟩ := he13.abs.lastMet
   have l4 : L.ms.getLast? = some f0 := l4
   have hlq : lastIs qc.toNat L.ms = (p0.k == 3 && p0.m == qc.toNat) := by
    unfold lastIs
    rw [l4, l3.k, l3.m]
   obtain ⟨g, n, cap, c8, cg, lt, ln⟩ := h13.at l1
   have c9 := h13.cellsV.c9
   have hmt : 0 < S13.met := by
    have := he13.abs.met
    have h2 := List.length_pos_iff.2 he13.abs.ne
    omega
   have hml := h13.met
   have hfw := h13.few
   have hcp := h13.cap
   obtain ⟨mm, hmm⟩ : ∃ mm, S13.met - 1 = mm := ⟨_, rfl⟩
   rw [hmm] at cg lt
   have e8 : IntKind.i64.wrap ((S13.met : Int) - 1) = (mm : Int) := by rw [IntWalk.i64_in _ (by omega)]; omega
   have e9 : (0 : Int) ≤ (mm : Int) := by omega
   have HPC : Hid (∀ W, Below w13.heap.size w13 W → W.cell? ⟨a0, 0, none⟩ = some (.int .i64 (p0.k : Nat)) ∧ W.cell? ⟨a0, 4, none⟩ = some (.int .i64 (p0.m : Nat))) := Lib.hid (fun W hW => by
    obtain ⟨pv, lv, hpc, -⟩ := ((h13.below hW).parts _ p0 l2).1.cells
    exact ⟨hpc.c0, hpc.c4⟩)
   generalize S13.met = mt at *
   have HLQ := Lib.hid hlq
   clear h13 hs13 hr13 ho13 hR he13 l1 l2 l3 l4 hlq hmt hml hfw hcp hmm HE8 HR8 HX12 HS12 H8 HCQ HWD
   unfold ptr at *
   go_upto_region 10 with fail
   go_cut [7] (fun v7 wx => v7 = .pointer (some ⟨a0, 0, none⟩) ∧ Below w13.heap.size w13 wx)
   case first =>
    go_quiet (fail)
    go_wp2
    go_meet
    exact ⟨rfl, below_drewN (Below.refl _ _) _⟩
   obtain ⟨rfl, hb14⟩ := hcut
   have HB14 := Lib.hid hb14
   obtain ⟨c0, c4⟩ := HPC.out _ hb14
   have x4 := (HX13.out.below hb14).cell 4 rfl
   clear hb14 c8 cg lt ln c9 e8 e9
   obtain ⟨lq, hlq⟩ : ∃ lq, lastIs qc.toNat L.ms = lq := ⟨_, rfl⟩
   have HLQ2 := Lib.hid hlq
   have hlk := HLQ.out
   rw [hlq] at hlk
   have HLK := Lib.hid hlk
   clear hlq hlk
   go_upto_region 11 with fail
   go_cut [83] (fun v83 wx => v83 = .bool (!lq) ∧ Below w13.heap.size w13 wx)
   case first =>
    have hlk := HLK.out
    by_cases h3 : p0.k = 3
    ·rw [h3] at c0 hlk
     by_cases h4 : p0.m = qc.toNat
     ·rw [h4] at c4 hlk
      have e : lq = true := by rw [hlk]; simp
      subst e
      clear hlk h3 h4
      go_quiet (fail)
      go_wp2
      go_meet
      exact ⟨rfl, below_drewN HB14.out _⟩
     ·have e : lq = false := by rw [hlk, beq_eq_false_iff_ne.2 h4]; rfl
      subst e
      have k1 : ¬ (p0.m : Int) = (qc.toNat : Int) := by omega
      have k3 : ((p0.m : Int) == (qc.toNat : Int)) = false := by rw [beq_eq_false_iff_ne]; exact k1
      have k4 : ((p0.m : Int) != (qc.toNat : Int)) = true := by rw [bne, k3]; rfl
      clear hlk h3 h4
      go_quiet (fail)
      go_wp2
      go_meet
      exact ⟨rfl, below_drewN HB14.out _⟩
    ·have e : lq = false := by rw [hlk, beq_eq_false_iff_ne.2 h3]; rfl
     subst e
     have k1 : ¬ (p0.k : Int) = 3 := by omega
     have k3 : ((p0.k : Int) == 3) = false := by rw [beq_eq_false_iff_ne]; exact k1
     have k4 : ((p0.k : Int) != 3) = true := by rw [bne, k3]; rfl
     clear hlk h3
     go_quiet (fail)
     go_wp2
     go_meet
     exact ⟨rfl, below_drewN HB14.out _⟩
   obtain ⟨rfl, hb15⟩ := hcut
   have HX15 := Lib.hid (HX13.out.below hb15)
   have HE15 := Lib.hid (HE13.out.below hb15)
   clear hb15 HB14 c0 c4 x4 HPC HX13 HE13 HLK HLQ
   go_upto_if 83 with fail
   go_cut [] (fun wx => PLx X w0 wx P mask num sgn (N + 2) (itemL num L qn qc qk))
   case first =>
    have hlq := HLQ2.out
    cases lq with
    | true =>
     go_wp2
     go_meet
     unfold itemL
     rw [if_pos hlq]
     exact ⟨_, _, _, HE15.out.more (by omega)⟩
    | false =>
     have x := HX15.out
     have x0 := x.cell 0 rfl
     have x1 := x.cell 1 rfl
     have x2 := x.cell 2 rfl
     have x3 := x.cell 3 rfl
     have x4 := x.cell 4 rfl
     have x5 := x.cell 5 rfl
     have x6 := x.cell 6 rfl
     have x7 := x.cell 7 rfl
     have x8 := x.cell 8 rfl
     have HLQ3 := Lib.hid hlq
     have HEN : Hid (Calls Tryz.prog 97 #[.pointer (some ⟨P, 0, none⟩), agg 3 [] [] (qn : Nat) (qc.toNat : Nat)] _ _) := Lib.hid (enter_pl HE15.out ⟨3, [], [], qn, qc.toNat⟩ ⟨by show 3 ≤ 30; decide, HS1.out, HQ3.out, by show ¬ ((3 : Nat) = 1); decide⟩ (by omega))
     unfold agg at HEN
     clear x hlq
     go_wp2_with fail
     refine HEN.out.mono ?_
     rintro e w16 ⟨a, b, pb, tag2, v2, rfl, ha, kb, kpb, h2⟩
     have HC := Lib.hid (HE15.out.contained (f := { nilF with k := 3, n := qn, m := qc.toNat }) false ha kb kpb h2 ⟨rfl, rfl, rfl, rfl, rfl, rfl, rfl, rfl, rfl, rfl, by unfold contK; simp⟩ rfl (in_contain HE15.out.inl _ false (by unfold okc; simp) (fun e => by cases e)))
     clear ha kb kpb h2 x0 x1 x2 x3 x4 x5 x6 x7 x8
     unfold ptr
     go_wp2
     go_meet
     unfold itemL
     rw [if_neg (by rw [HLQ3.out]; exact Bool.false_ne_true)]
     exact ⟨_, _, _, HC.out⟩
   obtain ⟨t16, S16, hi16, k16⟩ := hcut
   have HEN : Hid (Calls Tryz.prog 97 #[.pointer (some ⟨P, 0, none⟩), agg 4 [] [] 0 0] _ _) := Lib.hid (enter_pl k16 ⟨4, [], [], 0, 0⟩ ⟨by show 4 ≤ 30; decide, by show 0 ≤ 1000000000; decide, by show 0 ≤ 255; decide, by show ¬ ((4 : Nat) = 1); decide⟩ (by omega))
   have K16 := Lib.hid k16
   clear k16 HE15 HX15
   unfold agg at HEN
   go_wp2_with fail
   refine HEN.out.mono ?_
   rintro e w17 ⟨a, b, pb, tag2, v2, rfl, ha, kb, kpb, h2⟩
   have hba := K16.out.apart ha kpb
   have hda := HAL.out.2
   have hdd := HD.out
   have han := HAN.out
   have hs2 := HS2.out
   have hwl := HWL.out
   have hal1 := HAL.out.1
   obtain ⟨nd, hnd⟩ : ∃ nd, an + wd = nd := ⟨_, rfl⟩
   have e10 : IntKind.i64.wrap ((an : Int) + (wd : Int)) = (nd : Int) := by rw [IntWalk.i64_in _ (by omega)]; omega
   obtain ⟨pv, lv, hpc, -⟩ := (h2.parts a ((⟨4, [], [], 0, 0⟩ : Bo).pt num) (Hp.begun_own hba)).1.cells
   have y11 := hpc.c11
   have fr := hpc.fr
   have f0 := (h2.parts a ((⟨4, [], [], 0, 0⟩ : Bo).pt num) (Hp.begun_own hba)).2
   have H3 := h2.setPt (q := { (⟨4, [], [], 0, 0⟩ : Bo).pt num with need := nd }) (Hp.begun_own hba) 11 (.int .i64 (nd : Nat)) (fun _ _ => rfl) rfl rfl ⟨f0.kids, f0.ls, f0.a, f0.z0, f0.z1, f0.k, f0.n, f0.m, by show nd ≤ 100000; omega, f0.cnt, f0.ind, f0.len⟩
   have e2 : ({ S16.beg (Ln.place true (itemL num L qn qc qk)).length a b pb ((⟨4, [], [], 0, 0⟩ : Bo).pt num) v2 with met := (Ln.place true (itemL num L qn qc qk)).length + 1, H := (S16.H.begun b a pb ((⟨4, [], [], 0, 0⟩ : Bo).pt num)).set a { (⟨4, [], [], 0, 0⟩ : Bo).pt num with need := nd } } : PS) = { S16.beg (Ln.place true (itemL num L qn qc qk)).length a b pb { (⟨4, [], [], 0, 0⟩ : Bo).pt num with need := nd } v2 with met := (Ln.place true (itemL num L qn qc qk)).length + 1 } := by
    rw [Hp.begun_set hba]
    rfl
   have H4 : PM w0 (w17.setCell ⟨a, 11, none⟩ (.int .i64 (nd : Nat))) P tag2 { S16.beg (Ln.place true (itemL num L qn qc qk)).length a b pb { (⟨4, [], [], 0, 0⟩ : Bo).pt num with need := nd } v2 with met := (Ln.place true (itemL num L qn qc qk)).length + 1 } := by
    rw [← e2]
    exact H3
   have hndw : nd = L.r.ind + qk + width L qk := by rw [HWE.out, HR.out, HD.out, ← hnd, ← han]
   have HC := Lib.hid (K16.out.contained (f := { nilF with k := 4, need := L.r.ind + qk + width L qk }) true ha kb kpb H4 ⟨rfl, rfl, rfl, rfl, rfl, hndw, rfl, rfl, rfl, rfl, by unfold contK; simp⟩ rfl (HINL.out (by first | rfl | trivial)))
   clear hba hda hdd han hs2 hwl hal1 hnd hpc f0 H3 H4 e2 hndw ha kb kpb h2
   unfold ptr
   go_wp2
   go_ret
   exact ⟨rfl, _, _, _, HC.out.more (M := N + 4) (by omega)⟩
end
end Bk
end Go.Proofs.YtkiipaaaakhhfaaGreatDoor
end
section
namespace Go.Proofs.YtkiipaaaakhhfaaGreatDoor
open Go Go.RowKit
namespace Bk
set_option maxRecDepth 100000
set_option linter.unusedVariables false
set_option linter.unusedSimpArgs false
def stepB (X : Scan Rf.Rb) (foot : Bool) (i : Nat) (L : Ln) : Nat × Ln :=
 if 4 ≤ L.r.ind then (if L.goes = true then (0, L) else (2, indented i L))
 else if L.r.aft.head? = some 62 then (1, ({ L with r := (L.r.past 1).skip 1 }).contain i { nilF with k := 2 } false)
 else if 0 < (X.atx L.r.aft).1 then (2, L.lay i fun i => .mk 8 (Cl.rgt (X.atx L.r.aft).2) [] (X.atx L.r.aft).1 0 false false [] i i [])
 else if 0 < (X.fence L.r.aft).2.1 then (2, L.open i { nilL with k := 5, fen := true, c := (X.fence L.r.aft).1, cnt := (X.fence L.r.aft).2.1, need := L.r.ind, t := X.une (X.fence L.r.aft).2.2 })
 else if htmls X L = true then (2, if X.ends L.r.s (X.html L.r.aft) = true then L.lay i fun i => .mk 6 [] [] (X.html L.r.aft) 0 false false [L.r.s] i i [] else L.open i { nilL with k := 6, n := X.html L.r.aft, ls := [L.r.s] })
 else if heads X L = true then (2, headed X i L)
 else if X.rule L.r.aft = true then (2, L.lay i fun i => .mk 9 [] [] 0 0 false false [] i i [])
 else match note foot i L with
  | some L1 => (1, L1)
  | none => match item X i L with
   | some L1 => (1, L1)
   | none => (0, L)
theorem htmls_iff {X : Scan Rf.Rb} {L : Ln} : htmls X L = true ↔ 0 < X.html L.r.aft ∧ ¬ (X.html L.r.aft = 7 ∧ L.goes = true) := by
 unfold htmls
 simp only [Bool.and_eq_true, decide_eq_true_eq, Bool.not_eq_true', Bool.and_eq_false_iff, decide_eq_false_iff_not]
 constructor
 ·rintro ⟨a, b | b⟩
  ·exact ⟨a, fun e => b e.1⟩
  ·exact ⟨a, fun e => by rw [e.2] at b; cases b⟩
 ·rintro ⟨a, b⟩
  refine ⟨a, ?_⟩
  by_cases h7 : X.html L.r.aft = 7
  ·refine .inr ?_
   cases hg : L.goes with
   | false => rfl
   | true => exact absurd ⟨h7, hg⟩ b
  ·exact .inl h7
theorem heads_iff {X : Scan Rf.Rb} {L : Ln} : heads X L = true ↔ 0 < X.setx L.r.aft ∧ L.us = [] ∧ L.goes = true ∧ setRest X L = true := by
 unfold heads
 simp only [Bool.and_eq_true, decide_eq_true_eq, List.isEmpty_iff]
 constructor
 ·rintro ⟨⟨⟨a, b⟩, c⟩, d⟩; exact ⟨a, b, c, d⟩
 ·rintro ⟨a, b, c, d⟩; exact ⟨⟨⟨a, b⟩, c⟩, d⟩
theorem begins_step {X : Scan Rf.Rb} {foot : Bool} {i n : Nat} {L : Ln} (hb : blank L.r.s = false) :
  begins X foot i (n + 1) L = match stepB X foot i L with
   | (1, L1) => begins X foot i n L1
   | (2, L1) => (true, L1)
   | (_, L1) => (false, L1) := by
 have hb' : ¬ blank L.r.s = true := by rw [hb]; exact Bool.false_ne_true
 show (if _ then _ else _) = _
 rw [if_neg hb']
 unfold stepB
 by_cases h4 : 4 ≤ L.r.ind
 ·rw [if_pos h4, if_pos h4]
  by_cases hg : L.goes = true
  ·(rw [if_pos hg, if_pos hg]; rfl)
  ·(rw [if_neg hg, if_neg hg]; rfl)
 ·rw [if_neg h4, if_neg h4]
  by_cases hq : L.r.aft.head? = some 62
  ·(rw [if_pos hq, if_pos hq]; rfl)
  ·rw [if_neg hq, if_neg hq]
   unfold leaves
   by_cases h1 : 0 < (X.atx L.r.aft).1
   ·(rw [if_pos h1, if_pos h1]; rfl)
   ·rw [if_neg h1, if_neg h1]
    by_cases h2 : 0 < (X.fence L.r.aft).2.1
    ·(rw [if_pos h2, if_pos h2]; rfl)
    ·rw [if_neg h2, if_neg h2]
     by_cases h3 : htmls X L = true
     ·rw [if_pos h3, if_pos (htmls_iff.1 h3)]
      by_cases he : X.ends L.r.s (X.html L.r.aft) = true
      ·(rw [if_pos he, if_pos he]; rfl)
      ·(rw [if_neg he, if_neg he]; rfl)
     ·rw [if_neg h3, if_neg (fun e => h3 (htmls_iff.2 e))]
      by_cases h5 : heads X L = true
      ·have h6 := heads_iff.1 h5
       obtain ⟨l, hl, hl7⟩ := goes_leaf h6.2.2.1
       rw [if_pos h5, if_pos h6]
       unfold headed
       rw [hl]
       rfl
      ·rw [if_neg h5, if_neg (fun e => h5 (heads_iff.2 e))]
       by_cases h7 : X.rule L.r.aft = true
       ·(rw [if_pos h7, if_pos h7]; rfl)
       ·rw [if_neg h7, if_neg h7]
        cases hn : note foot i L with
        | some L1 => rfl
        | none =>
         cases hi : item X i L with
         | some L1 => rfl
         | none => rfl
section
variable {w0 w w' : World} {P a b hi num sgn N : Nat} {mask : Int} {tag tag' : Tag} {S : PS} {p pb q q' : Pt} {L : Ln} {X : Scan Rf.Rb} {v : Value}
set_option maxHeartbeats 16000000 in
theorem begins_any (HL : LowB w0 X) (h : PL X w0 w P mask num sgn N L tag S hi) (hbl : blank L.r.s = false) (hpf : ParaFit L) (hN : N + 20 ≤ 1000000) :
  Calls Tryz.prog 39 #[ptr P] w fun e w' => e = .returned (.int .i64 ((stepB X (foot32 mask) num L).1 : Nat)) ∧ PLx X w0 w' P mask num sgn (N + 20) (stepB X (foot32 mask) num L).2 := by
 have hr : L.r = S.r := h.abs.r
 have HID := Lib.hid ((indent_any h.pm).below)
 rw [← hr] at HID
 have HPL := Lib.hid h
 have HLL := Lib.hid HL
 have HBL := Lib.hid hbl
 have HPF := Lib.hid hpf
 obtain ⟨c, hc⟩ : ∃ c, stepB X (foot32 mask) num L = c := ⟨_, rfl⟩
 have HC := Lib.hid hc
 rw [hc]
 obtain ⟨d, hd⟩ : ∃ d, L.r.ind = d := ⟨_, rfl⟩
 have HD := Lib.hid hd
 rw [hd] at HID
 by_cases h4 : 4 ≤ d
 ·have HCO := Lib.hid (fun W (hW : Below w.heap.size w W) => beginsCode_any HL.toLow (h.below hW) (by omega))
  have k1 : (d : Int) ≥ 4 := by omega
  have k2 : decide ((d : Int) ≥ 4) = true := decide_eq_true k1
  have H4 := Lib.hid h4
  by_cases hg : L.goes = true
  ·have e : c = (0, L) := by rw [← hc]; unfold stepB; rw [hd, if_pos h4, if_pos hg]
   subst e
   rw [if_pos hg, if_pos hg] at HCO
   clear h HL hbl hpf hc hd hr h4 hg HC
   unfold ptr at *
   go_enter Tryz.func39, Tryz.ntmps39
   go_wp2_with fail
   refine HID.out.mono ?_
   rintro e w1 ⟨rfl, hb1⟩
   have HC1 := Lib.hid (HCO.out _ hb1)
   clear hb1
   go_wp2_with fail
   refine HC1.out.mono ?_
   rintro e w2 ⟨rfl, t2, s2, hi2, h2⟩
   have H2 := Lib.hid h2
   clear h2
   go_wp2
   go_ret
   exact ⟨rfl, _, _, _, H2.out.more (M := N + 20) (by omega)⟩
  ·have e : c = (2, indented num L) := by rw [← hc]; unfold stepB; rw [hd, if_pos h4, if_neg hg]
   subst e
   rw [if_neg hg, if_neg hg] at HCO
   clear h HL hbl hpf hc hd hr h4 hg HC
   unfold ptr at *
   go_enter Tryz.func39, Tryz.ntmps39
   go_wp2_with fail
   refine HID.out.mono ?_
   rintro e w1 ⟨rfl, hb1⟩
   have HC1 := Lib.hid (HCO.out _ hb1)
   clear hb1
   go_wp2_with fail
   refine HC1.out.mono ?_
   rintro e w2 ⟨rfl, t2, s2, hi2, h2⟩
   have H2 := Lib.hid h2
   clear h2
   go_wp2
   go_ret
   exact ⟨rfl, _, _, _, H2.out.more (M := N + 20) (by omega)⟩
 ·have k1 : ¬ (d : Int) ≥ 4 := by omega
  have k2 : decide ((d : Int) ≥ 4) = false := decide_eq_false k1
  have h4' : ¬ 4 ≤ L.r.ind := by rw [hd]; exact h4
  have H4 := Lib.hid h4'
  have HD4 : Hid (L.r.ind < 4) := Lib.hid (by omega)
  clear h HL hbl hpf hc hd hr h4 h4'
  unfold ptr at *
  go_enter Tryz.func39, Tryz.ntmps39
  go_wp2_with fail
  refine HID.out.mono ?_
  rintro e w1 ⟨rfl, hb1⟩
  have hk0 := HPL.out.below hb1
  clear hb1
  have hcall0 := beginsQuote_any HLL.out.toLow hk0 HD4.out (by omega)
  have HCALL0 := Lib.hid hcall0
  clear hcall0 hk0
  unfold ptr at HCALL0
  go_wp2_with fail
  refine HCALL0.out.mono ?_
  rintro e x0 ⟨rfl, t0, s0, hi0, g0⟩
  by_cases q1 : L.r.aft.head? = some 62
  ·rw [if_pos q1] at g0
   rw [decide_eq_true q1]
   have e : c = (1, ({ L with r := (L.r.past 1).skip 1 }).contain num { nilF with k := 2 } false) := by rw [← HC.out]; unfold stepB; rw [if_neg H4.out, if_pos q1]
   have G := Lib.hid g0
   have E := Lib.hid e
   clear g0 e q1
   go_wp2
   go_ret
   rw [E.out]
   exact ⟨rfl, _, _, _, G.out.more (M := N + 20) (by omega)⟩
  rw [if_neg q1] at g0
  rw [decide_eq_false q1]
  have Hq1 := Lib.hid q1
  have hk1 := g0
  clear g0 q1
  have hcall1 := beginsHead_any HLL.out.toLow hk1 (by omega)
  have HCALL1 := Lib.hid hcall1
  clear hcall1 hk1
  unfold ptr at HCALL1
  go_wp2_with fail
  refine HCALL1.out.mono ?_
  rintro e x1 ⟨rfl, t1, s1, hi1, g1⟩
  by_cases q2 : 0 < (X.atx L.r.aft).1
  ·rw [if_pos q2] at g1
   rw [decide_eq_true q2]
   have e : c = (2, L.lay num fun i => .mk 8 (Cl.rgt (X.atx L.r.aft).2) [] (X.atx L.r.aft).1 0 false false [] i i []) := by rw [← HC.out]; unfold stepB; rw [if_neg H4.out, if_neg Hq1.out, if_pos q2]
   have G := Lib.hid g1
   have E := Lib.hid e
   clear g1 e q2
   go_wp2
   go_ret
   rw [E.out]
   exact ⟨rfl, _, _, _, G.out.more (M := N + 20) (by omega)⟩
  rw [if_neg q2] at g1
  rw [decide_eq_false q2]
  have Hq2 := Lib.hid q2
  have hk2 := g1
  clear g1 q2
  have hcall2 := beginsFence_any HLL.out.toLow hk2 (by omega)
  have HCALL2 := Lib.hid hcall2
  clear hcall2 hk2
  unfold ptr at HCALL2
  go_wp2_with fail
  refine HCALL2.out.mono ?_
  rintro e x2 ⟨rfl, t2, s2, hi2, g2⟩
  by_cases q3 : 0 < (X.fence L.r.aft).2.1
  ·rw [if_pos q3] at g2
   rw [decide_eq_true q3]
   have e : c = (2, L.open num { nilL with k := 5, fen := true, c := (X.fence L.r.aft).1, cnt := (X.fence L.r.aft).2.1, need := L.r.ind, t := X.une (X.fence L.r.aft).2.2 }) := by rw [← HC.out]; unfold stepB; rw [if_neg H4.out, if_neg Hq1.out, if_neg Hq2.out, if_pos q3]
   have G := Lib.hid g2
   have E := Lib.hid e
   clear g2 e q3
   go_wp2
   go_ret
   rw [E.out]
   exact ⟨rfl, _, _, _, G.out.more (M := N + 20) (by omega)⟩
  rw [if_neg q3] at g2
  rw [decide_eq_false q3]
  have Hq3 := Lib.hid q3
  have hk3 := g2
  clear g2 q3
  have hcall3 := beginsHtml_any HLL.out.toLow hk3 HBL.out (by omega)
  have HCALL3 := Lib.hid hcall3
  clear hcall3 hk3
  unfold ptr at HCALL3
  go_wp2_with fail
  refine HCALL3.out.mono ?_
  rintro e x3 ⟨rfl, t3, s3, hi3, g3⟩
  by_cases q4 : htmls X L = true
  ·rw [if_pos q4] at g3
   rw [q4]
   have e : c = (2, if X.ends L.r.s (X.html L.r.aft) = true then L.lay num fun i => .mk 6 [] [] (X.html L.r.aft) 0 false false [L.r.s] i i [] else L.open num { nilL with k := 6, n := X.html L.r.aft, ls := [L.r.s] }) := by rw [← HC.out]; unfold stepB; rw [if_neg H4.out, if_neg Hq1.out, if_neg Hq2.out, if_neg Hq3.out, if_pos q4]
   have G := Lib.hid g3
   have E := Lib.hid e
   clear g3 e q4
   go_wp2
   go_ret
   rw [E.out]
   exact ⟨rfl, _, _, _, G.out.more (M := N + 20) (by omega)⟩
  rw [if_neg q4] at g3
  rw [Bool.eq_false_iff.2 q4]
  have Hq4 := Lib.hid q4
  have hk4 := g3
  clear g3 q4
  have hcall4 := becomesHead_any HLL.out.toLow hk4 HPF.out
  have HCALL4 := Lib.hid hcall4
  clear hcall4 hk4
  unfold ptr at HCALL4
  go_wp2_with fail
  refine HCALL4.out.mono ?_
  rintro e x4 ⟨rfl, t4, s4, hi4, g4⟩
  by_cases q5 : heads X L = true
  ·rw [if_pos q5] at g4
   rw [q5]
   have e : c = (2, headed X num L) := by rw [← HC.out]; unfold stepB; rw [if_neg H4.out, if_neg Hq1.out, if_neg Hq2.out, if_neg Hq3.out, if_neg Hq4.out, if_pos q5]
   have G := Lib.hid g4
   have E := Lib.hid e
   clear g4 e q5
   go_wp2
   go_ret
   rw [E.out]
   exact ⟨rfl, _, _, _, G.out.more (M := N + 20) (by omega)⟩
  rw [if_neg q5] at g4
  rw [Bool.eq_false_iff.2 q5]
  have Hq5 := Lib.hid q5
  have hk5 := g4
  clear g4 q5
  have hcall5 := beginsRule_any HLL.out.toLow hk5 (by omega)
  have HCALL5 := Lib.hid hcall5
  clear hcall5 hk5
  unfold ptr at HCALL5
  go_wp2_with fail
  refine HCALL5.out.mono ?_
  rintro e x5 ⟨rfl, t5, s5, hi5, g5⟩
  by_cases q6 : X.rule L.r.aft = true
  ·rw [if_pos q6] at g5
   rw [q6]
   have e : c = (2, L.lay num fun i => .mk 9 [] [] 0 0 false false [] i i []) := by rw [← HC.out]; unfold stepB; rw [if_neg H4.out, if_neg Hq1.out, if_neg Hq2.out, if_neg Hq3.out, if_neg Hq4.out, if_neg Hq5.out, if_pos q6]
   have G := Lib.hid g5
   have E := Lib.hid e
   clear g5 e q6
   go_wp2
   go_ret
   rw [E.out]
   exact ⟨rfl, _, _, _, G.out.more (M := N + 20) (by omega)⟩
  rw [if_neg q6] at g5
  rw [Bool.eq_false_iff.2 q6]
  have Hq6 := Lib.hid q6
  have hk6 := g5
  clear g5 q6
  have hcall6 := beginsNote_any HLL.out hk6 (by omega)
  cases hn : note (foot32 mask) num L with
  | some L1 =>
   rw [hn] at hcall6
   have e : c = (1, L1) := by rw [← HC.out]; unfold stepB; rw [if_neg H4.out, if_neg Hq1.out, if_neg Hq2.out, if_neg Hq3.out, if_neg Hq4.out, if_neg Hq5.out, if_neg Hq6.out]; rw [hn]
   have E := Lib.hid e
   have HCALL6 : Hid (Calls Tryz.prog 68 #[.pointer (some ⟨P, 0, none⟩)] x5 fun e w' => e = .returned (.bool true) ∧ PLx X w0 w' P mask num sgn _ L1) := Lib.hid hcall6
   clear hcall6 hk6 e hn
   go_wp2_with fail
   refine HCALL6.out.mono ?_
   rintro e x6 ⟨rfl, t6, s6, hi6, g6⟩
   have G := Lib.hid g6
   clear g6
   go_wp2
   go_ret
   rw [E.out]
   exact ⟨rfl, _, _, _, G.out.more (M := N + 20) (by omega)⟩
  | none =>
   rw [hn] at hcall6
   have HCALL6 : Hid (Calls Tryz.prog 68 #[.pointer (some ⟨P, 0, none⟩)] x5 fun e w' => e = .returned (.bool false) ∧ PLx X w0 w' P mask num sgn _ L) := Lib.hid hcall6
   have HN := Lib.hid hn
   clear hcall6 hk6 hn
   go_wp2_with fail
   refine HCALL6.out.mono ?_
   rintro e x6 ⟨rfl, t6, s6, hi6, hk7⟩
   have hcall7 := beginsItem_any HLL.out hk7 (by omega)
   cases hn : item X num L with
   | some L1 =>
    rw [hn] at hcall7
    have e : c = (1, L1) := by rw [← HC.out]; unfold stepB; rw [if_neg H4.out, if_neg Hq1.out, if_neg Hq2.out, if_neg Hq3.out, if_neg Hq4.out, if_neg Hq5.out, if_neg Hq6.out]; rw [HN.out, hn]
    have E := Lib.hid e
    have HCALL7 : Hid (Calls Tryz.prog 69 #[.pointer (some ⟨P, 0, none⟩)] x6 fun e w' => e = .returned (.bool true) ∧ PLx X w0 w' P mask num sgn _ L1) := Lib.hid hcall7
    clear hcall7 hk7 e hn
    go_wp2_with fail
    refine HCALL7.out.mono ?_
    rintro e x7 ⟨rfl, t7, s7, hi7, g7⟩
    have G := Lib.hid g7
    clear g7
    go_wp2
    go_ret
    rw [E.out]
    exact ⟨rfl, _, _, _, G.out.more (M := N + 20) (by omega)⟩
   | none =>
    rw [hn] at hcall7
    have e : c = (0, L) := by rw [← HC.out]; unfold stepB; rw [if_neg H4.out, if_neg Hq1.out, if_neg Hq2.out, if_neg Hq3.out, if_neg Hq4.out, if_neg Hq5.out, if_neg Hq6.out]; rw [HN.out, hn]
    have E := Lib.hid e
    have HCALL7 : Hid (Calls Tryz.prog 69 #[.pointer (some ⟨P, 0, none⟩)] x6 fun e w' => e = .returned (.bool false) ∧ PLx X w0 w' P mask num sgn _ L) := Lib.hid hcall7
    clear hcall7 hk7 e hn
    go_wp2_with fail
    refine HCALL7.out.mono ?_
    rintro e x7 ⟨rfl, t7, s7, hi7, g7⟩
    have G := Lib.hid g7
    clear g7
    go_wp2
    go_ret
    rw [E.out]
    exact ⟨rfl, _, _, _, G.out.more (M := N + 20) (by omega)⟩
end
end Bk
end Go.Proofs.YtkiipaaaakhhfaaGreatDoor
end
section
namespace Go.Proofs.YtkiipaaaakhhfaaGreatDoor
open Go Go.RowKit
namespace Bk
set_option maxRecDepth 100000
set_option linter.unusedVariables false
set_option linter.unusedSimpArgs false
section
variable {w0 w w' : World} {P a b hi num sgn N : Nat} {mask : Int} {tag tag' : Tag} {S : PS} {p pb q q' : Pt} {L : Ln} {X : Scan Rf.Rb} {v : Value}
theorem bare_leaf (hb : bare L = true) : ∃ l, L.leaf = some l := by
 unfold bare at hb
 cases hl : L.leaf with
 | none => rw [hl] at hb; simp at hb
 | some l => exact ⟨l, rfl⟩
set_option maxHeartbeats 8000000 in
theorem blankLine_any (HL : Low w0 X) (h : PL X w0 w P mask num sgn N L tag S hi) (hbl : blank L.r.s = true) (hN : N + 2 ≤ 1000000) :
  Calls Tryz.prog 41 #[ptr P] w fun e w' => e = .returned (.tuple #[]) ∧ PLx X w0 w' P mask num sgn (N + 2) (text num L) := by
 have HCO := Lib.hid ((code_any h.pm h.abs).below)
 have hr := h.abs.r
 have HPL := Lib.hid h
 have htx : text num L = if bare L = true then L.add num (L.r.skip 4).s else L.shut := if_pos hbl
 rw [htx]
 by_cases hb : bare L = true
 ·rw [if_pos hb] at HCO
  rw [if_pos hb, hr]
  obtain ⟨l, hl⟩ := bare_leaf hb
  obtain ⟨p, g1, g2, g3⟩ := h.abs.leaf hl
  have HG2 := Lib.hid g2
  have HLF := Lib.hid hl
  have HWO : Hid (∀ W, Below w.heap.size w W → Calls Tryz.prog 76 #[ptr P, .int .i64 4] W fun e w' => e = .returned (str (S.r.skip 4).s) ∧ Below w.heap.size w w') := Lib.hid (without_at HL h.pm 4 (by omega))
  have HTA := Lib.hid (take_at HL h.pm g2 (S.r.skip 4).s (skip_len h.pm _) (by have := h.eN; omega))
  have HC6 := Lib.hid (fun W (hW : Below w.heap.size w W) => (keep_cell hW h.pm.cellsV.c6 : W.cell? ⟨P, 6, none⟩ = some (.int .i64 (S.num : Nat))))
  unfold ptr str at *
  clear h HL hr g1 g2 g3 hb hl htx hbl
  go_enter Tryz.func41, Tryz.ntmps41
  go_wp2_with fail
  refine HCO.out.mono ?_
  rintro e w2 ⟨rfl, hb2⟩
  have c6 := HC6.out _ hb2
  have HW := Lib.hid hb2
  go_upto_region 2 with fail
  go_region_law (first
   | (go_simp; go_at_call 76; with_reducible refine (HWO.out _ (by first | exact hb2 | exact HW.out.drew | exact hb2.drew | assumption)).mono ?_; rintro e w8 ⟨rfl, hb8⟩; have c6' := HC6.out _ hb8)
   | (go_simp; go_at_call 72; with_reducible refine (HTA.out _ (by assumption)).mono ?_; rintro e w9 ⟨rfl, tag9, h9⟩))
  all_goals
   have HE := Lib.hid h9
   go_wp2
   refine bodyPost_ret (results_none rfl _ _ _) rfl ?_
   obtain ⟨t, s', hh, k⟩ := HPL.out.took HLF.out HG2.out HE.out
   exact ⟨rfl, t, s', hh, k.more (by omega)⟩
 ·rw [if_neg hb] at HCO
  rw [if_neg hb]
  have hmp : 0 < S.met := by rw [h.abs.met]; exact List.length_pos_iff.2 h.abs.ne
  have HMP := Lib.hid hmp
  unfold ptr at *
  clear h HL hr hb htx hbl hmp
  go_enter Tryz.func41, Tryz.ntmps41
  go_wp2_with fail
  refine HCO.out.mono ?_
  rintro e w2 ⟨rfl, hb2⟩
  have HP2 := Lib.hid (HPL.out.below hb2)
  have HSH := Lib.hid (shut_any HP2.out.pm HMP.out)
  unfold ptr at HSH
  clear hb2
  go_wp2_with fail
  refine HSH.out.mono ?_
  rintro e w3 ⟨rfl, ⟨v3, h3⟩, -⟩
  have H3 := Lib.hid h3
  clear h3
  go_wp2
  go_end0
  obtain ⟨t, s', hh, k⟩ := HP2.out.shut H3.out
  exact ⟨rfl, t, s', hh, k.more (by omega)⟩
theorem open_para {L : Ln} {i : Nat} {s : Str} : (L.open i { nilL with k := 7 }).add i s = L.open i { nilL with k := 7, ls := [s] } := by
 rw [add_leaf (l := { nilL with k := 7, a := i, z := i }) rfl]
 unfold Lf.take
 split <;> rfl
set_option maxHeartbeats 8000000 in
theorem textLine_any (HL : Low w0 X) (h : PL X w0 w P mask num sgn N L tag S hi) (hbl : blank L.r.s = false) (hN : N + 4 ≤ 1000000) :
  Calls Tryz.prog 40 #[ptr P] w fun e w' => e = .returned (.tuple #[]) ∧ PLx X w0 w' P mask num sgn (N + 4) (text num L) := by
 have HPA := Lib.hid ((para_any h.pm h.abs).below)
 have hr := h.abs.r
 have HPL := Lib.hid h
 have HLL := Lib.hid HL
 have hal := aft_len h.pm
 have hlf : Cl.lft L.r.s = Cl.lft S.r.aft := by rw [hr]; exact lft_ind S.r.s S.r.col
 have hll : (Cl.lft S.r.aft).length ≤ 4000 := by have := Cl.lft_len S.r.aft; omega
 have htx : text num L = if L.goes = true then L.add num (Cl.lft S.r.aft) else L.open num { nilL with k := 7, ls := [Cl.lft S.r.aft] } := by
  unfold text
  rw [if_neg (by rw [hbl]; exact Bool.false_ne_true), hlf, open_para]
 rw [htx]
 have HTR := HL.trimL S.r.aft (by omega)
 by_cases hg : L.goes = true
 ·rw [if_pos hg] at HPA ⊢
  obtain ⟨l, hl, hl7⟩ := goes_leaf hg
  obtain ⟨p, g1, g2, g3⟩ := h.abs.leaf hl
  have HG2 := Lib.hid g2
  have HLF := Lib.hid hl
  have HBH := Lib.hid (fun W (hW : Below w.heap.size w W) => (behind_any (h.pm.below hW)).at hW)
  have HTL := Lib.hid (fun W (hW : Below w.heap.size w W) => HTR.at h.pm.low hW)
  have HTA := Lib.hid (take_at HL h.pm g2 (Cl.lft S.r.aft) hll (by have := h.eN; omega))
  have HC6 := Lib.hid (fun W (hW : Below w.heap.size w W) => (keep_cell hW h.pm.cellsV.c6 : W.cell? ⟨P, 6, none⟩ = some (.int .i64 (S.num : Nat))))
  unfold ptr str at *
  clear h HL hr g1 g2 g3 hg hl hl7 htx hbl hlf hll HTR hal
  go_enter Tryz.func40, Tryz.ntmps40
  go_wp2_with fail
  refine HPA.out.mono ?_
  rintro e w2 ⟨rfl, hb2⟩
  have c6 := HC6.out _ hb2
  have HW := Lib.hid hb2
  go_upto_region 4 with fail
  go_region_law (first
   | (go_simp; go_at_call 74; with_reducible refine (HBH.out _ (by first | exact hb2 | exact HW.out.drew | exact hb2.drew | assumption)).mono ?_; rintro e w7 ⟨rfl, hb7⟩; have c6'' := HC6.out _ hb7)
   | (go_simp; go_at_call 73; with_reducible refine (HTL.out _ (by assumption)).mono ?_; rintro e w8 ⟨rfl, hb8⟩; have c6' := HC6.out _ hb8)
   | (go_simp; go_at_call 72; with_reducible refine (HTA.out _ (by assumption)).mono ?_; rintro e w9 ⟨rfl, tag9, h9⟩))
  all_goals
   have HE := Lib.hid h9
   go_wp2
   go_end0
   obtain ⟨t, s', hh, k⟩ := HPL.out.took HLF.out HG2.out HE.out
   exact ⟨rfl, t, s', hh, k.more (by omega)⟩
 ·rw [if_neg hg] at HPA ⊢
  have HBG : Hid (∀ W, Below w.heap.size w W → Calls Tryz.prog 71 #[ptr P, agg 7 [] [] 0 0] W fun e w' => ∃ a b pb tag' v, e = .returned (ptr a) ∧ W.heap.size ≤ a ∧ S.op[(L.place false).length - 1]? = some b ∧ S.H b = some pb ∧ PM w0 w' P tag' (S.beg (L.place false).length a b pb ((⟨7, [], [], 0, 0⟩ : Bo).pt num) v)) :=
   Lib.hid (fun W hW => begin_pl (h.below hW) ⟨7, [], [], 0, 0⟩ ⟨by decide, by decide, by decide, by decide⟩ (by omega))
  have HLL4 := Lib.hid hll
  have HTR2 := Lib.hid HTR
  obtain ⟨lf, hlfe⟩ : ∃ lf, Cl.lft S.r.aft = lf := ⟨_, rfl⟩
  have HLE := Lib.hid hlfe
  rw [hlfe]
  unfold ptr agg at *
  clear h HL hr hg htx hbl hlf hll HTR hal hlfe
  go_enter Tryz.func40, Tryz.ntmps40
  go_wp2_with fail
  refine HPA.out.mono ?_
  rintro e w2 ⟨rfl, hb2⟩
  have HP2 := Lib.hid (HPL.out.below hb2)
  have HB2 := Lib.hid (HBG.out _ hb2)
  clear hb2
  go_wp2_with fail
  refine HB2.out.mono ?_
  rintro e w3 ⟨a, b, pb, tag3, v3, rfl, ha, kb, kpb, hP3⟩
  have hba := HP2.out.apart ha kpb
  obtain ⟨pv, lv, hpc, -⟩ := (hP3.parts a ((⟨7, [], [], 0, 0⟩ : Bo).pt num) (Hp.begun_own hba)).1.cells
  have y7 := hpc.c7
  have fr := hpc.fr
  have f0 := (hP3.parts a ((⟨7, [], [], 0, 0⟩ : Bo).pt num) (Hp.begun_own hba)).2
  have H3 := hP3.setPt (q := { (⟨7, [], [], 0, 0⟩ : Bo).pt num with z := -1 }) (Hp.begun_own hba) 7 (.int .i64 (-1)) (fun _ _ => rfl) rfl rfl ⟨f0.kids, f0.ls, f0.a, by show (-1 : Int) ≤ -1; omega, by show (-1 : Int) ≤ 1000; omega, f0.k, f0.n, f0.m, f0.need, f0.cnt, f0.ind, f0.len⟩
  have e2 : ({ S.beg (L.place false).length a b pb ((⟨7, [], [], 0, 0⟩ : Bo).pt num) v3 with H := (S.H.begun b a pb ((⟨7, [], [], 0, 0⟩ : Bo).pt num)).set a { (⟨7, [], [], 0, 0⟩ : Bo).pt num with z := -1 } } : PS) = S.beg (L.place false).length a b pb { (⟨7, [], [], 0, 0⟩ : Bo).pt num with z := -1 } v3 := by
   rw [Hp.begun_set hba]
   rfl
  have H4 : PM w0 (w3.setCell ⟨a, 7, none⟩ (.int .i64 (-1))) P tag3 (S.beg (L.place false).length a b pb { (⟨7, [], [], 0, 0⟩ : Bo).pt num with z := -1 } v3) := by
   rw [← e2]
   exact H3
  have HN9 : Hid (S.N + 3 ≤ 1000000 ∧ S.N ≤ N) := Lib.hid (by have := HPL.out.eN; omega)
  have HA := Lib.hid ha
  have HKB := Lib.hid kb
  have HKP := Lib.hid kpb
  have HBA := Lib.hid hba
  clear hba hpc f0 H3 e2 ha kb kpb hP3
  go_upto_region 4 with fail
  obtain ⟨W4, hW4⟩ : ∃ W4, W4 = w3.setCell ⟨a, 7, none⟩ (.int .i64 (-1)) := ⟨_, rfl⟩
  rw [← hW4] at H4 ⊢
  clear hW4 y7 fr
  have hH4 : (S.beg (L.place false).length a b pb { (⟨7, [], [], 0, 0⟩ : Bo).pt num with z := -1 } v3).H a = some { (⟨7, [], [], 0, 0⟩ : Bo).pt num with z := -1 } := Hp.begun_own HBA.out
  have HTA := Lib.hid (take_at HLL.out H4 hH4 lf (by rw [← HLE.out]; exact HLL4.out) (by show S.N + 2 + 1 ≤ 1000000; have := HN9.out.1; omega))
  have HBH := Lib.hid (fun W (hW : Below W4.heap.size W4 W) => (behind_any (H4.below hW)).at hW)
  have HTL := Lib.hid (fun W (hW : Below W4.heap.size W4 W) => HTR2.out.at H4.low hW)
  have HC6 := Lib.hid (fun W (hW : Below W4.heap.size W4 W) => (keep_cell hW H4.cellsV.c6 : W.cell? ⟨P, 6, none⟩ = some (.int .i64 (S.num : Nat))))
  have HBH2 : Hid (∀ W, Below W4.heap.size W4 W → Calls Tryz.prog 74 #[.pointer (some ⟨P, 0, none⟩)] W fun e w' => e = .returned (str S.r.aft) ∧ Below W4.heap.size W4 w') := HBH
  have HTA2 : Hid (∀ W, Below W4.heap.size W4 W → Calls Tryz.prog 72 #[.pointer (some ⟨a, 0, none⟩), .int .i64 (S.num : Nat), str lf] W fun e w' => e = .returned (.tuple #[]) ∧ ∃ tag', PM w0 w' P tag' { S.beg (L.place false).length a b pb { (⟨7, [], [], 0, 0⟩ : Bo).pt num with z := -1 } v3 with H := (S.H.begun b a pb { (⟨7, [], [], 0, 0⟩ : Bo).pt num with z := -1 }).set a (Pt.take S.num lf { (⟨7, [], [], 0, 0⟩ : Bo).pt num with z := -1 }), N := S.N + 2 + 1 }) := HTA
  rw [HLE.out] at HTL
  have HW := Lib.hid (Below.refl W4.heap.size W4)
  have hb2 := Below.refl W4.heap.size W4
  have c6 := HC6.out _ hb2
  clear HTA HBH H4 hH4
  unfold str at *
  go_region_law (first
   | (go_simp; go_at_call 74; with_reducible refine (HBH2.out _ (by first | exact hb2 | exact HW.out.drew | exact hb2.drew | assumption)).mono ?_; rintro e w7 ⟨rfl, hb7⟩; have c6'' := HC6.out _ hb7)
   | (go_simp; go_at_call 73; with_reducible refine (HTL.out _ (by assumption)).mono ?_; rintro e w8 ⟨rfl, hb8⟩; have c6' := HC6.out _ hb8)
   | (go_simp; go_at_call 72; with_reducible refine (HTA2.out _ (by assumption)).mono ?_; rintro e w9 ⟨rfl, tag9, h9⟩))
  all_goals
   have HE := Lib.hid h9
   go_wp2
   go_end0
   have h10 := HE.out
   rw [Hp.begun_set HBA.out, HPL.out.enum] at h10
   have hx := HPL.out
   have hq : LfAt (Pt.take num lf { (⟨7, [], [], 0, 0⟩ : Bo).pt num with z := -1 }) { nilL with k := 7, ls := [lf], a := num, z := num } := by
    unfold Pt.take
    by_cases hb : blank lf = true
    ·rw [if_pos hb]
     refine ⟨rfl, rfl, rfl, rfl, rfl, rfl, ?_, rfl, rfl, rfl, (by intro e; cases e), .inr (.inr rfl), fun _ => by simp⟩
     show (-1 : Int) = zOf 7 [lf] num
     unfold zOf white
     rw [List.all_cons, List.all_nil, hb]
     rfl
    ·rw [if_neg hb]
     refine ⟨rfl, rfl, rfl, rfl, rfl, rfl, ?_, rfl, rfl, rfl, (by intro e; cases e), .inr (.inr rfl), fun _ => by simp⟩
     show (num : Int) = zOf 7 [lf] num
     unfold zOf white
     rw [List.all_cons, List.all_nil, Bool.eq_false_iff.2 hb]
     rfl
   exact ⟨rfl, _, _, _, ⟨h10, (HP2.out.abs.size HP2.out.pm).opened hx.inl (l := { nilL with k := 7, ls := [lf] }) (by have := HA.out; omega) HKB.out HKP.out hq rfl rfl rfl rfl, hx.emask, hx.enum, hx.esgn, by show S.N + 2 + 1 ≤ N + 4; have := HN9.out.2; omega, in_open hx.inl _ (.inr (.inr rfl)), hx.sg, fun l' e h6 => by injection e with e; subst e; cases h6⟩⟩
end
end Bk
end Go.Proofs.YtkiipaaaakhhfaaGreatDoor
end
