/- Plain mathematics of layer 12, the third part: what the laws say. -/
import Derived.Test.YtapibalcekedfaaGreatDoorSpPur2
set_option linter.unusedVariables false
set_option linter.unusedSimpArgs false
set_option maxRecDepth 100000
namespace Go.Proofs.YtapibalcekedfaaGreatDoor
namespace Sp
open Sc

/-! ### HTML -/
theorem pre_form {l p : List UInt8} (h : Lib.hasPrefix l p = true) : ∃ t, l = p ++ t := by
  obtain ⟨t, ht⟩ := List.isPrefixOf_iff_prefix.1 h
  exact ⟨t, ht.symm⟩
theorem pre_self (p t : List UInt8) : Lib.hasPrefix (p ++ t) p = true := by
  unfold Lib.hasPrefix
  rw [List.isPrefixOf_iff_prefix]; exact ⟨t, rfl⟩
theorem tag_not {c : UInt8} (t : List UInt8) (h1 : c ≠ 47) (h2 : letU c = false) : tagN (60 :: c :: t) = 0 := by
  apply tagN_none
  unfold tagD
  rw [sgn_self]
  simp only
  rw [sgn_no t h1]
  simp [name, word, h2]
theorem tag_no60 {l : List UInt8} (h : l.head? ≠ some 60) : tagN l = 0 := by
  apply tagN_none
  unfold tagD
  cases l with
  | nil => rfl
  | cons c t => rw [sgn_no t (by simpa using h)]
theorem up_form (p t e : List UInt8) : upToP (p ++ t) p.length e = match idx e t with
    | some k => p.length + k + e.length
    | none => 0 := by
  unfold upToP
  rw [List.drop_left' rfl]
  cases idx e t <;> rfl
theorem raw_a (t : List UInt8) : rawP ([60, 33, 45, 45, 62] ++ t) = 5 := by
  unfold rawP
  rw [show ([60, 33, 45, 45, 62] : List UInt8) ++ t = 60 :: 33 :: (45 :: 45 :: 62 :: t) from rfl, tag_not _ (by decide) (by decide), if_neg (by omega), if_pos (by rfl)]
theorem raw_b (t : List UInt8) : rawP ([60, 33, 45, 45, 45, 62] ++ t) = 6 := by
  unfold rawP
  rw [show ([60, 33, 45, 45, 45, 62] : List UInt8) ++ t = 60 :: 33 :: (45 :: 45 :: 45 :: 62 :: t) from rfl, tag_not _ (by decide) (by decide), if_neg (by omega), if_neg (by simp [Lib.hasPrefix, List.isPrefixOf]), if_pos (by rfl)]
/-- What a comment's text may not begin with. -/
def Cm (t : List UInt8) : Prop := Lib.hasPrefix t [62] = false ∧ Lib.hasPrefix t [45, 62] = false
theorem raw_c (t : List UInt8) (h : Cm t) : rawP ([60, 33, 45, 45] ++ t) = match idx [45, 45, 62] t with
    | some k => 4 + k + 3
    | none => 0 := by
  have e := up_form [60, 33, 45, 45] t [45, 45, 62]
  simp only [List.length_cons, List.length_nil] at e
  unfold rawP
  rw [show ([60, 33, 45, 45] : List UInt8) ++ t = 60 :: 33 :: (45 :: 45 :: t) from rfl] at e ⊢
  rw [tag_not _ (by decide) (by decide), if_neg (by omega), if_neg (by
    have := h.1
    simp only [Lib.hasPrefix, List.isPrefixOf, beq_self_eq_true, Bool.true_and] at this ⊢
    rw [this]; simp), if_neg (by
    have := h.2
    simp only [Lib.hasPrefix, List.isPrefixOf, beq_self_eq_true, Bool.true_and] at this ⊢
    rw [this]; simp), if_pos (by rfl)]
  exact e
theorem raw_d (t : List UInt8) : rawP ([60, 63] ++ t) = match idx [63, 62] t with
    | some k => 2 + k + 2
    | none => 0 := by
  have e := up_form [60, 63] t [63, 62]
  simp only [List.length_cons, List.length_nil] at e
  unfold rawP
  rw [show ([60, 63] : List UInt8) ++ t = 60 :: 63 :: t from rfl] at e ⊢
  rw [tag_not _ (by decide) (by decide), if_neg (by omega), if_neg (by simp [Lib.hasPrefix, List.isPrefixOf]), if_neg (by simp [Lib.hasPrefix, List.isPrefixOf]), if_neg (by simp [Lib.hasPrefix, List.isPrefixOf]), if_pos (by rfl)]
  exact e
theorem let_45 {c : UInt8} (h : letU c = true) : c ≠ 45 ∧ c ≠ 62 ∧ c ≠ 91 := by
  refine ⟨?_, ?_, ?_⟩ <;> (rintro rfl; revert h; decide)
theorem raw_e (c : UInt8) (t : List UInt8) (h : letU c = true) : rawP ([60, 33, c] ++ t) = match idx [62] t with
    | some k => 3 + k + 1
    | none => 0 := by
  obtain ⟨h1, h2, h3⟩ := let_45 h
  have g1 : ((45 : UInt8) == c) = false := by rw [beq_eq_false_iff_ne]; exact Ne.symm h1
  have e : upToP (60 :: 33 :: c :: t) 2 [62] = match idx [62] t with
    | some k => 3 + k + 1
    | none => 0 := by
    rw [upTo_next (c := c) (by rfl) h2 []]
    have e := up_form [60, 33, c] t [62]
    simp only [List.length_cons, List.length_nil] at e
    exact e
  unfold rawP
  rw [show ([60, 33, c] : List UInt8) ++ t = 60 :: 33 :: (c :: t) from rfl]
  rw [tag_not _ (by decide) (by decide), if_neg (by omega), if_neg (by simp [Lib.hasPrefix, List.isPrefixOf, g1]), if_neg (by simp [Lib.hasPrefix, List.isPrefixOf, g1]), if_neg (by simp [Lib.hasPrefix, List.isPrefixOf, g1]), if_neg (by simp [Lib.hasPrefix, List.isPrefixOf]), if_pos ⟨by rfl, h⟩]
  exact e
theorem raw_f (t : List UInt8) : rawP (pC ++ t) = match idx [93, 93, 62] t with
    | some k => 9 + k + 3
    | none => 0 := by
  have e := up_form pC t [93, 93, 62]
  rw [show pC.length = 9 from rfl] at e
  simp only [List.length_cons, List.length_nil] at e
  unfold rawP
  rw [if_neg (by rw [show pC ++ t = 60 :: 33 :: (91 :: 67 :: 68 :: 65 :: 84 :: 65 :: 91 :: t) from rfl, tag_not _ (by decide) (by decide)]; omega), if_neg (by simp [pC, Lib.hasPrefix, List.isPrefixOf]), if_neg (by simp [pC, Lib.hasPrefix, List.isPrefixOf]), if_neg (by simp [pC, Lib.hasPrefix, List.isPrefixOf]), if_neg (by simp [pC, Lib.hasPrefix, List.isPrefixOf]), if_neg (by
    rintro ⟨_, h⟩
    revert h
    show ¬ (letU 91 = true)
    decide), if_pos (pre_self pC t)]
  exact e
/-- What the law says of HTML. -/
def RawLaw (l : List UInt8) (r : Nat) : Prop := r ≤ l.length ∧ (∀ m, rawP (l.take r ++ m) = r) ∧ rawP (l.take (r - 1)) = 0 ∧ l[0]? = some 60 ∧ l[r - 1]? = some 62
theorem form_law {p e : List UInt8} (he : e ≠ []) (hl : e.getLast? = some 62) (hp : p.head? = some 60) {C : List UInt8 → Prop} (hg : ∀ t, C t → rawP (p ++ t) = match idx e t with
    | some k => p.length + k + e.length
    | none => 0) (hC : ∀ t k, C t → idx e t = some k → (∀ m, C (t.take (k + e.length) ++ m)) ∧ C (t.take (k + e.length - 1))) {t : List UInt8} (hCt : C t) {r : Nat} (h : rawP (p ++ t) = r) (h0 : 0 < r) : RawLaw (p ++ t) r := by
  rw [hg t hCt] at h
  cases hi : idx e t with
  | none => rw [hi] at h; simp only at h; omega
  | some k =>
    rw [hi] at h
    simp only at h
    obtain ⟨g1, g2, g3⟩ := idx_law he hi
    have hle := idx_le hi
    obtain ⟨c1, c2⟩ := hC t k hCt hi
    have hel : 0 < e.length := List.length_pos_iff.2 he
    have hpl : 0 < p.length := by cases p with
      | nil => cases hp
      | cons _ _ => simp
    subst h
    have t1 : (p ++ t).take (p.length + k + e.length) = p ++ t.take (k + e.length) := by
      rw [show p.length + k + e.length = p.length + (k + e.length) by omega, List.take_length_add_append]
    have t2 : (p ++ t).take (p.length + k + e.length - 1) = p ++ t.take (k + e.length - 1) := by
      rw [show p.length + k + e.length - 1 = p.length + (k + e.length - 1) by omega, List.take_length_add_append]
    refine ⟨by rw [List.length_append]; omega, fun m => ?_, ?_, ?_, ?_⟩
    · rw [t1, List.append_assoc, hg _ (c1 m), g1 m]
    · rw [t2, hg _ c2, g2]
    · rw [List.getElem?_append_left hpl, ← List.head?_eq_getElem?]; exact hp
    · rw [List.getElem?_append_right (by omega), show p.length + k + e.length - 1 - p.length = k + e.length - 1 by omega, g3]; exact hl
theorem cm_keep (t : List UInt8) (k : Nat) (h : Cm t) (hi : idx [45, 45, 62] t = some k) : (∀ m, Cm (t.take (k + ([45, 45, 62] : List UInt8).length) ++ m)) ∧ Cm (t.take (k + ([45, 45, 62] : List UInt8).length - 1)) := by
  have hle := idx_le hi
  simp only [List.length_cons, List.length_nil] at hle ⊢
  have key : ∀ (e : List UInt8), e.length ≤ 2 → (∀ m, Lib.hasPrefix (t.take (k + (0 + 1 + 1 + 1)) ++ m) e = Lib.hasPrefix t e) ∧ Lib.hasPrefix (t.take (k + (0 + 1 + 1 + 1) - 1)) e = Lib.hasPrefix t e := by
    intro e hel
    unfold Lib.hasPrefix
    exact ⟨fun m => by rw [pre_app m (by rw [List.length_take]; omega), pre_take (by omega)], pre_take (by omega)⟩
  exact ⟨fun m => ⟨((key [62] (by simp)).1 m).trans h.1, ((key [45, 62] (by simp)).1 m).trans h.2⟩, (key [62] (by simp)).2.trans h.1, (key [45, 62] (by simp)).2.trans h.2⟩
theorem cm_true (e : List UInt8) : ∀ (t : List UInt8) (k : Nat), True → idx e t = some k → (∀ m : List UInt8, True) ∧ True := fun _ _ _ _ => ⟨fun _ => trivial, trivial⟩
theorem raw_law {l : List UInt8} {r : Nat} (h : rawP l = r) (h0 : 0 < r) : RawLaw l r := by
  by_cases ht : 0 < tagN l
  · have e : rawP l = tagN l := by unfold rawP; rw [if_pos ht]
    rw [e] at h
    subst h
    obtain ⟨v, g1, g2, g3, g4, g5, g6, g7⟩ := tag_law (l := l) (by omega)
    refine ⟨tagN_le l, fun m => ?_, ?_, g6, g7⟩
    · unfold rawP
      rw [g4 m, if_pos ht]
    · rw [g2] at g5 ⊢
      have hz : l.take (v.length + 2 - 1) = 60 :: v := by
        have e3 := congrArg (List.take (v.length + 1)) g3
        rw [g2, List.take_take, Nat.min_eq_left (by omega)] at e3
        rw [show v.length + 2 - 1 = v.length + 1 by omega, e3, List.cons_append, List.take_succ_cons, List.take_left' rfl]
      rw [hz] at g5 ⊢
      -- what a tag is cut to begins no other HTML: its second sign is a letter, or a slash
      obtain ⟨c, u, hcu⟩ : ∃ c u, v = c :: u := by cases v with
        | nil => simp at g1
        | cons c u => exact ⟨c, u, rfl⟩
      subst hcu
      have hl : l = 60 :: c :: (u ++ [62] ++ l.drop (tagN l)) := by
        conv => lhs; rw [← List.take_append_drop (tagN l) l, g3]
        simp
      have hc : c ≠ 33 ∧ c ≠ 63 := by
        constructor <;> (rintro rfl; rw [hl, tag_not _ (by decide) (by decide)] at ht; omega)
      have n1 : ((33 : UInt8) == c) = false := by rw [beq_eq_false_iff_ne]; exact Ne.symm hc.1
      have n2 : ((63 : UInt8) == c) = false := by rw [beq_eq_false_iff_ne]; exact Ne.symm hc.2
      unfold rawP
      rw [g5, if_neg (by omega), if_neg (by simp [Lib.hasPrefix, List.isPrefixOf, n1]), if_neg (by simp [Lib.hasPrefix, List.isPrefixOf, n1]), if_neg (by simp [Lib.hasPrefix, List.isPrefixOf, n1]), if_neg (by simp [Lib.hasPrefix, List.isPrefixOf, n2]), if_neg (by simp [Lib.hasPrefix, List.isPrefixOf, n1]), if_neg (by simp [pC, Lib.hasPrefix, List.isPrefixOf, n1])]
  · by_cases p1 : Lib.hasPrefix l [60, 33, 45, 45, 62] = true
    · obtain ⟨t, rfl⟩ := pre_form p1
      rw [raw_a] at h
      subst h
      exact ⟨by simp, fun m => raw_a m, by show rawP [60, 33, 45, 45] = 0; decide +kernel, rfl, rfl⟩
    by_cases p2 : Lib.hasPrefix l [60, 33, 45, 45, 45, 62] = true
    · obtain ⟨t, rfl⟩ := pre_form p2
      rw [raw_b] at h
      subst h
      exact ⟨by simp, fun m => raw_b m, by show rawP [60, 33, 45, 45, 45] = 0; decide +kernel, rfl, rfl⟩
    by_cases p3 : Lib.hasPrefix l [60, 33, 45, 45] = true
    · obtain ⟨t, rfl⟩ := pre_form p3
      have hcm : Cm t := by
        constructor
        · cases hx : Lib.hasPrefix t [62] with
          | false => rfl
          | true => obtain ⟨u, rfl⟩ := pre_form hx; exact absurd (pre_self [60, 33, 45, 45, 62] u) p1
        · cases hx : Lib.hasPrefix t [45, 62] with
          | false => rfl
          | true => obtain ⟨u, rfl⟩ := pre_form hx; exact absurd (pre_self [60, 33, 45, 45, 45, 62] u) p2
      exact form_law (p := [60, 33, 45, 45]) (e := [45, 45, 62]) (by simp) rfl rfl raw_c cm_keep hcm h h0
    by_cases p4 : Lib.hasPrefix l [60, 63] = true
    · obtain ⟨t, rfl⟩ := pre_form p4
      exact form_law (p := [60, 63]) (e := [63, 62]) (C := fun _ => True) (by simp) rfl rfl (fun t _ => raw_d t) (cm_true _) trivial h h0
    by_cases p5 : Lib.hasPrefix l [60, 33] = true ∧ isLet l[2]? = true
    · obtain ⟨t, rfl⟩ := pre_form p5.1
      obtain ⟨c, u, rfl⟩ : ∃ c u, t = c :: u := by cases t with
        | nil => exact absurd p5.2 (by simp [isLet])
        | cons c u => exact ⟨c, u, rfl⟩
      have hc : letU c = true := p5.2
      exact form_law (p := [60, 33, c]) (e := [62]) (C := fun _ => True) (by simp) rfl rfl (fun t _ => raw_e c t hc) (cm_true _) trivial h h0
    by_cases p6 : Lib.hasPrefix l pC = true
    · obtain ⟨t, rfl⟩ := pre_form p6
      exact form_law (p := pC) (e := [93, 93, 62]) (C := fun _ => True) (by simp) rfl rfl (fun t _ => raw_f t) (cm_true _) trivial h h0
    exfalso
    unfold rawP at h
    rw [if_neg ht, if_neg p1, if_neg p2, if_neg p3, if_neg p4, if_neg p5, if_neg p6] at h
    omega
theorem raw_le (l : List UInt8) : rawP l ≤ l.length := by
  rcases Nat.eq_zero_or_pos (rawP l) with h | h
  · omega
  · exact (raw_law rfl h).1
theorem raw_no60 {l : List UInt8} (h : l.head? ≠ some 60) : rawP l = 0 := by
  rcases Nat.eq_zero_or_pos (rawP l) with h2 | h2
  · exact h2
  · have := (raw_law rfl h2).2.2.2.1
    rw [← List.head?_eq_getElem?] at this
    exact absurd this h
theorem auto_le {l : List UInt8} {m : Bool} {x : List UInt8} (h : autoP l = some (m, x)) : x.length + 2 ≤ l.length := by
  obtain ⟨⟨t, rfl⟩, _, _⟩ := auto_law h
  simp

/-! ### codes -/
theorem code_short {l b : List UInt8} {n : Nat} (h : codeP l = some (b, n)) : n ≤ l.length ∧ 2 * runP l + 1 ≤ n ∧ 1 ≤ runP l ∧ (∀ i, i < runP l → l[n - 1 - i]? = some 96) ∧ (∃ c, l[n - 1 - runP l]? = some c ∧ c ≠ 96) ∧ (n = l.length ∨ ∃ c, l[n]? = some c ∧ c ≠ 96) := by
  unfold codeP at h
  split at h
  · rename_i hh
    obtain ⟨k, hk, he⟩ := Option.map_eq_some_iff.1 h
    have hne : l ≠ [] := by rintro rfl; cases hh
    have hr1 := runP_pos hne
    have hrl := runP_le l
    obtain ⟨c0, t0, hct⟩ : ∃ c t, l = c :: t := by cases l with
      | nil => exact absurd rfl hne
      | cons c t => exact ⟨c, t, rfl⟩
    have hc0 : c0 = 96 := by rw [hct] at hh; exact Option.some.inj hh
    have hrun : runP l = Sc.runN 96 l := by rw [hct, hc0]; rfl
    have hsp := (runN_split 96 l).2
    rw [← hrun] at hsp
    obtain ⟨g1, g2, g3⟩ := seek_is (by omega) _ _ k (Nat.le_refl _) hk
    have hs2 := runN_split 96 ((l.drop (runP l)).drop k)
    rw [g1] at hs2
    generalize runP l = r at *
    rw [List.length_drop] at g2
    have hk0 : k ≠ 0 := by
      rintro rfl
      rw [List.drop_zero] at g1
      cases hd : l.drop r with
      | nil => rw [hd, runN_nil] at g1; omega
      | cons x y =>
        rw [hd] at hsp g1
        rw [runN_miss y (by simpa using hsp)] at g1
        omega
    have hn : n = r + k + r := (Prod.mk.inj he).2.symm
    subst hn
    rw [List.drop_drop, List.drop_drop] at hs2
    have at_ : ∀ j, j < r → l[r + k + j]? = some 96 := by
      intro j hj
      have : (l.drop (r + k))[j]? = some 96 := by
        rw [hs2.1, List.getElem?_append_left (by rw [List.length_replicate]; exact hj), List.getElem?_replicate, if_pos hj]
      rwa [List.getElem?_drop] at this
    refine ⟨by omega, by omega, hr1, fun i hi => ?_, ?_, ?_⟩
    · rw [show r + k + r - 1 - i = r + k + (r - 1 - i) by omega]
      exact at_ _ (by omega)
    · obtain ⟨c, h5, h6⟩ := g3 (k - 1) (by omega)
      rw [List.getElem?_drop] at h5
      exact ⟨c, by rw [← h5]; congr 1; omega, h6⟩
    · rcases Nat.lt_or_ge (r + k + r) l.length with hlt | hge
      · right
        refine ⟨l[r + k + r], List.getElem?_eq_getElem hlt, fun e => hs2.2 ?_⟩
        rw [List.head?_drop, List.getElem?_eq_getElem hlt, e]
      · left; omega
  · cases h
theorem rep_run {q : Nat} {s : List UInt8} (h : s.head? ≠ some 96) : runP (List.replicate (q + 1) 96 ++ s) = q + 1 := by
  have := runN_rep 96 (q + 1) s h
  rw [rep96_head] at this ⊢
  exact this
theorem code_rep {q : Nat} {s : List UInt8} (h : s.head? ≠ some 96) : codeP (List.replicate (q + 1) 96 ++ s) = (seek (q + 1) 0 s).map fun k => (content (s.take k), q + 1 + k + (q + 1)) := by
  have e := rep_run (q := q) h
  have e2 : (List.replicate (q + 1) (96 : UInt8) ++ s).drop (q + 1) = s := List.drop_left' (List.length_replicate ..)
  unfold codeP
  rw [e, e2, if_pos (by rw [rep96_head]; rfl)]
theorem head_free {s : List UInt8} (hs : s ≠ []) (h : ∀ c ∈ s, c ≠ 96) (r : List UInt8) : (s ++ r).head? ≠ some 96 := by
  cases s with
  | nil => exact absurd rfl hs
  | cons c t =>
    rw [List.cons_append, List.head?_cons]
    intro e
    exact h c (List.mem_cons_self ..) (Option.some.inj e)
theorem code1 {q : Nat} {s more : List UInt8} (hs : s ≠ []) (h : ∀ c ∈ s, c ≠ 96) : codeP (List.replicate (q + 1) 96 ++ (s ++ (List.replicate (q + 1) 96 ++ 120 :: more))) = some (content s, s.length + 2 * (q + 1)) := by
  rw [code_rep (head_free hs h _), seek_free _ _ h, seek_ticks _ (by simp)]
  simp only [Option.map_some, Nat.zero_add, Option.some.injEq, Prod.mk.injEq]
  rw [List.take_left' rfl]
  exact ⟨rfl, by omega⟩
theorem rep_more (q : Nat) (r : List UInt8) : List.replicate (q + 1) (96 : UInt8) ++ 96 :: r = List.replicate (q + 1 + 1) 96 ++ r := by
  rw [show List.replicate (q + 1 + 1) (96 : UInt8) = List.replicate (q + 1) 96 ++ [96] from List.replicate_succ' .., List.append_assoc]; rfl
theorem code2 {q : Nat} {s : List UInt8} (hs : s ≠ []) (h : ∀ c ∈ s, c ≠ 96) : codeP (List.replicate (q + 1) 96 ++ (s ++ (List.replicate (q + 1) 96 ++ [96]))) = none := by
  rw [code_rep (head_free hs h _), seek_free _ _ h, rep_more, seek_more _ (by simp) (by omega), seek_nil]
  rfl
theorem code3 {q : Nat} {s : List UInt8} (hs : s ≠ []) (h : ∀ c ∈ s, c ≠ 96) : ∃ b, codeP (List.replicate (q + 1) 96 ++ (s ++ (List.replicate (q + 1) 96 ++ 96 :: (s ++ List.replicate (q + 1) 96)))) = some (b, 2 * s.length + 3 * (q + 1) + 1) ∧ s.length < b.length := by
  have e := seek_ticks (n := q) [] (by simp)
  rw [List.append_nil] at e
  rw [code_rep (head_free hs h _), seek_free _ _ h, rep_more, seek_more _ (head_free hs h _) (by omega), seek_free _ _ h, e]
  simp only [Option.map_some, Nat.zero_add, Option.some.injEq, Prod.mk.injEq]
  refine ⟨_, ⟨rfl, by omega⟩, ?_⟩
  have hl := (content_len ((s ++ (List.replicate (q + 1 + 1) 96 ++ (s ++ List.replicate (q + 1) 96))).take (s.length + (q + 1 + 1) + s.length))).2
  rw [List.length_take] at hl
  simp only [List.length_append, List.length_replicate] at hl
  have : 0 < s.length := List.length_pos_iff.2 hs
  omega
end Sp
end Go.Proofs.YtapibalcekedfaaGreatDoor
