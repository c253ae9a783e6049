/- Plain mathematics of layer 12, the second part: mailboxes; the reference's ways. -/
import Derived.Test.YtapibalcekedfaaGreatDoorSpPure
import Derived.Lib.IndexMore
set_option linter.unusedVariables false
set_option linter.unusedSimpArgs false
set_option maxRecDepth 100000
namespace Go.Proofs.YtapibalcekedfaaGreatDoor
namespace Sp
open Sc

/-! ### a text within another -/
theorem contains_nil {t : List UInt8} (h : t ≠ []) : Lib.contains [] t = false := by
  cases t with
  | nil => exact absurd rfl h
  | cons _ _ => rfl
theorem contains_cons (b : UInt8) (l t : List UInt8) : Lib.contains (b :: l) t = (t.isPrefixOf (b :: l) || Lib.contains l t) := by
  unfold Lib.contains
  have hge := Lib.index_ge l t
  have hi : Lib.index (b :: l) t = if t.isPrefixOf (b :: l) then 0 else if Lib.index l t == -1 then -1 else Lib.index l t + 1 := by
    conv => lhs; unfold Lib.index
  rw [hi]
  cases hp : t.isPrefixOf (b :: l) with
  | true => rfl
  | false =>
    rw [if_neg (by simp), Bool.false_or]
    by_cases h : Lib.index l t = -1
    · rw [h]; rfl
    · have e : (Lib.index l t == -1) = false := by rw [beq_eq_false_iff_ne]; exact h
      rw [e, if_neg (by simp), decide_eq_decide]
      omega
theorem contains_short {l t : List UInt8} (h : l.length < t.length) : Lib.contains l t = false := by
  induction l with
  | nil => exact contains_nil (by rintro rfl; simp at h)
  | cons b l ih =>
    rw [contains_cons, ih (by simp at h; omega), Bool.or_false]
    cases hp : t.isPrefixOf (b :: l) with
    | false => rfl
    | true =>
      have := (List.isPrefixOf_iff_prefix.1 hp).length_le
      omega
theorem contains_one (l : List UInt8) (c : UInt8) : Lib.contains l [c] = l.contains c := by
  induction l with
  | nil => rfl
  | cons b t ih =>
    rw [contains_cons, ih, List.contains_cons]
    congr 1
    simp [List.isPrefixOf]

/-! ### cuts at one sign -/
theorem pre_one (c : UInt8) (b : UInt8) (t : List UInt8) : ([c] : List UInt8).isPrefixOf (b :: t) = (c == b) := by simp [List.isPrefixOf]
theorem cut_one (x : UInt8) (l : List UInt8) : (∃ a r, Lib.cut l [x] = (a, r, true) ∧ l = a ++ x :: r ∧ ∀ c ∈ a, c ≠ x) ∨ (Lib.cut l [x] = (l, [], false) ∧ ∀ c ∈ l, c ≠ x) := by
  have key : ∀ l : List UInt8, (∃ a r, l = a ++ x :: r ∧ (∀ c ∈ a, c ≠ x) ∧ Lib.index l [x] = (a.length : Int)) ∨ ((∀ c ∈ l, c ≠ x) ∧ Lib.index l [x] = -1) := by
    intro l
    induction l with
    | nil => exact .inr ⟨fun c h => (by cases h), rfl⟩
    | cons b t ih =>
      have hix : Lib.index (b :: t) [x] = if ([x] : List UInt8).isPrefixOf (b :: t) = true then 0 else if (Lib.index t [x] == -1) = true then -1 else Lib.index t [x] + 1 := rfl
      rw [pre_one] at hix
      by_cases hb : x = b
      · subst hb
        refine .inl ⟨[], t, rfl, fun c h => (by cases h), ?_⟩
        rw [hix, if_pos (by simp)]; rfl
      · rw [if_neg (by simpa using hb)] at hix
        rcases ih with ⟨a, r, h1, h2, h3⟩ | ⟨h1, h2⟩
        · refine .inl ⟨b :: a, r, by rw [h1]; rfl, fun c hc => ?_, ?_⟩
          · rcases List.mem_cons.1 hc with rfl | hc
            · exact Ne.symm hb
            · exact h2 c hc
          · rw [hix, h3]
            have : ((a.length : Int) == -1) = false := by simp
            rw [this]; simp
        · refine .inr ⟨fun c hc => ?_, ?_⟩
          · rcases List.mem_cons.1 hc with rfl | hc
            · exact Ne.symm hb
            · exact h1 c hc
          · rw [hix, h2]; rfl
  rcases key l with ⟨a, r, h1, h2, h3⟩ | ⟨h1, h2⟩
  · refine .inl ⟨a, r, ?_, h1, h2⟩
    unfold Lib.cut
    rw [h3, if_pos (by omega), Int.toNat_natCast]
    have e1 : l.take a.length = a := by rw [h1]; exact List.take_left' rfl
    have e2 : l.drop (a.length + ([x] : List UInt8).length) = r := by
      rw [h1, show a ++ x :: r = (a ++ [x]) ++ r by simp]
      exact List.drop_left' (by simp)
    rw [e1, e2]
  · refine .inr ⟨?_, h1⟩
    unfold Lib.cut
    rw [h2, if_neg (by omega)]

/-! ### mailboxes -/
theorem hostP_nil (cur : List UInt8) : hostP cur [] = partP cur := rfl
theorem hostP_dot (cur t : List UInt8) : hostP cur (46 :: t) = (partP cur && hostP [] t) := by
  show (if (46 : UInt8) = 46 then _ else _) = _
  rw [if_pos rfl]
theorem hostP_step {c : UInt8} (cur t : List UInt8) (h : c ≠ 46) : hostP cur (c :: t) = hostP (cur ++ [c]) t := by
  show (if c = 46 then _ else _) = _
  rw [if_neg h]
theorem hostP_free : ∀ (a cur l : List UInt8), (∀ c ∈ a, c ≠ 46) → hostP cur (a ++ l) = hostP (cur ++ a) l
  | [], cur, l, _ => by rw [List.nil_append, List.append_nil]
  | c :: a, cur, l, h => by
    rw [List.cons_append, hostP_step _ _ (h c (List.mem_cons_self ..)), hostP_free a _ l (fun d hd => h d (List.mem_cons_of_mem _ hd)), List.append_assoc]; rfl
theorem partP_bad {cur : List UInt8} (h : cur.all (made signD) = false) : partP cur = false := by
  unfold partP
  rw [h]
  simp
theorem hostP_bad : ∀ (l cur : List UInt8), cur.all (made signD) = false → hostP cur l = false
  | [], cur, h => partP_bad h
  | c :: t, cur, h => by
    by_cases hc : c = 46
    · subst hc; rw [hostP_dot, partP_bad h]; rfl
    · rw [hostP_step _ _ hc]
      exact hostP_bad t _ (by rw [List.all_append, h]; rfl)
theorem part_of {cur : List UInt8} (h : cur.all (made signD) = true) : partP cur = (!cur.isEmpty && decide (cur.length ≤ 63) && decide (cur.head? ≠ some 45) && decide (cur.getLast? ≠ some 45)) := by
  unfold partP
  rw [h, Bool.and_true]
theorem mailQ_hit (cur t : List UInt8) : mailQ cur (64 :: t) = (!cur.isEmpty && cur.all (made signN) && hostP [] t) := by
  show (if (64 : UInt8) = 64 then _ else _) = _
  rw [if_pos rfl]
theorem mailQ_step {c : UInt8} (cur t : List UInt8) (h : c ≠ 64) : mailQ cur (c :: t) = mailQ (cur ++ [c]) t := by
  show (if c = 64 then _ else _) = _
  rw [if_neg h]
theorem mailQ_free : ∀ (a cur l : List UInt8), (∀ c ∈ a, c ≠ 64) → mailQ cur (a ++ l) = mailQ (cur ++ a) l
  | [], cur, l, _ => by rw [List.nil_append, List.append_nil]
  | c :: a, cur, l, h => by
    rw [List.cons_append, mailQ_step _ _ (h c (List.mem_cons_self ..)), mailQ_free a _ l (fun d hd => h d (List.mem_cons_of_mem _ hd)), List.append_assoc]; rfl
theorem mailQ_bad : ∀ (l cur : List UInt8), cur.all (made signN) = false → mailQ cur l = false
  | [], cur, h => rfl
  | c :: t, cur, h => by
    by_cases hc : c = 64
    · subst hc; rw [mailQ_hit, h]; simp
    · rw [mailQ_step _ _ hc]
      exact mailQ_bad t _ (by rw [List.all_append, h]; rfl)

/-! ### what is in an address is in what is looked through -/
theorem madeN_inA (c : UInt8) (h : made signN c = true) : inA c = true := by
  have := all_u8 (p := fun c => !made signN c || inA c) (by decide +kernel) c
  rw [h] at this
  simpa using this
theorem madeD_inA (c : UInt8) (h : made signD c = true) : inA c = true := by
  have := all_u8 (p := fun c => !made signD c || inA c) (by decide +kernel) c
  rw [h] at this
  simpa using this
theorem all_imp {p q : UInt8 → Bool} (hpq : ∀ c, p c = true → q c = true) {l : List UInt8} (h : l.all p = true) : l.all q = true := by
  rw [List.all_eq_true] at h ⊢
  exact fun c hc => hpq c (h c hc)
theorem host_in : ∀ (l cur : List UInt8), hostP cur l = true → cur.all inA = true ∧ l.all inA = true
  | [], cur, h => by
    rw [hostP_nil] at h
    refine ⟨?_, rfl⟩
    cases hm : cur.all (made signD) with
    | true => exact all_imp madeD_inA hm
    | false => rw [partP_bad hm] at h; cases h
  | c :: t, cur, h => by
    by_cases hc : c = 46
    · subst hc
      rw [hostP_dot, Bool.and_eq_true] at h
      obtain ⟨_, h2⟩ := host_in t [] h.2
      refine ⟨?_, by rw [List.all_cons, h2]; rfl⟩
      cases hm : cur.all (made signD) with
      | true => exact all_imp madeD_inA hm
      | false => rw [partP_bad hm] at h; cases h.1
    · rw [hostP_step _ _ hc] at h
      obtain ⟨h1, h2⟩ := host_in t _ h
      rw [List.all_append, Bool.and_eq_true, List.all_cons, Bool.and_eq_true] at h1
      exact ⟨h1.1, by rw [List.all_cons, h2, h1.2.1]; rfl⟩
theorem mail_in : ∀ (l cur : List UInt8), mailQ cur l = true → cur.all inA = true ∧ l.all inA = true
  | [], cur, h => by cases h
  | c :: t, cur, h => by
    by_cases hc : c = 64
    · subst hc
      rw [mailQ_hit, Bool.and_eq_true, Bool.and_eq_true] at h
      exact ⟨all_imp madeN_inA h.1.2, by rw [List.all_cons, (host_in t [] h.2).2]; rfl⟩
    · rw [mailQ_step _ _ hc] at h
      obtain ⟨h1, h2⟩ := mail_in t _ h
      rw [List.all_append, Bool.and_eq_true, List.all_cons, Bool.and_eq_true] at h1
      exact ⟨h1.1, by rw [List.all_cons, h2, h1.2.1]; rfl⟩
/-- The reference's way: up to the first end. -/
theorem auto_ref {y t : List UInt8} (hy : ∀ c ∈ y, c ≠ 62) : autoP (60 :: (y ++ 62 :: t)) = if (schP y && y.all inA) = true then some (false, y) else if mailP y = true then some (true, y) else none := by
  rw [autoP_cons]
  cases ha : y.all inA with
  | true =>
    obtain ⟨e1, e2⟩ := cnt_app ha t inA62
    rw [e1, List.drop_left' rfl, List.take_left' rfl, if_pos (by rfl), Bool.and_true]
  | false =>
    have hm : ¬ mailP y = true := fun h => by rw [(mail_in y [] h).2] at ha; cases ha
    suffices hne : ¬ ((y ++ 62 :: t).drop (cnt inA (y ++ 62 :: t))).head? = some 62 by
      rw [Bool.and_false, if_neg hne, if_neg (by simp), if_neg hm]
    intro h
    obtain ⟨t2, h2⟩ := drop_head h
    have hall := take_all inA (y ++ 62 :: t)
    generalize (y ++ 62 :: t).take (cnt inA (y ++ 62 :: t)) = x at *
    have hx : ∀ c ∈ x, c ≠ 62 := fun c hc e => by
      have := List.all_eq_true.1 hall c hc
      rw [e, inA62] at this; cases this
    have d1 := drop_first 62 y t (fun h => hy 62 h rfl)
    have d2 := drop_first 62 x t2 (fun h => hx 62 h rfl)
    rw [h2, d2] at d1
    have hl := congrArg List.length d1
    have hl2 := congrArg List.length h2
    simp only [List.length_append, List.length_cons] at hl hl2
    have : y = x := (List.append_inj h2 (by omega)).1
    rw [this, hall] at ha; cases ha
theorem auto_none {r : List UInt8} (hr : ∀ c ∈ r, c ≠ 62) : autoP (60 :: r) = none := by
  rw [autoP_cons, if_neg]
  intro h
  obtain ⟨t, ht⟩ := drop_head h
  exact hr 62 (by rw [ht]; simp) rfl

/-! ### HTML, the reference's way -/
theorem idx_cons {e : List UInt8} (c : UInt8) (t : List UInt8) : idx e (c :: t) = if e.isPrefixOf (c :: t) = true then some 0 else (idx e t).map (· + 1) := rfl
theorem pre_no {c x : UInt8} (y t : List UInt8) (h : c ≠ x) : (x :: y).isPrefixOf (c :: t) = false := by
  rw [List.isPrefixOf_cons_cons]
  have : (x == c) = false := by rw [beq_eq_false_iff_ne]; exact Ne.symm h
  rw [this]; rfl
theorem upTo_next {l : List UInt8} {c : UInt8} {n : Nat} (hc : l[n]? = some c) {x : UInt8} (h : c ≠ x) (y : List UInt8) : upToP l n (x :: y) = upToP l (n + 1) (x :: y) := by
  obtain ⟨h1, h2⟩ := List.getElem?_eq_some_iff.1 hc
  have hd : l.drop n = c :: l.drop (n + 1) := by rw [← h2]; exact List.drop_eq_getElem_cons h1
  unfold upToP
  rw [hd, idx_cons, if_neg (by rw [pre_no y _ h]; simp)]
  cases idx (x :: y) (l.drop (n + 1)) with
  | none => rfl
  | some k => simp only [Option.map_some]; omega
end Sp
end Go.Proofs.YtapibalcekedfaaGreatDoor
