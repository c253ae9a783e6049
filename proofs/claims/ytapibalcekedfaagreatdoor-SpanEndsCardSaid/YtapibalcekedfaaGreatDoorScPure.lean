/- Plain mathematics of layer 8 (what lines begin with): no program in it. -/
import GoSem.Core.Utf8
import Derived.Lib.Bytealg
set_option linter.unusedVariables false
set_option linter.unusedSimpArgs false
set_option maxRecDepth 100000
namespace Go.Proofs.YtapibalcekedfaaGreatDoor
namespace Sc

theorem all_u8 {p : UInt8 → Bool} (h : (List.range 256).all (fun n => p (UInt8.ofNat n)) = true) (c : UInt8) : p c = true := by
  have := List.all_eq_true.1 h c.toNat (List.mem_range.2 c.toNat_lt)
  rwa [UInt8.ofNat_toNat] at this

/-! ### signs -/
def lett (b : Int) : Bool := (decide (97 ≤ b) && decide (b ≤ 122)) || (decide (65 ≤ b) && decide (b ≤ 90))
def digi (b : Int) : Bool := decide (48 ≤ b) && decide (b ≤ 57)
def letU (c : UInt8) : Bool := lett (c.toNat : Int)
def digU (c : UInt8) : Bool := digi (c.toNat : Int)
def blk (c : UInt8) : Bool := c == 32 || c == 9
def wht (c : UInt8) : Bool := c == 32 || c == 9 || c == 10
def inN (c : UInt8) : Bool := letU c || digU c || c == 45
def keyB (c : UInt8) : Bool := letU c || c == 95 || c == 58
def keyG (c : UInt8) : Bool := keyB c || digU c || c == 46 || c == 45
def bareB (c : UInt8) : Bool := !wht c && !([34, 39, 61, 60, 62, 96] : List UInt8).contains c
def atE : List UInt8 → Bool
  | [] => true
  | c :: _ => blk c

/-! ### lists -/
theorem dropWhile_stop (p : UInt8 → Bool) (v : List UInt8) (y : UInt8) (m : List UInt8) (h : p y = false) : (v ++ y :: m).dropWhile p = v.dropWhile p ++ y :: m := by
  induction v with
  | nil => simp [List.dropWhile, h]
  | cons c t ih =>
    simp only [List.cons_append, List.dropWhile]
    cases p c with
    | true => exact ih
    | false => rfl
theorem takeWhile_stop (p : UInt8 → Bool) (v : List UInt8) (y : UInt8) (m : List UInt8) (h : p y = false) : (v ++ y :: m).takeWhile p = v.takeWhile p := by
  induction v with
  | nil => simp [List.takeWhile, h]
  | cons c t ih =>
    simp only [List.cons_append, List.takeWhile]
    cases p c with
    | true => rw [ih]
    | false => rfl
theorem dropWhile_len (p : UInt8 → Bool) (l : List UInt8) : (l.dropWhile p).length ≤ l.length := by
  induction l with
  | nil => simp
  | cons c t ih =>
    simp only [List.dropWhile]
    cases p c with
    | true => simp; omega
    | false => simp
theorem dropWhile_suf (p : UInt8 → Bool) (l : List UInt8) : ∃ u, l = u ++ l.dropWhile p := ⟨l.takeWhile p, (List.takeWhile_append_dropWhile).symm⟩
theorem dropWhile_head (p : UInt8 → Bool) (l : List UInt8) (c : UInt8) (t : List UInt8) (h : l.dropWhile p = c :: t) : p c = false := by
  induction l with
  | nil => simp at h
  | cons x s ih =>
    simp only [List.dropWhile] at h
    cases hx : p x with
    | true => rw [hx] at h; exact ih h
    | false => rw [hx] at h; simp only [List.cons.injEq] at h; rw [← h.1]; exact hx
theorem dropWhile_idem (p : UInt8 → Bool) (l : List UInt8) : (l.dropWhile p).dropWhile p = l.dropWhile p := by
  cases h : l.dropWhile p with
  | nil => rfl
  | cons c t => simp [List.dropWhile, dropWhile_head p l c t h]
theorem dropWhile_drop (p : UInt8 → Bool) (l : List UInt8) : l.dropWhile p = l.drop (l.length - (l.dropWhile p).length) := by
  obtain ⟨u, hu⟩ := dropWhile_suf p l
  generalize l.dropWhile p = r at *
  subst hu
  simp

theorem first_at (x : UInt8) : ∀ (t : List UInt8), x ∈ t → ∃ u s, t.dropWhile (fun y => y != x) = x :: s ∧ t = u ++ x :: s ∧ x ∉ u
  | [], h => by cases h
  | c :: t, h => by
    by_cases hc : c = x
    · subst hc
      exact ⟨[], t, by simp [List.dropWhile], rfl, by simp⟩
    · obtain ⟨u, s, h1, h2, h3⟩ := first_at x t (by rcases List.mem_cons.1 h with e | e; exact absurd e.symm hc; exact e)
      have hn : (c != x) = true := by simpa using hc
      refine ⟨c :: u, s, by simp only [List.dropWhile, hn]; exact h1, by rw [List.cons_append, ← h2], ?_⟩
      intro hm
      rcases List.mem_cons.1 hm with e | e
      · exact hc e.symm
      · exact h3 e
theorem drop_first (x : UInt8) (u s : List UInt8) (h : x ∉ u) : (u ++ x :: s).dropWhile (fun y => y != x) = x :: s := by
  induction u with
  | nil => simp [List.dropWhile]
  | cons c t ih =>
    simp only [List.mem_cons, not_or] at h
    have hn : (c != x) = true := by simpa using (fun e => h.1 e.symm)
    simp only [List.cons_append, List.dropWhile, hn]
    exact ih h.2

/-! ### tags -/
/-- One of the first kind, and all of the second behind it. -/
def word (b g : UInt8 → Bool) : List UInt8 → Option (List UInt8)
  | c :: t => if b c then some (t.dropWhile g) else none
  | [] => none
def sgn (x : UInt8) : List UInt8 → Option (List UInt8)
  | c :: t => if c = x then some t else none
  | [] => none
/-- From a sign up to the next one. -/
def quo (x : UInt8) : List UInt8 → Option (List UInt8)
  | c :: t => if c = x then (if x ∈ t then some ((t.dropWhile (fun y => y != x)).drop 1) else none) else none
  | [] => none
def gap (l : List UInt8) : List UInt8 := l.dropWhile wht
def white : List UInt8 → Option (List UInt8) := word wht wht
def name : List UInt8 → Option (List UInt8) := word letU inN
def key : List UInt8 → Option (List UInt8) := word keyB keyG
def bare : List UInt8 → Option (List UInt8) := word bareB bareB
def value (l : List UInt8) : Option (List UInt8) := match bare l with
  | some r => some r
  | none => match quo 39 l with
    | some r => some r
    | none => quo 34 l
def worth (l : List UInt8) : Option (List UInt8) := (sgn 61 (gap l)).bind fun t => value (gap t)
def attr (l : List UInt8) : Option (List UInt8) := (white l).bind fun t => (key t).bind fun u => some ((worth u).getD u)
/-- Attributes, as often as they are there. -/
def attrs : Nat → List UInt8 → List UInt8
  | 0, l => l
  | n + 1, l => match attr l with
    | some r => attrs n r
    | none => l
def slashOr (l : List UInt8) : List UInt8 := (sgn 47 l).getD l
def tailP (l : List UInt8) : Option (List UInt8) := sgn 62 (slashOr (gap l))
def openP (l : List UInt8) : Option (List UInt8) := (sgn 60 l).bind fun a => (name a).bind fun b => tailP (attrs b.length b)
def closeP (l : List UInt8) : Option (List UInt8) := (sgn 60 l).bind fun a => (sgn 47 a).bind fun b => (name b).bind fun c => sgn 62 (gap c)
def tagO (l : List UInt8) : Option (List UInt8) := match openP l with
  | some r => some r
  | none => closeP l
def tagN (l : List UInt8) : Nat := match tagO l with
  | some r => l.length - r.length
  | none => 0

theorem word_len {b g : UInt8 → Bool} {l r : List UInt8} (h : word b g l = some r) : r.length < l.length := by
  cases l with
  | nil => cases h
  | cons c t =>
    simp only [word] at h
    split at h
    · cases h
      have := dropWhile_len g t
      simp; omega
    · cases h
theorem word_suf {b g : UInt8 → Bool} {l r : List UInt8} (h : word b g l = some r) : ∃ u, l = u ++ r := by
  cases l with
  | nil => cases h
  | cons c t =>
    simp only [word] at h
    split at h
    · cases h
      obtain ⟨u, hu⟩ := dropWhile_suf g t
      exact ⟨c :: u, by rw [List.cons_append, ← hu]⟩
    · cases h
theorem sgn_some {x : UInt8} {l r : List UInt8} (h : sgn x l = some r) : l = x :: r := by
  cases l with
  | nil => cases h
  | cons c t =>
    simp only [sgn] at h
    split at h
    · cases h; subst_vars; rfl
    · cases h
theorem sgn_self (x : UInt8) (r : List UInt8) : sgn x (x :: r) = some r := by simp [sgn]
theorem sgn_no {x c : UInt8} (t : List UInt8) (h : c ≠ x) : sgn x (c :: t) = none := by simp [sgn, h]
theorem quo_suf {x : UInt8} {l r : List UInt8} (h : quo x l = some r) : ∃ u, l = u ++ r ∧ 2 ≤ u.length := by
  cases l with
  | nil => cases h
  | cons c t =>
    simp only [quo] at h
    split at h
    · split at h
      · cases h
        rename_i hc hx
        obtain ⟨u, s, h1, h2, _⟩ := first_at x t hx
        rw [h1]
        exact ⟨c :: (u ++ [x]), by rw [h2]; simp, by simp⟩
      · cases h
    · cases h
theorem value_suf {l r : List UInt8} (h : value l = some r) : ∃ u, l = u ++ r ∧ 1 ≤ u.length := by
  unfold value at h
  split at h
  · rename_i r' hb
    cases h
    obtain ⟨u, hu⟩ := word_suf hb
    have := word_len hb
    refine ⟨u, hu, ?_⟩
    rw [hu] at this; simp at this; cases u with
    | nil => simp at this
    | cons _ _ => simp
  · split at h
    · rename_i r' hb
      cases h
      obtain ⟨u, hu, h2⟩ := quo_suf hb
      exact ⟨u, hu, by omega⟩
    · obtain ⟨u, hu, h2⟩ := quo_suf h
      exact ⟨u, hu, by omega⟩

/-- What stands behind a tag's name, with the end: one sign decides. -/
def body : Nat → List UInt8 → Option (List UInt8)
  | 0, _ => none
  | n + 1, l => match gap l with
    | [] => none
    | c :: t =>
      if c = 62 then some t
      else if c = 47 then sgn 62 t
      else if keyB c = true ∧ (c :: t).length < l.length then
        (match gap (t.dropWhile keyG) with
        | 61 :: w => (value (gap w)).bind (body n)
        | _ => body n (t.dropWhile keyG))
      else none
def bodyF (l : List UInt8) : Option (List UInt8) := body (l.length + 1) l
def tagD (l : List UInt8) : Option (List UInt8) := match sgn 60 l with
  | none => none
  | some t => match sgn 47 t with
    | some u => (name u).bind fun v => sgn 62 (gap v)
    | none => (name t).bind bodyF

theorem gap_len (l : List UInt8) : (gap l).length ≤ l.length := dropWhile_len _ _
theorem value_len {l r : List UInt8} (h : value l = some r) : r.length < l.length := by
  obtain ⟨u, rfl, h2⟩ := value_suf h
  simp; omega

theorem body_fuel : ∀ (n m : Nat) (l : List UInt8), l.length < n → l.length < m → body n l = body m l := by
  intro n
  induction n with
  | zero => intro m l h; omega
  | succ n ih =>
    intro m l h1 h2
    cases m with
    | zero => omega
    | succ m =>
      simp only [body]
      cases hg : gap l with
      | nil => rfl
      | cons c t =>
        simp only
        have hgl := gap_len l
        rw [hg] at hgl
        simp only [List.length_cons] at hgl
        have hd := dropWhile_len keyG t
        split
        · rfl
        · split
          · rfl
          · split
            · split
              · rename_i w hw
                have hw2 := gap_len (t.dropWhile keyG)
                rw [hw] at hw2
                simp only [List.length_cons] at hw2
                cases hv : value (gap w) with
                | none => rfl
                | some r =>
                  have := value_len hv
                  have := gap_len w
                  exact ih m r (by omega) (by omega)
              · exact ih m _ (by omega) (by omega)
            · rfl

theorem name_len {l r : List UInt8} (h : name l = some r) : r.length < l.length := word_len h
theorem w62 : wht 62 = false := by decide
theorem k62 : keyG 62 = false := by decide
theorem b62 : bareB 62 = false := by decide
theorem n62 : inN 62 = false := by decide

theorem gap_stop (v m : List UInt8) : gap (v ++ 62 :: m) = gap v ++ 62 :: m := dropWhile_stop _ _ _ _ w62
theorem value_stop {q r z : List UInt8} (h : value (q ++ 62 :: r) = some z) (hz : r.length < z.length) : ∃ q2, z = q2 ++ 62 :: r ∧ q2.length < q.length ∧ ∀ m, value (q ++ 62 :: m) = some (q2 ++ 62 :: m) := by
  unfold value at h
  cases q with
  | nil =>
    simp [bare, word, b62, quo] at h
  | cons c t =>
    cases hb : bareB c with
    | true =>
      have hbw : ∀ m, bare (c :: t ++ 62 :: m) = some (t.dropWhile bareB ++ 62 :: m) := fun m => by
        simp only [List.cons_append, bare, word, hb, if_true]
        rw [dropWhile_stop _ _ _ _ b62]
      rw [hbw] at h
      simp only [Option.some.injEq] at h
      refine ⟨t.dropWhile bareB, h.symm, ?_, fun m => by unfold value; rw [hbw]⟩
      have := dropWhile_len bareB t
      simp; omega
    | false =>
      have hbw : ∀ m, bare (c :: t ++ 62 :: m) = none := fun m => by simp [bare, word, hb]
      have one : ∀ x, quo x (c :: t ++ 62 :: r) = some z → x ≠ 62 → c = x ∧ ∃ q2, z = q2 ++ 62 :: r ∧ q2.length < (c :: t).length ∧ ∀ m, quo x (c :: t ++ 62 :: m) = some (q2 ++ 62 :: m) := by
        intro x hx hx62
        simp only [List.cons_append, quo] at hx
        split at hx
        · rename_i hc
          split at hx
          · rename_i hm
            refine ⟨hc, ?_⟩
            by_cases hxt : x ∈ t
            · obtain ⟨u, s, h1, h2, h3⟩ := first_at x t hxt
              subst h2
              have e : ∀ m, quo x (c :: (u ++ x :: s) ++ 62 :: m) = some (s ++ 62 :: m) := fun m => by
                simp only [List.cons_append, quo, if_pos hc]
                rw [if_pos (by simp), List.append_assoc, List.cons_append, drop_first x u _ h3]
                rfl
              rw [List.append_assoc, List.cons_append, drop_first x u _ h3] at hx
              simp only [List.drop_one, List.tail_cons, Option.some.injEq] at hx
              exact ⟨s, hx.symm, by simp; omega, e⟩
            · exfalso
              have hm : x ∈ r := by
                rcases List.mem_append.1 hm with hm | hm
                · exact absurd hm hxt
                · rcases List.mem_cons.1 hm with e | hm
                  · exact absurd e hx62
                  · exact hm
              obtain ⟨u', s', h1', h2', h3'⟩ := first_at x r hm
              subst h2'
              rw [show t ++ 62 :: (u' ++ x :: s') = (t ++ 62 :: u') ++ x :: s' by simp, drop_first x _ _ (by
                simp only [List.mem_append, List.mem_cons, not_or]
                exact ⟨hxt, hx62, h3'⟩)] at hx
              simp only [List.drop_one, List.tail_cons, Option.some.injEq] at hx
              subst hx
              simp at hz
              omega
          · cases hx
        · cases hx
      rw [hbw] at h
      simp only at h
      cases h39 : quo 39 (c :: t ++ 62 :: r) with
      | some z' =>
        rw [h39] at h
        simp only [Option.some.injEq] at h
        subst h
        obtain ⟨_, q2, e1, e2, e3⟩ := one 39 h39 (by decide)
        exact ⟨q2, e1, e2, fun m => by unfold value; rw [hbw, e3]⟩
      | none =>
        rw [h39] at h
        simp only at h
        obtain ⟨hc, q2, e1, e2, e3⟩ := one 34 h (by decide)
        subst hc
        exact ⟨q2, e1, e2, fun m => by
          unfold value
          rw [hbw, e3, show quo 39 (34 :: t ++ 62 :: m) = none by simp [quo]]⟩

theorem body_suf : ∀ (n : Nat) (l r : List UInt8), body n l = some r → ∃ v, l = v ++ 62 :: r
  | 0, l, r, h => by cases h
  | n + 1, l, r, h => by
    simp only [body] at h
    obtain ⟨u, hu⟩ := dropWhile_suf wht l
    change l = u ++ gap l at hu
    cases hg : gap l with
    | nil => rw [hg] at h; cases h
    | cons c t =>
      rw [hg] at h hu
      simp only at h
      split at h
      · rename_i hc
        cases h
        subst hc
        exact ⟨u, hu⟩
      · split at h
        · rename_i hc
          have := sgn_some h
          subst this
          exact ⟨u ++ [c], by rw [hu]; simp⟩
        · split at h
          · obtain ⟨k, hk⟩ := dropWhile_suf keyG t
            generalize t.dropWhile keyG = t1 at *
            split at h
            · rename_i w hw
              obtain ⟨k2, hk2⟩ := dropWhile_suf wht t1
              change t1 = k2 ++ gap t1 at hk2
              rw [hw] at hk2
              cases hv : value (gap w) with
              | none => rw [hv] at h; cases h
              | some z =>
                rw [hv] at h
                simp only [Option.bind_some] at h
                obtain ⟨v, hv2⟩ := body_suf n z r h
                obtain ⟨k3, hk3, _⟩ := value_suf hv
                obtain ⟨k4, hk4⟩ := dropWhile_suf wht w
                change w = k4 ++ gap w at hk4
                exact ⟨u ++ c :: k ++ k2 ++ 61 :: k4 ++ k3 ++ v, by rw [hu, hk, hk2, hk4, hk3, hv2]; simp⟩
            · obtain ⟨v, hv⟩ := body_suf n t1 r h
              exact ⟨u ++ c :: k ++ v, by rw [hu, hk, hv]; simp⟩
          · cases h
theorem body_stop : ∀ (n : Nat) (v r : List UInt8), body n (v ++ 62 :: r) = some r → ∀ m, body n (v ++ 62 :: m) = some m
  | 0, v, r, h, m => by cases h
  | n + 1, v, r, h, m => by
    simp only [body] at h ⊢
    rw [gap_stop] at h ⊢
    cases hg : gap v with
    | nil => simp
    | cons c t =>
      rw [hg] at h
      simp only [List.cons_append] at h ⊢
      by_cases h1 : c = 62
      · rw [if_pos h1] at h
        have := congrArg (fun o => (o.getD []).length) h
        simp at this
        omega
      · rw [if_neg h1] at h ⊢
        by_cases h2 : c = 47
        · rw [if_pos h2] at h ⊢
          cases t with
          | nil => simp [sgn]
          | cons d t2 =>
            have := sgn_some h
            have := congrArg List.length this
            simp at this
            omega
        · rw [if_neg h2] at h ⊢
          by_cases h3 : keyB c = true ∧ (c :: (t ++ 62 :: r)).length < (v ++ 62 :: r).length
          · have h3' : keyB c = true ∧ (c :: (t ++ 62 :: m)).length < (v ++ 62 :: m).length := ⟨h3.1, by have := h3.2; simp at this ⊢; omega⟩
            rw [if_pos h3] at h
            rw [if_pos h3']
            rw [dropWhile_stop _ _ _ _ k62] at h ⊢
            generalize t.dropWhile keyG = k at *
            rw [gap_stop] at h ⊢
            cases hk : gap k with
            | nil =>
              rw [hk] at h
              simp only [List.nil_append] at h ⊢
              exact body_stop n k r h m
            | cons d k2 =>
              rw [hk] at h
              simp only [List.cons_append] at h ⊢
              by_cases hd : d = 61
              · subst hd
                simp only at h ⊢
                rw [gap_stop] at h ⊢
                cases hv : value (gap k2 ++ 62 :: r) with
                | none => rw [hv] at h; cases h
                | some z =>
                  rw [hv] at h
                  simp only [Option.bind_some] at h
                  obtain ⟨v2, hv2⟩ := body_suf n z r h
                  obtain ⟨q2, e1, e2, e3⟩ := value_stop hv (by rw [hv2]; simp; omega)
                  rw [e3]
                  simp only [Option.bind_some]
                  rw [e1] at h
                  exact body_stop n q2 r h m
              · have hb : ∀ (w : List UInt8) (X : List UInt8 → Option (List UInt8)) (Y : Option (List UInt8)), (match d :: w with | 61 :: w => X w | _ => Y) = Y := fun w X Y => by
                  split
                  · rename_i e; simp only [List.cons.injEq] at e; exact absurd e.1 hd
                  · rfl
                rw [hb] at h ⊢
                exact body_stop n k r h m
          · rw [if_neg h3] at h
            cases h

/-! ### the same by steps -/
/-- One attribute: none; begun and not ended; what is left behind it. -/
def refA (l : List UInt8) : Option (Option (List UInt8)) := match (white l).bind key with
  | none => none
  | some u => match sgn 61 (gap u) with
    | none => some (some u)
    | some w => some (value (gap w))

theorem gap_idem (l : List UInt8) : gap (gap l) = gap l := dropWhile_idem _ _
theorem gap_of_nw {c : UInt8} (t : List UInt8) (h : wht c = false) : gap (c :: t) = c :: t := by simp [gap, List.dropWhile, h]
theorem gap_of_w {c : UInt8} (t : List UInt8) (h : wht c = true) : gap (c :: t) = gap t := by simp [gap, List.dropWhile, h]
theorem white_gap {l r : List UInt8} (h : white l = some r) : r = gap l ∧ r.length < l.length := by
  refine ⟨?_, word_len h⟩
  cases l with
  | nil => cases h
  | cons c t =>
    simp only [white, word] at h
    split at h
    · rename_i hc
      cases h
      rw [gap_of_w t hc]
      rfl
    · cases h
theorem white_none {l : List UInt8} (h : white l = none) : gap l = l := by
  cases l with
  | nil => rfl
  | cons c t =>
    simp only [white, word] at h
    split at h
    · cases h
    · rename_i hc
      exact gap_of_nw t (by simpa using hc)
theorem key_some {l u : List UInt8} (h : key l = some u) : ∃ c t, l = c :: t ∧ keyB c = true ∧ u = t.dropWhile keyG := by
  cases l with
  | nil => cases h
  | cons c t =>
    simp only [key, word] at h
    split at h
    · rename_i hc
      cases h
      exact ⟨c, t, rfl, hc, rfl⟩
    · cases h
theorem kB62 : keyB 62 = false := by decide
theorem kB47 : keyB 47 = false := by decide
theorem kB61 : keyB 61 = false := by decide

/-- What a step says of a text. -/
theorem refA_none {l : List UInt8} (h : refA l = none) : bodyF l = tailP l := by
  have hk : (white l).bind key = none := by
    unfold refA at h
    split at h
    · assumption
    · split at h <;> cases h
  unfold bodyF tailP slashOr
  simp only [body]
  cases hg : gap l with
  | nil => rfl
  | cons c t =>
    simp only
    by_cases h1 : c = 62
    · subst h1; simp [sgn]
    · rw [if_neg h1]
      by_cases h2 : c = 47
      · subst h2; simp [sgn]
      · rw [if_neg h2, sgn_no t h2, Option.getD_none, sgn_no t h1, if_neg]
        rintro ⟨hc, hl⟩
        cases hw : white l with
        | none =>
          have := white_none hw
          rw [hg] at this
          rw [← this] at hl
          exact absurd hl (Nat.lt_irrefl _)
        | some r =>
          obtain ⟨rfl, _⟩ := white_gap hw
          rw [hw, hg] at hk
          simp [key, word, hc] at hk
theorem body_fuelF {n : Nat} {l : List UInt8} (h : l.length < n) : body n l = bodyF l := body_fuel _ _ _ h (Nat.lt_succ_self _)
theorem refA_some {l : List UInt8} {o : Option (List UInt8)} (h : refA l = some o) : bodyF l = o.bind bodyF ∧ ∀ r, o = some r → r.length < l.length := by
  cases hw : white l with
  | none => unfold refA at h; rw [hw] at h; cases h
  | some r0 =>
    obtain ⟨rfl, hl0⟩ := white_gap hw
    cases hk : key (gap l) with
    | none => unfold refA at h; rw [hw, Option.bind_some, hk] at h; cases h
    | some u =>
      obtain ⟨c, t, hg, hc, rfl⟩ := key_some hk
      have hdl := dropWhile_len keyG t
      have hcl : (c :: t).length < l.length := by rw [← hg]; exact hl0
      have hcl' : t.length + 1 < l.length := hcl
      have n62 : c ≠ 62 := by rintro rfl; rw [kB62] at hc; cases hc
      have n47 : c ≠ 47 := by rintro rfl; rw [kB47] at hc; cases hc
      unfold refA at h
      rw [hw, Option.bind_some, hk] at h
      simp only at h
      have hB : bodyF l = (match gap (t.dropWhile keyG) with
        | 61 :: w => (value (gap w)).bind (body l.length)
        | _ => body l.length (t.dropWhile keyG)) := by
        unfold bodyF
        simp only [body, hg]
        rw [if_neg n62, if_neg n47, if_pos ⟨hc, hcl⟩]
      rw [hB]
      cases hg2 : gap (t.dropWhile keyG) with
      | nil =>
        rw [hg2] at h
        simp only [sgn] at h
        cases h
        simp only
        refine ⟨body_fuelF (by omega), ?_⟩
        intro r hr; cases hr; omega
      | cons d w =>
        rw [hg2] at h
        have hgl := gap_len (t.dropWhile keyG)
        rw [hg2] at hgl
        simp only [List.length_cons] at hgl
        by_cases hd : d = 61
        · subst hd
          rw [sgn_self] at h
          simp only [Option.some.injEq] at h
          subst h
          simp only
          have hwl := gap_len w
          refine ⟨?_, ?_⟩
          · cases hv : value (gap w) with
            | none => rfl
            | some z =>
              have := value_len hv
              exact body_fuelF (by omega)
          · intro r hr
            have := value_len hr
            omega
        · rw [sgn_no w hd] at h
          simp only [Option.some.injEq] at h
          subst h
          have hb : ∀ (X : List UInt8 → Option (List UInt8)) (Y : Option (List UInt8)), (match d :: w with | 61 :: w => X w | _ => Y) = Y := fun X Y => by
            split
            · rename_i e; simp only [List.cons.injEq] at e; exact absurd e.1 hd
            · rfl
          rw [hb]
          refine ⟨body_fuelF (by omega), ?_⟩
          intro r hr; cases hr; omega

theorem attr_of (l : List UInt8) : attr l = ((white l).bind key).map fun u => (worth u).getD u := by
  unfold attr
  cases white l with
  | none => rfl
  | some t =>
    simp only [Option.bind_some]
    cases key t <;> rfl
/-- A step of the combination: as above, but that a value that is not there is left. -/
theorem attr_cases (l : List UInt8) : (attr l = none ∧ refA l = none) ∨ (∃ r, attr l = some r ∧ refA l = some (some r)) ∨
    (∃ r, attr l = some r ∧ refA l = some none ∧ r.length < l.length ∧ ∃ w, gap r = 61 :: w) := by
  rw [attr_of]
  unfold refA
  cases hk : (white l).bind key with
  | none => exact Or.inl ⟨rfl, rfl⟩
  | some u =>
    simp only [Option.map_some]
    cases hs : sgn 61 (gap u) with
    | none =>
      refine Or.inr (Or.inl ⟨u, ?_, rfl⟩)
      unfold worth
      rw [hs]; rfl
    | some w =>
      cases hv : value (gap w) with
      | some z =>
        refine Or.inr (Or.inl ⟨z, ?_, ?_⟩)
        · unfold worth
          rw [hs, Option.bind_some, hv]; rfl
        · simp only [hv]
      | none =>
        refine Or.inr (Or.inr ⟨u, ?_, ?_, ?_, w, sgn_some hs⟩)
        · unfold worth
          rw [hs, Option.bind_some, hv]; rfl
        · simp only [hv]
        · cases hw : white l with
          | none => rw [hw] at hk; cases hk
          | some t =>
            rw [hw, Option.bind_some] at hk
            have h1 := word_len (b := wht) (g := wht) hw
            have h2 := word_len (b := keyB) (g := keyG) hk
            omega
theorem tail_nil : tailP [] = none := rfl
theorem bodyF_nil : bodyF [] = none := rfl
theorem attrs_eq {n : Nat} {l : List UInt8} (h : attr l = none) : attrs n l = l := by
  cases n with
  | zero => rfl
  | succ n => simp only [attrs, h]
theorem tail_attrs : ∀ (n : Nat) (l : List UInt8), l.length ≤ n → tailP (attrs n l) = bodyF l
  | 0, l, h => by
    have : l = [] := List.length_eq_zero_iff.1 (by omega)
    subst this; rfl
  | n + 1, l, h => by
    rcases attr_cases l with ⟨h1, h2⟩ | ⟨r, h1, h2⟩ | ⟨r, h1, h2, hl, w, hw⟩
    · rw [attrs_eq h1]
      exact (refA_none h2).symm
    · obtain ⟨e, hl⟩ := refA_some h2
      have := hl r rfl
      simp only [attrs, h1]
      rw [tail_attrs n r (by omega), e]; rfl
    · obtain ⟨e, _⟩ := refA_some h2
      rw [e]
      simp only [attrs, h1]
      have ha : attr r = none := by
        rw [attr_of]
        cases hwr : white r with
        | none => rfl
        | some t =>
          obtain ⟨rfl, _⟩ := white_gap hwr
          rw [hw, Option.bind_some]
          simp [key, word, kB61]
      rw [attrs_eq ha]
      unfold tailP slashOr
      rw [hw, sgn_no w (by decide), Option.getD_none, sgn_no w (by decide)]
      rfl
theorem name_not {c : UInt8} (t : List UInt8) (h : letU c = false) : name (c :: t) = none := by simp [name, word, h]
theorem openP_eq (t : List UInt8) : openP (60 :: t) = (name t).bind bodyF := by
  unfold openP
  rw [sgn_self, Option.bind_some]
  cases name t with
  | none => rfl
  | some b => exact tail_attrs b.length b (Nat.le_refl _)
/-- The combination is what one sign decides. -/
theorem tagO_eq (l : List UInt8) : tagO l = tagD l := by
  unfold tagO tagD
  cases hs : sgn 60 l with
  | none =>
    unfold openP closeP
    rw [hs]; rfl
  | some t =>
    have := sgn_some hs
    subst this
    rw [openP_eq]
    unfold closeP
    rw [sgn_self, Option.bind_some]
    cases h4 : sgn 47 t with
    | none =>
      simp only [h4]
      cases (name t).bind bodyF <;> rfl
    | some u =>
      have := sgn_some h4
      subst this
      rw [name_not u (by decide)]
      rfl

theorem tagD_stop {l r : List UInt8} (h : tagD l = some r) : ∃ v, l = 60 :: v ++ 62 :: r ∧ 1 ≤ v.length ∧ ∀ m, tagD (60 :: v ++ 62 :: m) = some m := by
  unfold tagD at h
  cases hs : sgn 60 l with
  | none => rw [hs] at h; cases h
  | some t =>
    rw [hs] at h
    have := sgn_some hs
    subst this
    simp only at h
    have nm : ∀ (u x : List UInt8), name u = some x → ∃ c w, u = c :: w ∧ letU c = true ∧ x = w.dropWhile inN := by
      intro u x hx
      cases u with
      | nil => cases hx
      | cons c w =>
        simp only [name, word] at hx
        split at hx
        · rename_i hc
          cases hx
          exact ⟨c, w, rfl, hc, rfl⟩
        · cases hx
    cases h4 : sgn 47 t with
    | some u =>
      rw [h4] at h
      have := sgn_some h4
      subst this
      simp only at h
      cases hn : name u with
      | none => rw [hn] at h; cases h
      | some x =>
        obtain ⟨c, w, rfl, hc, rfl⟩ := nm _ _ hn
        rw [hn, Option.bind_some] at h
        have hg := sgn_some h
        obtain ⟨k, hk⟩ := dropWhile_suf inN w
        obtain ⟨k2, hk2⟩ := dropWhile_suf wht (w.dropWhile inN)
        change w.dropWhile inN = k2 ++ gap (w.dropWhile inN) at hk2
        rw [hg] at hk2
        have hw : w = (k ++ k2) ++ 62 :: r := by rw [hk, hk2]; simp
        refine ⟨47 :: c :: (k ++ k2), by rw [hw]; simp, by simp, fun m => ?_⟩
        unfold tagD
        simp only [List.cons_append, sgn_self]
        have hd : ∀ m, (k ++ k2 ++ 62 :: m).dropWhile inN = (k ++ k2).dropWhile inN ++ 62 :: m := fun m => dropWhile_stop _ _ _ _ n62
        have e1 : gap ((k ++ k2).dropWhile inN) = [] := by
          rw [hw, hd, gap_stop] at hg
          have := congrArg List.length hg
          simp only [List.length_append, List.length_cons] at this
          exact List.length_eq_zero_iff.1 (by omega)
        simp only [name, word, hc, if_true, Option.bind_some]
        rw [hd, gap_stop, e1]
        simp [sgn]
    | none =>
      rw [h4] at h
      simp only at h
      cases hn : name t with
      | none => rw [hn] at h; cases h
      | some x =>
        obtain ⟨c, w, rfl, hc, rfl⟩ := nm _ _ hn
        rw [hn, Option.bind_some] at h
        obtain ⟨k, hk⟩ := dropWhile_suf inN w
        obtain ⟨v, hv⟩ := body_suf _ _ _ h
        have hw : w = (k ++ v) ++ 62 :: r := by rw [hk, hv]; simp
        have hd : ∀ m, (k ++ v ++ 62 :: m).dropWhile inN = (k ++ v).dropWhile inN ++ 62 :: m := fun m => dropWhile_stop _ _ _ _ n62
        have n4 : c ≠ 47 := by rintro rfl; rw [show letU 47 = false by decide] at hc; cases hc
        refine ⟨c :: (k ++ v), by rw [hw]; simp, by simp, fun m => ?_⟩
        unfold tagD
        simp only [List.cons_append, sgn_self]
        rw [sgn_no _ n4]
        simp only [name, word, hc, if_true, Option.bind_some]
        rw [hw, hd] at h
        rw [hd]
        generalize (k ++ v).dropWhile inN = q at *
        unfold bodyF at h
        rw [body_fuel _ ((q ++ 62 :: r).length + (q ++ 62 :: m).length + 1) _ (by omega) (by omega)] at h
        have hb := body_stop _ _ _ h m
        rw [body_fuelF (by omega)] at hb
        exact hb
theorem tagD_len {l r : List UInt8} (h : tagD l = some r) : r.length + 3 ≤ l.length := by
  obtain ⟨v, rfl, h1, _⟩ := tagD_stop h
  simp; omega
theorem tagN_of {l r : List UInt8} (h : tagD l = some r) : tagN l = l.length - r.length := by
  unfold tagN
  rw [tagO_eq, h]
theorem tagN_none {l : List UInt8} (h : tagD l = none) : tagN l = 0 := by
  unfold tagN
  rw [tagO_eq, h]
theorem tagN_le (l : List UInt8) : tagN l ≤ l.length := by
  cases h : tagD l with
  | none => rw [tagN_none h]; omega
  | some r => rw [tagN_of h]; omega
/-- P8.5, what the law says: it ends by its sign, what stands behind says nothing, cut off it is none. -/
theorem tag_law {l : List UInt8} (h : tagN l ≠ 0) : ∃ v, 1 ≤ v.length ∧ tagN l = v.length + 2 ∧ l.take (tagN l) = 60 :: v ++ [62] ∧ (∀ m, tagN (l.take (tagN l) ++ m) = tagN l) ∧ tagN (l.take (tagN l - 1)) = 0 ∧ l[0]? = some 60 ∧ l[tagN l - 1]? = some 62 := by
  cases hd : tagD l with
  | none => rw [tagN_none hd] at h; exact absurd rfl h
  | some r =>
    obtain ⟨v, hl, h1, h2⟩ := tagD_stop hd
    have hn : tagN l = v.length + 2 := by
      rw [tagN_of hd, hl]
      simp; omega
    have ht : l.take (tagN l) = 60 :: v ++ [62] := by
      rw [hn, hl, show 60 :: v ++ 62 :: r = (60 :: v ++ [62]) ++ r by simp, List.take_left' (by simp)]
    have ht1 : l.take (tagN l - 1) = 60 :: v := by
      rw [hn, hl, List.take_left' (by simp)]
    refine ⟨v, h1, hn, ht, fun m => ?_, ?_, ?_, ?_⟩
    · rw [ht, show 60 :: v ++ [62] ++ m = 60 :: v ++ 62 :: m by simp, tagN_of (h2 m), hn]
      simp; omega
    · rw [ht1]
      cases hc : tagD (60 :: v) with
      | none => exact tagN_none hc
      | some q =>
        exfalso
        obtain ⟨v2, e, _, h3⟩ := tagD_stop hc
        have h4 := h3 (q ++ 62 :: r)
        rw [show 60 :: v2 ++ 62 :: (q ++ 62 :: r) = (60 :: v2 ++ 62 :: q) ++ 62 :: r by simp, ← e, ← hl, hd] at h4
        have := congrArg (fun o => (o.getD []).length) h4
        simp at this
        omega
    · rw [hl]; rfl
    · rw [hn, hl, show v.length + 2 - 1 = (60 :: v).length by simp]
      simp
end Sc
end Go.Proofs.YtapibalcekedfaaGreatDoor
