/- Layer 6: both arenas: Set, Unlink, Move; what is asked of them. -/
import Derived.Test.YtlpfffioidbkeaaTreeSS
namespace Go.Proofs.Ytlpfffioidbkeaa
open Go Go.RowKit
namespace Tr
set_option maxRecDepth 100000
set_option linter.unusedVariables false
set_option linter.unusedSimpArgs false

theorem set_out {w : World} {A g cap : Nat} {S : Ar} (h : AR w A g cap S) {id : Int} (hi : ¬ (0 ≤ id ∧ id < (S.n : Int))) (o : Own) (a : Option Addr) (len cp : Nat) :
    Calls Try.prog 15 #[ptr A, .int .i64 id, nodeV o (.slice a len cp)] w fun e w' => e = .returned (.bool false) ∧ Below w.heap.size w w' := by
  have hb0 : Below w.heap.size w (w.alloc (.cells (nodeC o (.slice a len cp)) 24)) := (Below.refl _ w).alloc (Nat.le_refl _) _
  have HL := Lib.hid (has_any (h.below hb0) id)
  rw [in_false hi] at HL
  unfold ptr nodeC at HL
  clear hi hb0
  unfold ptr nodeV
  go_enter Try.func15, Try.ntmps15
  go_wp2_with fail
  refine HL.out.mono ?_
  rintro e w1 ⟨rfl, rfl⟩
  go_wp2
  go_ret
  exact ⟨rfl, (Below.refl _ w).alloc (Nat.le_refl _) _⟩
theorem Inv.setO {S : Ar} {ch : Nat → List Nat} (h : Inv S ch) (f : Nat → Own) : Inv { S with o := f } ch :=
  ⟨h.pos, h.lt, h.nodup, h.first, h.last, h.behind, h.before, h.par, h.alone, h.out⟩
theorem Good.setO {S : Ar} {ch : Nat → List Nat} (h : Good S ch) (f : Nat → Own) : Good { S with o := f } ch := ⟨h.inv.setO f, h.rank⟩
section
variable {w w1 : World} {A R k b : Nat} {s t : Ab} {cs : Array Value} {ty : TypeId}
theorem TB.setL (h : TB w w1 A R s t k b cs ty) (a : Int) (q : Own) (la : Option Addr) (ln lc : Nat) (h1 : q.s.size ≤ 281474976710656) (h2 : q.t.size ≤ 281474976710656) :
    Calls Try.prog 15 #[ptr A, .int .i64 a, nodeV q (.slice la ln lc)] w1 fun e w' => e = .returned (.bool (decide (inR s a))) ∧ TB w w' A R (s.set a q) t k b cs ty := by
  obtain ⟨X, Z, h⟩ := h
  obtain ⟨g, cap, S, hX, hA, hG, hn, ho⟩ := h.l
  unfold Ab.set
  by_cases hi : inR s a
  · rw [if_pos hi, decide_eq_true hi]
    have hp : a.toNat < S.n := by have := hi.2; have := toN hi.1; omega
    have := set_in hA hp q la ln lc h1 h2
    rw [toN hi.1] at this
    refine this.mono ?_
    rintro e w' ⟨rfl, b1, b2⟩
    exact ⟨rfl, h.opL hX b1 (.inl rfl) b2 (hG.setO _) hn (by show upd S.o a.toNat q = _; rw [ho])⟩
  · rw [if_neg hi, decide_eq_false hi]
    refine (set_out hA (fun e => hi ⟨e.1, by rw [← hn]; exact e.2⟩) q la ln lc).mono ?_
    rintro e w' ⟨rfl, hb⟩
    exact ⟨rfl, X, Z, h.below hb⟩
theorem TB.setR (h : TB w w1 A R s t k b cs ty) (a : Int) (q : Own) (la : Option Addr) (ln lc : Nat) :
    Calls Try.prog 16 #[ptr R, .int .i64 a, nodeV q (.slice la ln lc)] w1 fun e w' => e = .returned (.bool (decide (inR t a))) ∧ TB w w' A R s (t.set a q) k b cs ty := by
  obtain ⟨X, Z, h⟩ := h
  obtain ⟨S, h0, cap, kv, K, hZ, hR, hG, hn, hL, hK⟩ := h.r
  unfold Ab.set
  by_cases hi : inR t a
  · rw [if_pos hi, decide_eq_true hi]
    have hp : a.toNat < t.n := by have := hi.2; have := toN hi.1; omega
    have := rset_in hR hp q la ln lc
    rw [toN hi.1] at this
    refine this.mono ?_
    rintro e w' ⟨rfl, b1, b2⟩
    exact ⟨rfl, h.opR (S' := S) (t' := ⟨t.n, upd t.o a.toNat q, t.ch⟩) hZ ⟨h0, cap, kv, b1, .inl rfl, fun i e => .inl e, b2⟩ hG hn hL hK⟩
  · rw [if_neg hi, decide_eq_false hi]
    refine (rset_out hR (fun e => hi e) q la ln lc).mono ?_
    rintro e w' ⟨rfl, hb⟩
    exact ⟨rfl, X, Z, h.below hb⟩
theorem TB.unlL (h : TB w w1 A R s t k b cs ty) (a : Int) :
    Calls Try.prog 17 #[ptr A, .int .i64 a] w1 fun e w' => e = .returned (.bool (unV s a)) ∧ TB w w' A R (s.unl a) t k b cs ty := by
  obtain ⟨X, Z, h⟩ := h
  obtain ⟨g, cap, S, hX, hA, hG, hn, ho⟩ := h.l
  unfold unV Ab.unl
  by_cases hi : inR s a
  · rw [if_pos hi, decide_eq_true hi, Bool.true_and]
    have hp : a.toNat < S.n := by have := hi.2; have := toN hi.1; omega
    have := unlink_step hG hA hp
    rw [toN hi.1] at this
    refine this.mono ?_
    rintro e w' ⟨⟨bb, rfl, hbb⟩, S', b1, b2, b3, b4, b5⟩
    rw [par_eq hG.inv hp, hn] at hbb
    refine ⟨ret_bool ?_, h.opL hX b1 (.inl rfl) b2 (hG.cut a.toNat b3 b5) (b3.trans hn) (b4.trans ho)⟩
    rw [Bool.eq_iff_iff, hbb, decide_eq_true_iff]
  · rw [if_neg hi, decide_eq_false hi, Bool.false_and]
    refine (unlink_false hA (.inl fun e => hi ⟨e.1, by rw [← hn]; exact e.2⟩)).mono ?_
    rintro e w' ⟨rfl, rfl⟩
    exact ⟨rfl, X, Z, h⟩
theorem TB.hasR (h : TB w w1 A R s t k b cs ty) (a : Int) :
    Calls Try.prog 18 #[ptr R, .int .i64 a] w1 fun e w' => e = .returned (.bool (decide (inR t a))) ∧ TB w w' A R s t k b cs ty := by
  obtain ⟨X, Z, h⟩ := h
  obtain ⟨S, h0, cap, kv, K, hZ, hR, hG, hn, hL, hK⟩ := h.r
  refine (rhas_any hR a).mono ?_
  rintro e w' ⟨rfl, rfl⟩
  refine ⟨ret_bool ?_, X, Z, h⟩
  rw [Bool.eq_iff_iff, Bool.and_eq_true, decide_eq_true_iff, decide_eq_true_iff, decide_eq_true_iff]
theorem TB.unlR (h : TB w w1 A R s t k b cs ty) (a : Int) (hi : inR t a) (hk9 : k ≤ 1000000000) :
    Calls Try.prog 19 #[ptr R, .int .i64 a] w1 fun e w' => e = .returned (.bool (unV t a)) ∧ TB w w' A R s (t.unl a) k b cs ty := by
  obtain ⟨X, Z, h⟩ := h
  obtain ⟨S, h0, cap, kv, K, hZ, hR, hG, hn, hL, hK⟩ := h.r
  unfold unV Ab.unl
  rw [if_pos hi, decide_eq_true hi, Bool.true_and]
  have hp : a.toNat < S.n := by have := hi.2; have := toN hi.1; omega
  have hab : above K a = parF t.n t.ch a.toNat := by
    have := hL.above hG.inv hp
    rw [toN hi.1, par_eq hG.inv hp, hn] at this
    exact this
  obtain ⟨S', n1, g1⟩ : ∃ S', S'.n = S.n ∧ Good S' (cut t.ch a.toNat) := by
    rcases Classical.em (S.par a.toNat = -1) with hp2 | hp2
    · have hno : ∀ p, p < S.n → a.toNat ∉ t.ch p := fun p hp3 hm => by have := hG.inv.par p hp3 a.toNat hm; omega
      exact ⟨S, rfl, by rw [cut_none hG.inv hno]; exact hG⟩
    · obtain ⟨p, j, hp1, hp3, hj⟩ := hG.inv.parent hp hp2
      exact ⟨S.unlink a.toNat, unlink_n _ _, hG.cut a.toNat (unlink_n _ _) (hG.inv.unlink hp1 hj)⟩
  have hLc : Lk S' (cut t.ch a.toNat) (without K a) := by
    have := hL.cut (S' := S') a.toNat n1
    rw [toN hi.1] at this
    exact this
  have hle := without_len K a
  refine (runlink_any hR (by omega) a).mono ?_
  rintro e w' (⟨rfl, c1, rfl⟩ | ⟨rfl, c1, c2⟩)
  · refine ⟨ret_bool ?_, h.opR (S' := S') (t' := ⟨t.n, t.o, cut t.ch a.toNat⟩) (K' := without K a) hZ ?_ g1 (n1.trans hn) hLc (by omega)⟩
    · have := parF_neg t.n t.ch a.toNat
      rw [hab] at c1
      symm
      rw [decide_eq_false_iff_not]
      omega
    · rw [without_none c1]; exact OpR.keepK hR
  · refine ⟨ret_bool ?_, h.opR (S' := S') (t' := ⟨t.n, t.o, cut t.ch a.toNat⟩) (K' := without K a) hZ c2 g1 (n1.trans hn) hLc (by omega)⟩
    rw [hab] at c1
    symm
    rw [decide_eq_true_iff]
    omega
theorem TB.movL (h : TB w w1 A R s t k b cs ty) (a p : Int) (bb : Bool) (hb : bb = true ↔ canP s a p) :
    Calls Try.prog 20 #[ptr A, .int .i64 a, .int .i64 p] w1 fun e w' => e = .returned (.bool bb) ∧ TB w w' A R (if bb = true then s.mov a p else s) t k b cs ty := by
  obtain ⟨X, Z, h⟩ := h
  obtain ⟨g, cap, S, hX, hA, hG, hn, ho⟩ := h.l
  refine (move_any hG hA a p).mono ?_
  rintro e w' ⟨b', rfl, (⟨rfl, c1, rfl⟩ | ⟨rfl, c1, S', c2, c3, c4, c5, c6⟩)⟩
  · have hbf : bb = false := by
      cases bb with
      | false => rfl
      | true => exact absurd ((can_iff hn a p).2 (hb.1 rfl)) c1
    subst hbf
    exact ⟨rfl, X, Z, h⟩
  · have hbt : bb = true := hb.2 ((can_iff hn a p).1 c1)
    subst hbt
    exact ⟨rfl, h.opL (s' := s.mov a p) hX c2 (.inl rfl) c3 c6 (c4.trans hn) (c5.trans ho)⟩
theorem TB.movR (h : TB w w1 A R s t k b cs ty) (a p : Int) (bb : Bool) (hb : bb = true ↔ canP t a p) (hn9 : t.n ≤ 1000000000) (hk9 : k ≤ 1000000000) :
    Calls Try.prog 21 #[ptr R, .int .i64 a, .int .i64 p] w1 fun e w' => e = .returned (.bool bb) ∧ TB w w' A R s (if bb = true then t.mov a p else t) (k + 1) b cs ty := by
  obtain ⟨X, Z, h⟩ := h
  obtain ⟨S, h0, cap, kv, K, hZ, hR, hG, hn, hL, hK⟩ := h.r
  obtain ⟨ht, hr⟩ := hG.rank
  cases bb with
  | false =>
    have hno : ¬ can S t.ch a p := fun e => by have := hb.2 ((can_iff hn a p).1 e); cases this
    refine (rmove_false hG.inv hr hL hR hn.symm hn9 (by omega) hno).mono ?_
    rintro e w' ⟨rfl, rfl⟩
    exact ⟨rfl, X, Z, h.more (Nat.le_succ k)⟩
  | true =>
    obtain ⟨i1, i2, i3, i4⟩ := hb.1 rfl
    have ha : a.toNat < t.n := by have := i1.2; have := toN i1.1; omega
    have hp : p.toNat < t.n := by have := i2.2; have := toN i2.1; omega
    have := rmove_true hG.inv hr hL hR hn.symm hn9 (by omega) ha hp (by have := toN i1.1; omega) (by rw [hn]; exact i4)
    rw [toN i1.1, toN i2.1] at this
    refine this.mono ?_
    rintro e w' ⟨rfl, c1⟩
    obtain ⟨S1, n1, g1⟩ : ∃ S', S'.n = S.n ∧ Inv S' (cut t.ch a.toNat) := by
      rcases Classical.em (S.par a.toNat = -1) with hp2 | hp2
      · have hno : ∀ p, p < S.n → a.toNat ∉ t.ch p := fun p hp3 hm => by have := hG.inv.par p hp3 a.toNat hm; omega
        exact ⟨S, rfl, by rw [cut_none hG.inv hno]; exact hG.inv⟩
      · obtain ⟨p, j, hp1, hp3, hj⟩ := hG.inv.parent (by omega) hp2
        exact ⟨S.unlink a.toNat, unlink_n _ _, hG.inv.unlink hp1 hj⟩
    have hGm := hG.move (S1 := S1) (id := a.toNat) (p := p.toNat) (by omega) (by omega) (by rw [hn]; exact i4) n1 g1
    have hLm : Lk (S1.hang a.toNat p.toNat) (moved t.ch a.toNat p.toNat) (without K a ++ [(p.toNat, a.toNat)]) := by
      have := hL.move (S' := S1.hang a.toNat p.toNat) (id := a.toNat) (p := p.toNat) (by omega) (by rw [hang_n]; exact n1)
      rw [toN i1.1] at this
      exact this
    have hle := without_len K a
    refine ⟨rfl, h.opR (S' := S1.hang a.toNat p.toNat) (t' := t.mov a p) (K' := without K a ++ [(p.toNat, a.toNat)]) hZ ?_ hGm (by rw [hang_n]; exact n1.trans hn) hLm (by rw [List.length_append]; simp; omega)⟩
    rw [toN i1.1] at c1
    exact c1
end

/-! ### what is asked -/
def getO (s : Ab) (a : Int) : Own := if inR s a then s.o a.toNat else nilO
def parV (s : Ab) (a : Int) : Int := if inR s a then parF s.n s.ch a.toNat else -1
def chV (s : Ab) (a : Int) : List Nat := if inR s a then s.ch a.toNat else []
def SzA (s : Ab) : Prop := ∀ i, i < s.n → (s.o i).s.size ≤ 281474976710656 ∧ (s.o i).t.size ≤ 281474976710656
/-- Both arenas as they lie in one world. -/
structure At2 (w : World) (A g cap : Nat) (S : Ar) (R h cap2 : Nat) (kv : Value) (K : List (Nat × Nat)) (S2 : Ar) (s : Ab) : Prop where
  a : AR w A g cap S
  ga : Good S s.ch
  na : S.n = s.n
  oa : S.o = s.o
  r : RR w R h cap2 s.n s.o kv K
  gr : Good S2 s.ch
  nr : S2.n = s.n
  lk : Lk S2 s.ch K
theorem TB.at2 {w w1 : World} {A R k b : Nat} {s : Ab} {cs : Array Value} {ty : TypeId} (h : TB w w1 A R s s k b cs ty) : ∃ g cap S h0 cap2 kv K S2, At2 w1 A g cap S R h0 cap2 kv K S2 s ∧ K.length ≤ k := by
  obtain ⟨X, Z, h⟩ := h
  obtain ⟨g, cap, S, hX, hA, hG, hn, ho⟩ := h.l
  obtain ⟨S2, h0, cap2, kv, K, hZ, hR, hG2, hn2, hL, hK⟩ := h.r
  exact ⟨g, cap, S, h0, cap2, kv, K, S2, ⟨hA, hG, hn, ho, hR, hG2, hn2, hL⟩, hK⟩
theorem T0.at2 {w w1 : World} {A R k : Nat} {s : Ab} (h : T0 w w1 A R s k) : ∃ g cap S h0 cap2 kv K S2, At2 w1 A g cap S R h0 cap2 kv K S2 s ∧ K.length ≤ k := by
  obtain ⟨X, Z, ⟨g, cap, S, hX, hA, hG, hn, ho⟩, ⟨S2, h0, cap2, kv, K, hZ, hR, hG2, hn2, hL, hK⟩, _⟩ := h
  exact ⟨g, cap, S, h0, cap2, kv, K, S2, ⟨hA, hG, hn, ho, hR, hG2, hn2, hL⟩, hK⟩
section
variable {w w1 : World} {A g cap R h cap2 : Nat} {S S2 : Ar} {kv : Value} {K : List (Nat × Nat)} {s : Ab}
theorem At2.below (H : At2 w A g cap S R h cap2 kv K S2 s) (hb : Below w.heap.size w w1) : At2 w1 A g cap S R h cap2 kv K S2 s := ⟨H.a.below hb, H.ga, H.na, H.oa, H.r.below hb, H.gr, H.nr, H.lk⟩
theorem At2.get (H : At2 w A g cap S R h cap2 kv K S2 s) (hz : SzA s) (a : Int) :
    Calls Try.prog 23 #[ptr A, .int .i64 a] w fun e w' => e = .returned (nodeV (getO s a) (.slice none 0 0)) ∧ Below w.heap.size w w' := by
  unfold getO
  by_cases hi : inR s a
  · rw [if_pos hi]
    have hp : a.toNat < S.n := by have := hi.2; have := toN hi.1; have := H.na; omega
    have := get_in H.a hp (fun i hi => by rw [H.oa]; exact hz i (by rw [← H.na]; exact hi))
    rw [toN hi.1, H.oa] at this
    exact this
  · rw [if_neg hi]
    exact get_out H.a (fun e => hi ⟨e.1, by rw [← H.na]; exact e.2⟩)
theorem At2.parL (H : At2 w A g cap S R h cap2 kv K S2 s) (a : Int) :
    Calls Try.prog 24 #[ptr A, .int .i64 a] w fun e w' => e = .returned (.int .i64 (parV s a)) ∧ w = w' := by
  unfold parV
  by_cases hi : inR s a
  · rw [if_pos hi]
    have hp : a.toNat < S.n := by have := hi.2; have := toN hi.1; have := H.na; omega
    have := parent_in H.a hp
    rw [toN hi.1, par_eq H.ga.inv hp, H.na] at this
    exact this
  · rw [if_neg hi]
    exact parent_out H.a (fun e => hi ⟨e.1, by rw [← H.na]; exact e.2⟩)
theorem At2.parR (H : At2 w A g cap S R h cap2 kv K S2 s) (hk : K.length ≤ 1000000000) (a : Int) :
    Calls Try.prog 25 #[ptr R, .int .i64 a] w fun e w' => e = .returned (.int .i64 (parV s a)) ∧ w = w' := by
  have := rparent_any H.r hk a
  unfold parV
  by_cases hi : inR s a
  · rw [if_pos hi]
    have hp : a.toNat < S2.n := by have := hi.2; have := toN hi.1; have := H.nr; omega
    have hab := H.lk.above H.gr.inv hp
    rw [toN hi.1, par_eq H.gr.inv hp, H.nr] at hab
    rw [hab] at this
    exact this
  · rw [if_neg hi]
    rw [H.lk.above_out H.gr.inv (fun e => hi ⟨e.1, by rw [← H.nr]; exact e.2⟩)] at this
    exact this
theorem At2.chL (H : At2 w A g cap S R h cap2 kv K S2 s) (hn9 : s.n ≤ 1000000000) (a : Int) :
    Calls Try.prog 27 #[ptr A, .int .i64 a] w fun e w' => ∃ v, e = .returned v ∧ Ints w' v (chV s a) ∧ Below w.heap.size w w' := by
  unfold chV
  by_cases hi : inR s a
  · rw [if_pos hi]
    have hp : a.toNat < S.n := by have := hi.2; have := toN hi.1; have := H.na; omega
    have := children_in (H.ga.inv.kids (by have := H.na; omega)) H.a hp
    rw [toN hi.1] at this
    refine this.mono ?_
    rintro e w' ⟨v, rfl, h1, h2⟩
    exact ⟨v, rfl, Ints.of_owns h1, h2⟩
  · rw [if_neg hi]
    have HL := Lib.hid (has_any H.a a)
    rw [in_false (fun e => hi ⟨e.1, by rw [← H.na]; exact e.2⟩)] at HL
    refine (children_out HL ⟨_, rfl⟩).mono ?_
    rintro e w' ⟨rfl, rfl⟩
    exact ⟨_, rfl, Ints.nil _, Below.refl _ _⟩
theorem At2.chR (H : At2 w A g cap S R h cap2 kv K S2 s) (hk : K.length ≤ 1000000000) (a : Int) :
    Calls Try.prog 28 #[ptr R, .int .i64 a] w fun e w' => ∃ v, e = .returned v ∧ Ints w' v (chV s a) ∧ Below w.heap.size w w' := by
  have hu : under K a = chV s a := by
    unfold chV
    by_cases hi : inR s a
    · rw [if_pos hi]
      have := H.lk.kids a.toNat (by have := hi.2; have := toN hi.1; have := H.nr; omega)
      rw [toN hi.1] at this
      exact this
    · rw [if_neg hi]
      exact H.lk.under_out (fun e => hi ⟨e.1, by rw [← H.nr]; exact e.2⟩)
  refine (rchildren_any H.r hk a).mono ?_
  rintro e w' ⟨v, rfl, h1, h2⟩
  rw [hu] at h1
  exact ⟨v, rfl, Ints.of_owns h1, h2⟩
theorem At2.len (H : At2 w A g cap S R h cap2 kv K S2 s) :
    Calls Try.prog 29 #[ptr A] w fun e w' => e = .returned (.int .i64 s.n) ∧ w = w' := by
  have := len_any H.a
  rw [H.na] at this
  exact this
/-- Both trees are one. -/
theorem At2.trees (H : At2 w A g cap S R h cap2 kv K S2 s) (hz : SzA s) (hn9 : s.n ≤ 1000000000) (hk : K.length ≤ 1000000000) : ∃ T : Tree, T.own = s.o 0 ∧
    (∀ W, Below w.heap.size w W → Calls Try.prog 31 #[ptr A] W fun e w' => ∃ a n c, e = .returned (nodeV (s.o 0) (.slice a n c)) ∧ In w' (fun b => W.heap.size ≤ b) T (.slice a n c) ∧ Below W.heap.size W w') ∧
    (∀ W, Below w.heap.size w W → Calls Try.prog 32 #[ptr R, .int .i64 0] W fun e w' => ∃ a n c, e = .returned (nodeV (s.o 0) (.slice a n c)) ∧ In w' (fun b => W.heap.size ≤ b) T (.slice a n c) ∧ Below W.heap.size W w') := by
  obtain ⟨ht, hr⟩ := H.ga.rank
  obtain ⟨ht2, hr2⟩ := H.gr.rank
  have h0 : 0 < S.n := H.ga.inv.pos
  have hna := H.na
  have hnr := H.nr
  refine ⟨tr s.o s.ch (ht 0 + ht2 0 + 1) 0, tr_own _ _ _ _, fun W hW => ?_, fun W hW => ?_⟩
  · have := tree_any (H.ga.inv.kids (by omega)) (fun i hi => by rw [H.oa]; exact hz i (by omega)) hr (ht 0 + ht2 0 + 1) h0 (by omega) (H.a.below hW)
    rw [H.oa] at this
    exact this
  · exact rtree_any H.gr.inv H.lk H.nr.symm hk hr2 (ht 0 + ht2 0 + 1) 0 (by omega) (by omega) W R h cap2 s.o kv (H.r.below hW)
end
end Tr
end Go.Proofs.Ytlpfffioidbkeaa
