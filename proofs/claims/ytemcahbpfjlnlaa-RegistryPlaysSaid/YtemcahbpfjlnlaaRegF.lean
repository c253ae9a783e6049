/- Layer 7: a map of rows grows, and is sorted, row by row. -/
import Derived.Test.YtemcahbpfjlnlaaRegD
namespace Go.Proofs.Ytemcahbpfjlnlaa
open Go Go.RowKit
namespace Rg
set_option maxRecDepth 100000
set_option linter.unusedVariables false
set_option linter.unusedSimpArgs false

theorem row_ne_map {w : World} {base : Nat} {e : TypeId} {size n : Nat} {v : Value} {xs : List Value} {k : TypeId} {R : Value → Option (DU × List MemPlace)} {b m : Nat} {D : DU}
    (h : w.ownsRow base e size v n xs) (hm : w.ownsMap Try.prog k R b m D) : v.ownBlock ≠ some b := by
  intro e1
  rcases h.2 with ⟨rfl, _⟩ | ⟨g, cap, cur, rfl, _, hc, _⟩
  · cases e1
  · have : g = b := by simpa [Value.ownBlock] using e1
    subst this
    obtain ⟨es, clock, hb, _⟩ := hm
    rw [hc] at hb
    cases hb
theorem owns_slR {w : World} {base n : Nat} {e : TypeId} {size : Nat} {v : Value} {xs : List Value} (h : w.ownsRow base e size v n xs) : slR v = some (slD v, []) := by
  rcases h.2 with ⟨rfl, _⟩ | ⟨g, cap, cur, rfl, _⟩ <;> rfl
theorem map_only {w w' : World} {k : TypeId} {R : Value → Option (DU × List MemPlace)} {b n : Nat} {D : DU} (h : w.ownsMap Try.prog k R b n D) {X : Nat → Prop} (ho : Only X w w') (hx : ¬ X b) : w'.ownsMap Try.prog k R b n D := by
  have hlt := h.lt
  obtain ⟨es, clock, hb, rest⟩ := h
  exact ⟨es, clock, (ho.block b hlt hx).trans hb, rest⟩
theorem ranges_only {w w' : World} {k : TypeId} {R : Value → Option (DU × List MemPlace)} {b r n : Nat} {D : DU} {left : Lit → Bool} {cnt : Nat} (h : w.ranges Try.prog k R b r n D left cnt) {X : Nat → Prop} (ho : Only X w w') (hb : ¬ X b) (hr : ¬ X r) : w'.ranges Try.prog k R b r n D left cnt := by
  have h1 := h.owns.lt
  have h2 := h.lt
  obtain ⟨es, clock, since, seen, c0, hb0, F, hs, hD, hr0, rest⟩ := h
  exact ⟨es, clock, since, seen, c0, (ho.block b h1 hb).trans hb0, F, hs, hD, (ho.block r h2 hr).trans hr0, rest⟩
theorem row_ne_iter {w : World} {base : Nat} {e : TypeId} {size n : Nat} {v : Value} {xs : List Value} {k : TypeId} {R : Value → Option (DU × List MemPlace)} {b r m : Nat} {D : DU} {left : Lit → Bool} {cnt : Nat}
    (h : w.ownsRow base e size v n xs) (hm : w.ranges Try.prog k R b r m D left cnt) : v.ownBlock ≠ some r := by
  intro e1
  rcases h.2 with ⟨rfl, _⟩ | ⟨g, cap, cur, rfl, _, hc, _⟩
  · cases e1
  · have : g = r := by simpa [Value.ownBlock] using e1
    subst this
    obtain ⟨es, clock, since, seen, c0, _, _, _, _, hr, _⟩ := hm
    rw [hc] at hr
    cases hr
theorem only_grown {w w' : World} {row : Option Nat} (h : w.grownBy w' row) : Only (fun g => row = some g) w w' :=
  ⟨h.os, h.tape, h.output, h.size, fun k hk hx => h.block k hk fun e => hx e.symm⟩

theorem PMap.only2 {w w' : World} {b n : Nat} {D : DU} {V : Int → Value} {f : Int → List Hk} {N : Nat → Prop} (h : PMap w b n D V f N) {X : Nat → Prop} (ho : Only X w w') (hx : ¬ X b) (hN : ∀ p g, wfI p → (V p).ownBlock = some g → ¬ X g) : PMap w' b n D V f N :=
  ⟨map_only h.own ho hx, h.get, h.has, fun p hp => owns_only (h.row p hp) ho fun k hk => hN p k hp hk, h.sep, h.new⟩
theorem pmap_made (w : World) (N : Nat → Prop) : PMap (w.alloc (.map #[] 0)) w.heap.size 0 (.map []) (fun _ => .slice none 0 0) (fun _ => []) N :=
  ⟨World.ownsMap_made w _ _ _, fun p hp => rfl, fun p hp => rfl, fun p hp => ⟨rfl, .inl ⟨rfl, rfl⟩⟩, fun p q hp hq hne g hg => (by cases hg), fun p g hp hg => (by cases hg)⟩

/-- A row grows: key p has the row v'. -/
theorem PMap.put {w w1 w2 : World} {b n : Nat} {D : DU} {V : Int → Value} {f : Int → List Hk} {N : Nat → Prop} (h : PMap w b n D V f N) {p : Int} (hp : wfI p) {k : Hk} {v' : Value}
    (hg : Only (fun g => (V p).ownBlock = some g) w w1)
    (hrow : w1.ownsRow 0 29 5 v' ((f p).length + 1) (rowC (f p ++ [k])))
    (hloc : ∀ g, v'.ownBlock = some g → (V p).ownBlock = some g ∨ w.heap.size ≤ g)
    (hown : w2.ownsMap Try.prog 3 slR b (n + 1) (D.put (.int .i64 p) (slD v')))
    (hg2 : Only (fun g => g = b) w1 w2) (hN : ∀ g, w.heap.size ≤ g → N g) :
    PMap w2 b (n + 1) (D.put (.int .i64 p) (slD v')) (fun q => if q = p then v' else V q) (fun q => if q = p then f p ++ [k] else f q) N := by
  have hm := h.own.isMap
  have hkl : WideAt.IsKeyLit (.int .i64 p) := by simp [WideAt.IsKeyLit]
  have hm1 : w1.ownsMap Try.prog 3 slR b n D := map_only h.own hg (row_ne_map (h.row p hp) h.own)
  have hlt : ∀ q g, wfI q → (V q).ownBlock = some g → g < w.heap.size := fun q g hq e => ((h.row q hq).lt g e).2
  refine ⟨hown, fun q hq => ?_, fun q hq => ?_, fun q hq => ?_, fun q r hq hr hne g e1 e2 => ?_, fun q g hq e1 => ?_⟩
  · by_cases e : q = p
    · subst e
      simp only [if_true]
      rw [Maps.atKey_put_same hm hkl]
      exact owns_slR hrow
    · simp only [if_neg e]
      rw [Maps.atKey_put_other (fun e2 => e (by injection e2))]
      exact h.get q hq
  · by_cases e : q = p
    · subst e
      simp only [if_true]
      rw [Maps.has_put_same hm hkl]
      simp
    · simp only [if_neg e]
      rw [Maps.has_put_other (fun e2 => e (by injection e2))]
      exact h.has q hq
  · by_cases e : q = p
    · subst e
      simp only [if_true]
      rw [List.length_append, List.length_singleton]
      exact owns_only hrow hg2 fun g e1 e2 => row_ne_map hrow hm1 (e2 ▸ e1)
    · simp only [if_neg e]
      refine owns_only (owns_only (h.row q hq) hg fun g e1 e2 => h.sep q p hq hp e g e1 e2) hg2 fun g e1 e2 => row_ne_map (h.row q hq) h.own (e2 ▸ e1)
  · by_cases eq : q = p <;> by_cases er : r = p
    · exact hne (eq.trans er.symm)
    · subst eq
      simp only [if_true, if_neg er] at e1 e2
      rcases hloc g e1 with h1 | h1
      · exact h.sep q r hq hr hne g h1 e2
      · have := hlt r g hr e2; omega
    · subst er
      simp only [if_true, if_neg eq] at e1 e2
      rcases hloc g e2 with h1 | h1
      · exact h.sep q r hq hr hne g e1 h1
      · have := hlt q g hq e1; omega
    · simp only [if_neg eq, if_neg er] at e1 e2
      exact h.sep q r hq hr hne g e1 e2
  · by_cases eq : q = p
    · subst eq
      simp only [if_true] at e1
      rcases hloc g e1 with h1 | h1
      · exact h.new q g hq h1
      · exact hN g h1
    · simp only [if_neg eq] at e1
      exact h.new q g hq e1

/-- A row is sorted where it lies. -/
theorem PMap.resort {w w' : World} {b n : Nat} {D : DU} {V : Int → Value} {f : Int → List Hk} {N : Nat → Prop} (h : PMap w b n D V f N) {p : Int} (hp : wfI p) {l' : List Hk} (hl : l'.length = (f p).length)
    (hrow : w'.ownsRow 0 29 5 (V p) l'.length (rowC l')) (ho : Only (fun k => (V p).ownBlock = some k) w w') :
    PMap w' b n D V (fun q => if q = p then l' else f q) N := by
  refine ⟨map_only h.own ho (row_ne_map (h.row p hp) h.own), h.get, fun q hq => ?_, fun q hq => ?_, h.sep, h.new⟩
  · by_cases e : q = p
    · subst e
      simp only [if_true]
      rw [h.has q hq]
      cases l' <;> cases hfq : f q <;> simp [hfq] at hl ⊢
    · simp only [if_neg e]; exact h.has q hq
  · by_cases e : q = p
    · subst e; simp only [if_true]; exact hrow
    · simp only [if_neg e]
      exact owns_only (h.row q hq) ho fun g e1 e2 => h.sep q p hq hp e g e1 e2

/-- What has been put by phase when these names are still to come. -/
def Part (m : Int) (hs : List Hk) (left : Lit → Bool) (f : Int → List Hk) : Prop :=
  ∀ p, wfI p → (f p).Perm (hs.filter fun h => pick m p h && !left (.string h.name.data.toList))
theorem part_start (m : Int) (hs : List Hk) {left : Lit → Bool} (hl : ∀ h ∈ hs, left (.string h.name.data.toList) = true) : Part m hs left (fun _ => []) := by
  intro p hp
  have : hs.filter (fun h => pick m p h && !left (.string h.name.data.toList)) = [] := by
    rw [List.filter_eq_nil_iff]
    intro h hh
    simp [hl h hh]
  rw [this]
theorem part_end {m : Int} {hs : List Hk} {left : Lit → Bool} {f : Int → List Hk} (h : Part m hs left f) (hl : ∀ k, left k = false) : ∀ p, wfI p → (f p).Perm (hs.filter (pick m p)) := by
  intro p hp
  refine (h p hp).trans ?_
  simp [hl]
theorem filter_one {hs : List Hk} (hn : Names hs) {k : Hk} (hk : k ∈ hs) (P Q : Hk → Bool) (hP : P k = true) (hQ : Q k = false) (he : ∀ h ∈ hs, h ≠ k → P h = Q h) : (hs.filter P).Perm (k :: hs.filter Q) := by
  induction hs with
  | nil => cases hk
  | cons x r ih =>
    obtain ⟨h1, h2⟩ := List.pairwise_cons.1 hn
    by_cases e : x = k
    · subst e
      rw [List.filter_cons_of_pos hP, List.filter_cons_of_neg (by simp [hQ])]
      have : r.filter P = r.filter Q := List.filter_congr fun h hh => he h (List.mem_cons_of_mem _ hh) (fun e => h1 h hh (by rw [e]))
      rw [this]
    · have hk' : k ∈ r := (List.mem_cons.1 hk).resolve_left (fun e' => e e'.symm)
      have ih := ih h2 hk' (fun h hh => he h (List.mem_cons_of_mem _ hh))
      have hx := he x List.mem_cons_self e
      cases hPx : P x
      · rw [List.filter_cons_of_neg (by simp [hPx]), List.filter_cons_of_neg (by rw [← hx]; simp [hPx])]
        exact ih
      · rw [List.filter_cons_of_pos hPx, List.filter_cons_of_pos (by rw [← hx]; exact hPx)]
        exact (ih.cons x).trans (List.Perm.swap k x _)
theorem strike_self (k : Hk) (left : Lit → Bool) : (left (.string k.name.data.toList) && !(Lit.string k.name.data.toList).sameKey (.string k.name.data.toList)) = false := by
  rw [same_string]; simp
theorem strike_other {h k : Hk} (hne : h.name ≠ k.name) (left : Lit → Bool) : (left (.string h.name.data.toList) && !(Lit.string h.name.data.toList).sameKey (.string k.name.data.toList)) = left (.string h.name.data.toList) := by
  rw [same_string]
  have : (h.name.data.toList == k.name.data.toList) = false := by
    simp only [beq_eq_false_iff_ne]; exact fun e => hne (bytes_eq e)
  rw [this]; simp
/-- One more has come: it is put in its phase's row, if it is on. -/
theorem part_on {m : Int} {hs : List Hk} (hn : Names hs) {left : Lit → Bool} {f : Int → List Hk} (h : Part m hs left f) {k : Hk} (hk : k ∈ hs) (hl : left (.string k.name.data.toList) = true) (ho : onB m k = true) :
    Part m hs (fun z => left z && !z.sameKey (.string k.name.data.toList)) (fun q => if q = k.ph then f k.ph ++ [k] else f q) := by
  intro p hp
  by_cases e : p = k.ph
  · subst e
    simp only [if_true]
    refine (List.perm_append_comm.trans ?_)
    refine ((h k.ph hp).cons k).trans ?_
    refine (filter_one hn hk _ _ ?_ ?_ ?_).symm
    · simp only [strike_self]; simp [pick, ho]
    · simp [hl]
    · intro x hx hne
      rw [strike_other (fun e => hne (hn.eq hx hk e))]
  · simp only [if_neg e]
    refine (h p hp).trans (List.Perm.of_eq (List.filter_congr fun x hx => ?_))
    by_cases e2 : x = k
    · subst e2
      have : pick m p x = false := by
        unfold pick
        have : (x.ph == p) = false := by simpa using fun e3 : x.ph = p => e e3.symm
        rw [this]; rfl
      rw [this]; rfl
    · rw [strike_other (fun e => e2 (hn.eq hx hk e))]
theorem part_off {m : Int} {hs : List Hk} (hn : Names hs) {left : Lit → Bool} {f : Int → List Hk} (h : Part m hs left f) {k : Hk} (hk : k ∈ hs) (ho : onB m k = false) :
    Part m hs (fun z => left z && !z.sameKey (.string k.name.data.toList)) f := by
  intro p hp
  refine (h p hp).trans (List.Perm.of_eq (List.filter_congr fun x hx => ?_))
  by_cases e2 : x = k
  · subst e2
    have : pick m p x = false := by unfold pick; rw [ho]; simp
    rw [this]; rfl
  · show (pick m p x && !left (.string x.name.data.toList)) = (pick m p x && !(left (.string x.name.data.toList) && !(Lit.string x.name.data.toList).sameKey (.string k.name.data.toList)))
    rw [strike_other (fun e => e2 (hn.eq hx hk e))]
/-- Which rows are in order when these phases are still to come. -/
def Ord (m : Int) (hs : List Hk) (left : Lit → Bool) (f : Int → List Hk) : Prop :=
  ∀ p, wfI p → (f p).Perm (hs.filter (pick m p)) ∧ (left (.int .i64 p) = false → InOrder (f p))
theorem ord_start {m : Int} {hs : List Hk} {f : Int → List Hk} (h : ∀ p, wfI p → (f p).Perm (hs.filter (pick m p))) {left : Lit → Bool} (hl : ∀ p, wfI p → left (.int .i64 p) = !(f p).isEmpty) : Ord m hs left f := by
  intro p hp
  refine ⟨h p hp, fun e => ?_⟩
  rw [hl p hp] at e
  have : f p = [] := by simpa using e
  rw [this]; exact List.Pairwise.nil
theorem ord_step {m : Int} {hs : List Hk} {f : Int → List Hk} {left : Lit → Bool} (h : Ord m hs left f) {p : Int} {l' : List Hk} (hp : l'.Perm (f p)) (ho : InOrder l') :
    Ord m hs (fun z => left z && !z.sameKey (.int .i64 p)) (fun q => if q = p then l' else f q) := by
  intro q hq
  by_cases e : q = p
  · subst e
    simp only [if_true]
    exact ⟨hp.trans (h q hq).1, fun _ => ho⟩
  · simp only [if_neg e]
    refine ⟨(h q hq).1, fun e1 => (h q hq).2 ?_⟩
    have : (Lit.int .i64 q).sameKey (.int .i64 p) = false := by
      cases hs : (Lit.int .i64 q).sameKey (.int .i64 p)
      · rfl
      · have := WideAt.sameKey_eq hs
        injection this with _ h2
        exact absurd h2 e
    rw [this] at e1
    simpa using e1
theorem ord_end {m : Int} {hs : List Hk} (hn : Names hs) {f : Int → List Hk} {left : Lit → Bool} (h : Ord m hs left f) (hl : ∀ k, left k = false) : ∀ p, wfI p → f p = told m hs p :=
  fun p hp => told_eq hn (h p hp).1 ((h p hp).2 (hl _))
theorem PMap.congr {w : World} {b n : Nat} {D : DU} {V : Int → Value} {f f' : Int → List Hk} {N : Nat → Prop} (h : PMap w b n D V f N) (he : ∀ p, wfI p → f p = f' p) : PMap w b n D V f' N :=
  ⟨h.own, h.get, fun p hp => by rw [← he p hp]; exact h.has p hp, fun p hp => by rw [← he p hp]; exact h.row p hp, h.sep, h.new⟩
end Rg
end Go.Proofs.Ytemcahbpfjlnlaa
