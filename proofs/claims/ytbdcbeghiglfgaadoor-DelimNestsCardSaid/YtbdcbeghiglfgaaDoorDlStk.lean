/- Layer 13: a stack of openers by kind finds what the document looks for. Plain mathematics. -/
import Derived.Test.YtbdcbeghiglfgaaDoorDlPure
set_option linter.unusedVariables false
set_option linter.unusedSimpArgs false
set_option maxRecDepth 100000
namespace Go.Proofs.YtbdcbeghiglfgaaDoor
namespace Dl

/-- An opener: its block, its place, how many signs it has left. -/
structure Opn where
  b : Nat
  p : Nat
  l : Nat
/-- What an opener has in common with what may close it. -/
def kn (r : Rn) : UInt8 × Int := (r.c, if r.c = 126 then r.n else 0)
/-- May an opener be closed by a run of its kind? -/
def fitsP (a b : Rn) : Bool := decide (a.c = 126) || (!a.k && !b.o) || decide ((a.n + b.n) % 3 ≠ 0) || decide (a.n % 3 = 0)
def Til (L : List Rn) (f : Nat → Nat) : Prop := ∀ j, (rn L j).c = 126 → f j = 0 ∨ f j = cap (rn L j)
/-- The runs below i that may open and have signs left, the nearest first. -/
structure Stk (L : List Rn) (f : Nat → Nat) (i : Nat) (S : List Opn) : Prop where
  desc : S.Pairwise (fun x y => y.p < x.p)
  mem : ∀ x ∈ S, x.p < i ∧ (rn L x.p).o = true ∧ 1 ≤ x.l ∧ x.l = f x.p
  all : ∀ j, j < i → (rn L j).o = true → 1 ≤ f j → ∃ x ∈ S, x.p = j
theorem cap_pos {r : Rn} (h : 1 ≤ cap r) : 1 ≤ r.n ∧ r.n ≤ 1073741824 ∧ (cap r : Int) = r.n := by
  unfold cap at h ⊢
  split at h
  · rename_i h1
    rw [if_pos h1]
    omega
  · omega
theorem cap_le (r : Rn) : cap r ≤ 1073741824 := by
  unfold cap
  split
  · omega
  · omega
theorem fit_is {L : List Rn} {f : Nat → Nat} {i j : Nat} (hT : Til L f) (ho : (rn L j).o = true) (hj : 1 ≤ f j) (hi : 1 ≤ f i) (hk : (rn L i).k = true) :
    fit (rn L j) (rn L i) (f j) (f i) = (decide (kn (rn L j) = kn (rn L i)) && fitsP (rn L j) (rn L i)) := by
  unfold fit kn fitsP
  rw [ho, decide_eq_true hj, decide_eq_true hi]
  simp only [Bool.and_true, Prod.mk.injEq]
  by_cases hc : (rn L j).c = (rn L i).c
  · rw [hc]
    by_cases h126 : (rn L i).c = 126
    · simp only [h126, if_true, true_and, decide_true, Bool.true_or, Bool.and_true, Bool.true_and]
      have e1 := hT j (hc.trans h126)
      have e2 := hT i h126
      have c1 : f j = cap (rn L j) := by omega
      have c2 : f i = cap (rn L i) := by omega
      have p1 := cap_pos (r := rn L j) (by omega)
      have p2 := cap_pos (r := rn L i) (by omega)
      by_cases hn : (rn L j).n = (rn L i).n
      · rw [decide_eq_true hn, decide_eq_true (by omega)]
      · rw [decide_eq_false hn, decide_eq_false (by omega)]
    · simp only [h126, if_false, and_self, decide_true, decide_false, Bool.false_or, Bool.true_and]
      unfold three
      rw [hk, ho]
      simp only [Bool.true_and, Bool.and_true]
      by_cases h3 : ((rn L j).n + (rn L i).n) % 3 = 0
      · by_cases ha : (rn L j).n % 3 = 0
        · have hb : (rn L i).n % 3 = 0 := by omega
          simp [h3, ha, hb]
        · simp [h3, ha]
      · simp [h3]
  · simp [hc]
/-- What the program finds. -/
def fnd (L : List Rn) (S : List Opn) (i : Nat) : Option Opn := S.find? (fun x => decide (kn (rn L x.p) = kn (rn L i)) && fitsP (rn L x.p) (rn L i))
theorem find_split {α : Type} {q : α → Bool} : ∀ {l : List α} {x : α}, l.find? q = some x → ∃ A B, l = A ++ x :: B ∧ q x = true ∧ ∀ a ∈ A, q a = false
  | [], x, h => by cases h
  | y :: r, x, h => by
    by_cases hy : q y = true
    · rw [List.find?_cons_of_pos hy] at h
      injection h with h
      subst h
      exact ⟨[], r, rfl, hy, fun a ha => by cases ha⟩
    · rw [List.find?_cons_of_neg hy] at h
      obtain ⟨A, B, rfl, h1, h2⟩ := find_split h
      refine ⟨y :: A, B, rfl, h1, fun a ha => ?_⟩
      rcases List.mem_cons.1 ha with rfl | ha
      · simpa using hy
      · exact h2 a ha
theorem desc_split {A B : List Opn} {x : Opn} (h : (A ++ x :: B).Pairwise (fun x y => y.p < x.p)) : (∀ a ∈ A, x.p < a.p) ∧ (∀ b ∈ B, b.p < x.p) ∧ B.Pairwise (fun x y => y.p < x.p) := by
  obtain ⟨_, h2, h3⟩ := List.pairwise_append.1 h
  obtain ⟨h4, h5⟩ := List.pairwise_cons.1 h2
  exact ⟨fun a ha => h3 a ha x (by simp), h4, h5⟩
theorem fnd_some {L : List Rn} {f : Nat → Nat} {i : Nat} {S : List Opn} {x : Opn} (hS : Stk L f i S) (hT : Til L f) (hk : (rn L i).k = true) (hi : 1 ≤ f i) (h : fnd L S i = some x) : look L f i i = some x.p := by
  obtain ⟨A, B, rfl, hq, hA⟩ := find_split h
  obtain ⟨d1, d2, _⟩ := desc_split hS.desc
  obtain ⟨m1, m2, m3, m4⟩ := hS.mem x (by simp)
  refine look_is x.p m1 (by rw [fit_is hT m2 (by omega) hi hk]; exact hq) fun j h1 h2 => ?_
  cases hf : fit (rn L j) (rn L i) (f j) (f i) with
  | false => rfl
  | true =>
    obtain ⟨_, p2, p3, _⟩ := fit_parts hf
    obtain ⟨y, hy, rfl⟩ := hS.all j h2 p2 p3
    rw [fit_is hT p2 p3 hi hk] at hf
    rcases List.mem_append.1 hy with hy | hy
    · rw [hA y hy] at hf; cases hf
    · rcases List.mem_cons.1 hy with rfl | hy
      · omega
      · have := d2 y hy; omega
theorem fnd_none {L : List Rn} {f : Nat → Nat} {i : Nat} {S : List Opn} (hS : Stk L f i S) (hT : Til L f) (hk : (rn L i).k = true) (hi : 1 ≤ f i) (h : fnd L S i = none) : look L f i i = none := by
  refine look_no fun j hj => ?_
  cases hf : fit (rn L j) (rn L i) (f j) (f i) with
  | false => rfl
  | true =>
    obtain ⟨_, p2, p3, _⟩ := fit_parts hf
    obtain ⟨y, hy, rfl⟩ := hS.all j hj p2 p3
    rw [fit_is hT p2 p3 hi hk] at hf
    have := List.find?_eq_none.1 h y hy
    exact absurd hf this
/-- The kind's own row, gone through. -/
def ofK (L : List Rn) (S : List Opn) (k : UInt8 × Int) : List Opn := S.filter fun x => decide (kn (rn L x.p) = k)
theorem fnd_kind (L : List Rn) (S : List Opn) (i : Nat) : fnd L S i = (ofK L S (kn (rn L i))).find? (fun x => fitsP (rn L x.p) (rn L i)) := by
  unfold fnd ofK
  induction S with
  | nil => rfl
  | cons x S ih =>
    by_cases h : kn (rn L x.p) = kn (rn L i)
    · rw [List.filter_cons_of_pos (by simpa using h)]
      by_cases h2 : fitsP (rn L x.p) (rn L i) = true
      · rw [List.find?_cons_of_pos (by simp [h, h2]), List.find?_cons_of_pos (p := fun x : Opn => fitsP (rn L x.p) (rn L i)) h2]
      · rw [List.find?_cons_of_neg (by simp [h, h2]), List.find?_cons_of_neg (p := fun x : Opn => fitsP (rn L x.p) (rn L i)) h2, ih]
    · rw [List.filter_cons_of_neg (by simpa using h), List.find?_cons_of_neg (by simp [h]), ih]
theorem ofK_cons (L : List Rn) (x : Opn) (S : List Opn) (k : UInt8 × Int) : ofK L (x :: S) k = if kn (rn L x.p) = k then x :: ofK L S k else ofK L S k := by
  unfold ofK
  by_cases h : kn (rn L x.p) = k
  · rw [List.filter_cons_of_pos (by simpa using h), if_pos h]
  · rw [List.filter_cons_of_neg (by simpa using h), if_neg h]
theorem mem_ofK {L : List Rn} {S : List Opn} {k : UInt8 × Int} {x : Opn} : x ∈ ofK L S k ↔ x ∈ S ∧ kn (rn L x.p) = k := by
  unfold ofK
  rw [List.mem_filter, decide_eq_true_eq]

/-- Up to where nothing is to be looked for again. -/
def Dn (L : List Rn) (S : List Opn) (i : Nat) (G : UInt8 × Int → Bool → Int → Nat) : Prop :=
  ∀ k o r, G k o r ≤ i ∧ ∀ x ∈ S, x.p < G k o r → kn (rn L x.p) = k → ∀ b : Rn, b.n % 3 = r → b.o = o → fitsP (rn L x.p) b = false
def putG (G : UInt8 × Int → Bool → Int → Nat) (k : UInt8 × Int) (o : Bool) (r : Int) (i : Nat) : UInt8 × Int → Bool → Int → Nat := fun k' o' r' => if k' = k ∧ o' = o ∧ r' = r then i else G k' o' r'
theorem Dn.next {L : List Rn} {S : List Opn} {i : Nat} {G : UInt8 × Int → Bool → Int → Nat} (h : Dn L S i G) : Dn L S (i + 1) G := fun k o r => ⟨Nat.le_succ_of_le (h k o r).1, (h k o r).2⟩
theorem Dn.push {L : List Rn} {S : List Opn} {i : Nat} {G : UInt8 × Int → Bool → Int → Nat} (h : Dn L S i G) {x : Opn} (hx : x.p = i) : Dn L (x :: S) (i + 1) G := fun k o r => ⟨Nat.le_succ_of_le (h k o r).1, fun y hy hp => by
  rcases List.mem_cons.1 hy with rfl | hy
  · have := (h k o r).1; omega
  · exact (h k o r).2 y hy hp⟩
theorem Dn.sub {L : List Rn} {S S' : List Opn} {i : Nat} {G : UInt8 × Int → Bool → Int → Nat} (h : Dn L S i G) (hs : ∀ x ∈ S', ∃ y ∈ S, y.p = x.p) : Dn L S' i G := fun k o r => ⟨(h k o r).1, fun x hx hp => by
  obtain ⟨y, hy, e⟩ := hs x hx
  rw [← e] at hp ⊢
  exact (h k o r).2 y hy hp⟩
theorem fitsP_as {a b b' : Rn} (h1 : b'.n % 3 = b.n % 3) (h2 : b'.o = b.o) : fitsP a b' = fitsP a b := by
  unfold fitsP
  have e : (a.n + b'.n) % 3 = (a.n + b.n) % 3 := by omega
  rw [e, h2]
theorem Dn.put {L : List Rn} {S : List Opn} {i : Nat} {G : UInt8 × Int → Bool → Int → Nat} (h : Dn L S i G) (hf : fnd L S i = none) : Dn L S i (putG G (kn (rn L i)) (rn L i).o ((rn L i).n % 3) i) := by
  intro k o r
  unfold putG
  split
  · rename_i hc
    obtain ⟨rfl, rfl, rfl⟩ := hc
    refine ⟨Nat.le_refl _, fun x hx _ hk b hb ho => ?_⟩
    have := List.find?_eq_none.1 hf x hx
    rw [fitsP_as hb ho]
    simpa [hk] using this
  · exact h k o r
/-- Where the search stops, it finds nothing. -/
theorem Dn.stop {L : List Rn} {S A R : List Opn} {i : Nat} {G : UInt8 × Int → Bool → Int → Nat} (h : Dn L S i G) (hd : S.Pairwise (fun x y => y.p < x.p)) (he : ofK L S (kn (rn L i)) = A ++ R) (hA : ∀ a ∈ A, fitsP (rn L a.p) (rn L i) = false)
    (hR : ∀ x R', R = x :: R' → x.p < G (kn (rn L i)) (rn L i).o ((rn L i).n % 3)) : fnd L S i = none := by
  rw [fnd_kind, he, List.find?_eq_none]
  have hd' : (A ++ R).Pairwise (fun x y : Opn => y.p < x.p) := he ▸ hd.filter _
  intro y hy
  rcases List.mem_append.1 hy with hy | hy
  · rw [hA y hy]; simp
  · cases R with
    | nil => cases hy
    | cons x R' =>
      have hx := hR x R' rfl
      obtain ⟨_, d2, _⟩ := desc_split hd'
      have hlt : y.p < G (kn (rn L i)) (rn L i).o ((rn L i).n % 3) := by
        rcases List.mem_cons.1 hy with rfl | hy
        · exact hx
        · have := d2 y hy; omega
      have hm := mem_ofK.1 (show y ∈ ofK L S (kn (rn L i)) by rw [he]; exact List.mem_append.2 (.inr hy))
      rw [(h _ _ _).2 y hm.1 hlt hm.2 _ rfl rfl]; simp
theorem fnd_here {L : List Rn} {S A R : List Opn} {i : Nat} {x : Opn} (he : ofK L S (kn (rn L i)) = A ++ x :: R) (hA : ∀ a ∈ A, fitsP (rn L a.p) (rn L i) = false) (hx : fitsP (rn L x.p) (rn L i) = true) : fnd L S i = some x := by
  rw [fnd_kind, he, List.find?_append, List.find?_eq_none.2 (fun a ha => by rw [hA a ha]; simp), List.find?_cons_of_pos (p := fun x : Opn => fitsP (rn L x.p) (rn L i)) hx]
  rfl

/-! ### the stack goes on -/
theorem Stk.zero (L : List Rn) (f : Nat → Nat) : Stk L f 0 [] := ⟨List.Pairwise.nil, fun x hx => (by cases hx), fun j hj => (by omega)⟩
theorem Stk.congr {L : List Rn} {f g : Nat → Nat} {i : Nat} {S : List Opn} (h : Stk L f i S) (e : ∀ j, j < i → g j = f j) : Stk L g i S :=
  ⟨h.desc, fun x hx => ⟨(h.mem x hx).1, (h.mem x hx).2.1, (h.mem x hx).2.2.1, (h.mem x hx).2.2.2.trans (e _ (h.mem x hx).1).symm⟩, fun j hj ho h1 => h.all j hj ho (by rw [← e j hj]; exact h1)⟩
theorem Stk.skip {L : List Rn} {f : Nat → Nat} {i : Nat} {S : List Opn} (h : Stk L f i S) (e : (rn L i).o = false ∨ f i = 0) : Stk L f (i + 1) S :=
  ⟨h.desc, fun x hx => ⟨Nat.lt_succ_of_lt (h.mem x hx).1, (h.mem x hx).2⟩, fun j hj ho h1 => by
    by_cases hji : j = i
    · subst hji
      rcases e with e | e
      · rw [e] at ho; cases ho
      · omega
    · exact h.all j (by omega) ho h1⟩
theorem Stk.push {L : List Rn} {f : Nat → Nat} {i : Nat} {S : List Opn} (h : Stk L f i S) (ho : (rn L i).o = true) (h1 : 1 ≤ f i) (b : Nat) : Stk L f (i + 1) (⟨b, i, f i⟩ :: S) :=
  ⟨List.pairwise_cons.2 ⟨fun y hy => (h.mem y hy).1, h.desc⟩, fun x hx => by
    rcases List.mem_cons.1 hx with rfl | hx
    · exact ⟨Nat.lt_succ_self _, ho, h1, rfl⟩
    · exact ⟨Nat.lt_succ_of_lt (h.mem x hx).1, (h.mem x hx).2⟩, fun j hj hoj h1j => by
    by_cases hji : j = i
    · subst hji; exact ⟨_, List.mem_cons_self, rfl⟩
    · obtain ⟨x, hx, e⟩ := h.all j (by omega) hoj h1j
      exact ⟨x, by simp [hx], e⟩⟩
/-- What stands when an opener has given so many. -/
def rest (x : Opn) (n : Nat) (B : List Opn) : List Opn := if x.l - n = 0 then B else ⟨x.b, x.p, x.l - n⟩ :: B
theorem Stk.pair {L : List Rn} {f : Nat → Nat} {i n : Nat} {A B : List Opn} {x : Opn} (h : Stk L f i (A ++ x :: B)) : Stk L (paired f x.p i n) i (rest x n B) := by
  obtain ⟨d1, d2, d3⟩ := desc_split h.desc
  obtain ⟨m1, m2, m3, m4⟩ := h.mem x (by simp)
  obtain ⟨q1, q2, q3, q4⟩ := paired_at (f := f) (n := n) m1
  have hB : ∀ y ∈ B, y.p < i ∧ (rn L y.p).o = true ∧ 1 ≤ y.l ∧ y.l = paired f x.p i n y.p := fun y hy => by
    have := h.mem y (by simp [hy])
    rw [q4 y.p (.inl (d2 y hy))]
    exact this
  have hall : ∀ j, j < x.p → (rn L j).o = true → 1 ≤ paired f x.p i n j → ∃ y ∈ B, y.p = j := fun j hj ho h1 => by
    rw [q4 j (.inl hj)] at h1
    obtain ⟨y, hy, e⟩ := h.all j (by omega) ho h1
    rcases List.mem_append.1 hy with hy | hy
    · have := d1 y hy; omega
    · rcases List.mem_cons.1 hy with rfl | hy
      · omega
      · exact ⟨y, hy, e⟩
  unfold rest
  split
  · rename_i h0
    refine ⟨d3, hB, fun j hj ho h1 => ?_⟩
    rcases Nat.lt_trichotomy j x.p with h2 | h2 | h2
    · exact hall j h2 ho h1
    · subst h2; rw [q2] at h1; omega
    · rw [q3 j h2 hj] at h1; omega
  · rename_i h0
    refine ⟨List.pairwise_cons.2 ⟨fun y hy => d2 y hy, d3⟩, fun y hy => ?_, fun j hj ho h1 => ?_⟩
    · rcases List.mem_cons.1 hy with rfl | hy
      · exact ⟨m1, m2, by show 1 ≤ x.l - n; omega, by show x.l - n = _; rw [q2, m4]⟩
      · exact hB y hy
    · rcases Nat.lt_trichotomy j x.p with h2 | h2 | h2
      · obtain ⟨y, hy, e⟩ := hall j h2 ho h1
        exact ⟨y, by simp [hy], e⟩
      · exact ⟨_, List.mem_cons_self, h2.symm⟩
      · rw [q3 j h2 hj] at h1; omega
theorem rest_sub {x : Opn} {n : Nat} {A B : List Opn} : ∀ y ∈ rest x n B, ∃ z ∈ A ++ x :: B, z.p = y.p := by
  intro y hy
  unfold rest at hy
  split at hy
  · exact ⟨y, by simp [hy], rfl⟩
  · rcases List.mem_cons.1 hy with rfl | hy
    · exact ⟨x, by simp, rfl⟩
    · exact ⟨y, by simp [hy], rfl⟩
theorem Til.caps (L : List Rn) : Til L (caps L) := fun j _ => .inr rfl
theorem Til.upd {L : List Rn} {f : Nat → Nat} (h : Til L f) (i : Nat) : Til L (upd f i 0) := fun j hj => by
  unfold Dl.upd
  split
  · exact .inl rfl
  · exact h j hj
theorem Til.pair {L : List Rn} {f : Nat → Nat} {i k : Nat} (h : Til L f) (hl : look L f i i = some k) : Til L (paired f k i (amount L f k i)) := by
  obtain ⟨h1, h2, _⟩ := look_some hl
  obtain ⟨q1, q2, q3, q4⟩ := paired_at (f := f) (n := amount L f k i) h1
  obtain ⟨p1, _, _, _, p5⟩ := fit_parts h2
  have ha : (rn L i).c = 126 → amount L f k i = f i := fun e => by unfold amount; rw [if_pos e]
  intro j hj
  rcases Nat.lt_trichotomy j k with h3 | h3 | h3
  · rw [q4 j (.inl h3)]; exact h j hj
  · subst h3
    left
    rw [q2, ha (p1 ▸ hj), p5 hj]; omega
  · rcases Nat.lt_trichotomy j i with h4 | h4 | h4
    · exact .inl (q3 j h3 h4)
    · subst h4
      left
      rw [q1, ha hj]; omega
    · rw [q4 j (.inr h4)]; exact h j hj
/-- How many a pair takes, as the program says it. -/
def takes (c : UInt8) (m n : Nat) : Nat := if c = 126 then n else if 2 ≤ m ∧ 2 ≤ n then 2 else 1
theorem amount_takes (L : List Rn) (f : Nat → Nat) (k i : Nat) : amount L f k i = takes (rn L i).c (f k) (f i) := rfl
end Dl
end Go.Proofs.YtbdcbeghiglfgaaDoor
