/- Layer 6: the program's arena and the reference's side by side, and a box. -/
import Derived.Test.YtlpfffioidbkeaaTreeNN
import Derived.Test.YtlpfffioidbkeaaTreeRR
import Derived.Test.YtlpfffioidbkeaaTreeQQ
import Derived.Test.YtlpfffioidbkeaaTreeQ
import Derived.Test.YtlpfffioidbkeaaTreeDD
import Derived.Test.YtlpfffioidbkeaaTreeFF
import Derived.Test.YtlpfffioidbkeaaTreeS
namespace Go.Proofs.Ytlpfffioidbkeaa
open Go Go.RowKit
namespace Tr
set_option maxRecDepth 100000
set_option linter.unusedVariables false
set_option linter.unusedSimpArgs false

/-- What both arenas tell: how many nodes, their own fields, whose children are which. -/
structure Ab where
  n : Nat
  o : Nat → Own
  ch : Nat → List Nat
def LA (w : World) (X : Nat → Prop) (A : Nat) (s : Ab) : Prop := ∃ g cap S, X = two A g ∧ AR w A g cap S ∧ Good S s.ch ∧ S.n = s.n ∧ S.o = s.o
def RA (w : World) (Z : Nat → Prop) (R : Nat) (s : Ab) (k : Nat) : Prop := ∃ S h cap kv K, Z = three R h kv ∧ RR w R h cap s.n s.o kv K ∧ Good S s.ch ∧ S.n = s.n ∧ Lk S s.ch K ∧ K.length ≤ k
/-- Both, in blocks of their own, behind what lay in w; a box (b) that is neither's. -/
structure Two (w w' : World) (X Z : Nat → Prop) (A R : Nat) (s t : Ab) (k : Nat) (b : Nat) (cs : Array Value) (ty : TypeId) : Prop where
  l : LA w' X A s
  r : RA w' Z R t k
  lox : ∀ i, X i → w.heap.size ≤ i
  loz : ∀ i, Z i → w.heap.size ≤ i
  dis : ∀ i, X i → ¬ Z i
  on : Below w.heap.size w w'
  blk : Blk w' b cs ty
  nx : ¬ X b
  nz : ¬ Z b
  blo : w.heap.size ≤ b
def TB (w w' : World) (A R : Nat) (s t : Ab) (k : Nat) (b : Nat) (cs : Array Value) (ty : TypeId) : Prop := ∃ X Z, Two w w' X Z A R s t k b cs ty
/-- Both, no box. -/
def T0 (w w' : World) (A R : Nat) (s : Ab) (k : Nat) : Prop := ∃ X Z, LA w' X A s ∧ RA w' Z R s k ∧ (∀ i, X i → w.heap.size ≤ i) ∧ (∀ i, Z i → w.heap.size ≤ i) ∧ (∀ i, X i → ¬ Z i) ∧ Below w.heap.size w w'
section
variable {w w1 w2 : World} {X Z : Nat → Prop} {A R k b : Nat} {s t s' t' : Ab} {cs : Array Value} {ty : TypeId}
theorem LA.lt (h : LA w X A s) : ∀ i, X i → i < w.heap.size := by
  obtain ⟨g, cap, S, rfl, hA, _⟩ := h
  intro i hi
  rcases hi with rfl | rfl
  · exact hA.ltA
  · exact hA.ltg
theorem RA.lt (h : RA w Z R s k) : ∀ i, Z i → i < w.heap.size := by
  obtain ⟨S, h0, cap, kv, K, rfl, hR, _⟩ := h
  intro i hi
  rcases hi with rfl | rfl | hi
  · exact hR.ltR
  · exact hR.lth
  · exact hR.ltk hi
theorem LA.only {Y : Nat → Prop} (h : LA w1 X A s) (ho : Only Y w1 w2) (hd : ∀ i, X i → ¬ Y i) : LA w2 X A s := by
  obtain ⟨g, cap, S, rfl, hA, h2⟩ := h
  exact ⟨g, cap, S, rfl, hA.only ho (hd A (.inl rfl)) (hd g (.inr rfl)), h2⟩
theorem RA.only {Y : Nat → Prop} (h : RA w1 Z R s k) (ho : Only Y w1 w2) (hd : ∀ i, Z i → ¬ Y i) : RA w2 Z R s k := by
  obtain ⟨S, h0, cap, kv, K, rfl, hR, h2⟩ := h
  exact ⟨S, h0, cap, kv, K, rfl, hR.only ho hd, h2⟩
theorem Two.below (h : Two w w1 X Z A R s t k b cs ty) (hb : Below w1.heap.size w1 w2) : Two w w2 X Z A R s t k b cs ty :=
  ⟨h.l.only (Y := fun _ => False) (Only.of_below hb) (fun _ _ e => e), h.r.only (Y := fun _ => False) (Only.of_below hb) (fun _ _ e => e), h.lox, h.loz, h.dis, below_later h.on hb, h.blk.below hb, h.nx, h.nz, h.blo⟩
theorem blk_only {Y : Nat → Prop} (h : Blk w1 b cs ty) (ho : Only Y w1 w2) (hd : ¬ Y b) : Blk w2 b cs ty := (ho.block b h.lt hd).trans h
theorem Two.left {X' : Nat → Prop} (h : Two w w1 X Z A R s t k b cs ty) (hl : LA w2 X' A s') (ho : Only X w1 w2) (hn : ∀ i, X' i → X i ∨ w1.heap.size ≤ i) : Two w w2 X' Z A R s' t k b cs ty := by
  have hs := h.on.size
  refine ⟨hl, h.r.only ho (fun i hz hx => h.dis i hx hz), fun i hi => (hn i hi).elim (h.lox i) (fun e => Nat.le_trans hs e), h.loz, fun i hi hz => ?_, h.on.trans (ho.below hs h.lox), blk_only h.blk ho h.nx, fun hi => ?_, h.nz, h.blo⟩
  · rcases hn i hi with e | e
    · exact h.dis i e hz
    · have := h.r.lt i hz; omega
  · rcases hn b hi with e | e
    · exact h.nx e
    · have := h.blk.lt; omega
theorem Two.right {Z' : Nat → Prop} {k' : Nat} (h : Two w w1 X Z A R s t k b cs ty) (hr : RA w2 Z' R t' k') (ho : Only Z w1 w2) (hn : ∀ i, Z' i → Z i ∨ w1.heap.size ≤ i) : Two w w2 X Z' A R s t' k' b cs ty := by
  have hs := h.on.size
  refine ⟨h.l.only ho (fun i hx hz => h.dis i hx hz), hr, h.lox, fun i hi => (hn i hi).elim (h.loz i) (fun e => Nat.le_trans hs e), fun i hx hi => ?_, h.on.trans (ho.below hs h.loz), blk_only h.blk ho h.nz, h.nx, fun hi => ?_, h.blo⟩
  · rcases hn i hi with e | e
    · exact h.dis i hx e
    · have := h.l.lt i hx; omega
  · rcases hn b hi with e | e
    · exact h.nz e
    · have := h.blk.lt; omega
theorem Two.more {k' : Nat} (h : Two w w1 X Z A R s t k b cs ty) (hk : k ≤ k') : Two w w1 X Z A R s t k' b cs ty := by
  obtain ⟨S, h0, cap, kv, K, e, h1, h2, h3, h4, h5⟩ := h.r
  exact ⟨h.l, ⟨S, h0, cap, kv, K, e, h1, h2, h3, h4, Nat.le_trans h5 hk⟩, h.lox, h.loz, h.dis, h.on, h.blk, h.nx, h.nz, h.blo⟩
theorem TB.blk (h : TB w w1 A R s t k b cs ty) : Blk w1 b cs ty := by obtain ⟨X, Z, h⟩ := h; exact h.blk
theorem TB.on (h : TB w w1 A R s t k b cs ty) : Below w.heap.size w w1 := by obtain ⟨X, Z, h⟩ := h; exact h.on
theorem TB.below (h : TB w w1 A R s t k b cs ty) (hb : Below w1.heap.size w1 w2) : TB w w2 A R s t k b cs ty := by obtain ⟨X, Z, h⟩ := h; exact ⟨X, Z, h.below hb⟩
theorem TB.more {k' : Nat} (h : TB w w1 A R s t k b cs ty) (hk : k ≤ k') : TB w w1 A R s t k' b cs ty := by obtain ⟨X, Z, h⟩ := h; exact ⟨X, Z, h.more hk⟩
theorem TB.to0 (h : TB w w1 A R s s k b cs ty) : T0 w w1 A R s k := by obtain ⟨X, Z, h⟩ := h; exact ⟨X, Z, h.l, h.r, h.lox, h.loz, h.dis, h.on⟩
theorem T0.on (h : T0 w w1 A R s k) : Below w.heap.size w w1 := by obtain ⟨X, Z, _, _, _, _, _, h⟩ := h; exact h
theorem T0.box (h : T0 w w1 A R s k) (c : Array Value) (t0 : TypeId) : TB w (w1.alloc (.cells c t0)) A R s s k w1.heap.size c t0 := by
  obtain ⟨X, Z, h1, h2, h3, h4, h5, h6⟩ := h
  have hb : Below w1.heap.size w1 (w1.alloc (.cells c t0)) := (Below.refl _ _).alloc (Nat.le_refl _) _
  exact ⟨X, Z, h1.only (Y := fun _ => False) (Only.of_below hb) (fun _ _ e => e), h2.only (Y := fun _ => False) (Only.of_below hb) (fun _ _ e => e), h3, h4, h5, below_later h6 hb, Blk.new w1 c t0,
    fun hx => by have := h1.lt _ hx; omega, fun hz => by have := h2.lt _ hz; omega, h6.size⟩
theorem T0.new {g h0 : Nat} {q : Own} (hA : AR w1 A g 1 (Ar.one q)) (hR : RR w2 R h0 1 1 (fun _ => q) (.slice none 0 0) []) (h1 : w.heap.size ≤ A) (h2 : w.heap.size ≤ g) (h3 : w1.heap.size ≤ R) (h4 : w1.heap.size ≤ h0) (hw : Below w.heap.size w w1) (hb : Below w1.heap.size w1 w2) :
    T0 w w2 A R ⟨1, fun _ => q, fun _ => []⟩ 0 := by
  have hlA := hA.ltA
  have hlg := hA.ltg
  have hs := hw.size
  refine ⟨two A g, three R h0 (.slice none 0 0), ⟨g, 1, Ar.one q, rfl, hA.below hb, Good.one q, rfl, ?_⟩, ⟨Ar.one q, h0, 1, .slice none 0 0, [], rfl, hR, Good.one q, rfl, Lk.one q, Nat.le_refl _⟩, ?_, ?_, ?_, below_later hw hb⟩
  · rfl
  · rintro i (rfl | rfl)
    · exact h1
    · exact h2
  · rintro i (rfl | rfl | e)
    · omega
    · omega
    · cases e
  · rintro i (rfl | rfl) (e | e | e)
    · omega
    · omega
    · cases e
    · omega
    · omega
    · cases e
end

/-! ### one step of each -/
abbrev inR (s : Ab) (a : Int) : Prop := 0 ≤ a ∧ a < (s.n : Int)
def Ab.add (s : Ab) (a : Int) (q : Own) : Ab := if inR s a then ⟨s.n + 1, upd s.o s.n q, upd s.ch a.toNat (s.ch a.toNat ++ [s.n])⟩ else s
def addV (s : Ab) (a : Int) : Int := if inR s a then (s.n : Int) else -1
def Ab.set (s : Ab) (a : Int) (q : Own) : Ab := if inR s a then ⟨s.n, upd s.o a.toNat q, s.ch⟩ else s
def Ab.unl (s : Ab) (a : Int) : Ab := if inR s a then ⟨s.n, s.o, cut s.ch a.toNat⟩ else s
def parF (n : Nat) (ch : Nat → List Nat) (i : Nat) : Int := match (List.range n).find? (fun p => decide (i ∈ ch p)) with
  | some p => p
  | none => -1
theorem par_eq {S : Ar} {ch : Nat → List Nat} (hI : Inv S ch) {i : Nat} (hi : i < S.n) : S.par i = parF S.n ch i := by
  unfold parF
  cases hf : (List.range S.n).find? (fun p => decide (i ∈ ch p)) with
  | some p =>
    have h1 := List.find?_some hf
    have h2 := List.mem_range.1 (List.mem_of_find?_eq_some hf)
    exact hI.par p h2 i (of_decide_eq_true h1)
  | none =>
    refine (hI.alone i hi (fun p hp hm => ?_)).1
    have := List.find?_eq_none.1 hf p (List.mem_range.2 hp)
    exact this (decide_eq_true hm)
theorem parF_neg (n : Nat) (ch : Nat → List Nat) (i : Nat) : parF n ch i = -1 ∨ 0 ≤ parF n ch i := by
  unfold parF
  split
  · exact .inr (by omega)
  · exact .inl rfl
def unV (s : Ab) (a : Int) : Bool := decide (inR s a) && decide (parF s.n s.ch a.toNat ≠ -1)
def canP (s : Ab) (a p : Int) : Prop := inR s a ∧ inR s p ∧ a ≠ 0 ∧ ¬ Sub s.n s.ch a.toNat p.toNat
theorem can_iff {S : Ar} {s : Ab} (hn : S.n = s.n) (a p : Int) : can S s.ch a p ↔ canP s a p := by
  unfold can canP inR
  rw [hn]
def Ab.mov (s : Ab) (a p : Int) : Ab := ⟨s.n, s.o, moved s.ch a.toNat p.toNat⟩
theorem toN {a : Int} (h : 0 ≤ a) : ((a.toNat : Nat) : Int) = a := Int.toNat_of_nonneg h
section
variable {w w1 : World} {A R k b : Nat} {s t : Ab} {cs : Array Value} {ty : TypeId}
theorem Two.opL {X Z : Nat → Prop} {g : Nat} {S' : Ar} {s' : Ab} {w2 : World} (h : Two w w1 X Z A R s t k b cs ty) (hX : X = two A g) {g' cap' : Nat} (hA : AR w2 A g' cap' S') (hg : g' = g ∨ w1.heap.size ≤ g') (ho : Only (two A g) w1 w2) (hG : Good S' s'.ch) (hn : S'.n = s'.n) (hoo : S'.o = s'.o) : TB w w2 A R s' t k b cs ty := by
  subst hX
  refine ⟨two A g', Z, h.left ⟨g', cap', S', rfl, hA, hG, hn, hoo⟩ ho ?_⟩
  rintro i (rfl | rfl)
  · exact .inl (.inl rfl)
  · rcases hg with rfl | e
    · exact .inl (.inr rfl)
    · exact .inr e
theorem Two.opR {X Z : Nat → Prop} {h0 k' : Nat} {kv : Value} {S' : Ar} {t' : Ab} {K' : List (Nat × Nat)} {w2 : World} (h : Two w w1 X Z A R s t k b cs ty) (hZ : Z = three R h0 kv) (hO : OpR w1 w2 R h0 kv t'.n t'.o K') (hG : Good S' t'.ch) (hn : S'.n = t'.n) (hL : Lk S' t'.ch K') (hk : K'.length ≤ k') : TB w w2 A R s t' k' b cs ty := by
  subst hZ
  obtain ⟨h', cap', kv', a1, a2, a3, a4⟩ := hO
  refine ⟨X, three R h' kv', h.right ⟨S', h', cap', kv', K', rfl, a1, hG, hn, hL, hk⟩ a4 ?_⟩
  rintro i (rfl | rfl | e)
  · exact .inl (.inl rfl)
  · rcases a2 with rfl | e
    · exact .inl (.inr (.inl rfl))
    · exact .inr e
  · rcases a3 i e with e | e
    · exact .inl (.inr (.inr e))
    · exact .inr e
theorem TB.addL (h : TB w w1 A R s t k b cs ty) (a : Int) (q : Own) (la : Option Addr) (ln lc : Nat) (h1 : q.s.size ≤ 281474976710656) (h2 : q.t.size ≤ 281474976710656) (hn9 : s.n ≤ 1000000000) :
    Calls Try.prog 13 #[ptr A, .int .i64 a, nodeV q (.slice la ln lc)] w1 fun e w' => e = .returned (.int .i64 (addV s a)) ∧ TB w w' A R (s.add a q) t k b cs ty := by
  obtain ⟨X, Z, h⟩ := h
  obtain ⟨g, cap, S, hX, hA, hG, hn, ho⟩ := h.l
  unfold addV Ab.add
  by_cases hi : inR s a
  · rw [if_pos hi, if_pos hi]
    have hp : a.toNat < S.n := by have := hi.2; have := toN hi.1; omega
    have := add_any hA hp (by omega) (hG.inv.lastOk hp) q la ln lc h1 h2
    rw [toN hi.1] at this
    refine this.mono ?_
    rintro e w' ⟨rfl, g', cap', b1, b2, b3⟩
    refine ⟨by rw [hn], h.opL hX b1 b2 b3 ?_ ?_ ?_⟩
    · rw [← hn]; exact hG.added hp q
    · rw [hang_n]; show S.n + 1 = s.n + 1; rw [hn]
    · rw [hang_o]; show upd S.o S.n q = _; rw [hn, ho]
  · rw [if_neg hi, if_neg hi]
    refine (add_out hA (fun e => hi ⟨e.1, by rw [← hn]; exact e.2⟩) q la ln lc).mono ?_
    rintro e w' ⟨rfl, hb⟩
    exact ⟨rfl, X, Z, h.below hb⟩
theorem TB.addR (h : TB w w1 A R s t k b cs ty) (a : Int) (q : Own) (la : Option Addr) (ln lc : Nat) (hn9 : t.n ≤ 1000000000) (hk9 : k ≤ 1000000000) :
    Calls Try.prog 14 #[ptr R, .int .i64 a, nodeV q (.slice la ln lc)] w1 fun e w' => e = .returned (.int .i64 (addV t a)) ∧ TB w w' A R s (t.add a q) (k + 1) b cs ty := by
  obtain ⟨X, Z, h⟩ := h
  obtain ⟨S, h0, cap, kv, K, hZ, hR, hG, hn, hL, hK⟩ := h.r
  unfold addV Ab.add
  by_cases hi : inR t a
  · rw [if_pos hi, if_pos hi]
    have hp : a.toNat < t.n := by have := hi.2; have := toN hi.1; omega
    have := radd_in hR hp hn9 (by omega) q la ln lc
    rw [toN hi.1] at this
    refine this.mono ?_
    rintro e w' ⟨rfl, hO⟩
    refine ⟨rfl, h.opR (S' := (S.push q).hang S.n a.toNat) (t' := ⟨t.n + 1, upd t.o t.n q, upd t.ch a.toNat (t.ch a.toNat ++ [t.n])⟩) hZ hO ?_ ?_ ?_ ?_⟩
    · rw [← hn]; exact hG.added (by omega) q
    · rw [hang_n]; show S.n + 1 = t.n + 1; rw [hn]
    · rw [← hn]; exact hL.add hG.inv (by omega) (by rw [hang_n]; rfl)
    · rw [List.length_append]; simp; omega
  · rw [if_neg hi, if_neg hi]
    refine (radd_out hR (fun e => hi e) q la ln lc).mono ?_
    rintro e w' ⟨rfl, hb⟩
    exact ⟨rfl, X, Z, (h.below hb).more (Nat.le_succ k)⟩
end
end Tr
end Go.Proofs.Ytlpfffioidbkeaa
