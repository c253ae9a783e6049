/- Layer 7: the program's registry and the reference's side by side, and a box. -/
import Derived.Test.YtemcahbpfjlnlaaRegV
namespace Go.Proofs.Ytemcahbpfjlnlaa
open Go Go.RowKit
namespace Rg
set_option maxRecDepth 100000
set_option linter.unusedVariables false
set_option linter.unusedSimpArgs false

/-- The program's registry (A) and the reference's (T) in blocks of their own, behind what lay in w; a box (g) that is neither's. -/
structure Dual (w w' : World) (X : Nat → Prop) (Z : Nat → Prop) (A T : Nat) (m : Int) (hs : List Hk) (sl : Bool) (st : Int) (hs2 : List Hk) (sl2 : Bool) (st2 : Int) (g : Nat) (cs : Array Value) (ty : TypeId) : Prop where
  a : At w w' X A m hs sl st
  r : RF w' Z T m hs2 sl2 st2
  lo : ∀ k, Z k → w.heap.size ≤ k
  dis : ∀ k, X k → ¬ Z k
  blk : Blk w' g cs ty
  nx : ¬ X g
  nz : ¬ Z g
  glo : w.heap.size ≤ g
section
variable {w w1 w2 : World} {X Z : Nat → Prop} {A T g : Nat} {m : Int} {hs hs2 : List Hk} {sl sl2 : Bool} {st st2 : Int} {cs : Array Value} {ty : TypeId}
theorem Dual.below (h : Dual w w1 X Z A T m hs sl st hs2 sl2 st2 g cs ty) (hb : Below w1.heap.size w1 w2) : Dual w w2 X Z A T m hs sl st hs2 sl2 st2 g cs ty :=
  ⟨h.a.then_below hb, h.r.below hb, h.lo, h.dis, h.blk.below hb, h.nx, h.nz, h.glo⟩
theorem Dual.left (h : Dual w w1 X Z A T m hs sl st hs2 sl2 st2 g cs ty) {X' : Nat → Prop} {hs' : List Hk} {sl' : Bool} {st' : Int} (h2 : RB w2 X' A m hs' sl' st') (ho : Only X w1 w2) (hn : ∀ k, X' k → X k ∨ w1.heap.size ≤ k) :
    Dual w w2 X' Z A T m hs' sl' st' hs2 sl2 st2 g cs ty := by
  have hon : Below w.heap.size w w2 := h.a.on.trans (ho.below h.a.on.size h.a.lo)
  refine ⟨⟨h2, fun k hk => (hn k hk).elim (h.a.lo k) fun e => Nat.le_trans h.a.on.size e, hon⟩, h.r.only ho fun k hk hx => h.dis k hx hk, h.lo, fun k hk hy => ?_, h.blk.only ho h.nx, fun hk => ?_, h.nz, h.glo⟩
  · rcases hn k hk with e | e
    · exact h.dis k e hy
    · have := h.r.lt k hy; omega
  · rcases hn g hk with e | e
    · exact h.nx e
    · have := h.blk.lt; omega
theorem Dual.right (h : Dual w w1 X Z A T m hs sl st hs2 sl2 st2 g cs ty) {Z' : Nat → Prop} {hs' : List Hk} {sl' : Bool} {st' : Int} (h2 : RF w2 Z' T m hs' sl' st') (ho : Only Z w1 w2) (hn : ∀ k, Z' k → Z k ∨ w1.heap.size ≤ k) :
    Dual w w2 X Z' A T m hs sl st hs' sl' st' g cs ty := by
  have hon : Below w.heap.size w w2 := h.a.on.trans (ho.below h.a.on.size h.lo)
  refine ⟨⟨h.a.rb.only ho fun k hk hz => h.dis k hk hz, h.a.lo, hon⟩, h2, fun k hk => (hn k hk).elim (h.lo k) fun e => Nat.le_trans h.a.on.size e, fun k hk hy => ?_, h.blk.only ho h.nz, h.nx, fun hk => ?_, h.glo⟩
  · rcases hn k hy with e | e
    · exact h.dis k hk e
    · have := h.a.rb.lt k hk; omega
  · rcases hn g hk with e | e
    · exact h.nz e
    · have := h.blk.lt; omega
end
/-- The same, the blocks not named. -/
def DS (w w' : World) (A T : Nat) (m : Int) (hs : List Hk) (sl : Bool) (st : Int) (hs2 : List Hk) (sl2 : Bool) (st2 : Int) (g : Nat) (cs : Array Value) (ty : TypeId) : Prop :=
  ∃ X Z, Dual w w' X Z A T m hs sl st hs2 sl2 st2 g cs ty
/-- .. and a slice that lies in neither. -/
def DV (w w' : World) (A T : Nat) (m : Int) (hs : List Hk) (sl : Bool) (st : Int) (hs2 : List Hk) (sl2 : Bool) (st2 : Int) (g : Nat) (cs : Array Value) (ty : TypeId) (v : Value) (l : List Hk) : Prop :=
  ∃ X Z, Dual w w' X Z A T m hs sl st hs2 sl2 st2 g cs ty ∧ Hooks w' v l ∧ ∀ b off n c, v = .slice (some ⟨b, off, none⟩) n c → ¬ X b ∧ ¬ Z b
section
variable {w w1 : World} {A T g : Nat} {m : Int} {hs hs2 : List Hk} {sl sl2 : Bool} {st st2 : Int} {cs : Array Value} {ty : TypeId} {v : Value} {l : List Hk}
theorem DS.blk (h : DS w w1 A T m hs sl st hs2 sl2 st2 g cs ty) : Blk w1 g cs ty := by obtain ⟨X, Z, h⟩ := h; exact h.blk
theorem DV.ds (h : DV w w1 A T m hs sl st hs2 sl2 st2 g cs ty v l) : DS w w1 A T m hs sl st hs2 sl2 st2 g cs ty := by obtain ⟨X, Z, h, _⟩ := h; exact ⟨X, Z, h⟩
theorem DS.on (h : DS w w1 A T m hs sl st hs2 sl2 st2 g cs ty) : Below w.heap.size w w1 := by obtain ⟨X, Z, h⟩ := h; exact h.a.on
theorem DS.below (h : DS w w1 A T m hs sl st hs2 sl2 st2 g cs ty) {w2 : World} (hb : Below w1.heap.size w1 w2) : DS w w2 A T m hs sl st hs2 sl2 st2 g cs ty := by obtain ⟨X, Z, h⟩ := h; exact ⟨X, Z, h.below hb⟩
theorem DS.addL (h : DS w w1 A T m hs sl st hs2 sl2 st2 g cs ty) (x : Hk) (hx : HkOk x) (hl : hs.length < 1000000) :
    Calls Try.prog 13 #[ptr A, hookV x] w1 fun e w' => e = .returned (.bool (fresh hs sl x)) ∧ DS w w' A T m (if fresh hs sl x then hs ++ [x] else hs) sl st hs2 sl2 st2 g cs ty := by
  obtain ⟨X, Z, h⟩ := h
  refine (add_any h.a.rb x hx hl).mono ?_
  rintro e w' ⟨rfl, h1, h2⟩
  exact ⟨rfl, X, Z, h.left h1 h2 fun k hk => .inl hk⟩
theorem DS.addR (h : DS w w1 A T m hs sl st hs2 sl2 st2 g cs ty) (x : Hk) (hl : hs2.length ≤ 1000000) :
    Calls Try.prog 14 #[ptr T, hookV x] w1 fun e w' => e = .returned (.bool (fresh hs2 sl2 x)) ∧ DS w w' A T m hs sl st (if fresh hs2 sl2 x then hs2 ++ [x] else hs2) sl2 st2 g cs ty := by
  obtain ⟨X, Z, h⟩ := h
  refine (radd_any h.r x hl).mono ?_
  rintro e w' ⟨rfl, ⟨Z', h1, h3⟩, h2⟩
  exact ⟨rfl, X, Z', h.right h1 h2 h3⟩
theorem DS.hasL (h : DS w w1 A T m hs sl st hs2 sl2 st2 g cs ty) (s : ByteArray) (hs0 : s.size ≤ 281474976710656) :
    Calls Try.prog 20 #[ptr A, .string s] w1 fun e w' => e = .returned (.bool (hasB m hs s.data.toList)) ∧ DS w w' A T m hs true st hs2 sl2 st2 g cs ty := by
  obtain ⟨X, Z, h⟩ := h
  refine (has_any h.a.rb s hs0).mono ?_
  rintro e w' ⟨rfl, X', h2⟩
  exact ⟨rfl, X', Z, h.left h2.rb h2.on h2.new⟩
theorem DS.hasR (h : DS w w1 A T m hs sl st hs2 sl2 st2 g cs ty) (s : ByteArray) (hl : hs2.length ≤ 1000000) :
    Calls Try.prog 21 #[ptr T, .string s] w1 fun e w' => e = .returned (.bool (hasB m hs2 s.data.toList)) ∧ DS w w' A T m hs sl st hs2 true st2 g cs ty := by
  obtain ⟨X, Z, h⟩ := h
  refine (rhas_any h.r s hl).mono ?_
  rintro e w' ⟨rfl, h1, h2⟩
  exact ⟨rfl, X, Z, h.right h1 h2 fun k hk => .inl hk⟩
theorem DS.stepL (h : DS w w1 A T m hs sl st hs2 sl2 st2 g cs ty) (n : Int) (hn : n ≤ 9223372036854775807) :
    Calls Try.prog 22 #[ptr A, .int .i64 n] w1 fun e w' => e = .returned (.tuple #[]) ∧ DS w w' A T m hs sl (stepF st n) hs2 sl2 st2 g cs ty := by
  obtain ⟨X, Z, h⟩ := h
  refine (h.a.rb.count n hn).mono ?_
  rintro e w' ⟨rfl, h1, h2⟩
  exact ⟨rfl, X, Z, h.left h1 h2 fun k hk => .inl hk⟩
theorem DS.stepR (h : DS w w1 A T m hs sl st hs2 sl2 st2 g cs ty) (n : Int) (hn : n ≤ 9223372036854775807) (h0 : 0 ≤ st2) (h1 : st2 ≤ 4611686018427387904) :
    Calls Try.prog 23 #[ptr T, .int .i64 n] w1 fun e w' => e = .returned (.tuple #[]) ∧ DS w w' A T m hs sl st hs2 sl2 (stepF st2 n) g cs ty := by
  obtain ⟨X, Z, h⟩ := h
  refine (rstep_any h.r n hn h0 h1).mono ?_
  rintro e w' ⟨rfl, h1, h2⟩
  exact ⟨rfl, X, Z, h.right h1 h2 fun k hk => .inl hk⟩
theorem DS.steps (h : DS w w1 A T m hs sl st hs2 sl2 st2 g cs ty) :
    Calls Try.prog 24 #[ptr A] w1 fun e w' => e = .returned (.int .i64 st) ∧ w1 = w' := by
  obtain ⟨X, Z, h⟩ := h
  exact h.a.rb.steps
theorem DS.cell3 (h : DS w w1 A T m hs sl st hs2 sl2 st2 g cs ty) : w1.cell? ⟨T, 3, none⟩ = some (.int .i64 st2) := by
  obtain ⟨X, Z, h⟩ := h
  obtain ⟨lv, h1, h2, h3⟩ := h.r.body
  exact h1.cell 3 rfl
theorem DS.names (h : DS w w1 A T m hs sl st hs2 sl2 st2 g cs ty) : Names hs ∧ (∀ o ∈ hs, HkOk o) ∧ 0 ≤ st ∧ st ≤ 4611686018427387904 := by
  obtain ⟨X, Z, h⟩ := h
  exact ⟨h.a.rb.names, h.a.rb.ok, h.a.rb.st0, h.a.rb.st1⟩
theorem DS.sortedL (h : DS w w1 A T m hs sl st hs2 sl2 st2 g cs ty) (p : Int) (hp : wfI p) :
    Calls Try.prog 16 #[ptr A, .int .i64 p] w1 fun e w' => ∃ v, e = .returned v ∧ DV w w' A T m hs true st hs2 sl2 st2 g cs ty v (told m hs p) := by
  obtain ⟨X, Z, h⟩ := h
  refine (sorted_any h.a.rb p hp).mono ?_
  rintro e w' ⟨v, rfl, h1, X', h2, h3⟩
  exact ⟨v, rfl, X', Z, h.left h2.rb h2.on h2.new, h1, fun b off n c e => ⟨(h3 b off n c e).2, fun hz => by have := h.r.lt b hz; have := (h3 b off n c e).1; omega⟩⟩
theorem DS.sortedR (h : DS w w1 A T m hs sl st hs2 sl2 st2 g cs ty) (p : Int) (hl : hs2.length ≤ 1000000) (hn : Names hs2) :
    Calls Try.prog 17 #[ptr T, .int .i64 p] w1 fun e w' => ∃ v, e = .returned v ∧ DV w w' A T m hs sl st hs2 true st2 g cs ty v (told m hs2 p) := by
  obtain ⟨X, Z, h⟩ := h
  refine (rsorted_any h.r p hl hn).mono ?_
  rintro e w' ⟨v, rfl, h1, h3, h4, h5⟩
  exact ⟨v, rfl, X, Z, h.right h4 h5 fun k hk => .inl hk, h1, fun b off n c e => ⟨fun hx => by have := h.a.rb.lt b hx; have := (h3 b off n c e).1; omega, (h3 b off n c e).2⟩⟩
theorem DS.forL (h : DS w w1 A T m hs sl st hs2 sl2 st2 g cs ty) (p : Int) (hp : wfI p) (b : Int) (hb0 : 0 ≤ b) (hb1 : b ≤ 255) :
    Calls Try.prog 18 #[ptr A, .int .i64 p, .int .u8 b] w1 fun e w' => ∃ v, e = .returned v ∧ DV w w' A T m hs true st hs2 sl2 st2 g cs ty v ((told m hs p).filter (trigB b)) := by
  obtain ⟨X, Z, h⟩ := h
  refine (for_any h.a.rb p hp b hb0 hb1).mono ?_
  rintro e w' ⟨v, rfl, h1, X', h2, h3⟩
  exact ⟨v, rfl, X', Z, h.left h2.rb h2.on h2.new, h1, fun b off n c e => ⟨(h3 b off n c e).2, fun hz => by have := h.r.lt b hz; have := (h3 b off n c e).1; omega⟩⟩
theorem DS.forR (h : DS w w1 A T m hs sl st hs2 sl2 st2 g cs ty) (p b : Int) (hl : hs2.length ≤ 1000000) (hn : Names hs2) (ht : ∀ o ∈ hs2, o.trig.size ≤ 1000000) :
    Calls Try.prog 19 #[ptr T, .int .i64 p, .int .u8 b] w1 fun e w' => ∃ v, e = .returned v ∧ DV w w' A T m hs sl st hs2 true st2 g cs ty v ((told m hs2 p).filter (trigB b)) := by
  obtain ⟨X, Z, h⟩ := h
  refine (rfor_any h.r p b hl hn ht).mono ?_
  rintro e w' ⟨v, rfl, h1, h3, h4, h5⟩
  exact ⟨v, rfl, X, Z, h.right h4 h5 fun k hk => .inl hk, h1, fun b off n c e => ⟨fun hx => by have := h.a.rb.lt b hx; have := (h3 b off n c e).1; omega, (h3 b off n c e).2⟩⟩
theorem DV.sortedL (h : DV w w1 A T m hs sl st hs2 sl2 st2 g cs ty v l) (p : Int) (hp : wfI p) :
    Calls Try.prog 16 #[ptr A, .int .i64 p] w1 fun e w' => ∃ v2, e = .returned v2 ∧ DS w w' A T m hs true st hs2 sl2 st2 g cs ty ∧ Hooks w' v2 (told m hs p) ∧ Hooks w' v l := by
  obtain ⟨X, Z, h, hv, hd⟩ := h
  refine (sorted_any h.a.rb p hp).mono ?_
  rintro e w' ⟨v2, rfl, h1, X', h2, h3⟩
  exact ⟨v2, rfl, ⟨X', Z, h.left h2.rb h2.on h2.new⟩, h1, hv.only h2.on fun b off n c e _ => (hd b off n c e).1⟩
theorem DV.sortedR (h : DV w w1 A T m hs sl st hs2 sl2 st2 g cs ty v l) (p : Int) (hl : hs2.length ≤ 1000000) (hn : Names hs2) :
    Calls Try.prog 17 #[ptr T, .int .i64 p] w1 fun e w' => ∃ v2, e = .returned v2 ∧ DS w w' A T m hs sl st hs2 true st2 g cs ty ∧ Hooks w' v l ∧ Hooks w' v2 (told m hs2 p) := by
  obtain ⟨X, Z, h, hv, hd⟩ := h
  refine (rsorted_any h.r p hl hn).mono ?_
  rintro e w' ⟨v2, rfl, h1, h3, h4, h5⟩
  exact ⟨v2, rfl, ⟨X, Z, h.right h4 h5 fun k hk => .inl hk⟩, hv.only h5 fun b off n c e _ => (hd b off n c e).2, h1⟩
theorem DV.forL (h : DV w w1 A T m hs sl st hs2 sl2 st2 g cs ty v l) (p : Int) (hp : wfI p) (b : Int) (hb0 : 0 ≤ b) (hb1 : b ≤ 255) :
    Calls Try.prog 18 #[ptr A, .int .i64 p, .int .u8 b] w1 fun e w' => ∃ v2, e = .returned v2 ∧ DS w w' A T m hs true st hs2 sl2 st2 g cs ty ∧ Hooks w' v2 ((told m hs p).filter (trigB b)) ∧ Hooks w' v l := by
  obtain ⟨X, Z, h, hv, hd⟩ := h
  refine (for_any h.a.rb p hp b hb0 hb1).mono ?_
  rintro e w' ⟨v2, rfl, h1, X', h2, h3⟩
  exact ⟨v2, rfl, ⟨X', Z, h.left h2.rb h2.on h2.new⟩, h1, hv.only h2.on fun b off n c e _ => (hd b off n c e).1⟩
theorem DV.forR (h : DV w w1 A T m hs sl st hs2 sl2 st2 g cs ty v l) (p b : Int) (hl : hs2.length ≤ 1000000) (hn : Names hs2) (ht : ∀ o ∈ hs2, o.trig.size ≤ 1000000) :
    Calls Try.prog 19 #[ptr T, .int .i64 p, .int .u8 b] w1 fun e w' => ∃ v2, e = .returned v2 ∧ DS w w' A T m hs sl st hs2 true st2 g cs ty ∧ Hooks w' v l ∧ Hooks w' v2 ((told m hs2 p).filter (trigB b)) := by
  obtain ⟨X, Z, h, hv, hd⟩ := h
  refine (rfor_any h.r p b hl hn ht).mono ?_
  rintro e w' ⟨v2, rfl, h1, h3, h4, h5⟩
  exact ⟨v2, rfl, ⟨X, Z, h.right h4 h5 fun k hk => .inl hk⟩, hv.only h5 fun b off n c e _ => (hd b off n c e).2, h1⟩
end
/-- At the start of a round: any box that is made anew. -/
theorem DS.box {w w1 : World} {A T g : Nat} {m : Int} {hs hs2 : List Hk} {sl sl2 : Bool} {st st2 : Int} {cs : Array Value} {ty : TypeId} (h : DS w w1 A T m hs sl st hs2 sl2 st2 g cs ty) (c : Array Value) (t : TypeId) :
    DS w (w1.alloc (.cells c t)) A T m hs sl st hs2 sl2 st2 w1.heap.size c t := by
  obtain ⟨X, Z, h⟩ := h
  have hb : Below w1.heap.size w1 (w1.alloc (.cells c t)) := (Below.refl _ _).alloc (Nat.le_refl _) _
  have h2 := h.below hb
  exact ⟨X, Z, h2.a, h2.r, h2.lo, h2.dis, Blk.new w1 c t, fun hx => by have := h.a.rb.lt _ hx; omega, fun hz => by have := h.r.lt _ hz; omega, h.a.on.size⟩
/-- Both new. -/
theorem DS.new {w w1 w2 : World} {X Z : Nat → Prop} {A T : Nat} {m : Int} (h : At w w1 X A m [] false 0) (hr : RF w2 Z T m [] false 0) (hz : ∀ k, Z k → w1.heap.size ≤ k) (hb : Below w1.heap.size w1 w2) (c : Array Value) (t : TypeId) :
    DS w (w2.alloc (.cells c t)) A T m [] false 0 [] false 0 w2.heap.size c t := by
  have hb2 : Below w2.heap.size w2 (w2.alloc (.cells c t)) := (Below.refl _ _).alloc (Nat.le_refl _) _
  have h2 := h.then_below hb
  exact ⟨X, Z, h2.then_below hb2, hr.below hb2, fun k hk => Nat.le_trans h.on.size (hz k hk), fun k hk hy => by have := h.rb.lt k hk; have := hz k hy; omega, Blk.new w2 c t,
    fun hx => by have := h2.rb.lt _ hx; omega, fun hy => by have := hr.lt _ hy; omega, h2.on.size⟩
end Rg
end Go.Proofs.Ytemcahbpfjlnlaa
