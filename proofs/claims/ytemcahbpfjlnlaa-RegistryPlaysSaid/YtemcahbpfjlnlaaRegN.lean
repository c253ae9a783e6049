/- Layer 7: bits; two registries side by side. -/
import Derived.Test.YtemcahbpfjlnlaaRegM
namespace Go.Proofs.Ytemcahbpfjlnlaa
open Go Go.RowKit
namespace Rg
set_option maxRecDepth 100000
set_option linter.unusedVariables false
set_option linter.unusedSimpArgs false

theorem bits_def (a b : Int) : bits .and .i64 a b = IntKind.i64.wrap (((BitVec.ofInt 64 a) &&& (BitVec.ofInt 64 b)).toNat : Int) := rfl
theorem ofInt_wrap (z : Int) : BitVec.ofInt 64 (IntKind.i64.wrap z) = BitVec.ofInt 64 z := by
  apply BitVec.eq_of_toNat_eq
  rw [BitVec.toNat_ofInt, BitVec.toNat_ofInt, IntKind.wrap_i64]
  congr 1
  omega
theorem bv_bits (a b : Int) : BitVec.ofInt 64 (bits .and .i64 a b) = BitVec.ofInt 64 a &&& BitVec.ofInt 64 b := by
  rw [bits_def, ofInt_wrap, BitVec.ofInt_natCast, BitVec.ofNat_toNat]
  simp
theorem bits_assoc (a b c : Int) : bits .and .i64 (bits .and .i64 a b) c = bits .and .i64 a (bits .and .i64 b c) := by
  show IntKind.i64.wrap (((BitVec.ofInt 64 (bits .and .i64 a b)) &&& (BitVec.ofInt 64 c)).toNat : Int) = IntKind.i64.wrap (((BitVec.ofInt 64 a) &&& (BitVec.ofInt 64 (bits .and .i64 b c))).toNat : Int)
  rw [bv_bits a b, bv_bits b c, BitVec.and_assoc]
theorem bits_zero {a b : Int} (h : bits .and .i64 a b = 0) : BitVec.ofInt 64 a &&& BitVec.ofInt 64 b = 0#64 := by
  rw [← bv_bits, h]; rfl
theorem bits_of_zero {a b : Int} (h : BitVec.ofInt 64 a &&& BitVec.ofInt 64 b = 0#64) : bits .and .i64 a b = 0 := by
  rw [bits_def, h]; rfl
theorem bits_sub {a m : Int} (h : bits .and .i64 a m = 0) : bits .and .i64 a (bits .and .i64 m 127) = 0 := by
  apply bits_of_zero
  rw [bv_bits, ← BitVec.and_assoc, bits_zero h]
  simp
theorem bits_twice (x : Int) : bits .and .i64 (bits .and .i64 x 127) 127 = bits .and .i64 x 127 := by
  rw [bits_assoc]
  rfl
theorem bits127 : bits .and .i64 127 127 = 127 := by rfl
theorem onB_all (h : Hk) {b : Int} (hb : h.bit = bits .and .i64 b 127) : onB 127 h = true := by
  unfold onB
  by_cases h0 : h.bit = 0
  · simp [h0]
  · have : bits .and .i64 h.bit 127 = h.bit := by rw [hb, bits_twice]
    rw [this]
    simp [h0]
theorem onB_mask {m : Int} {h : Hk} (ho : onB (bits .and .i64 m 127) h = true) (h0 : ¬ h.bit = 0) : ¬ bits .and .i64 h.bit m = 0 := by
  intro e
  unfold onB at ho
  rw [bits_sub e] at ho
  simp [h0] at ho
theorem onB_mask127 {m : Int} {h : Hk} (ho : onB (bits .and .i64 m 127) h = true) (h0 : ¬ h.bit = 0) : ¬ bits .and .i64 (bits .and .i64 h.bit m) 127 = 0 := by
  intro e
  rw [bits_assoc] at e
  unfold onB at ho
  rw [e] at ho
  simp [h0] at ho
/-- What has been added of these. -/
def addAll (hs : List Hk) : List Hk → List Hk
  | [] => hs
  | x :: r => addAll (if fresh hs false x then hs ++ [x] else hs) r
theorem addAll_snoc : ∀ (l hs : List Hk) (x : Hk), addAll hs (l ++ [x]) = (if fresh (addAll hs l) false x then addAll hs l ++ [x] else addAll hs l)
  | [], hs, x => rfl
  | y :: l, hs, x => addAll_snoc l _ x
theorem addAll_len : ∀ (l hs : List Hk), (addAll hs l).length ≤ hs.length + l.length
  | [], hs => by simp [addAll]
  | y :: l, hs => by
    refine Nat.le_trans (addAll_len l _) ?_
    simp only [List.length_cons]
    split <;> simp <;> omega
theorem addAll_mem : ∀ (l hs : List Hk) {x : Hk}, x ∈ addAll hs l → x ∈ hs ∨ x ∈ l
  | [], hs, x, h => .inl h
  | y :: l, hs, x, h => by
    rcases addAll_mem l _ h with h1 | h1
    · split at h1
      · rcases List.mem_append.1 h1 with h2 | h2
        · exact .inl h2
        · rw [List.mem_singleton] at h2; subst h2; exact .inr List.mem_cons_self
      · exact .inl h1
    · exact .inr (List.mem_cons_of_mem _ h1)

/-- Two registries that the call made. -/
structure Two (w w' : World) (X : Nat → Prop) (A : Nat) (m : Int) (hs : List Hk) (sl : Bool) (st : Int) (Y : Nat → Prop) (B : Nat) (m2 : Int) (hs2 : List Hk) (sl2 : Bool) (st2 : Int) : Prop where
  a : At w w' X A m hs sl st
  b : At w w' Y B m2 hs2 sl2 st2
  dis : ∀ k, X k → ¬ Y k
section
variable {w w1 w2 : World} {X Y : Nat → Prop} {A B : Nat} {m m2 : Int} {hs hs2 : List Hk} {sl sl2 : Bool} {st st2 : Int}
theorem Two.new (ha : At w w1 X A m hs sl st) (hb : At w1 w2 Y B m2 hs2 sl2 st2) : Two w w2 X A m hs sl st Y B m2 hs2 sl2 st2 :=
  ⟨ha.then_below hb.on, hb.from ha.on, fun k hk hy => by have := ha.rb.lt k hk; have := hb.lo k hy; omega⟩
theorem Two.below (h : Two w w1 X A m hs sl st Y B m2 hs2 sl2 st2) (hb : Below w1.heap.size w1 w2) : Two w w2 X A m hs sl st Y B m2 hs2 sl2 st2 := ⟨h.a.then_below hb, h.b.then_below hb, h.dis⟩
theorem Two.left (h : Two w w1 X A m hs sl st Y B m2 hs2 sl2 st2) {X' : Nat → Prop} {hs' : List Hk} {sl' : Bool} {st' : Int} (h2 : RB w2 X' A m hs' sl' st') (ho : Only X w1 w2) (hn : ∀ k, X' k → X k ∨ w1.heap.size ≤ k) :
    Two w w2 X' A m hs' sl' st' Y B m2 hs2 sl2 st2 := by
  have hon : Below w.heap.size w w2 := h.a.on.trans (ho.below h.a.on.size h.a.lo)
  refine ⟨⟨h2, fun k hk => (hn k hk).elim (h.a.lo k) fun e => Nat.le_trans h.a.on.size e, hon⟩, ⟨h.b.rb.only ho fun k hk hx => h.dis k hx hk, h.b.lo, hon⟩, fun k hk hy => ?_⟩
  rcases hn k hk with e | e
  · exact h.dis k e hy
  · have := h.b.rb.lt k hy; omega
theorem Two.off (h : Two w w1 X A m hs sl st Y B m2 hs2 sl2 st2) {Z : Nat → Prop} (ho : Only Z w1 w2) (hZ : ∀ k, Z k → w.heap.size ≤ k ∧ ¬ X k ∧ ¬ Y k) : Two w w2 X A m hs sl st Y B m2 hs2 sl2 st2 := by
  have hon : Below w.heap.size w w2 := h.a.on.trans (ho.below h.a.on.size fun k hk => (hZ k hk).1)
  exact ⟨⟨h.a.rb.only ho fun k hk hz => (hZ k hz).2.1 hk, h.a.lo, hon⟩, ⟨h.b.rb.only ho fun k hk hz => (hZ k hz).2.2 hk, h.b.lo, hon⟩, h.dis⟩
theorem Two.swap (h : Two w w1 X A m hs sl st Y B m2 hs2 sl2 st2) : Two w w1 Y B m2 hs2 sl2 st2 X A m hs sl st := ⟨h.b, h.a, fun k hy hx => h.dis k hx hy⟩
theorem Two.addL (h : Two w w1 X A m hs sl st Y B m2 hs2 sl2 st2) (x : Hk) (hx : HkOk x) (hl : hs.length < 1000000) :
    Calls Try.prog 13 #[ptr A, hookV x] w1 fun e w' => e = .returned (.bool (fresh hs sl x)) ∧ Two w w' X A m (if fresh hs sl x then hs ++ [x] else hs) sl st Y B m2 hs2 sl2 st2 ∧ Only X w1 w' := by
  refine (add_any h.a.rb x hx hl).mono ?_
  rintro e w' ⟨rfl, h1, h2⟩
  exact ⟨rfl, h.left h1 h2 fun k hk => .inl hk, h2⟩
theorem Two.sortedL (h : Two w w1 X A m hs sl st Y B m2 hs2 sl2 st2) (p : Int) (hp : wfI p) :
    Calls Try.prog 16 #[ptr A, .int .i64 p] w1 fun e w' => ∃ v, e = .returned v ∧ Hooks w' v (told m hs p) ∧ (∃ X', FreeV w1.heap.size X' v ∧ Two w w' X' A m hs true st Y B m2 hs2 sl2 st2 ∧ ∀ k, X' k → X k ∨ w1.heap.size ≤ k) ∧ Only X w1 w' := by
  refine (sorted_any h.a.rb p hp).mono ?_
  rintro e w' ⟨v, rfl, h1, X', h2, h3⟩
  exact ⟨v, rfl, h1, ⟨X', h3, h.left h2.rb h2.on h2.new, h2.new⟩, h2.on⟩
theorem Two.forL (h : Two w w1 X A m hs sl st Y B m2 hs2 sl2 st2) (p : Int) (hp : wfI p) (b : Int) (hb0 : 0 ≤ b) (hb1 : b ≤ 255) :
    Calls Try.prog 18 #[ptr A, .int .i64 p, .int .u8 b] w1 fun e w' => ∃ v, e = .returned v ∧ Hooks w' v ((told m hs p).filter (trigB b)) ∧ (∃ X', FreeV w1.heap.size X' v ∧ Two w w' X' A m hs true st Y B m2 hs2 sl2 st2 ∧ ∀ k, X' k → X k ∨ w1.heap.size ≤ k) ∧ Only X w1 w' := by
  refine (for_any h.a.rb p hp b hb0 hb1).mono ?_
  rintro e w' ⟨v, rfl, h1, X', h2, h3⟩
  exact ⟨v, rfl, h1, ⟨X', h3, h.left h2.rb h2.on h2.new, h2.new⟩, h2.on⟩
theorem Two.hasL (h : Two w w1 X A m hs sl st Y B m2 hs2 sl2 st2) (s : ByteArray) (hs0 : s.size ≤ 281474976710656) :
    Calls Try.prog 20 #[ptr A, .string s] w1 fun e w' => e = .returned (.bool (hasB m hs s.data.toList)) ∧ (∃ X', Two w w' X' A m hs true st Y B m2 hs2 sl2 st2 ∧ ∀ k, X' k → X k ∨ w1.heap.size ≤ k) ∧ Only X w1 w' := by
  refine (has_any h.a.rb s hs0).mono ?_
  rintro e w' ⟨rfl, X', h2⟩
  exact ⟨rfl, ⟨X', h.left h2.rb h2.on h2.new, h2.new⟩, h2.on⟩
end
/-- Hooks in other blocks stay. -/
theorem Hooks.only {w w' : World} {v : Value} {l : List Hk} (h : Hooks w v l) {X : Nat → Prop} (ho : Only X w w') (hx : ∀ b off n c, v = .slice (some ⟨b, off, none⟩) n c → b < w.heap.size → ¬ X b) : Hooks w' v l := by
  obtain ⟨a, cap, rfl, h2, h3⟩ := h
  refine ⟨a, cap, rfl, h2, h3.imp id ?_⟩
  rintro ⟨b, off, rfl, hc⟩
  refine ⟨b, off, rfl, fun i o ho' => (hc i o ho').carry fun off' v hv => ?_⟩
  have hlt := World.block_lt_of_cell? w _ hv
  rw [World.cell?_of_block (ho.block b hlt (hx b off _ _ rfl hlt))]; exact hv
end Rg
end Go.Proofs.Ytemcahbpfjlnlaa
