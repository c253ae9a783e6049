/- Layer 7: the document's example. -/
import Derived.Test.YtemcahbpfjlnlaaRegK
namespace Go.Proofs.Ytemcahbpfjlnlaa
open Go Go.RowKit Go.MuLone
namespace Rg
set_option maxRecDepth 100000
set_option linter.unusedVariables false
set_option linter.unusedSimpArgs false

def exB : Hk := ⟨⟨#[98]⟩, 1, 1, ⟨#[]⟩, 0⟩
def exA : Hk := ⟨⟨#[97]⟩, 1, 1, ⟨#[]⟩, 0⟩
def exC : Hk := ⟨⟨#[99]⟩, 1, 0, ⟨#[]⟩, 0⟩
theorem fresh_eq (hs : List Hk) (sl : Bool) (x : Hk) : fresh hs sl x = (!x.name.data.toList.isEmpty && !named hs x.name.data.toList && !sl) := by unfold fresh; rw [toList_eq]
theorem ex1 : fresh [] false exB = true := by rw [fresh_eq]; rfl
theorem ex2 : fresh [exB] false exA = true := by rw [fresh_eq]; rfl
theorem ex3 : fresh [exB, exA] false exC = true := by rw [fresh_eq]; rfl
theorem ex4 (m : Int) : told m [exB, exA, exC] 1 = [exC, exA, exB] := by rfl
theorem hkok_small {h : Hk} (h1 : h.name.size ≤ 300) (h2 : h.trig.size ≤ 300) (h3 : wfI h.ph) : HkOk h := ⟨by omega, by omega, h3⟩

/-- What a call on a registry that the caller made leaves, seen from w: the registry, behind w. -/
structure At (w w' : World) (X : Nat → Prop) (A : Nat) (m : Int) (hs : List Hk) (sl : Bool) (st : Int) : Prop where
  rb : RB w' X A m hs sl st
  lo : ∀ k, X k → w.heap.size ≤ k
  on : Below w.heap.size w w'
theorem At.then_only {w w1 w2 : World} {X : Nat → Prop} {A : Nat} {m : Int} {hs hs' : List Hk} {sl sl' : Bool} {st st' : Int} (h : At w w1 X A m hs sl st) (h2 : RB w2 X A m hs' sl' st') (ho : Only X w1 w2) : At w w2 X A m hs' sl' st' :=
  ⟨h2, h.lo, h.on.trans (ho.below h.on.size h.lo)⟩
theorem At.then_below {w w1 w2 : World} {X : Nat → Prop} {A : Nat} {m : Int} {hs : List Hk} {sl : Bool} {st : Int} (h : At w w1 X A m hs sl st) (hb : Below w1.heap.size w1 w2) : At w w2 X A m hs sl st :=
  ⟨h.rb.below hb, h.lo, h.on.trans (hb.mono h.on.size)⟩
theorem At.then_sealed {w w1 w2 : World} {X X' : Nat → Prop} {A : Nat} {m : Int} {hs : List Hk} {sl : Bool} {st : Int} (h : At w w1 X A m hs sl st) (h2 : SealedTo w1 w2 X A m hs sl st X') : At w w2 X' A m hs true st :=
  ⟨h2.rb, fun k hk => (h2.new k hk).elim (h.lo k) fun e => Nat.le_trans h.on.size e, h.on.trans (h2.on.below h.on.size h.lo)⟩
theorem At.new (w : World) (m : Int) : Calls Try.prog 11 #[.int .i64 m] w fun e w' => ∃ A, e = .returned (ptr A) ∧ ∃ X, At w w' X A (bits .and .i64 m 127) [] false 0 := by
  refine (new_any m w).mono ?_
  rintro e w' ⟨A, X, rfl, h1, h2, h3⟩
  exact ⟨A, rfl, X, h1, h2, h3⟩
theorem At.add {w w1 : World} {X : Nat → Prop} {A : Nat} {m : Int} {hs : List Hk} {sl : Bool} {st : Int} (h : At w w1 X A m hs sl st) (x : Hk) (hx : HkOk x) (hl : hs.length < 1000000) :
    Calls Try.prog 13 #[ptr A, hookV x] w1 fun e w' => e = .returned (.bool (fresh hs sl x)) ∧ At w w' X A m (if fresh hs sl x then hs ++ [x] else hs) sl st := by
  refine (add_any h.rb x hx hl).mono ?_
  rintro e w' ⟨rfl, h1, h2⟩
  exact ⟨rfl, h.then_only h1 h2⟩
theorem At.sorted {w w1 : World} {X : Nat → Prop} {A : Nat} {m : Int} {hs : List Hk} {sl : Bool} {st : Int} (h : At w w1 X A m hs sl st) (p : Int) (hp : wfI p) :
    Calls Try.prog 16 #[ptr A, .int .i64 p] w1 fun e w' => ∃ v, e = .returned v ∧ Hooks w' v (told m hs p) ∧ ∃ X', At w w' X' A m hs true st := by
  refine (sorted_any h.rb p hp).mono ?_
  rintro e w' ⟨v, rfl, h1, X', h2, _⟩
  exact ⟨v, rfl, h1, X', h.then_sealed h2⟩
theorem At.for_ {w w1 : World} {X : Nat → Prop} {A : Nat} {m : Int} {hs : List Hk} {sl : Bool} {st : Int} (h : At w w1 X A m hs sl st) (p : Int) (hp : wfI p) (b : Int) (hb0 : 0 ≤ b) (hb1 : b ≤ 255) :
    Calls Try.prog 18 #[ptr A, .int .i64 p, .int .u8 b] w1 fun e w' => ∃ v, e = .returned v ∧ Hooks w' v ((told m hs p).filter (trigB b)) ∧ ∃ X', At w w' X' A m hs true st := by
  refine (for_any h.rb p hp b hb0 hb1).mono ?_
  rintro e w' ⟨v, rfl, h1, X', h2, _⟩
  exact ⟨v, rfl, h1, X', h.then_sealed h2⟩
theorem At.has {w w1 : World} {X : Nat → Prop} {A : Nat} {m : Int} {hs : List Hk} {sl : Bool} {st : Int} (h : At w w1 X A m hs sl st) (s : ByteArray) (hs0 : s.size ≤ 281474976710656) :
    Calls Try.prog 20 #[ptr A, .string s] w1 fun e w' => e = .returned (.bool (hasB m hs s.data.toList)) ∧ ∃ X', At w w' X' A m hs true st := by
  refine (has_any h.rb s hs0).mono ?_
  rintro e w' ⟨rfl, X', h2⟩
  exact ⟨rfl, X', h.then_sealed h2⟩
/-- What is sealed turns no more. -/
theorem At.sorted2 {w w1 : World} {X : Nat → Prop} {A : Nat} {m : Int} {hs : List Hk} {st : Int} (h : At w w1 X A m hs true st) (p : Int) (hp : wfI p) :
    Calls Try.prog 16 #[ptr A, .int .i64 p] w1 fun e w' => ∃ v, e = .returned v ∧ Hooks w' v (told m hs p) ∧ At w w' X A m hs true st ∧ Below w1.heap.size w1 w' := by
  refine (sorted_any h.rb p hp).mono ?_
  rintro e w' ⟨v, rfl, h1, X', h2, _⟩
  obtain ⟨hb, rfl⟩ := h2.again rfl
  exact ⟨v, rfl, h1, h.then_sealed h2, hb⟩
theorem At.for2 {w w1 : World} {X : Nat → Prop} {A : Nat} {m : Int} {hs : List Hk} {st : Int} (h : At w w1 X A m hs true st) (p : Int) (hp : wfI p) (b : Int) (hb0 : 0 ≤ b) (hb1 : b ≤ 255) :
    Calls Try.prog 18 #[ptr A, .int .i64 p, .int .u8 b] w1 fun e w' => ∃ v, e = .returned v ∧ Hooks w' v ((told m hs p).filter (trigB b)) ∧ At w w' X A m hs true st ∧ Below w1.heap.size w1 w' := by
  refine (for_any h.rb p hp b hb0 hb1).mono ?_
  rintro e w' ⟨v, rfl, h1, X', h2, _⟩
  obtain ⟨hb, rfl⟩ := h2.again rfl
  exact ⟨v, rfl, h1, h.then_sealed h2, hb⟩
theorem At.has2 {w w1 : World} {X : Nat → Prop} {A : Nat} {m : Int} {hs : List Hk} {st : Int} (h : At w w1 X A m hs true st) (s : ByteArray) (hs0 : s.size ≤ 281474976710656) :
    Calls Try.prog 20 #[ptr A, .string s] w1 fun e w' => e = .returned (.bool (hasB m hs s.data.toList)) ∧ At w w' X A m hs true st ∧ Below w1.heap.size w1 w' := by
  refine (has_any h.rb s hs0).mono ?_
  rintro e w' ⟨rfl, X', h2⟩
  obtain ⟨hb, rfl⟩ := h2.again rfl
  exact ⟨rfl, h.then_sealed h2, hb⟩
theorem At.count {w w1 : World} {X : Nat → Prop} {A : Nat} {m : Int} {hs : List Hk} {sl : Bool} {st : Int} (h : At w w1 X A m hs sl st) (n : Int) (hn : n ≤ 9223372036854775807) :
    Calls Try.prog 22 #[ptr A, .int .i64 n] w1 fun e w' => e = .returned (.tuple #[]) ∧ At w w' X A m hs sl (stepF st n) := by
  refine (h.rb.count n hn).mono ?_
  rintro e w' ⟨rfl, h1, h2⟩
  exact ⟨rfl, h.then_only h1 h2⟩
theorem At.steps {w w1 : World} {X : Nat → Prop} {A : Nat} {m : Int} {hs : List Hk} {sl : Bool} {st : Int} (h : At w w1 X A m hs sl st) :
    Calls Try.prog 24 #[ptr A] w1 fun e w' => e = .returned (.int .i64 st) ∧ w1 = w' := h.rb.steps

set_option maxHeartbeats 4000000 in
theorem awake_any (w : World) : Calls Try.prog 10 #[] w fun e w' => e = .returned (.bool true) ∧ Below w.heap.size w w' := by
  have HN := Lib.hid (At.new w 0)
  have HC := Lib.hid (fun W => core_any W)
  go_enter Try.func10, Try.ntmps10
  go_wp2_with fail
  refine HN.out.mono ?_
  rintro e w1 ⟨A, rfl, X, h1⟩
  have HA1 := Lib.hid (h1.add exB (hkok_small (by decide) (by decide) rfl) (by decide))
  rw [ex1] at HA1
  unfold ptr hookV hookC exB at HA1
  clear h1
  unfold ptr
  go_wp2_with fail
  refine HA1.out.mono ?_
  rintro e w2 ⟨rfl, h2⟩
  have HA2 := Lib.hid ((show At w w2 X A _ [exB] false 0 from h2).add exA (hkok_small (by decide) (by decide) rfl) (by decide))
  rw [ex2] at HA2
  unfold ptr hookV hookC exA at HA2
  clear h2 HA1
  go_wp2_with fail
  refine HA2.out.mono ?_
  rintro e w3 ⟨rfl, h3⟩
  have HA3 := Lib.hid ((show At w w3 X A _ [exB, exA] false 0 from h3).add exC (hkok_small (by decide) (by decide) rfl) (by decide))
  rw [ex3] at HA3
  unfold ptr hookV hookC exC at HA3
  clear h3 HA2
  go_wp2_with fail
  refine HA3.out.mono ?_
  rintro e w4 ⟨rfl, h4⟩
  have HA4 := Lib.hid ((show At w w4 X A _ [exB, exA, exC] false 0 from h4).sorted 1 rfl)
  rw [ex4] at HA4
  unfold ptr at HA4
  clear h4 HA3
  go_wp2_with fail
  refine HA4.out.mono ?_
  rintro e w5 ⟨v, rfl, ⟨a, cap, rfl, _, hv⟩, X', h5⟩
  rcases hv with hv | ⟨b, off, rfl, hv⟩
  · cases hv
  have q0 := hv 0 exC rfl
  have q1 := hv 1 exA rfl
  have q2 := hv 2 exB rfl
  simp only [Nat.zero_mul, Nat.one_mul, Nat.add_zero, Nat.reduceMul] at q0 q1 q2
  have c0 : w5.cell? ⟨b, off, none⟩ = some (.string ⟨#[99]⟩) := q0.c0
  have c1 : w5.cell? ⟨b, off + 5, none⟩ = some (.string ⟨#[97]⟩) := q1.c0
  have c2 : w5.cell? ⟨b, off + 10, none⟩ = some (.string ⟨#[98]⟩) := q2.c0
  have H5 := Lib.hid h5
  clear q0 q1 q2 hv h5 HA4
  go_wp2_with fail
  refine (HC.out w5).mono ?_
  rintro e w6 ⟨g, rfl, _, _, hb6⟩
  have hb := (H5.out.then_below hb6).on
  go_wp2
  go_ret
  exact ⟨rfl, hb⟩
end Rg
end Go.Proofs.Ytemcahbpfjlnlaa
