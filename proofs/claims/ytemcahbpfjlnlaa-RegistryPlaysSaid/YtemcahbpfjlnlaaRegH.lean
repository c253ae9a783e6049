/- Layer 7: seal; Sorted, For, Has. -/
import Derived.Test.YtemcahbpfjlnlaaRegE
import Derived.Test.YtemcahbpfjlnlaaRegG
namespace Go.Proofs.Ytemcahbpfjlnlaa
open Go Go.RowKit Go.MuLone
namespace Rg
set_option maxRecDepth 100000
set_option linter.unusedVariables false
set_option linter.unusedSimpArgs false

/-- What a call that seals leaves: the registry, its blocks and new ones. -/
structure SealedTo (w w' : World) (X : Nat → Prop) (A : Nat) (m : Int) (hs : List Hk) (sl : Bool) (st : Int) (X' : Nat → Prop) : Prop where
  rb : RB w' X' A m hs true st
  again : sl = true → Below w.heap.size w w' ∧ X' = X
  sub : ∀ k, X k → X' k
  new : ∀ k, X' k → X k ∨ w.heap.size ≤ k
  on : Only X w w'
theorem SealedTo.then_below {w w' w'' : World} {X : Nat → Prop} {A : Nat} {m : Int} {hs : List Hk} {sl : Bool} {st : Int} {X' : Nat → Prop} (h : SealedTo w w' X A m hs sl st X') (hb : Below w'.heap.size w' w'') : SealedTo w w'' X A m hs sl st X' :=
  ⟨h.rb.below hb, fun e => ⟨below_later (h.again e).1 hb, (h.again e).2⟩, h.sub, h.new, h.on.then_below hb⟩

theorem seal_any {w : World} {X : Nat → Prop} {A : Nat} {m : Int} {hs : List Hk} {sl : Bool} {st : Int} (h : RB w X A m hs sl st) :
    Calls Try.prog 36 #[ptr A] w fun e w' => e = .returned (.tuple #[]) ∧ ∃ X', SealedTo w w' X A m hs sl st X' := by
  have hrb := h
  obtain ⟨bm, D, bp, dn, g1, g2, g3, g4, g5⟩ := h.body
  rcases g5 with ⟨hsl, rfl, rfl⟩ | ⟨hsl, rfl, b2, n, D2, V, rfl, q6, q7, q8⟩
  · subst hsl
    have hb0 : Below w.heap.size w (w.alloc (.cells #[ptr A] 24)) := (Below.refl _ w).alloc (Nat.le_refl _) _
    have hA5 : Blk ((w.alloc (.cells #[ptr A] 24)).setCell ⟨A, 5, none⟩ (.int .i32 1)) A (unlockC m bm none st) 69 := (g3.below hb0).set 5 (.int .i32 1) rfl
    have hne : w.heap.size ≠ A := by have := g3.lt; omega
    have hx : ((w.alloc (.cells #[ptr A] 24)).setCell ⟨A, 5, none⟩ (.int .i32 1)).cell? ⟨w.heap.size, 0, none⟩ = some (ptr A) :=
      ((Blk.new w #[ptr A] 24).other (p := ⟨A, 5, none⟩) _ hne).cell 0 rfl
    have ho0 : Only (fun k => k = A) w ((w.alloc (.cells #[ptr A] 24)).setCell ⟨A, 5, none⟩ (.int .i32 1)) := Only.setCell (X := fun k => k = A) (Only.of_below hb0) rfl _
    have hs1 := seal1_any hx hA5 (g4.only ho0 (fun e => g2 e.symm)) hrb.names hrb.ok hrb.len hne g2
    refine (seal_first A w (fun w' => ∃ b2 n D2 V, Blk w' A (unlockC m bm (some b2) st) 69 ∧ HMap w' bm D hs ∧
      PMap w' b2 n D2 V (told m hs) (fun g => w.heap.size ≤ g) ∧ w.heap.size ≤ b2 ∧ Only (fun k => k = A) w w') (g3.cell 4 rfl) (g3.cell 5 rfl) (g3.fr 5) (hs1.mono ?_)).mono ?_
    · rintro e w1 ⟨rfl, b2, n, D2, V, p1, p2, p3, p4, p5⟩
      have hsz := ho0.size
      exact ⟨rfl, ⟨p1.cell 4 rfl, p1.cell 5 rfl, p1.fr 4, p1.fr 5⟩, b2, n, D2, V, p1, p2, p3.mono fun g hg _ => by omega, by omega, ho0.trans' p5⟩
    · rintro e w' ⟨rfl, w1, ⟨b2, n, D2, V, p1, p2, p3, p4, p5⟩, rfl⟩
      have hbA : Blk ((w1.drew.setCell ⟨A, 4, none⟩ (.int .u32 1)).setCell ⟨A, 5, none⟩ (.int .i32 0)) A (regC m bm (some b2) 1 st) 69 :=
        Blk.set (Blk.set (cs' := #[.int .i64 m, .int .i32 0, .int .u32 0, .map (some bm), .int .u32 1, .int .i32 1, .int .u32 0, .map (some b2), .int .i64 st]) (show Blk w1.drew A _ _ from p1) 4 (.int .u32 1) rfl) 5 (.int .i32 0) rfl
      have ho1 : Only (fun k => k = A) w1 ((w1.drew.setCell ⟨A, 4, none⟩ (.int .u32 1)).setCell ⟨A, 5, none⟩ (.int .i32 0)) := Only.setCell (X := fun k => k = A) (Only.setCell (X := fun k => k = A) (Only.drew (Only.refl _ _)) rfl _) rfl _
      have ho2 := p5.trans' ho1
      have hAlt := g3.lt
      have hsz := ho2.size
      have hblt : b2 < ((w1.drew.setCell ⟨A, 4, none⟩ (.int .u32 1)).setCell ⟨A, 5, none⟩ (.int .i32 0)).heap.size := Nat.lt_of_lt_of_le p3.own.lt ho1.size
      refine ⟨rfl, fun k => X k ∨ w.heap.size ≤ k ∧ k < ((w1.drew.setCell ⟨A, 4, none⟩ (.int .u32 1)).setCell ⟨A, 5, none⟩ (.int .i32 0)).heap.size, ⟨?_, (fun e => by cases e), fun k hk => .inl hk, fun k hk => hk.imp id And.left, ho2.mono fun k e => e ▸ hrb.xA⟩⟩
      refine ⟨fun k hk => ?_, hrb.names, hrb.ok, hrb.len, hrb.st0, hrb.st1, .inl hrb.xA, bm, D, some b2, 1, .inl g1, g2, hbA, p2.only ho1 (fun e => g2 e.symm), .inr ⟨rfl, rfl, b2, n, D2, V, rfl, .inr ⟨p4, hblt⟩, by omega, ?_⟩⟩
      · rcases hk with hk | hk
        · exact Nat.lt_of_lt_of_le (hrb.lt k hk) hsz
        · exact hk.2
      · exact (p3.only2 ho1 (by omega) fun p g hp hg e => by have := p3.new p g hp hg; omega).mono fun g hg hlt => ⟨.inr ⟨hg, hlt⟩, by omega⟩
  · subst hsl
    refine (seal_again A w (g3.cell 4 rfl)).mono ?_
    rintro e w' ⟨rfl, hb⟩
    exact ⟨rfl, X, hrb.below hb, fun _ => ⟨hb, rfl⟩, fun _ h => h, fun _ h => .inl h, Only.of_below hb⟩

/-- A slice that lies in a new block, if anywhere, and in none of these. -/
def FreeV (B : Nat) (X : Nat → Prop) (v : Value) : Prop := ∀ b off n c, v = .slice (some ⟨b, off, none⟩) n c → B ≤ b ∧ ¬ X b
theorem FreeV.of_owns {w : World} {base B : Nat} {e : TypeId} {size n : Nat} {v : Value} {xs : List Value} {X : Nat → Prop} (h : w.ownsRow base e size v n xs) (hB : B ≤ base) (hX : ∀ k, X k → k < base) : FreeV B X v := by
  rintro b off n c rfl
  have := (h.lt b rfl).1
  exact ⟨by omega, fun hx => by have := hX b hx; omega⟩
theorem FreeV.mono {B C : Nat} {X : Nat → Prop} {v : Value} (h : FreeV B X v) (hc : C ≤ B) : FreeV C X v := fun b off n c e => ⟨Nat.le_trans hc (h b off n c e).1, (h b off n c e).2⟩
/-- A sealed registry: where its rows lie. -/
theorem RB.rows {w : World} {X : Nat → Prop} {A : Nat} {m : Int} {hs : List Hk} {st : Int} (h : RB w X A m hs true st) {p : Int} (hp : wfI p) :
    ∃ b2 a cap, w.cell? ⟨A, 7, none⟩ = some (.map (some b2)) ∧ (∀ W, Below w.heap.size w W → (Instr.lookup 64 (.map (some b2)) (.int .i64 p) false).run Try.prog W = .ok (.slice a (told m hs p).length cap) W) ∧
      (∀ (i : Nat) (o : Hk), (told m hs p)[i]? = some o → ∃ g, a = some ⟨g, 0, none⟩ ∧ ∀ W, Below w.heap.size w W → CellsAt W g (i * 5) o) := by
  obtain ⟨bm, D, bp, dn, g1, g2, g3, g4, g5⟩ := h.body
  rcases g5 with ⟨hsl, _⟩ | ⟨_, rfl, b2, n, D2, V, rfl, q6, q7, q8⟩
  · cases hsl
  have hrow := q8.row p hp
  have hlk := fun W (hW : Below w.heap.size w W) => (q8.only2 (Only.of_below (X := fun _ => False) hW) (fun e => e) fun _ _ _ _ e => e).look hp
  obtain ⟨a, cap, hv⟩ := owns_form hrow
  rw [hv] at hlk
  refine ⟨b2, a, cap, g3.cell 7 rfl, hlk, fun i o hi => ?_⟩
  have hlt : i < (told m hs p).length := (List.getElem?_eq_some_iff.1 hi).1
  obtain ⟨g, cap', hv', _, _⟩ := hrow.form (by omega)
  rw [hv] at hv'
  injection hv' with e1 _ e3
  subst e1 e3
  refine ⟨g, rfl, fun W hW => ?_⟩
  rw [hv] at hrow
  have hc := fun j v (hj : (hookC o)[j]? = some v) => (owns_keep hrow hW).cells rfl _ _ (rowC_get hi j v hj)
  refine ⟨?_, ?_, ?_, ?_, ?_⟩
  · have := hc 0 _ rfl; rwa [add_off, Nat.zero_add, Nat.add_zero] at this
  · have := hc 1 _ rfl; rwa [add_off, Nat.zero_add] at this
  · have := hc 2 _ rfl; rwa [add_off, Nat.zero_add] at this
  · have := hc 3 _ rfl; rwa [add_off, Nat.zero_add] at this
  · have := hc 4 _ rfl; rwa [add_off, Nat.zero_add] at this
end Rg
end Go.Proofs.Ytemcahbpfjlnlaa
