/- Layer 6: an arena that a law builds and turns. -/
import Derived.Test.YtlpfffioidbkeaaTreeCC
import Derived.Test.YtlpfffioidbkeaaTreeU
import Derived.Test.YtlpfffioidbkeaaTreeV
import Derived.Test.YtlpfffioidbkeaaTreeQ
import Derived.Laws.BitsAllLaws
import Derived.Laws.BitsLemmas
namespace Go.Proofs.Ytlpfffioidbkeaa
open Go Go.RowKit
namespace Tr
set_option maxRecDepth 100000
set_option linter.unusedVariables false
set_option linter.unusedSimpArgs false

theorem ofInt_i64 (a : Nat) (ha : a < 9223372036854775808) : (BitVec.ofInt 64 (a : Int)).toNat = a := by
  rw [BitVec.ofInt_natCast, BitVec.toNat_ofNat]; exact Nat.mod_eq_of_lt (by omega)
/-- n & m, for a small m. -/
def msk (n : Int) (m : Nat) : Nat := ((BitVec.ofInt 64 n) &&& (BitVec.ofInt 64 (m : Int))).toNat
theorem msk_le (n : Int) (m : Nat) (hm : m < 9223372036854775808) : msk n m ≤ m := by
  unfold msk
  rw [BitVec.toNat_and, ofInt_i64 m hm]; exact Nat.and_le_right
theorem bits_and (n : Int) (m : Nat) (hm : m < 9223372036854775808) : bits .and .i64 n (m : Int) = (msk n m : Nat) := by
  have h := msk_le n m hm
  show IntKind.i64.wrap (((BitVec.ofInt 64 n) &&& (BitVec.ofInt 64 (m : Int))).toNat : Int) = _
  rw [IntKind.wrap_i64]
  unfold msk at *
  omega

section
variable {S : Ar} {ch : Nat → List Nat}
theorem Good.added (h : Good S ch) {p : Nat} (hp : p < S.n) (o : Own) : Good ((S.push o).hang S.n p) (upd ch p (ch p ++ [S.n])) := by
  obtain ⟨ht, hr⟩ := h.rank
  refine ⟨h.inv.added hp o, fun x => if x = S.n then 0 else ht x + 1, ?_⟩
  intro q hq c hc
  rw [push_hang_n] at hq
  dsimp only
  have old : ∀ c ∈ ch q, (if c = S.n then 0 else ht c + 1) < (if q = S.n then 0 else ht q + 1) := by
    intro c hc
    rcases Nat.lt_or_ge q S.n with hq2 | hq2
    · have h1 := h.inv.lt q hq2 c hc
      have h2 := hr q hq2 c hc
      rw [if_neg (by omega), if_neg (by omega)]; omega
    · rw [h.inv.out q hq2] at hc; cases hc
  by_cases e : q = p
  · subst e
    rw [upd_same, List.mem_append] at hc
    rcases hc with hc | hc
    · exact old c hc
    · simp at hc; subst hc
      rw [if_pos rfl, if_neg (by omega)]; omega
  · rw [upd_other _ _ e] at hc; exact old c hc
theorem Conn.added (hC : Conn S ch) (hI : Inv S ch) {p : Nat} (hp : p < S.n) (o : Own) : Conn ((S.push o).hang S.n p) (upd ch p (ch p ++ [S.n])) := by
  constructor
  · rw [push_hang_n]; intro c h1 h2
    rcases Classical.em (c = S.n) with e | e
    · subst e; exact ⟨p, by omega, by rw [upd_same]; simp⟩
    · obtain ⟨q, hq, hm⟩ := hC.all c h1 (by omega)
      refine ⟨q, by omega, ?_⟩
      by_cases e2 : q = p
      · subst e2; rw [upd_same]; exact List.mem_append_left _ hm
      · rw [upd_other _ _ e2]; exact hm
  · rw [push_hang_n]; intro q hq hm
    have old : 0 ∈ ch q → False := fun hm => by
      rcases Nat.lt_or_ge q S.n with hq2 | hq2
      · exact hC.root q hq2 hm
      · rw [hI.out q hq2] at hm; cases hm
    by_cases e2 : q = p
    · subst e2
      rw [upd_same, List.mem_append] at hm
      rcases hm with hm | hm
      · exact old hm
      · simp at hm; have := hI.pos; omega
    · rw [upd_other _ _ e2] at hm; exact old hm
theorem Good.one (o : Own) : Good (Ar.one o) (fun _ => []) := ⟨Inv.one o, fun _ => 0, fun p _ c hc => by cases hc⟩
theorem Conn.one (o : Own) : Conn (Ar.one o) (fun _ => []) := ⟨fun c h1 h2 => by have : c < 1 := h2; omega, fun p _ hm => by cases hm⟩
end
/-- The state of such an arena; C: what else is known of its children. -/
def St (C : Ar → (Nat → List Nat) → Prop) (w0 w : World) (A n : Nat) : Prop := ∃ g cap S ch, AR w A g cap S ∧ w0.heap.size ≤ A ∧ w0.heap.size ≤ g ∧ Good S ch ∧ C S ch ∧ Sized S ∧ S.n = n ∧ Below w0.heap.size w0 w
theorem St.base {C : Ar → (Nat → List Nat) → Prop} {w0 w : World} {A n : Nat} (h : St C w0 w A n) : Below w0.heap.size w0 w := by
  obtain ⟨g, cap, S, ch, _, _, _, _, _, _, _, h⟩ := h; exact h
theorem St.keep {C : Ar → (Nat → List Nat) → Prop} {w0 w w' : World} {A n : Nat} (h : St C w0 w A n) (hb : Below w.heap.size w w') : St C w0 w' A n := by
  obtain ⟨g, cap, S, ch, h1, h2, h3, h4, h5, h6, h7, h8⟩ := h
  exact ⟨g, cap, S, ch, h1.below hb, h2, h3, h4, h5, h6, h7, below_later h8 hb⟩
theorem St.new {C : Ar → (Nat → List Nat) → Prop} {w0 w w' : World} {A g : Nat} {o : Own} (hC : C (Ar.one o) (fun _ => [])) (h0 : Below w0.heap.size w0 w) (h1 : AR w' A g 1 (Ar.one o)) (hA : w.heap.size ≤ A) (hg : w.heap.size ≤ g) (hb : Below w.heap.size w w') (hs : o.s.size ≤ 281474976710656 ∧ o.t.size ≤ 281474976710656) : St C w0 w' A 1 :=
  ⟨g, 1, _, _, h1, Nat.le_trans h0.size hA, Nat.le_trans h0.size hg, Good.one o, hC, fun i _ => hs, rfl, below_later h0 hb⟩
theorem St.add {C : Ar → (Nat → List Nat) → Prop} (hCa : ∀ {S ch p o}, C S ch → Good S ch → p < S.n → C ((S.push o).hang S.n p) (upd ch p (ch p ++ [S.n]))) {w0 w : World} {A n : Nat} (h : St C w0 w A n) {p : Nat} (hp : p < n) (hn : n ≤ 1000000000) (o : Own) (hs : o.s.size ≤ 281474976710656 ∧ o.t.size ≤ 281474976710656) :
    Calls Try.prog 13 #[ptr A, .int .i64 p, nodeV o (.slice none 0 0)] w fun e w' => e = .returned (.int .i64 n) ∧ St C w0 w' A (n + 1) := by
  obtain ⟨g, cap, S, ch, h1, h2, h3, h4, h5, h6, rfl, h8⟩ := h
  refine (add_any h1 hp hn (h4.inv.lastOk hp) o none 0 0 hs.1 hs.2).mono ?_
  rintro e w' ⟨rfl, g', cap', h1', hg', ho⟩
  have hw := h8.size
  refine ⟨rfl, g', cap', _, _, h1', h2, by omega, h4.added hp o, hCa h5 h4 hp, h6.added p hs.1 hs.2, push_hang_n _ _ _, h8.trans (ho.below hw (fun k hk => by rcases hk with rfl | rfl <;> assumption))⟩
theorem St.move {C : Ar → (Nat → List Nat) → Prop} (hCm : ∀ {S ch S' id p}, C S ch → S'.n = S.n → p < S.n → id ≠ 0 → C S' (moved ch id p)) {w0 w : World} {A n : Nat} (h : St C w0 w A n) (id p : Int) :
    Calls Try.prog 20 #[ptr A, .int .i64 id, .int .i64 p] w fun e w' => (∃ b, e = .returned (.bool b)) ∧ St C w0 w' A n := by
  obtain ⟨g, cap, S, ch, h1, h2, h3, h4, h5, h6, rfl, h8⟩ := h
  refine (move_any h4 h1 id p).mono ?_
  rintro e w' ⟨b, rfl, hE⟩
  refine ⟨⟨b, rfl⟩, ?_⟩
  rcases hE with ⟨_, _, rfl⟩ | ⟨_, hc, S', h1', ho, hn', ho', hG'⟩
  · exact ⟨g, cap, S, ch, h1, h2, h3, h4, h5, h6, rfl, h8⟩
  · have hw := h8.size
    exact ⟨g, cap, S', _, h1', h2, h3, hG', hCm h5 hn' (by have := hc.2.1; omega) (by have := hc.1; have := hc.2.2.1; omega), fun i hi => by rw [ho']; exact h6 i (by omega), hn', h8.trans (ho.below hw (fun k hk => by rcases hk with rfl | rfl <;> assumption))⟩
end Tr
end Go.Proofs.Ytlpfffioidbkeaa
