/- Layer 13: what the laws ask of the program, and the document's examples. -/
import Derived.Test.YtbdcbeghiglfgaaDoorDlR
import Derived.Test.YtbdcbeghiglfgaaDoorDlS
namespace Go.Proofs.YtbdcbeghiglfgaaDoor
open Go Go.RowKit
namespace Dl
set_option maxRecDepth 100000
set_option linter.unusedVariables false
set_option linter.unusedSimpArgs false

/-- A run that a slice of the language holds. -/
def RnOk (r : Rn) : Prop := -9223372036854775808 ≤ r.n ∧ r.n ≤ 9223372036854775807
/-- What the laws ask of the program. -/
structure Prog13 (w : World) : Prop where
  flank : ∀ (b a : Int) (c : UInt8) (W : World), Below w.heap.size w W →
    Calls Tryd.prog 11 #[.int .i32 b, .int .i32 a, .int .u8 (c.toNat : Int)] W fun e w' => e = .returned (flankV b a c) ∧ Below W.heap.size W w'
  mtch : ∀ (l : List Rn) (v : Value) (W : World), Below w.heap.size w W → Runs W v l → l.length ≤ 100 → (∀ r ∈ l, RnOk r) → (pairs l).length ≤ 100000 →
    Calls Tryd.prog 15 #[v] W fun e w' => ∃ u, e = .returned u ∧ Prs w' u (pairs l) ∧ Below W.heap.size W w'
theorem Prog13.below {w w' : World} (h : Prog13 w) (hb : Below w.heap.size w w') : Prog13 w' :=
  ⟨fun b a c W hW => h.flank b a c W (below_later hb hW), fun l v W hW => h.mtch l v W (below_later hb hW)⟩
theorem one_row {w : World} {u : Value} {p : Pr} (h : Prs w u [p]) : ∃ b off cap, u = .slice (some ⟨b, off, none⟩) 1 cap ∧ AtG pairE w b off p := by
  obtain ⟨a, cap, rfl, _, h⟩ := h
  rcases h with h | ⟨b, off, rfl, hc⟩
  · cases h
  · exact ⟨b, off, cap, rfl, by have := hc 0 p rfl; rwa [Nat.zero_mul, Nat.add_zero] at this⟩
theorem ok_small {r : Rn} (h : 0 ≤ r.n) (h2 : r.n ≤ 1073741824) : RnOk r := ⟨by omega, by omega⟩
theorem goF_len (L : List Rn) (i : Nat) (f : Nat → Nat) : (goF L i f).length ≤ sumf f L.length := by
  revert i f
  refine goF_ind (L := L) ?_ ?_ ?_ ?_
  · intro i f hi; rw [goF_end hi]; exact Nat.zero_le _
  · intro i f hi hc ih; rw [goF_pass hi hc]; exact ih
  · intro i f hi hc hl ih
    rw [goF_none hi hc hl]
    refine Nat.le_trans ih (sum_le _ fun j _ => ?_)
    split
    · exact Nat.le_refl _
    · exact upd0_le f i j
  · intro i f k hi hc hl ih
    rw [goF_pair hi hc hl]
    obtain ⟨h1, h2, _⟩ := look_some hl
    obtain ⟨a1, a2, _⟩ := amount_le h2
    have := sum_lt (f := f) (g := paired f k i (amount L f k i)) L.length (fun j _ => paired_le f k i _ j) ⟨k, by omega, by rw [(paired_at h1).2.1]; omega⟩
    rw [List.length_cons]; omega
theorem pairs_len (L : List Rn) : (pairs L).length ≤ sumf (caps L) L.length := goF_len L 0 (caps L)
theorem flank_two : flankV 0 97 42 = .tuple #[.bool true, .bool false] := by
  show Value.tuple #[.bool (flankP 0 97 42).1, .bool (flankP 0 97 42).2] = _
  rw [show flankP 0 97 42 = (true, false) by decide +kernel]

set_option maxHeartbeats 8000000 in
theorem awake_any (w : World) (hP : Prog13 w) :
    Calls Tryd.prog 10 #[] w fun e w' => e = .returned (.bool true) ∧ Below w.heap.size w w' := by
  have P1 : pairs (deepR 2 2) = [(0, 1, 2)] := deep (a := 2) (b := 2) (by decide) (by decide) (by decide) (by decide)
  have P2 : pairs (deepR 1 2) = [(0, 1, 1)] := deep (a := 1) (b := 2) (by decide) (by decide) (by decide) (by decide)
  have HM1 : Hid (∀ v W, Below w.heap.size w W → Runs W v (deepR 2 2) → Calls Tryd.prog 15 #[v] W fun e w' => ∃ b off cap, e = .returned (.slice (some ⟨b, off, none⟩) 1 cap) ∧ AtG pairE w' b off (0, 1, 2) ∧ Below W.heap.size W w') := Lib.hid (fun v W hW hR =>
    (hP.mtch _ v W hW hR (by decide) (by intro r hr; simp [deepR] at hr; rcases hr with rfl | rfl <;> exact ok_small (by decide) (by decide)) (by rw [P1]; decide)).mono (by
      rintro e w' ⟨u, rfl, hu, hb⟩
      rw [P1] at hu
      obtain ⟨b, off, cap, rfl, hat⟩ := one_row hu
      exact ⟨b, off, cap, rfl, hat, hb⟩))
  have HM2 : Hid (∀ v W, Below w.heap.size w W → Runs W v (deepR 1 2) → Calls Tryd.prog 15 #[v] W fun e w' => ∃ b off cap, e = .returned (.slice (some ⟨b, off, none⟩) 1 cap) ∧ AtG pairE w' b off (0, 1, 1) ∧ Below W.heap.size W w') := Lib.hid (fun v W hW hR =>
    (hP.mtch _ v W hW hR (by decide) (by intro r hr; simp [deepR] at hr; rcases hr with rfl | rfl <;> exact ok_small (by decide) (by decide)) (by rw [P2]; decide)).mono (by
      rintro e w' ⟨u, rfl, hu, hb⟩
      rw [P2] at hu
      obtain ⟨b, off, cap, rfl, hat⟩ := one_row hu
      exact ⟨b, off, cap, rfl, hat, hb⟩))
  have HF : Hid (∀ W, Below w.heap.size w W → Calls Tryd.prog 11 #[.int .i32 0, .int .i32 97, .int .u8 42] W fun e w' => e = .returned (.tuple #[.bool true, .bool false]) ∧ Below W.heap.size W w') := Lib.hid (fun W hW =>
    (hP.flank 0 97 42 W hW).mono (by rintro e w' ⟨rfl, hb⟩; exact ⟨by rw [flank_two], hb⟩))
  have HL1 : Hid (∀ (W : World) (t : TypeId), Runs (W.alloc (.cells #[.int .u8 42, .int .i64 2, .bool true, .bool false, .int .u8 42, .int .i64 2, .bool false, .bool true] t)) (.slice (some ⟨W.heap.size, 0, none⟩) 2 2) (deepR 2 2)) := Lib.hid (fun W t => RowsG.lit runE_len W t (deepR 2 2) (by decide))
  have HL2 : Hid (∀ (W : World) (t : TypeId), Runs (W.alloc (.cells #[.int .u8 42, .int .i64 1, .bool true, .bool false, .int .u8 42, .int .i64 2, .bool false, .bool true] t)) (.slice (some ⟨W.heap.size, 0, none⟩) 2 2) (deepR 1 2)) := Lib.hid (fun W t => RowsG.lit runE_len W t (deepR 1 2) (by decide))
  have hb0 := Below.refl w.heap.size w
  clear hP P1 P2
  go_enter Tryd.func10, Tryd.ntmps10
  go_wp2_with fail
  refine (HM1.out _ _ (hb0.alloc (Nat.le_refl _) _) (HL1.out _ _)).mono ?_
  rintro e w1 ⟨b1, o1, p1, rfl, hat1, hb1⟩
  have hb1' := below_later (hb0.alloc (Nat.le_refl _) _) hb1
  obtain ⟨x0, x1, x2⟩ := pair_cells hat1
  clear hb1
  go_wp2_with fail
  have hb1'' := hb1'.alloc hb1'.size (.cells #[.int .u8 42, .int .i64 1, .bool true, .bool false, .int .u8 42, .int .i64 2, .bool false, .bool true] 28)
  refine (HM2.out _ _ hb1'' (HL2.out _ _)).mono ?_
  rintro e w2 ⟨b2, o2, p2, rfl, hat2, hb2⟩
  have hb2' := below_later hb1'' hb2
  have x2' := keep_cell hb2 (keep_cell ((Below.refl _ w1).alloc (Nat.le_refl _) (.cells #[.int .u8 42, .int .i64 1, .bool true, .bool false, .int .u8 42, .int .i64 2, .bool false, .bool true] 28)) x2)
  obtain ⟨y0, y1, y2⟩ := pair_cells hat2
  clear hb2 hb1''
  go_wp2_with fail
  refine (HF.out _ hb2').mono ?_
  rintro e w3 ⟨rfl, hb3⟩
  have hb3' := below_later hb2' hb3
  have x2'' := keep_cell hb3 x2'
  have y1' := keep_cell hb3 y1
  have y2' := keep_cell hb3 y2
  clear hb3
  go_wp2
  go_ret
  exact ⟨rfl, hb3'⟩
end Dl
end Go.Proofs.YtbdcbeghiglfgaaDoor
