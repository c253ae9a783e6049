/- Layer 6: New, Add. -/
import Derived.Test.YtlpfffioidbkeaaTreeI
import Derived.Deep.AppendLies
import Derived.Deep.RegionLaw
namespace Go.Proofs.Ytlpfffioidbkeaa
open Go Go.RowKit
namespace Tr
set_option maxRecDepth 100000
set_option linter.unusedVariables false
set_option linter.unusedSimpArgs false

theorem placeInfo : (Try.prog.info? 56).map (fun i => (i.zero, i.size, i.bytes)) = some (some (.agg placeZ), 12, 128) := by kernel_rfl
def Ar.push (S : Ar) (o : Own) : Ar := { n := S.n + 1, o := upd S.o S.n o, par := upd S.par S.n (-1), first := upd S.first S.n (-1), last := upd S.last S.n (-1), behind := upd S.behind S.n (-1), before := upd S.before S.n (-1) }
def Ar.one (o : Own) : Ar := { n := 1, o := fun _ => o, par := fun _ => -1, first := fun _ => -1, last := fun _ => -1, behind := fun _ => -1, before := fun _ => -1 }
theorem Ar.push_new (S : Ar) (o : Own) (j : Nat) (hj : j < 12) : (placeC o)[j]? = some ((S.push o).cell S.n j) := by
  match j with
  | 0 | 1 | 2 | 3 | 4 | 5 | 6 | 7 | 8 | 9 | 10 | 11 => simp [placeC, Ar.cell, Ar.push, upd]
  | j + 12 => omega
theorem Ar.push_old (S : Ar) (o : Own) (i j : Nat) (hi : i < S.n) (hj : j < 12) : (S.push o).cell i j = S.cell i j := by
  have hne : i ≠ S.n := by omega
  match j with
  | 0 | 1 | 2 | 3 | 4 | 5 | 6 | 7 | 8 | 9 | 10 | 11 => simp [Ar.cell, Ar.push, upd, hne]
  | j + 12 => omega
theorem Ar.one_cell (o : Own) (i j : Nat) (hi : i < 1) (hj : j < 12) : (placeC o)[i * 12 + j]? = some ((Ar.one o).cell i j) := by
  have : i = 0 := by omega
  subst this
  match j with
  | 0 | 1 | 2 | 3 | 4 | 5 | 6 | 7 | 8 | 9 | 10 | 11 => simp [placeC, Ar.cell, Ar.one]
  | j + 12 => omega

theorem AR.owns {w : World} {A g cap : Nat} {S : Ar} {base : Nat} (h : AR w A g cap S) (hb : base ≤ g) :
    ∃ xs, w.ownsRow base 56 12 (.slice (some ⟨g, 0, none⟩) S.n cap) S.n xs ∧ xs.length = S.n * 12 ∧ ∀ i, i < S.n → ∀ j, j < 12 → xs[i * 12 + j]? = some (S.cell i j) := by
  obtain ⟨cur, hc, hs, hcell⟩ := h.hg
  have hle := h.hle
  have hl : (cur.toList.take (S.n * 12)).length = S.n * 12 := by
    have : S.n * 12 ≤ cap * 12 := Nat.mul_le_mul_right 12 hle
    simp; omega
  refine ⟨cur.toList.take (S.n * 12), ⟨hl, .inr ⟨g, cap, cur, rfl, hb, hc, hle, h.hcap, hs, rfl⟩⟩, hl, ?_⟩
  intro i hi j hj
  rw [List.getElem?_take_of_lt (by omega)]
  simpa using hcell i hi j hj

theorem AR.pushed {w1 : World} {A g cap g' cap' : Nat} {S : Ar} {o : Own} {base : Nat} {xs : List Value} (hl : xs.length = S.n * 12) (hx : ∀ i, i < S.n → ∀ j, j < 12 → xs[i * 12 + j]? = some (S.cell i j))
    (hA : Blk w1 A #[.slice (some ⟨g, 0, none⟩) S.n cap] 60) (hne : A ≠ g')
    (hown : w1.ownsRow base 56 12 (.slice (some ⟨g', 0, none⟩) (S.n + 1) cap') (S.n + 1) (xs ++ (placeC o).toList)) :
    AR (w1.setCell ⟨A, 0, none⟩ (.slice (some ⟨g', 0, none⟩) (S.n + 1) cap')) A g' cap' (S.push o) := by
  rcases hown.2 with ⟨h0, _⟩ | ⟨g2, cap2, cur, hv, _, hc, hle, hcm, hs, ht⟩
  · cases h0
  injection hv with hv1 _ hv3
  injection hv1 with hv1
  injection hv1 with hv1
  subst hv1 hv3
  refine ⟨hne, ?_, hle, hcm, cur, ?_, hs, ?_⟩
  · exact heap_setCell_same w1 A 0 _ _ _ hA
  · rw [heap_setCell_other _ _ _ _ (fun e => hne e.symm)]; exact hc
  · intro i hi j hj
    have hi' : i < S.n + 1 := hi
    have e : cur[i * 12 + j]? = (xs ++ (placeC o).toList)[i * 12 + j]? := by
      rw [← ht, List.getElem?_take_of_lt (by omega)]; simp
    rw [e]
    by_cases hin : i < S.n
    · rw [List.getElem?_append_left (by omega), hx i hin j hj, S.push_old o i j hin hj]
    · have : i = S.n := by omega
      subst this
      rw [List.getElem?_append_right (by omega), show S.n * 12 + j - xs.length = j by omega]
      have := S.push_new o j hj
      rw [← this]
      simp
theorem placeC_one (o : Own) : ∀ u ∈ (placeC o).toList, u.oneCell' = true := by
  intro u hu
  simp [placeC] at hu
  rcases hu with rfl | rfl | rfl | rfl | rfl | rfl | rfl | rfl <;> rfl

/-- What a call on an arena leaves: the arena anew, and all else as it was. -/
def Opd (w w' : World) (A g : Nat) (S : Ar) : Prop := ∃ g' cap', AR w' A g' cap' S ∧ (g' = g ∨ w.heap.size ≤ g') ∧ Only (two A g) w w'
theorem Opd.of {w w' : World} {A g cap : Nat} {S : Ar} (h : AR w' A g cap S) (ho : Only (two A g) w w') : Opd w w' A g S := ⟨g, cap, h, .inl rfl, ho⟩

set_option maxHeartbeats 2000000 in
theorem new_any (o : Own) (a : Option Addr) (len cap : Nat) (w : World) (h1 : o.s.size ≤ 281474976710656) (h2 : o.t.size ≤ 281474976710656) :
    Calls Try.prog 11 #[nodeV o (.slice a len cap)] w fun e w' => ∃ A g, e = .returned (ptr A) ∧ AR w' A g 1 (Ar.one o) ∧ w.heap.size ≤ A ∧ w.heap.size ≤ g ∧ Below w.heap.size w w' := by
  have HS := Lib.hid (fun W => alone_any o a len cap W h1 h2)
  unfold nodeV placeC at HS
  unfold nodeV
  go_enter Try.func11, Try.ntmps11
  go_wp2_with fail
  refine (HS.out _).mono ?_
  rintro e w2 ⟨rfl, hb2⟩
  have hbw2 : Below w.heap.size w w2 := below_later ((Below.refl _ w).alloc (Nat.le_refl _) _) hb2
  have hs2 := hbw2.size
  go_wp2
  go_ret
  refine ⟨w2.heap.size + 1, w2.heap.size, rfl, ⟨by omega, ?_, by simp [Ar.one], by decide, placeC o, ?_, rfl, ?_⟩, by omega, by omega, (hbw2.alloc hs2 _).alloc (by simp; omega) _⟩
  · have := Blk.new (w2.alloc (.cells (placeC o) 56)) #[.slice (some ⟨w2.heap.size, 0, none⟩) 1 1] 60
    rwa [World.size_alloc] at this
  · exact (Blk.new w2 (placeC o) 56).alloc _
  · intro i hi j hj; exact Ar.one_cell o i j hi hj

theorem add_out {w : World} {A g cap : Nat} {S : Ar} (h : AR w A g cap S) {id : Int} (hi : ¬ (0 ≤ id ∧ id < (S.n : Int))) (o : Own) (a : Option Addr) (len cp : Nat) :
    Calls Try.prog 13 #[ptr A, .int .i64 id, nodeV o (.slice a len cp)] w fun e w' => e = .returned (.int .i64 (-1)) ∧ Below w.heap.size w w' := by
  have hb0 : Below w.heap.size w (w.alloc (.cells (nodeC o (.slice a len cp)) 24)) := (Below.refl _ w).alloc (Nat.le_refl _) _
  have HL := Lib.hid (has_any (h.below hb0) id)
  rw [in_false hi] at HL
  unfold ptr at HL
  clear hi hb0
  unfold ptr nodeV
  go_enter Try.func13, Try.ntmps13
  go_wp2_with fail
  refine HL.out.mono ?_
  rintro e w1 ⟨rfl, rfl⟩
  go_wp2
  go_ret
  exact ⟨rfl, (Below.refl _ w).alloc (Nat.le_refl _) _⟩

end Tr
end Go.Proofs.Ytlpfffioidbkeaa
