/- Layer 7: the reference's registry: New, On, Step, Has. -/
import Derived.Test.YtemcahbpfjlnlaaRegP
import Derived.Deep.AppendLies
import Derived.Deep.RegionHeldLaw
namespace Go.Proofs.Ytemcahbpfjlnlaa
open Go Go.RowKit
namespace Rg
set_option maxRecDepth 100000
set_option linter.unusedVariables false
set_option linter.unusedSimpArgs false

def rfC (lv : Value) (m : Int) (sl : Bool) (st : Int) : Array Value := #[lv, .int .i64 m, .bool sl, .int .i64 st]
/-- The reference's registry; Z: its blocks. -/
structure RF (w : World) (Z : Nat → Prop) (T : Nat) (m : Int) (hs : List Hk) (sl : Bool) (st : Int) : Prop where
  lt : ∀ k, Z k → k < w.heap.size
  zT : Z T
  body : ∃ lv, Blk w T (rfC lv m sl st) 41 ∧ w.ownsRow 0 29 5 lv hs.length (rowC hs) ∧ ∀ g, lv.ownBlock = some g → Z g ∧ g ≠ T
section
variable {w w' : World} {Z : Nat → Prop} {T : Nat} {m : Int} {hs : List Hk} {sl : Bool} {st : Int}
theorem RF.only (h : RF w Z T m hs sl st) {Y : Nat → Prop} (ho : Only Y w w') (hd : ∀ k, Z k → ¬ Y k) : RF w' Z T m hs sl st := by
  obtain ⟨lv, h1, h2, h3⟩ := h.body
  exact ⟨fun k hk => Nat.lt_of_lt_of_le (h.lt k hk) ho.size, h.zT, lv, h1.only ho (hd T h.zT), owns_only h2 ho fun k hk => hd k (h3 k hk).1, h3⟩
theorem RF.below (h : RF w Z T m hs sl st) (hb : Below w.heap.size w w') : RF w' Z T m hs sl st := h.only (Only.of_below (X := fun _ => False) hb) fun _ _ e => e
theorem RF.set (h : RF w Z T m hs sl st) {j : Nat} {v : Value} {sl' : Bool} {st' : Int} (hj : ∀ lv, (rfC lv m sl st).setIfInBounds j v = rfC lv m sl' st') : RF (w.setCell ⟨T, j, none⟩ v) Z T m hs sl' st' ∧ Only Z w (w.setCell ⟨T, j, none⟩ v) := by
  obtain ⟨lv, h1, h2, h3⟩ := h.body
  have ho : Only (fun k => k = T) w (w.setCell ⟨T, j, none⟩ v) := Only.setCell (X := fun k => k = T) (Only.refl _ w) rfl _
  exact ⟨⟨fun k hk => by simpa using h.lt k hk, h.zT, lv, h1.set j v (hj lv), owns_only h2 ho fun k hk => (h3 k hk).2, h3⟩, ho.mono fun k e => e ▸ h.zT⟩
theorem RF.drew (h : RF w Z T m hs sl st) : RF w.drew Z T m hs sl st := h.below (Below.refl _ _).drew
theorem RF.mask (h : RF w Z T m hs sl st) : w.cell? ⟨T, 1, none⟩ = some (.int .i64 m) := by
  obtain ⟨lv, h1, h2, h3⟩ := h.body
  exact h1.cell 1 rfl
/-- Where its hooks lie. -/
theorem RF.rows (h : RF w Z T m hs sl st) : ∃ a cap, w.cell? ⟨T, 0, none⟩ = some (.slice a hs.length cap) ∧ w.ownsRow 0 29 5 (.slice a hs.length cap) hs.length (rowC hs) ∧
    (∀ g, (Value.slice a hs.length cap).ownBlock = some g → Z g ∧ g ≠ T) ∧ ∀ (i : Nat) (o : Hk), hs[i]? = some o → ∃ g, a = some ⟨g, 0, none⟩ ∧ ∀ W, Below w.heap.size w W → CellsAt W g (i * 5) o := by
  obtain ⟨lv, h1, h2, h3⟩ := h.body
  obtain ⟨a, cap, rfl⟩ := owns_form h2
  refine ⟨a, cap, h1.cell 0 rfl, h2, h3, fun i o hi => ?_⟩
  have hlt : i < hs.length := (List.getElem?_eq_some_iff.1 hi).1
  obtain ⟨g, cap', hv', _, _⟩ := h2.form (by omega)
  injection hv' with e1 _ e3
  subst e1 e3
  refine ⟨g, rfl, fun W hW => ?_⟩
  have hc := fun j v (hj : (hookC o)[j]? = some v) => (owns_keep h2 hW).cells rfl _ _ (rowC_get hi j v hj)
  refine ⟨?_, ?_, ?_, ?_, ?_⟩
  · have := hc 0 _ rfl; rwa [add_off, Nat.zero_add, Nat.add_zero] at this
  · have := hc 1 _ rfl; rwa [add_off, Nat.zero_add] at this
  · have := hc 2 _ rfl; rwa [add_off, Nat.zero_add] at this
  · have := hc 3 _ rfl; rwa [add_off, Nat.zero_add] at this
  · have := hc 4 _ rfl; rwa [add_off, Nat.zero_add] at this

theorem rnew_any (mask : Int) (w : World) :
    Calls Try.prog 12 #[.int .i64 mask] w fun e w' => ∃ T, e = .returned (ptr T) ∧ RF w' (fun k => k = T) T (bits .and .i64 mask 127) [] false 0 ∧ w.heap.size ≤ T ∧ Below w.heap.size w w' := by
  unfold ptr
  go_enter Try.func12, Try.ntmps12
  go_wp2
  have hB : Blk (w.alloc (.cells (rfC (.slice none 0 0) (bits .and .i64 mask 127) false 0) 41)) w.heap.size (rfC (.slice none 0 0) (bits .and .i64 mask 127) false 0) 41 := Blk.new w _ _
  have hb : Below w.heap.size w (w.alloc (.cells (rfC (.slice none 0 0) (bits .and .i64 mask 127) false 0) 41)) := (Below.refl _ w).alloc (Nat.le_refl _) _
  go_ret
  exact ⟨w.heap.size, rfl, ⟨fun k hk => by subst hk; exact hB.lt, rfl, _, hB, ⟨rfl, .inl ⟨rfl, rfl⟩⟩, fun g e => by cases e⟩, Nat.le_refl _, hb⟩

theorem ron_any (h : Hk) (T : Nat) (m : Int) (w : World) (hm : w.cell? ⟨T, 1, none⟩ = some (.int .i64 m)) :
    Calls Try.prog 33 #[ptr T, hookV h] w fun e w' => e = .returned (.bool (onB m h)) ∧ Below w.heap.size w w' := by
  have hA := World.block_lt_of_cell? w _ hm
  have hb0 : Below w.heap.size w (w.alloc (.cells (hookC h) 29)) := (Below.refl _ w).alloc (Nat.le_refl _) _
  have hm1 := keep_cell hb0 hm
  have K := (Blk.new w (hookC h) 29).hook.c4
  have HB := Lib.hid hb0
  clear hb0
  unfold ptr hookV hookC at *
  unfold onB
  go_enter Try.func33, Try.ntmps33
  by_cases hz : h.bit = 0
  · have e0 : (h.bit == 0) = true := by simp [hz]
    go_wp2_with fail
    go_big_quiet (fail)
    go_wp2
    go_ret
    exact ⟨by simp [hz], below_drewN ((Below.refl _ w).alloc (Nat.le_refl _) _) _⟩
  · have e0 : (h.bit == 0) = false := by simp [hz]
    go_wp2_with fail
    go_big_quiet (fail)
    go_wp2
    go_ret
    exact ⟨by simp [hz], below_drewN ((Below.refl _ w).alloc (Nat.le_refl _) _) _⟩

theorem rstep_any (h : RF w Z T m hs sl st) (n : Int) (hn : n ≤ 9223372036854775807) (h0 : 0 ≤ st) (h1 : st ≤ 4611686018427387904) :
    Calls Try.prog 23 #[ptr T, .int .i64 n] w fun e w' => e = .returned (.tuple #[]) ∧ RF w' Z T m hs sl (stepF st n) ∧ Only Z w w' := by
  by_cases hp : n ≤ 0
  · have hs0 : stepF st n = st := by unfold stepF; rw [if_pos hp]
    have hnp : ¬ (0 : Int) < n := by omega
    have HE := Lib.hid (show RF w Z T m hs sl st ∧ Only Z w w from ⟨h, Only.refl _ _⟩)
    clear h
    unfold ptr
    go_enter Try.func23, Try.ntmps23
    go_wp2
    first | go_end0 | refine bodyPost_ret (results_none rfl _ _ _) rfl ?_
    exact ⟨rfl, HE.out⟩
  · have hn0 : (0 : Int) < n := by omega
    obtain ⟨lv, hb1, _, _⟩ := h.body
    have c3 : w.cell? ⟨T, 3, none⟩ = some (.int .i64 st) := hb1.cell 3 rfl
    have f3 : w.frozen? ⟨T, 3, none⟩ = false := hb1.fr 3
    have hwr : IntKind.i64.wrap (4611686018427387904 - st) = 4611686018427387904 - st := by rw [IntKind.wrap_i64]; omega
    have hmn : min n (4611686018427387904 - st) ≤ 4611686018427387904 - st := Int.min_le_right _ _
    have hmn0 : 0 ≤ min n (4611686018427387904 - st) := by rw [Int.le_min]; omega
    have HF : Hid (stepF st n = st + min n (4611686018427387904 - st)) := Lib.hid (by unfold stepF; rw [if_neg hp])
    have hadd : IntKind.i64.wrap (st + min n (4611686018427387904 - st)) = st + min n (4611686018427387904 - st) := by rw [IntKind.wrap_i64]; omega
    have HEnd := Lib.hid (fun (s' : Int) => (h.set (j := 3) (v := .int .i64 s') (sl' := sl) (st' := s') fun lv => rfl))
    have HEnd2 := Lib.hid (fun (s' : Int) => (h.drew.set (j := 3) (v := .int .i64 s') (sl' := sl) (st' := s') fun lv => rfl))
    clear h hb1
    unfold ptr
    go_enter Try.func23, Try.ntmps23
    go_wp2_with fail
    go_region
    all_goals
      go_wp2
      first | go_end0 | refine bodyPost_ret (results_none rfl _ _ _) rfl ?_
      rw [HF.out]
      first
        | exact ⟨rfl, (HEnd2.out _).1, (Only.drew (Only.refl _ _)).trans' (HEnd2.out _).2⟩
        | exact ⟨rfl, ((HEnd.out _).1).drew, ((HEnd.out _).2).drew⟩
theorem found_at {hs : List Hk} {k : List UInt8} {i : Nat} {o : Hk} (hi : hs[i]? = some o) (he : o.name.data.toList = k) (hn : named (hs.take i) k = false) : named hs k = true ∧ found hs k = o := by
  refine ⟨named_iff.2 ⟨o, List.mem_of_getElem? hi, he⟩, ?_⟩
  have e : hs = hs.take i ++ o :: hs.drop (i + 1) := by
    have hl : i < hs.length := (List.getElem?_eq_some_iff.1 hi).1
    have e1 : hs[i] = o := (List.getElem?_eq_some_iff.1 hi).2
    conv => lhs; rw [← List.take_append_drop i hs]
    rw [List.drop_eq_getElem_cons hl, e1]
  have h1 : (hs.take i).find? (fun h => h.name.data.toList == k) = none := by
    rw [List.find?_eq_none]
    intro x hx hxe
    have : named (hs.take i) k = true := named_iff.2 ⟨x, hx, by simpa using hxe⟩
    rw [hn] at this; cases this
  have h2 : (o.name.data.toList == k) = true := by simpa using he
  have h3 : hs.find? (fun h => h.name.data.toList == k) = some o := by
    conv => lhs; rw [e]
    rw [List.find?_append, h1]
    simp [List.find?, h2]
  unfold found
  rw [h3]; rfl
end
end Rg
end Go.Proofs.Ytemcahbpfjlnlaa
