/- Layer 6: how a tree lies in memory. -/
import Derived.Test.YtlpfffioidbkeaaTreePure
import Derived.Test.YtlpfffioidbkeaaShelf
import Derived.WalkKit
import Derived.BigCall
import Derived.Below
import Derived.WideShapes
import Derived.Deep.LoopGhost
namespace Go.Proofs.Ytlpfffioidbkeaa
open Go Go.RowKit
namespace Tr
set_option maxRecDepth 100000
set_option linter.unusedVariables false
set_option linter.unusedSimpArgs false

/-- A node by value: its own fields, and the slice of what stands in it. -/
def nodeV (o : Own) (L : Value) : Value := .agg #[.int .i64 o.kind, .string o.s, .string o.t, .int .i64 o.n, .int .i64 o.m, .bool o.flag, L]

theorem toList_eq (a : ByteArray) : a.toList = a.data.toList := Go.ByteArray.toList_eq a
theorem toList_inj {a b : ByteArray} : a.toList = b.toList ↔ a = b := by
  constructor
  · intro h
    rw [toList_eq, toList_eq] at h
    exact Go.WideShapes.bytes_inj h
  · exact fun h => h ▸ rfl
theorem Own.eq_iff (a b : Own) : Own.eq a b = true ↔ a = b := by
  cases a; cases b; simp [Own.eq, and_assoc, toList_inj]

/-- How the cells of a node lie. -/
structure CellsAt (w : World) (b off : Nat) (o : Own) (L : Value) : Prop where
  c0 : w.cell? ⟨b, off, none⟩ = some (.int .i64 o.kind)
  c1 : w.cell? ⟨b, off + 1, none⟩ = some (.string o.s)
  c2 : w.cell? ⟨b, off + 2, none⟩ = some (.string o.t)
  c3 : w.cell? ⟨b, off + 3, none⟩ = some (.int .i64 o.n)
  c4 : w.cell? ⟨b, off + 4, none⟩ = some (.int .i64 o.m)
  c5 : w.cell? ⟨b, off + 5, none⟩ = some (.bool o.flag)
  c6 : w.cell? ⟨b, off + 6, none⟩ = some L
mutual
/-- What stands in a tree lies in blocks of B. -/
def In (w : World) (B : Nat → Prop) : Tree → Value → Prop
  | .mk _ kids, L => ∃ a cap, L = .slice a kids.length cap ∧ kids.length ≤ cap ∧ cap ≤ maxLen ∧ (kids = [] ∨ ∃ b off, a = some ⟨b, off, none⟩ ∧ B b ∧ InL w B kids b off)
def InL (w : World) (B : Nat → Prop) : List Tree → Nat → Nat → Prop
  | [], _, _ => True
  | t :: ts, b, off => (∃ L, CellsAt w b off t.own L ∧ In w B t L) ∧ InL w B ts b (off + 7)
end
theorem CellsAt.carry {w w' : World} {b off : Nat} {o : Own} {L : Value} (h : CellsAt w b off o L) (hc : ∀ off v, w.cell? ⟨b, off, none⟩ = some v → w'.cell? ⟨b, off, none⟩ = some v) : CellsAt w' b off o L :=
  ⟨hc _ _ h.c0, hc _ _ h.c1, hc _ _ h.c2, hc _ _ h.c3, hc _ _ h.c4, hc _ _ h.c5, hc _ _ h.c6⟩
theorem In.carry_all {w w' : World} {B B' : Nat → Prop} (hB : ∀ b off v, B b → w.cell? ⟨b, off, none⟩ = some v → B' b) (hc : ∀ b off v, B b → w.cell? ⟨b, off, none⟩ = some v → w'.cell? ⟨b, off, none⟩ = some v) (T : Tree) : ∀ {L}, In w B T L → In w' B' T L := by
  induction T using Tree.ind with
  | h o kids ih =>
    intro L hin
    rw [In] at hin ⊢
    obtain ⟨a, cap, h1, h2, h3, h4⟩ := hin
    refine ⟨a, cap, h1, h2, h3, ?_⟩
    rcases h4 with e | ⟨b, off, h5, h6, h7⟩
    · exact .inl e
    by_cases hk : kids = []
    · exact .inl hk
    refine .inr ⟨b, off, h5, ?_, ?_⟩
    · cases kids with
      | nil => exact absurd rfl hk
      | cons t ts => rw [InL] at h7; obtain ⟨⟨L1, g1, _⟩, _⟩ := h7; exact hB _ _ _ h6 g1.c0
    clear h1 h2 h3 h5 hk
    induction kids generalizing off with
    | nil => simp [InL]
    | cons t ts ih2 =>
      rw [InL] at h7 ⊢
      obtain ⟨⟨L1, g1, g2⟩, g3⟩ := h7
      exact ⟨⟨L1, g1.carry (fun o v => hc b o v h6), ih t (by simp) g2⟩, ih2 (fun t ht => ih t (by simp [ht])) _ g3⟩
theorem In.below {w w' : World} {B : Nat → Prop} {C : Nat} {T : Tree} {L : Value} (h : In w B T L) (hb : Below C w w') (hBC : ∀ b, B b → b < C) : In w' B T L :=
  In.carry_all (fun _ _ _ h _ => h) (fun b off v hlt hcell => by rw [hb.cell (p := ⟨b, off, none⟩) (hBC b hlt)]; exact hcell) T h
theorem In.keep {w w' : World} {B : Nat → Prop} {T : Tree} {L : Value} (h : In w B T L) (hb : Below w.heap.size w w') : In w' B T L :=
  In.carry_all (fun _ _ _ h _ => h) (fun b off v hlt hcell => by rw [hb.cell (World.block_lt_of_cell? w _ hcell)]; exact hcell) T h
theorem In.slice {w : World} {B : Nat → Prop} {T : Tree} {L : Value} (h : In w B T L) : ∃ a cap, L = .slice a T.kids.length cap ∧ T.kids.length ≤ cap ∧ cap ≤ maxLen := by
  cases T with
  | mk o kids => rw [In] at h; obtain ⟨a, cap, h1, h2, h3, _⟩ := h; exact ⟨a, cap, h1, h2, h3⟩
theorem InL.get {w : World} {B : Nat → Prop} {kids : List Tree} {b : Nat} : ∀ {off : Nat}, InL w B kids b off → ∀ {i : Nat} {t : Tree} {r : List Tree}, kids.drop i = t :: r → ∃ L, CellsAt w b (off + i * 7) t.own L ∧ In w B t L := by
  induction kids with
  | nil => intro off h i t r e; simp at e
  | cons u us ih =>
    intro off h i t r e
    rw [InL] at h
    cases i with
    | zero => simp at e; obtain ⟨rfl, rfl⟩ := e; simpa using h.1
    | succ i =>
      obtain ⟨L, h1, h2⟩ := ih h.2 (i := i) (by simpa using e)
      refine ⟨L, ?_, h2⟩
      rw [show off + (i + 1) * 7 = off + 7 + i * 7 by omega]
      exact h1

theorem cell_at {w wr : World} {b off : Nat} {o : Own} {L : Value} (h : CellsAt w b off o L) (hb : Below w.heap.size w wr) : CellsAt wr b off o L :=
  h.carry fun o v hc => by rw [hb.cell (World.block_lt_of_cell? w _ hc)]; exact hc
/-- A node that was just laid into a new block. -/
theorem box_cells (w : World) (o : Own) (L : Value) (t : TypeId) : CellsAt (w.alloc (.cells #[.int .i64 o.kind, .string o.s, .string o.t, .int .i64 o.n, .int .i64 o.m, .bool o.flag, L] t)) w.heap.size 0 o L := by
  constructor <;> (rw [cell_of_row _ _ _ _ _ (0, 0) (heap_alloc_new w _)]; rfl)
theorem keep_cell {w W : World} {a : Addr} {v : Value} (hb : Below w.heap.size w W) (h : w.cell? a = some v) : W.cell? a = some v := by
  rw [hb.cell (World.block_lt_of_cell? w a h)]; exact h
theorem below_later {w W W' : World} (h : Below w.heap.size w W) (h' : Below W.heap.size W W') : Below w.heap.size w W' := h.trans (h'.mono h.size)
theorem ret_int {a b : Int} (h : a = b) : Ending.returned (.int .i64 a) = .returned (.int .i64 b) := by rw [h]
theorem ret_bool {a b : Bool} (h : a = b) : Ending.returned (.bool a) = .returned (.bool b) := by rw [h]

theorem alike_any (o o' : Own) (L L' : Value) (w : World) :
    Calls Try.prog 51 #[nodeV o L, nodeV o' L'] w fun e w' => e = .returned (.bool (Own.eq o o')) ∧ Below w.heap.size w w' := by
  unfold nodeV
  go_enter Try.func51, Try.ntmps51
  go_wp2
  all_goals go_ret
  all_goals refine ⟨?_, ((Below.refl _ w).alloc (Nat.le_refl _) _).alloc (by simp) _⟩
  all_goals (show Ending.returned (Value.bool _) = _; congr 2; simp [Own.eq, *])
theorem rown_any (o o' : Own) (L L' : Value) (w : World) :
    Calls Try.prog 22 #[nodeV o L, nodeV o' L'] w fun e w' => e = .returned (.bool (Own.eq o o')) ∧ Below w.heap.size w w' := by
  unfold nodeV
  go_enter Try.func22, Try.ntmps22
  go_wp2
  all_goals go_ret
  all_goals refine ⟨?_, ((Below.refl _ w).alloc (Nat.le_refl _) _).alloc (by simp) _⟩
  all_goals (show Ending.returned (Value.bool _) = _; congr 2; simp [Own.eq, *])
theorem clone_any (s : ByteArray) (w : World) (h : s.size ≤ 281474976710656) :
    Calls Try.prog 54 #[.string s] w fun e w' => e = .returned (.string s) ∧ Below w.heap.size w w' := by
  go_enter Try.func54, Try.ntmps54
  go_wp2_with (go_at_call 58; refine (Try.stringslite_Clone _ _ h).mono ?_; rintro e w2 ⟨rfl, hb⟩)
  go_ret
  exact ⟨rfl, hb⟩
theorem drop_cons {α : Type} {l : List α} {i g : Nat} (h : i + (g + 1) = l.length) : ∃ t, l.drop i = t :: l.drop (i + 1) ∧ t ∈ l :=
  ⟨l[i], List.drop_eq_getElem_cons (by omega), List.getElem_mem _⟩

end Tr
end Go.Proofs.Ytlpfffioidbkeaa
