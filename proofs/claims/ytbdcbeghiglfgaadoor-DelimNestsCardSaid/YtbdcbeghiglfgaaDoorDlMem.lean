/- Layer 13: rows of runs and of pairs in memory. -/
import Derived.Test.YtbdcbeghiglfgaaDoorDlPure
import Derived.Test.YtbdcbeghiglfgaaDoorProg
import Derived.WalkKit
import Derived.BigCall
import Derived.BigQuiet
import Derived.Below
import Derived.WideShapes
import Derived.Deep.LoopGhost
import Derived.Deep.OwnRows
import Derived.Deep.DeepCutAuto
import Derived.Deep.CutBlock
import Derived.OwnWalk
import Derived.OneCell
import Derived.Lib.Hide
import Derived.RegionTactic
import Derived.Laws.ResultCell
import Derived.Laws.Rows
import Derived.Laws.AppendOwn
namespace Go.Proofs.YtbdcbeghiglfgaaDoor
open Go Go.RowKit
namespace Dl
set_option maxRecDepth 100000
set_option linter.unusedVariables false
set_option linter.unusedSimpArgs false

theorem retB {a b : Bool} (h : a = b) : Ending.returned (.bool a) = .returned (.bool b) := by rw [h]
theorem retV {a b : Value} (h : a = b) : Ending.returned a = .returned b := by rw [h]
theorem keep_cell {w W : World} {a : Addr} {v : Value} (hb : Below w.heap.size w W) (h : w.cell? a = some v) : W.cell? a = some v := by
  rw [hb.cell (World.block_lt_of_cell? w a h)]; exact h
theorem below_later {w W W' : World} (h : Below w.heap.size w W) (h' : Below W.heap.size W W') : Below w.heap.size w W' := h.trans (h'.mono h.size)
theorem below_drewN {B : Nat} {a w : World} (h : Below B a w) (n : Nat) : Below B a (w.drewN n) := h.trans ⟨rfl, rfl, rfl, Nat.le_refl _, fun _ _ => rfl⟩
theorem add_off (b k n : Nat) : (⟨b, k, none⟩ : Addr).add n = ⟨b, k + n, none⟩ := by unfold Addr.add; split <;> simp_all
theorem owns_form {w : World} {base n : Nat} {e : TypeId} {size : Nat} {v : Value} {xs : List Value} (h : w.ownsRow base e size v n xs) : ∃ a cap, v = .slice a n cap := by
  rcases h.2 with ⟨rfl, rfl⟩ | ⟨g, cap, cur, rfl, _⟩
  · exact ⟨none, 0, rfl⟩
  · exact ⟨_, _, rfl⟩
theorem owns_block {w w' : World} {base : Nat} {e : TypeId} {size n : Nat} {v : Value} {xs : List Value} (h : w.ownsRow base e size v n xs) (hb : ∀ k, v.ownBlock = some k → w'.heap[k]? = w.heap[k]?) : w'.ownsRow base e size v n xs := by
  refine ⟨h.1, h.2.imp id ?_⟩
  rintro ⟨g, cap, cur, rfl, h1, h2, h3⟩
  exact ⟨g, cap, cur, rfl, h1, (hb g rfl).trans h2, h3⟩
theorem owns_keep {w w' : World} {base : Nat} {e : TypeId} {size n : Nat} {v : Value} {xs : List Value} (h : w.ownsRow base e size v n xs) (hb : Below w.heap.size w w') : w'.ownsRow base e size v n xs :=
  owns_block h fun k hk => hb.block k (h.lt k hk).2

/-! ### rows of whatever -/
section
variable {α : Type} (en : α → List Value) (c : Nat)
def rowG (l : List α) : List Value := l.flatMap en
variable {en} {c}
theorem rowG_len (hen : ∀ a, (en a).length = c) : ∀ l : List α, (rowG en l).length = l.length * c
  | [] => by simp [rowG]
  | h :: r => by
    have := rowG_len hen r
    simp only [rowG, List.flatMap_cons, List.length_append, List.length_cons] at *
    rw [this, hen, Nat.add_mul]; omega
theorem rowG_snoc (l : List α) (h : α) : rowG en (l ++ [h]) = rowG en l ++ en h := by simp [rowG]
theorem rowG_append (l m : List α) : rowG en (l ++ m) = rowG en l ++ rowG en m := by simp [rowG]
theorem rowG_get (hen : ∀ a, (en a).length = c) : ∀ {l : List α} {i : Nat} {h : α}, l[i]? = some h → ∀ j v, (en h)[j]? = some v → (rowG en l)[i * c + j]? = some v
  | [], i, h, e, _, _, _ => by simp at e
  | x :: r, 0, h, e, j, v, hj => by
    simp at e; subst e
    rw [Nat.zero_mul, Nat.zero_add]
    show (en x ++ rowG en r)[j]? = _
    rw [List.getElem?_append_left (List.getElem?_eq_some_iff.1 hj).1]
    exact hj
  | x :: r, i + 1, h, e, j, v, hj => by
    show (en x ++ rowG en r)[(i + 1) * c + j]? = _
    rw [List.getElem?_append_right (by rw [hen, Nat.add_mul]; omega), hen, show (i + 1) * c + j - c = i * c + j by rw [Nat.add_mul]; omega]
    exact rowG_get hen (by simpa using e) j v hj
theorem rowG_one (h1 : ∀ a, ∀ u ∈ en a, u.oneCell' = true) (l : List α) : ∀ u ∈ rowG en l, u.oneCell' = true := by
  intro u hu
  obtain ⟨h, _, hu⟩ := List.mem_flatMap.1 hu
  exact h1 h u hu
variable (en) (c)
/-- How the cells of one lie. -/
def AtG (w : World) (b off : Nat) (x : α) : Prop := ∀ j u, (en x)[j]? = some u → w.cell? ⟨b, off + j, none⟩ = some u
/-- A slice of them that lies anywhere (what came in, or what a call told). -/
def RowsG (w : World) (v : Value) (l : List α) : Prop :=
  ∃ a cap, v = .slice a l.length cap ∧ l.length ≤ maxLen ∧ (l = [] ∨ ∃ b off, a = some ⟨b, off, none⟩ ∧ ∀ (i : Nat) (h : α), l[i]? = some h → AtG en w b (off + i * c) h)
def OwnG (t : TypeId) (w : World) (base : Nat) (v : Value) (l : List α) : Prop := w.ownsRow base t c v l.length (rowG en l)
variable {en} {c}
theorem AtG.keep {w w' : World} {b off : Nat} {x : α} (h : AtG en w b off x) (hb : Below w.heap.size w w') : AtG en w' b off x := fun j u hu => keep_cell hb (h j u hu)
theorem RowsG.keep {w w' : World} {v : Value} {l : List α} (h : RowsG en c w v l) (hb : Below w.heap.size w w') : RowsG en c w' v l := by
  obtain ⟨a, cap, h1, h2, h3⟩ := h
  exact ⟨a, cap, h1, h2, h3.imp id fun ⟨b, off, e, h⟩ => ⟨b, off, e, fun i x hx => (h i x hx).keep hb⟩⟩
theorem RowsG.nil (w : World) : RowsG en c w (.slice none 0 0) [] := ⟨none, 0, rfl, Nat.zero_le _, .inl rfl⟩
theorem RowsG.of_owns (hen : ∀ a, (en a).length = c) {t : TypeId} {w : World} {base : Nat} {v : Value} {l : List α} (h : OwnG en c t w base v l) : RowsG en c w v l := by
  unfold OwnG at h
  have hc := fun g => h.cells (g := g)
  rcases h.2 with ⟨rfl, h0⟩ | ⟨g, cap, cur, rfl, _, _, hle, hm, _⟩
  · have : l = [] := List.length_eq_zero_iff.1 h0
    subst this
    exact RowsG.nil w
  · refine ⟨some ⟨g, 0, none⟩, cap, rfl, Nat.le_trans hle hm, .inr ⟨g, 0, rfl, fun i x hx j u hj => ?_⟩⟩
    have := hc g rfl _ _ (rowG_get hen hx j u hj)
    rw [Nat.zero_add]
    rwa [add_off, Nat.zero_add] at this
theorem OwnG.keep {t : TypeId} {w w' : World} {base : Nat} {v : Value} {l : List α} (h : OwnG en c t w base v l) (hb : Below w.heap.size w w') : OwnG en c t w' base v l := owns_keep h hb
theorem OwnG.form {t : TypeId} {w : World} {base : Nat} {v : Value} {l : List α} (h : OwnG en c t w base v l) : ∃ a cap, v = .slice a l.length cap := owns_form h
theorem OwnG.nil (t : TypeId) (w : World) : OwnG en c t w w.heap.size (.slice none 0 0) [] := World.ownsRow_nil _ _ _ _
/-- A row of the call's own grows by one. -/
theorem OwnG.more {t : TypeId} {w w1 w2 : World} {B : Nat} {l : List α} {x : α} {u v' : Value} {o : Obj} (hB : w.heap.size ≤ B) (hown : OwnG en c t w1 B u l) (hbw : Below w.heap.size w w1)
    (hown' : w2.ownsRow B t c v' (l.length + 1) (rowG en l ++ en x)) (hgrow : (w1.alloc o).grownBy w2 u.ownBlock) : OwnG en c t w2 B v' (l ++ [x]) ∧ Below w.heap.size w w2 := by
  have hsz := hbw.size
  unfold OwnG at hown ⊢
  refine ⟨by rw [rowG_snoc]; simpa using hown', (hbw.alloc (by omega) _).grown hgrow (by simp; omega) (fun k hk => Nat.le_trans hB (hown.lt k hk).1)⟩
/-- The cells of a literal. -/
theorem RowsG.lit (hen : ∀ a, (en a).length = c) (w : World) (t : TypeId) (l : List α) (hl : l.length ≤ maxLen) : RowsG en c (w.alloc (.cells (rowG en l).toArray t)) (.slice (some ⟨w.heap.size, 0, none⟩) l.length l.length) l := by
  refine ⟨_, _, rfl, hl, .inr ⟨w.heap.size, 0, rfl, fun i x hx j u hj => ?_⟩⟩
  rw [World.cell?_alloc_new, Nat.zero_add]
  simpa using rowG_get hen hx j u hj
end

/-- The cells of a run, and of a pair. -/
def runE (r : Rn) : List Value := [.int .u8 (r.c.toNat : Int), .int .i64 r.n, .bool r.o, .bool r.k]
def pairE (p : Pr) : List Value := [.int .i64 (p.1 : Int), .int .i64 (p.2.1 : Int), .int .i64 (p.2.2 : Int)]
theorem runE_len (r : Rn) : (runE r).length = 4 := rfl
theorem pairE_len (p : Pr) : (pairE p).length = 3 := rfl
theorem runE_one (r : Rn) : ∀ u ∈ runE r, u.oneCell' = true := by
  intro u hu
  simp only [runE, List.mem_cons, List.not_mem_nil, or_false] at hu
  rcases hu with rfl | rfl | rfl | rfl <;> rfl
theorem pairE_one (p : Pr) : ∀ u ∈ pairE p, u.oneCell' = true := by
  intro u hu
  simp only [pairE, List.mem_cons, List.not_mem_nil, or_false] at hu
  rcases hu with rfl | rfl | rfl <;> rfl
abbrev Runs (w : World) (v : Value) (l : List Rn) : Prop := RowsG runE 4 w v l
abbrev Prs (w : World) (v : Value) (p : List Pr) : Prop := RowsG pairE 3 w v p
/-- The four cells of a run, the three of a pair. -/
theorem run_cells {w : World} {b off : Nat} {r : Rn} (h : AtG runE w b off r) : w.cell? ⟨b, off, none⟩ = some (.int .u8 (r.c.toNat : Int)) ∧ w.cell? ⟨b, off + 1, none⟩ = some (.int .i64 r.n) ∧ w.cell? ⟨b, off + 2, none⟩ = some (.bool r.o) ∧ w.cell? ⟨b, off + 3, none⟩ = some (.bool r.k) :=
  ⟨h 0 _ rfl, h 1 _ rfl, h 2 _ rfl, h 3 _ rfl⟩
theorem pair_cells {w : World} {b off : Nat} {p : Pr} (h : AtG pairE w b off p) : w.cell? ⟨b, off, none⟩ = some (.int .i64 (p.1 : Int)) ∧ w.cell? ⟨b, off + 1, none⟩ = some (.int .i64 (p.2.1 : Int)) ∧ w.cell? ⟨b, off + 2, none⟩ = some (.int .i64 (p.2.2 : Int)) :=
  ⟨h 0 _ rfl, h 1 _ rfl, h 2 _ rfl⟩
theorem rn_of {L : List Rn} {i : Nat} {r : Rn} (h : L[i]? = some r) : rn L i = r := by
  unfold rn
  rw [List.getD_eq_getElem?_getD, h]; rfl
theorem rn_at {L : List Rn} {i : Nat} (h : i < L.length) : L[i]? = some (rn L i) := by
  unfold rn
  rw [List.getD_eq_getElem?_getD, List.getElem?_eq_getElem h]; rfl

/-! ### a row of ints of the call's own -/
def LeftAt (w : World) (g n : Nat) (f : Nat → Nat) : Prop := w.rowIs g 3 n (fun k => .int .i64 (f k : Int))
theorem infoInt : (Tryd.prog.info? 3).map (fun i => (i.zero, i.size, i.bytes)) = some (some (.int .i64 0), 1, 8) := by kernel_rfl
theorem LeftAt.start (w : World) (n : Nat) : LeftAt (w.alloc (.cells (madeCells #[.int .i64 0] n) 3)) w.heap.size n (fun _ => 0) := World.rowIs_made w (.int .i64 0) n 3
theorem LeftAt.cell {w : World} {g n i : Nat} {f : Nat → Nat} (h : LeftAt w g n f) (hi : i < n) : w.cell? ⟨g, i, none⟩ = some (.int .i64 (f i : Int)) := World.rowIs.cell h hi
theorem LeftAt.fr {w : World} {g n : Nat} {f : Nat → Nat} (h : LeftAt w g n f) (i : Nat) : w.frozen? ⟨g, i, none⟩ = false := World.rowIs.frozen h _
theorem LeftAt.below {w w' : World} {B g n : Nat} {f : Nat → Nat} (h : LeftAt w g n f) (hb : Below B w w') (hg : g < B) : LeftAt w' g n f := World.rowIs.of_block h (hb.block g hg)
theorem LeftAt.block {w w' : World} {g n : Nat} {f : Nat → Nat} (h : LeftAt w g n f) (hb : w'.heap[g]? = w.heap[g]?) : LeftAt w' g n f := World.rowIs.of_block h hb
theorem LeftAt.set {w : World} {g n : Nat} {f : Nat → Nat} (h : LeftAt w g n f) (i v : Nat) : LeftAt (w.setCell ⟨g, i, none⟩ (.int .i64 (v : Int))) g n (upd f i v) := by
  refine (World.rowIs.set h i (.int .i64 (v : Int))).congr fun k _ => ?_
  unfold upd
  by_cases hk : k = i
  · rw [if_pos hk, if_pos hk]
  · rw [if_neg hk, if_neg hk]
theorem LeftAt.congr {w : World} {g n : Nat} {f f' : Nat → Nat} (h : LeftAt w g n f) (he : ∀ k, k < n → f k = f' k) : LeftAt w g n f' :=
  World.rowIs.congr h fun k hk => by rw [he k hk]
end Dl
end Go.Proofs.YtbdcbeghiglfgaaDoor
