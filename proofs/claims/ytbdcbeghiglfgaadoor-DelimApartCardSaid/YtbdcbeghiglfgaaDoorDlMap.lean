/- Layer 13: the two maps of the program: the nearest opener of a kind; up to where nothing is to be looked for again. -/
import Derived.Test.YtbdcbeghiglfgaaDoorDlF
import Derived.Test.YtbdcbeghiglfgaaDoorDlBlk
import Derived.DeepKeys4
import Derived.Maps.Views
import Derived.Maps.OwnSet
namespace Go.Proofs.YtbdcbeghiglfgaaDoor
open Go Go.RowKit
namespace Dl
set_option maxRecDepth 100000
set_option linter.unusedVariables false
set_option linter.unusedSimpArgs false

abbrev DU := DataW Unit
theorem laidOutD : laidOutB Tryd.prog = true := by kernel_rfl
theorem sizeD : Tryd.prog.types.size = Tryd.prog.types.size := rfl
theorem rowK : (66 : TypeId) < Tryd.prog.types.size := of_decide_eq_true (by kernel_rfl)
theorem rowS : (72 : TypeId) < Tryd.prog.types.size := of_decide_eq_true (by kernel_rfl)
theorem wideK : (match Tryd.prog.underlying 66 with | some (.array _ _) | some (.struct _) => true | _ => false) = true := by rw [Tryd.underlying66]
theorem wideS : (match Tryd.prog.underlying 72 with | some (.array _ _) | some (.struct _) => true | _ => false) = true := by rw [Tryd.underlying72]
theorem keyK : Go.Maps.Keyed Tryd.prog 66 := Go.Maps.Keyed.of_law (deep_law_laid laidOutD (m := 2) (by omega) rowK (by kernel_rfl) wideK)
theorem keySr : Go.Maps.Keyed Tryd.prog 72 := Go.Maps.Keyed.of_law (deep_law_laid laidOutD (m := 3) (by omega) rowS (by kernel_rfl) wideS)
def wfI (n : Int) : Prop := (Lit.int .i64 n).wf = true
theorem wfI_of {n : Int} (h : -9223372036854775808 ≤ n ∧ n ≤ 9223372036854775807) : wfI n := WalkArith.wf_i64 (by omega)
theorem wf_u8 (c : UInt8) : (Lit.int .u8 (c.toNat : Int)).wf = true := by
  have := c.toNat_lt
  simp [Lit.wf, IntKind.min, IntKind.max, IntKind.signed, IntKind.bits]
  omega
def kindL (k : UInt8 × Int) : Lit := .string (keyBytes [.int .u8 (k.1.toNat : Int), .int .i64 k.2])
def searchV (k : UInt8 × Int) (o : Bool) (r : Int) : Value := .agg #[.int .u8 (k.1.toNat : Int), .int .i64 k.2, .bool o, .int .i64 r]
def searchL (k : UInt8 × Int) (o : Bool) (r : Int) : Lit := .string (keyBytes [.int .u8 (k.1.toNat : Int), .int .i64 k.2, .bool o, .int .i64 r])
theorem kind_lits {k : UInt8 × Int} (h : wfI k.2) (N : Nat) : Tryd.prog.keyLits (N + 2) 66 [.int .u8 (k.1.toNat : Int), .int .i64 k.2] = some [.int .u8 (k.1.toNat : Int), .int .i64 k.2] := by
  have e : Tryd.prog.cellsOf 66 = 2 := by kernel_rfl
  have e1 : Tryd.prog.cellsOf 5 = 1 := by kernel_rfl
  have e2 : Tryd.prog.cellsOf 3 = 1 := by kernel_rfl
  have hw := wf_u8 k.1
  unfold wfI at h
  unfold Program.keyLits
  rw [Tryd.underlying66]
  simp [e, e1, e2, Program.keyLits, Tryd.underlying5, Tryd.underlying3, hw, h]
theorem kind_key {k : UInt8 × Int} (h : wfI k.2) : keyOf Tryd.prog 66 (kindV k) = some (kindL k) := by
  have h1 : Tryd.prog.keyType 66 = true := by kernel_rfl
  have e : Tryd.prog.cellsOf 66 = 2 := by kernel_rfl
  have h2 : (kindV k).formed Tryd.prog 66 = true := by
    simp [kindV, Value.formed, Tryd.underlying66, e]
  have hN : Tryd.prog.types.size + 1 = (Tryd.prog.types.size - 1) + 2 := by kernel_rfl
  unfold keyOf
  rw [Tryd.underlying66]
  simp only [h1, h2, Bool.and_self, if_true, hN]
  rw [show (kindV k).cells.toList = [.int .u8 (k.1.toNat : Int), .int .i64 k.2] from rfl, kind_lits h]
  rfl
theorem search_key {k : UInt8 × Int} (o : Bool) {r : Int} (h : wfI k.2) (hr : wfI r) : keyOf Tryd.prog 72 (searchV k o r) = some (searchL k o r) := by
  have h1 : Tryd.prog.keyType 72 = true := by kernel_rfl
  have e : Tryd.prog.cellsOf 72 = 4 := by kernel_rfl
  have h2 : (searchV k o r).formed Tryd.prog 72 = true := by
    simp [searchV, Value.formed, Tryd.underlying72, e]
  have e0 : Tryd.prog.cellsOf 66 = 2 := by kernel_rfl
  have e2 : Tryd.prog.cellsOf 3 = 1 := by kernel_rfl
  have e3 : Tryd.prog.cellsOf 4 = 1 := by kernel_rfl
  have hN : Tryd.prog.types.size + 1 = (Tryd.prog.types.size - 2) + 3 := by kernel_rfl
  have hk := kind_lits h (Tryd.prog.types.size - 2)
  have hb : Tryd.prog.keyLits (Tryd.prog.types.size - 2 + 2) 4 [.bool o] = some [.bool o] := by
    unfold Program.keyLits; rw [Tryd.underlying4]
  have hi : Tryd.prog.keyLits (Tryd.prog.types.size - 2 + 2) 3 [.int .i64 r] = some [.int .i64 r] := by
    unfold wfI at hr
    unfold Program.keyLits; rw [Tryd.underlying3]; simp [hr]
  unfold keyOf
  rw [Tryd.underlying72]
  simp only [h1, h2, Bool.and_self, if_true, hN]
  rw [show (searchV k o r).cells.toList = [.int .u8 (k.1.toNat : Int), .int .i64 k.2, .bool o, .int .i64 r] from rfl]
  generalize Tryd.prog.types.size - 2 = N at *
  unfold Program.keyLits
  rw [Tryd.underlying72]
  simp [e, e0, e2, e3, hk, hb, hi, searchL, keyBytes]
theorem u8_inj {a b : UInt8} (h : (a.toNat : Int) = (b.toNat : Int)) : a = b := UInt8.toNat_inj.1 (by omega)
theorem kindL_inj {k k' : UInt8 × Int} (h : wfI k.2) (h' : wfI k'.2) (e : kindL k = kindL k') : k = k' := by
  have := keyK.inj (kind_key h) (e ▸ kind_key h')
  simp only [kindV, Value.agg.injEq, Array.mk.injEq, List.cons.injEq, Value.int.injEq, true_and, and_true] at this
  exact Prod.ext (u8_inj this.1) this.2
theorem searchL_inj {k k' : UInt8 × Int} {o o' : Bool} {r r' : Int} (h : wfI k.2) (h' : wfI k'.2) (hr : wfI r) (hr' : wfI r') (e : searchL k o r = searchL k' o' r') : k = k' ∧ o = o' ∧ r = r' := by
  have := keySr.inj (search_key o h hr) (e ▸ search_key o' h' hr')
  simp only [searchV, Value.agg.injEq, Array.mk.injEq, List.cons.injEq, Value.int.injEq, Value.bool.injEq, true_and, and_true] at this
  exact ⟨Prod.ext (u8_inj this.1) this.2.1, this.2.2.1, this.2.2.2⟩

/-! ### the nearest opener of a kind -/
def ptrR : Value → Option (DU × List MemPlace)
  | .pointer none => some (.nil, [])
  | .pointer (some ⟨b, 0, none⟩) => some (.lit (.int .i64 (b : Int)), [])
  | _ => none
theorem ptrR_inj {v v' : Value} {z z' : DU × List MemPlace} (h : ptrR v = some z) (h' : ptrR v' = some z') (e : z.1 = z'.1) : v = v' := by
  unfold ptrR at h h'
  split at h <;> split at h' <;> first | (cases h; done) | (cases h'; done) | skip
  all_goals (injection h with h; injection h' with h'; subst h; subst h'; simp at e)
  · rfl
  · obtain rfl := Int.ofNat_inj.1 e; rfl
theorem ptrR_none : ptrR (.pointer none) = some (.nil, []) := rfl
theorem ptrR_ptr (b : Nat) : ptrR (ptr b) = some (.lit (.int .i64 (b : Int)), []) := rfl
/-- Block b is a map from kinds to pointers. -/
structure LMap (w : World) (b n : Nat) (V : UInt8 × Int → Value) : Prop where
  own : ∃ D, w.ownsMap Tryd.prog 66 ptrR b n D ∧ ∀ k, wfI k.2 → ptrR (V k) = some (D.atKey (kindL k) .nil, [])
theorem map_only {w w' : World} {k : TypeId} {R : Value → Option (DU × List MemPlace)} {b n : Nat} {D : DU} (h : w.ownsMap Tryd.prog k R b n D) {X : Nat → Prop} (ho : Only X w w') (hx : ¬ X b) : w'.ownsMap Tryd.prog k R b n D := by
  have hlt := h.lt
  obtain ⟨es, clock, hb, rest⟩ := h
  exact ⟨es, clock, (ho.block b hlt hx).trans hb, rest⟩
theorem row_ne_map {w : World} {base : Nat} {e : TypeId} {size n : Nat} {v : Value} {xs : List Value} {k : TypeId} {R : Value → Option (DU × List MemPlace)} {b m : Nat} {D : DU}
    (h : w.ownsRow base e size v n xs) (hm : w.ownsMap Tryd.prog k R b m D) : v.ownBlock ≠ some b := by
  intro e1
  rcases h.2 with ⟨rfl, _⟩ | ⟨g, cap, cur, rfl, _, hc, _⟩
  · cases e1
  · have : g = b := by simpa [Value.ownBlock] using e1
    subst this
    obtain ⟨es, clock, hb, _⟩ := hm
    rw [hc] at hb
    cases hb
theorem blk_ne_map {w : World} {B b m : Nat} {cs : Array Value} {t : TypeId} {k : TypeId} {R : Value → Option (DU × List MemPlace)} {D : DU} (h : Blk w B cs t) (hm : w.ownsMap Tryd.prog k R b m D) : B ≠ b := by
  intro e
  subst e
  obtain ⟨es, clock, hb, _⟩ := hm
  unfold Blk at h
  rw [h] at hb
  cases hb
theorem only_grown {w w' : World} {row : Option Nat} (h : w.grownBy w' row) : Only (fun g => row = some g) w w' :=
  ⟨h.os, h.tape, h.output, h.size, fun k hk hx => h.block k hk fun e => hx e.symm⟩
theorem LMap.lt {w : World} {b n : Nat} {V : UInt8 × Int → Value} (h : LMap w b n V) : b < w.heap.size := let ⟨_, h1, _⟩ := h.own; h1.lt
theorem LMap.only {w w' : World} {b n : Nat} {V : UInt8 × Int → Value} (h : LMap w b n V) {X : Nat → Prop} (ho : Only X w w') (hx : ¬ X b) : LMap w' b n V := by
  obtain ⟨D, h1, h2⟩ := h.own
  exact ⟨D, map_only h1 ho hx, h2⟩
theorem LMap.below {w w' : World} {b n : Nat} {V : UInt8 × Int → Value} (h : LMap w b n V) (hb : Below w.heap.size w w') : LMap w' b n V := h.only (X := fun _ => False) (Only.of_below hb) (fun h => h)
theorem LMap.made (w : World) : LMap (w.alloc (.map #[] 0)) w.heap.size 0 (fun _ => .pointer none) := ⟨.map [], World.ownsMap_made w _ _ _, fun k _ => rfl⟩
theorem zero_opn (W : World) : (zeroValue 49).run Tryd.prog W = .ok (.pointer none) W := Tryd.zeroValue49 W
theorem LMap.look {w : World} {b n : Nat} {V : UInt8 × Int → Value} (h : LMap w b n V) {k : UInt8 × Int} (hk : wfI k.2) :
    (Instr.lookup 47 (.map (some b)) (kindV k) false).run Tryd.prog w = .ok (V k) w := by
  obtain ⟨D, h1, h2⟩ := h.own
  obtain ⟨v, ps, hrun, hv⟩ := h1.lookup keyK Tryd.underlying47 (zero_opn w) (zd := .nil) (zp := []) rfl (kind_key hk)
  rw [hrun, ptrR_inj hv (h2 k hk) rfl]
theorem LMap.put {w : World} {b n : Nat} {V : UInt8 × Int → Value} (h : LMap w b n V) {k : UInt8 × Int} (hk : wfI k.2) (hn : n < 1000000) {u : Value} {z : DU × List MemPlace} (hu : ptrR u = some (z.1, [])) :
    ∃ w', (Instr.mapUpdate 47 (.map (some b)) (kindV k) u).run Tryd.prog w = .ok () w' ∧ LMap w' b (n + 1) (fun k' => if k' = k then u else V k') ∧ Only (fun g => g = b) w w' := by
  obtain ⟨D, h1, h2⟩ := h.own
  obtain ⟨w', hrun, hown, hgr⟩ := h1.update keyK Tryd.underlying47 (by unfold maxLen; omega) (kind_key hk) hu
  refine ⟨w', hrun, ⟨_, hown, fun k' hk' => ?_⟩, (only_grown hgr).mono fun g e => by injection e with e; exact e.symm⟩
  by_cases e : k' = k
  · subst e
    rw [if_pos rfl, Go.Maps.atKey_put_same (k := kindL k') h1.isMap (by simp [kindL, WideAt.IsKeyLit])]
    exact hu
  · rw [if_neg e, Go.Maps.atKey_put_other (fun e2 => e (kindL_inj hk' hk e2))]
    exact h2 k' hk'
theorem LMap.congr {w : World} {b n : Nat} {V V' : UInt8 × Int → Value} (h : LMap w b n V) (e : ∀ k, V k = V' k) : LMap w b n V' := by
  have : V = V' := funext e
  exact this ▸ h

/-! ### up to where nothing is to be looked for again -/
structure DMap (w : World) (b n : Nat) (G : UInt8 × Int → Bool → Int → Nat) : Prop where
  own : ∃ D, w.ownsMap Tryd.prog 72 (plainElem (H := Unit) Tryd.prog 3) b n D ∧ ∀ k o r, wfI k.2 → wfI r → D.atKey (searchL k o r) (.lit (.int .i64 0)) = .lit (.int .i64 (G k o r : Int))
theorem DMap.lt {w : World} {b n : Nat} {G : UInt8 × Int → Bool → Int → Nat} (h : DMap w b n G) : b < w.heap.size := let ⟨_, h1, _⟩ := h.own; h1.lt
theorem DMap.only {w w' : World} {b n : Nat} {G : UInt8 × Int → Bool → Int → Nat} (h : DMap w b n G) {X : Nat → Prop} (ho : Only X w w') (hx : ¬ X b) : DMap w' b n G := by
  obtain ⟨D, h1, h2⟩ := h.own
  exact ⟨D, map_only h1 ho hx, h2⟩
theorem DMap.below {w w' : World} {b n : Nat} {G : UInt8 × Int → Bool → Int → Nat} (h : DMap w b n G) (hb : Below w.heap.size w w') : DMap w' b n G := h.only (X := fun _ => False) (Only.of_below hb) (fun h => h)
theorem DMap.made (w : World) : DMap (w.alloc (.map #[] 0)) w.heap.size 0 (fun _ _ _ => 0) := ⟨.map [], World.ownsMap_made w _ _ _, fun k o r _ _ => rfl⟩
theorem zero_int (W : World) : (zeroValue 3).run Tryd.prog W = .ok (.int .i64 0) W := by kernel_rfl
theorem DMap.look {w : World} {b n : Nat} {G : UInt8 × Int → Bool → Int → Nat} (h : DMap w b n G) {k : UInt8 × Int} (o : Bool) {r : Int} (hk : wfI k.2) (hr : wfI r) :
    (Instr.lookup 48 (.map (some b)) (searchV k o r) false).run Tryd.prog w = .ok (.int .i64 (G k o r : Int)) w := by
  obtain ⟨D, h1, h2⟩ := h.own
  obtain ⟨c, hrun, hat, _⟩ := h1.lookup_int keySr Tryd.underlying48 Tryd.underlying3 (zero_int w) (search_key o hk hr)
  rw [h2 k o r hk hr] at hat
  injection hat with hat
  injection hat with _ hat
  rw [hrun, hat]
theorem DMap.put {w : World} {b n : Nat} {G : UInt8 × Int → Bool → Int → Nat} (h : DMap w b n G) {k : UInt8 × Int} {o : Bool} {r : Int} (hk : wfI k.2) (hr : wfI r) (hn : n < 1000000) {i : Nat} (hi : i < 1000000) :
    ∃ w', (Instr.mapUpdate 48 (.map (some b)) (searchV k o r) (.int .i64 (i : Int))).run Tryd.prog w = .ok () w' ∧ DMap w' b (n + 1) (putG G k o r i) ∧ Only (fun g => g = b) w w' := by
  obtain ⟨D, h1, h2⟩ := h.own
  obtain ⟨w', hrun, hown, hgr⟩ := h1.update keySr Tryd.underlying48 (by unfold maxLen; omega) (search_key o hk hr) (plainElem_int (H := Unit) Tryd.underlying3 (wfI_of (n := (i : Int)) (by omega)))
  refine ⟨w', hrun, ⟨_, hown, fun k' o' r' hk' hr' => ?_⟩, (only_grown hgr).mono fun g e => by injection e with e; exact e.symm⟩
  unfold putG
  by_cases e : k' = k ∧ o' = o ∧ r' = r
  · obtain ⟨rfl, rfl, rfl⟩ := e
    rw [if_pos ⟨rfl, rfl, rfl⟩, Go.Maps.atKey_put_same (k := searchL k' o' r') h1.isMap (by simp [searchL, WideAt.IsKeyLit])]
  · rw [if_neg e, Go.Maps.atKey_put_other (fun e2 => e (searchL_inj hk' hk hr' hr e2))]
    exact h2 k' o' r' hk' hr'
end Dl
end Go.Proofs.YtbdcbeghiglfgaaDoor
