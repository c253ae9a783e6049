/- Layer 7: maps of hooks and of rows; a registry in memory. -/
import Derived.Test.YtemcahbpfjlnlaaRegA
import Derived.Test.YtemcahbpfjlnlaaRegLock
import Derived.Sort.MapsRangeIn
import Derived.Maps.GroupsBeside
namespace Go.Proofs.Ytemcahbpfjlnlaa
open Go Go.RowKit
namespace Rg
set_option maxRecDepth 100000
set_option linter.unusedVariables false
set_option linter.unusedSimpArgs false

def noPanic (Q : Exit → Act → World → Prop) : Exit → Act → World → Prop
  | .panic _, _, _ => False
  | e, a, w => Q e a w
theorem noPanic_le {Q : Exit → Act → World → Prop} (e : Exit) (a : Act) (w : World) (h : noPanic Q e a w) : Q e a w := by
  cases e <;> first | exact h | exact h.elim
theorem wp_noPanic {P : Program} {c : Code} {Q : Exit → Act → World → Prop} {a : Act} {w : World} (h : c.wp P (noPanic Q) a w) : c.wp P Q a w := wp_mono h noPanic_le
abbrev DU := DataW Unit
def hkD (h : Hk) : DU := .agg [.lit (.string h.name.data.toList), .lit (.int .i64 h.ph), .lit (.int .i64 h.pri), .lit (.string h.trig.data.toList), .lit (.int .i64 h.bit)]
/-- How a hook in a map reads. -/
def hkR : Value → Option (DU × List MemPlace)
  | .agg cs => match cs.toList with
    | [.string n, .int .i64 a, .int .i64 b, .string t, .int .i64 c] => some (hkD ⟨n, a, b, t, c⟩, [])
    | _ => none
  | _ => none
theorem hkR_mk (h : Hk) : hkR (hookV h) = some (hkD h, []) := rfl
theorem hkR_inv {v : Value} {z : DU × List MemPlace} (h : hkR v = some z) : ∃ k, v = hookV k ∧ z = (hkD k, []) := by
  unfold hkR at h
  split at h
  · rename_i cs
    split at h
    · rename_i n a b t c e
      injection h with h
      refine ⟨⟨n, a, b, t, c⟩, ?_, h.symm⟩
      have : cs = #[.string n, .int .i64 a, .int .i64 b, .string t, .int .i64 c] := by rw [← e]
      rw [this]; rfl
    · cases h
  · cases h
theorem hkD_inj {a b : Hk} (h : hkD a = hkD b) : a = b := by
  cases a; cases b
  simp only [hkD, DataW.agg.injEq, List.cons.injEq, DataW.lit.injEq, Lit.string.injEq, Lit.int.injEq, and_true, true_and] at h
  obtain ⟨h1, h2, h3, h4, h5⟩ := h
  rw [bytes_eq h1, h2, h3, bytes_eq h4, h5]
/-- How the value of a slice in a map reads: where it lies, how long. -/
def slD (v : Value) : DU := match v with
  | .slice none n c => .agg [.lit (.int .i64 n), .lit (.int .i64 c)]
  | .slice (some ⟨b, o, none⟩) n c => .agg [.lit (.int .i64 b), .lit (.int .i64 o), .lit (.int .i64 n), .lit (.int .i64 c)]
  | _ => .nil
def slR : Value → Option (DU × List MemPlace)
  | .slice none n c => some (slD (.slice none n c), [])
  | .slice (some ⟨b, o, none⟩) n c => some (slD (.slice (some ⟨b, o, none⟩) n c), [])
  | _ => none
theorem slR_inj {v v' : Value} {z z' : DU × List MemPlace} (h : slR v = some z) (h' : slR v' = some z') (e : z.1 = z'.1) : v = v' := by
  unfold slR at h h'
  split at h <;> split at h' <;> first | (cases h; done) | (cases h'; done) | skip
  all_goals (injection h with h; injection h' with h'; subst h; subst h'; simp [slD] at e)
  · obtain ⟨h1, h2⟩ := e
    obtain rfl := Int.ofNat_inj.1 h1; obtain rfl := Int.ofNat_inj.1 h2; rfl
  · obtain ⟨h1, h2, h3, h4⟩ := e
    obtain rfl := Int.ofNat_inj.1 h1; obtain rfl := Int.ofNat_inj.1 h2; obtain rfl := Int.ofNat_inj.1 h3; obtain rfl := Int.ofNat_inj.1 h4; rfl
theorem slR_form {v : Value} {z : DU × List MemPlace} (h : slR v = some z) : z = (slD v, []) ∧ ∃ a n c, v = .slice a n c := by
  unfold slR at h
  split at h <;> first | (cases h; done) | skip
  all_goals (injection h with h; exact ⟨h.symm, _, _, _, rfl⟩)
theorem keyS : Go.Maps.Keyed Try.prog 9 := Go.Maps.string_keyed Try.underlying9
theorem keyI : Go.Maps.Keyed Try.prog 3 := Go.Maps.int_keyed Try.underlying3
theorem key_string {s : ByteArray} (h : s.size ≤ 281474976710656) : keyOf Try.prog 9 (.string s) = some (.string s.data.toList) := WideMaps.keyOf_string_mk Try.underlying9 (by unfold maxLen; omega)
theorem key_int {n : Int} (h : (Lit.int .i64 n).wf = true) : keyOf Try.prog 3 (.int .i64 n) = some (.int .i64 n) := Go.Maps.keyOf_int_mk Try.underlying3 h
theorem same_string (a b : List UInt8) : (Lit.string a).sameKey (.string b) = (a == b) := rfl

def named (hs : List Hk) (k : List UInt8) : Bool := hs.any fun h => h.name.data.toList == k
theorem named_iff {hs : List Hk} {k : List UInt8} : named hs k = true ↔ ∃ h ∈ hs, h.name.data.toList = k := by simp [named]
/-- Block b is a map that holds these hooks by name. -/
structure HMap (w : World) (b : Nat) (D : DU) (hs : List Hk) : Prop where
  own : w.ownsMap Try.prog 9 hkR b hs.length D
  has : ∀ k, Maps.has D (.string k) = named hs k
  get : ∀ h ∈ hs, ∀ z, D.atKey (.string h.name.data.toList) z = hkD h
theorem HMap.only {w w' : World} {b : Nat} {D : DU} {hs : List Hk} (h : HMap w b D hs) {X : Nat → Prop} (ho : Only X w w') (hx : ¬ X b) : HMap w' b D hs := by
  refine ⟨?_, h.has, h.get⟩
  have hlt := h.own.lt
  obtain ⟨es, clock, hb, rest⟩ := h.own
  exact ⟨es, clock, (ho.block b hlt hx).trans hb, rest⟩
theorem HMap.made (w : World) : HMap (w.alloc (.map #[] 0)) w.heap.size (.map []) [] := ⟨World.ownsMap_made w _ _ _, fun k => rfl, fun h hh => by cases hh⟩
theorem zero_hook (W : World) : (zeroValue 29).run Try.prog W = .ok (hookV default) W := Try.zeroValue29 W
theorem zero_slice (W : World) : (zeroValue 34).run Try.prog W = .ok (.slice none 0 0) W := Try.zeroValue34 W
/-- What a look-up by name gives. -/
def found (hs : List Hk) (k : List UInt8) : Hk := (hs.find? fun h => h.name.data.toList == k).getD default
theorem found_mem {hs : List Hk} {k : List UInt8} (h : named hs k = true) : found hs k ∈ hs ∧ (found hs k).name.data.toList = k := by
  obtain ⟨x, hx, e⟩ := named_iff.1 h
  have : (hs.find? fun h => h.name.data.toList == k).isSome = true := by rw [List.find?_isSome]; exact ⟨x, hx, by simpa using e⟩
  obtain ⟨y, hy⟩ := Option.isSome_iff_exists.1 this
  unfold found
  rw [hy]
  exact ⟨List.mem_of_find?_eq_some hy, by have := List.find?_some hy; simpa using this⟩
theorem found_none {hs : List Hk} {k : List UInt8} (h : named hs k = false) : found hs k = default := by
  unfold found
  have : (hs.find? fun h => h.name.data.toList == k) = none := by
    rw [List.find?_eq_none]
    intro x hx e
    have : named hs k = true := named_iff.2 ⟨x, hx, by simpa using e⟩
    rw [h] at this; cases this
  rw [this]; rfl
theorem HMap.look {w : World} {b : Nat} {D : DU} {hs : List Hk} (h : HMap w b D hs) {s : ByteArray} (hs0 : s.size ≤ 281474976710656) :
    (Instr.lookup 51 (.map (some b)) (.string s) true).run Try.prog w = .ok (.tuple #[hookV (found hs s.data.toList), .bool (named hs s.data.toList)]) w := by
  obtain ⟨v, ps, hrun, hv⟩ := h.own.look_ok keyS Try.underlying51 (zero_hook w) (hkR_mk default) (key_string hs0)
  rw [hrun, h.has]
  obtain ⟨k, rfl, hk⟩ := hkR_inv hv
  have hk1 : D.atKey (.string s.data.toList) (hkD default) = hkD k := congrArg Prod.fst hk
  cases hn : named hs s.data.toList
  · have hh : Maps.has D (.string s.data.toList) = false := by rw [h.has]; exact hn
    rw [Maps.atKey_of_not_has hh] at hk1
    rw [← hkD_inj hk1, found_none hn]
  · obtain ⟨h1, h2⟩ := found_mem hn
    have := h.get _ h1 (hkD default)
    rw [h2, hk1] at this
    rw [hkD_inj this]
theorem HMap.put {w w' : World} {b : Nat} {D : DU} {hs : List Hk} (h : HMap w b D hs) {x : Hk} (hx : named hs x.name.data.toList = false)
    (ho : w'.ownsMap Try.prog 9 hkR b (hs.length + 1) (D.put (.string x.name.data.toList) (hkD x))) : HMap w' b (D.put (.string x.name.data.toList) (hkD x)) (hs ++ [x]) := by
  have hm := h.own.isMap
  refine ⟨by simpa using ho, fun k => ?_, fun y hy z => ?_⟩
  · by_cases e : k = x.name.data.toList
    · subst e
      rw [Maps.has_put_same hm (show WideAt.IsKeyLit (.string _) from by simp [WideAt.IsKeyLit])]
      symm; rw [named_iff]
      exact ⟨x, by simp, rfl⟩
    · rw [Maps.has_put_other (fun e2 => e (by injection e2)), h.has]
      have : (x.name.data.toList == k) = false := by simpa using fun e2 : x.name.data.toList = k => e e2.symm
      simp [named, this]
  · rcases List.mem_append.1 hy with hy | hy
    · have hne : y.name.data.toList ≠ x.name.data.toList := fun e => by
        have : named hs x.name.data.toList = true := named_iff.2 ⟨y, hy, e⟩
        rw [hx] at this; cases this
      rw [Maps.atKey_put_other (fun e2 => hne (by injection e2))]
      exact h.get y hy z
    · rw [List.mem_singleton] at hy
      subst hy
      exact Maps.atKey_put_same hm (show WideAt.IsKeyLit (.string _) from by simp [WideAt.IsKeyLit]) _ _

def wfI (p : Int) : Prop := (Lit.int .i64 p).wf = true
/-- Block b is a map of rows by phase: V p is what it holds of a phase, f p what lies there. -/
structure PMap (w : World) (b n : Nat) (D : DU) (V : Int → Value) (f : Int → List Hk) (N : Nat → Prop) : Prop where
  own : w.ownsMap Try.prog 3 slR b n D
  get : ∀ p, wfI p → slR (V p) = some (D.atKey (.int .i64 p) (slD (.slice none 0 0)), [])
  has : ∀ p, wfI p → Maps.has D (.int .i64 p) = !(f p).isEmpty
  row : ∀ p, wfI p → w.ownsRow 0 29 5 (V p) (f p).length (rowC (f p))
  sep : ∀ p q, wfI p → wfI q → p ≠ q → ∀ g, (V p).ownBlock = some g → (V q).ownBlock ≠ some g
  new : ∀ p g, wfI p → (V p).ownBlock = some g → N g
theorem PMap.only {w w' : World} {b n : Nat} {D : DU} {V : Int → Value} {f : Int → List Hk} {N : Nat → Prop} (h : PMap w b n D V f N) {X : Nat → Prop} (ho : Only X w w') (hx : ¬ X b) (hN : ∀ g, N g → ¬ X g) : PMap w' b n D V f N := by
  refine ⟨?_, h.get, h.has, fun p hp => owns_only (h.row p hp) ho fun k hk => hN k (h.new p k hp hk), h.sep, h.new⟩
  have hlt := h.own.lt
  obtain ⟨es, clock, hb, rest⟩ := h.own
  exact ⟨es, clock, (ho.block b hlt hx).trans hb, rest⟩
theorem PMap.mono {w : World} {b n : Nat} {D : DU} {V : Int → Value} {f : Int → List Hk} {N M : Nat → Prop} (h : PMap w b n D V f N) (hM : ∀ g, N g → g < w.heap.size → M g) : PMap w b n D V f M :=
  ⟨h.own, h.get, h.has, h.row, h.sep, fun p g hp hg => hM g (h.new p g hp hg) ((h.row p hp).lt g hg).2⟩
theorem PMap.look {w : World} {b n : Nat} {D : DU} {V : Int → Value} {f : Int → List Hk} {N : Nat → Prop} (h : PMap w b n D V f N) {p : Int} (hp : wfI p) :
    (Instr.lookup 64 (.map (some b)) (.int .i64 p) false).run Try.prog w = .ok (V p) w := by
  obtain ⟨v, ps, hrun, hv⟩ := h.own.lookup keyI Try.underlying64 (zero_slice w) (zd := slD (.slice none 0 0)) (zp := []) rfl (key_int hp)
  rw [hrun, slR_inj hv (h.get p hp) rfl]

def regC (m : Int) (bm : Nat) (bp : Option Nat) (dn st : Int) : Array Value := #[.int .i64 m, .int .i32 0, .int .u32 0, .map (some bm), .int .u32 dn, .int .i32 0, .int .u32 0, .map bp, .int .i64 st]
/-- A registry: its mask, what was added, whether it is sealed, its steps; X: its blocks. -/
structure RB (w : World) (X : Nat → Prop) (A : Nat) (m : Int) (hs : List Hk) (sl : Bool) (st : Int) : Prop where
  lt : ∀ k, X k → k < w.heap.size
  names : Names hs
  ok : ∀ h ∈ hs, HkOk h
  len : hs.length ≤ 1000000
  st0 : 0 ≤ st
  st1 : st ≤ 4611686018427387904
  xA : X A
  body : ∃ bm D bp dn, X bm ∧ A ≠ bm ∧ Blk w A (regC m bm bp dn st) 69 ∧ HMap w bm D hs ∧
    (sl = false ∧ bp = none ∧ dn = 0 ∨ sl = true ∧ dn = 1 ∧ ∃ b2 n D2 V, bp = some b2 ∧ X b2 ∧ b2 ≠ A ∧ PMap w b2 n D2 V (told m hs) (fun g => X g ∧ g ≠ A))
theorem RB.only {w w' : World} {X Y : Nat → Prop} {A : Nat} {m : Int} {hs : List Hk} {sl : Bool} {st : Int} (h : RB w X A m hs sl st) (ho : Only Y w w') (hd : ∀ k, X k → ¬ Y k) : RB w' X A m hs sl st := by
  obtain ⟨bm, D, bp, dn, h1, h2, h3, h4, h5⟩ := h.body
  refine ⟨fun k hk => Nat.lt_of_lt_of_le (h.lt k hk) ho.size, h.names, h.ok, h.len, h.st0, h.st1, h.xA, bm, D, bp, dn, h1, h2, h3.only ho (hd A h.xA), h4.only ho (hd bm h1), ?_⟩
  rcases h5 with h5 | ⟨e1, e2, b2, n, D2, V, e3, h6, h7, h8⟩
  · exact .inl h5
  · exact .inr ⟨e1, e2, b2, n, D2, V, e3, h6, h7, h8.only ho (hd b2 h6) fun g hg => hd g hg.1⟩
theorem RB.below {w w' : World} {X : Nat → Prop} {A : Nat} {m : Int} {hs : List Hk} {sl : Bool} {st : Int} (h : RB w X A m hs sl st) (hb : Below w.heap.size w w') : RB w' X A m hs sl st :=
  h.only (Y := fun _ => False) ⟨hb.os, hb.tape, hb.output, hb.size, fun k hk _ => hb.block k hk⟩ fun _ _ h => h
theorem RB.step {w : World} {X : Nat → Prop} {A : Nat} {m : Int} {hs : List Hk} {sl : Bool} {st : Int} (h : RB w X A m hs sl st) {s' : Int} (h0 : 0 ≤ s') (h1 : s' ≤ 4611686018427387904) :
    RB (w.setCell ⟨A, 8, none⟩ (.int .i64 s')) X A m hs sl s' := by
  obtain ⟨bm, D, bp, dn, g1, g2, g3, g4, g5⟩ := h.body
  have ho : Only (fun k => k = A) w (w.setCell ⟨A, 8, none⟩ (.int .i64 s')) := Only.setCell (X := fun k => k = A) (Only.refl _ w) rfl _
  refine ⟨fun k hk => by simpa using h.lt k hk, h.names, h.ok, h.len, h0, h1, h.xA, bm, D, bp, dn, g1, g2, g3.set 8 _ rfl, g4.only ho (fun e => g2 e.symm), ?_⟩
  rcases g5 with g5 | ⟨e1, e2, b2, n, D2, V, e3, h6, h7, h8⟩
  · exact .inl g5
  · exact .inr ⟨e1, e2, b2, n, D2, V, e3, h6, h7, h8.only ho h7 fun g hg => hg.2⟩
theorem RB.mask {w : World} {X : Nat → Prop} {A : Nat} {m : Int} {hs : List Hk} {sl : Bool} {st : Int} (h : RB w X A m hs sl st) : w.cell? ⟨A, 0, none⟩ = some (.int .i64 m) := by
  obtain ⟨bm, D, bp, dn, g1, g2, g3, g4, g5⟩ := h.body
  exact g3.cell 0 rfl
theorem RB.steps {w : World} {X : Nat → Prop} {A : Nat} {m : Int} {hs : List Hk} {sl : Bool} {st : Int} (h : RB w X A m hs sl st) :
    Calls Try.prog 24 #[ptr A] w fun e w' => e = .returned (.int .i64 st) ∧ w = w' := by
  obtain ⟨bm, D, bp, dn, g1, g2, g3, g4, g5⟩ := h.body
  exact steps_any A st w (g3.cell 8 rfl)
theorem RB.count {w : World} {X : Nat → Prop} {A : Nat} {m : Int} {hs : List Hk} {sl : Bool} {st : Int} (h : RB w X A m hs sl st) (n : Int) (hn : n ≤ 9223372036854775807) :
    Calls Try.prog 22 #[ptr A, .int .i64 n] w fun e w' => e = .returned (.tuple #[]) ∧ RB w' X A m hs sl (stepF st n) ∧ Only X w w' := by
  by_cases h0 : n ≤ 0
  · refine (step_none A n w h0).mono ?_
    rintro e w' ⟨rfl, rfl⟩
    have : stepF st n = st := by unfold stepF; rw [if_pos h0]
    rw [this]
    exact ⟨rfl, h, Only.refl _ _⟩
  · obtain ⟨bm, D, bp, dn, g1, g2, g3, g4, g5⟩ := h.body
    refine (step_some A st n w (by omega) hn h.st0 h.st1 (g3.cell 8 rfl) (g3.fr 8)).mono ?_
    rintro e w' ⟨rfl, rfl⟩
    have := stepF_range (n := n) h.st0 h.st1
    exact ⟨rfl, h.step this.1 this.2, (Only.refl _ w).setCell h.xA _⟩

theorem new_any (mask : Int) (w : World) :
    Calls Try.prog 11 #[.int .i64 mask] w fun e w' => ∃ A X, e = .returned (ptr A) ∧ RB w' X A (bits .and .i64 mask 127) [] false 0 ∧ (∀ k, X k → w.heap.size ≤ k) ∧ Below w.heap.size w w' := by
  have hmm := @run_makeMap Try.prog
  unfold ptr
  go_enter Try.func11, Try.ntmps11
  go_wp2
  go_ret
  have ho : Only (fun _ => False) (w.alloc (.map #[] 0)) ((w.alloc (.map #[] 0)).alloc (.cells (regC (bits .and .i64 mask 127) w.heap.size none 0 0) 69)) := (Only.refl _ _).alloc _
  have hsz : ((w.alloc (.map #[] 0)).alloc (.cells (regC (bits .and .i64 mask 127) w.heap.size none 0 0) 69)).heap.size = w.heap.size + 2 := by simp
  have hB := Blk.new (w.alloc (.map #[] 0)) (regC (bits .and .i64 mask 127) w.heap.size none 0 0) 69
  rw [World.size_alloc] at hB
  refine ⟨w.heap.size + 1, fun k => k = w.heap.size ∨ k = w.heap.size + 1, rfl, ⟨fun k hk => ?_, List.Pairwise.nil, fun h hh => (by cases hh), by simp, by decide, by decide, .inr rfl, w.heap.size, .map [], none, 0, .inl rfl, by omega, hB, (HMap.made w).only ho (fun h => h), .inl ⟨rfl, rfl, rfl⟩⟩, fun k hk => by rcases hk with rfl | rfl <;> omega, ((Below.refl _ w).alloc (Nat.le_refl _) _).alloc (by simp) _⟩
  have : k < w.heap.size + 2 := by rcases hk with rfl | rfl <;> omega
  rw [← hsz] at this
  exact this
end Rg
end Go.Proofs.Ytemcahbpfjlnlaa
