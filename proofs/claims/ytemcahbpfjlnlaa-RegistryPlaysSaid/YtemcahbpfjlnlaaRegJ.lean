/- Layer 7: Sorted, For, Has; calls on no registry. -/
import Derived.Test.YtemcahbpfjlnlaaRegI
namespace Go.Proofs.Ytemcahbpfjlnlaa
open Go Go.RowKit Go.MuLone
namespace Rg
set_option maxRecDepth 100000
set_option linter.unusedVariables false
set_option linter.unusedSimpArgs false

theorem SealedTo.after_below {w w0 w' : World} {X : Nat → Prop} {A : Nat} {m : Int} {hs : List Hk} {sl : Bool} {st : Int} {X' : Nat → Prop} (hb : Below w.heap.size w w0) (h : SealedTo w0 w' X A m hs sl st X') : SealedTo w w' X A m hs sl st X' :=
  ⟨h.rb, fun e => ⟨below_later hb (h.again e).1, (h.again e).2⟩, h.sub, fun k hk => (h.new k hk).imp id fun e => Nat.le_trans hb.size e, (Only.of_below hb).trans' h.on⟩
theorem sorted_any {w : World} {X : Nat → Prop} {A : Nat} {m : Int} {hs : List Hk} {sl : Bool} {st : Int} (h : RB w X A m hs sl st) (p : Int) (hp : wfI p) :
    Calls Try.prog 16 #[ptr A, .int .i64 p] w fun e w' => ∃ v, e = .returned v ∧ Hooks w' v (told m hs p) ∧ ∃ X', SealedTo w w' X A m hs sl st X' ∧ FreeV w.heap.size X' v := by
  have HC := Lib.hid (chosen_all h p hp)
  clear h
  unfold ptr at *
  go_enter Try.func16, Try.ntmps16
  go_wp2_with fail
  refine HC.out.mono ?_
  rintro e w1 ⟨v, rfl, hv, X', T⟩
  go_wp2
  go_ret
  exact ⟨_, rfl, hv, X', T⟩
theorem for_any {w : World} {X : Nat → Prop} {A : Nat} {m : Int} {hs : List Hk} {sl : Bool} {st : Int} (h : RB w X A m hs sl st) (p : Int) (hp : wfI p) (b : Int) (hb0 : 0 ≤ b) (hb1 : b ≤ 255) :
    Calls Try.prog 18 #[ptr A, .int .i64 p, .int .u8 b] w fun e w' => ∃ v, e = .returned v ∧ Hooks w' v ((told m hs p).filter (trigB b)) ∧ ∃ X', SealedTo w w' X A m hs sl st X' ∧ FreeV w.heap.size X' v := by
  have hbw : Below w.heap.size w (w.alloc (.cells #[.int .u8 b] 5)) := (Below.refl _ w).alloc (Nat.le_refl _) _
  have HC := Lib.hid (chosen_trig (h.below hbw) p hp hb0 hb1 ((Blk.new w #[.int .u8 b] 5).cell 0 rfl) (fun e => by have := h.lt _ e; omega))
  have HB := Lib.hid hbw
  clear h hbw
  unfold ptr at *
  go_enter Try.func18, Try.ntmps18
  go_wp2_with fail
  refine HC.out.mono ?_
  rintro e w1 ⟨v, rfl, hv, X', T⟩
  go_wp2
  go_ret
  exact ⟨_, rfl, hv, X', T.1.after_below HB.out, T.2.mono HB.out.size⟩
/-- Was one of that name added, that is on? -/
def hasB (m : Int) (hs : List Hk) (k : List UInt8) : Bool := named hs k && onB m (found hs k)
theorem has_any {w : World} {X : Nat → Prop} {A : Nat} {m : Int} {hs : List Hk} {sl : Bool} {st : Int} (h : RB w X A m hs sl st) (s : ByteArray) (hs0 : s.size ≤ 281474976710656) :
    Calls Try.prog 20 #[ptr A, .string s] w fun e w' => e = .returned (.bool (hasB m hs s.data.toList)) ∧ ∃ X', SealedTo w w' X A m hs sl st X' := by
  have HS := Lib.hid (seal_any h)
  clear h
  have HE : Hid (hasB m hs s.data.toList = (named hs s.data.toList && onB m (found hs s.data.toList))) := Lib.hid rfl
  unfold ptr at *
  go_enter Try.func20, Try.ntmps20
  go_wp2_with fail
  refine HS.out.mono ?_
  rintro e w1 ⟨rfl, X', T⟩
  obtain ⟨bm, D, bp, dn, g1, g2, g3, g4, g5⟩ := T.rb.body
  have lk := g4.look hs0
  have c3 : w1.cell? ⟨A, 3, none⟩ = some (.map (some bm)) := g3.cell 3 rfl
  have HT := Lib.hid T
  have hb0 : Below w1.heap.size w1 (w1.alloc (.cells (hookC (found hs s.data.toList)) 29)) := (Below.refl _ w1).alloc (Nat.le_refl _) _
  have HB := Lib.hid hb0
  have hkB := Blk.new w1 (hookC (found hs s.data.toList)) 29
  have HO := Lib.hid (on_any (found hs s.data.toList) A m (w1.alloc (.cells (hookC (found hs s.data.toList)) 29)) (keep_cell hb0 T.rb.mask))
  clear T g1 g3 g4 g5 HS hb0
  generalize found hs s.data.toList = o at *
  generalize named hs s.data.toList = nm at *
  have k0 : (w1.alloc (.cells (hookC o) 29)).cell? ⟨w1.heap.size, 0, none⟩ = some (.string o.name) := hkB.cell 0 rfl
  have k1 : (w1.alloc (.cells (hookC o) 29)).cell? ⟨w1.heap.size, 1, none⟩ = some (.int .i64 o.ph) := hkB.cell 1 rfl
  have k2 : (w1.alloc (.cells (hookC o) 29)).cell? ⟨w1.heap.size, 2, none⟩ = some (.int .i64 o.pri) := hkB.cell 2 rfl
  have k3 : (w1.alloc (.cells (hookC o) 29)).cell? ⟨w1.heap.size, 3, none⟩ = some (.string o.trig) := hkB.cell 3 rfl
  have k4 : (w1.alloc (.cells (hookC o) 29)).cell? ⟨w1.heap.size, 4, none⟩ = some (.int .i64 o.bit) := hkB.cell 4 rfl
  clear hkB
  unfold hookC at k0 k1 k2 k3 k4
  unfold ptr hookV hookC at HO
  unfold hookV hookC at lk
  unfold hookC at HB
  cases nm with
  | false =>
    go_wp2
    go_ret
    exact ⟨by rw [HE.out]; rfl, X', HT.out.then_below HB.out⟩
  | true =>
    go_wp2_with fail
    refine HO.out.mono ?_
    rintro e w2 ⟨rfl, hb2⟩
    have hb := below_later HB.out hb2
    go_wp2
    go_ret
    exact ⟨by rw [HE.out]; simp, X', HT.out.then_below hb⟩

/-! ### a registry that is none -/
def nilP : Value := .pointer none
theorem add_nil (x : Hk) (w : World) :
    Calls Try.prog 13 #[nilP, hookV x] w fun e w' => e = .returned (.bool false) ∧ Below w.heap.size w w' := by
  unfold nilP hookV hookC
  go_enter_defers Try.func13, Try.ntmps13
  go_wp2
  exact ⟨_, results_tmp rfl _ _ _, rfl, (Below.refl _ w).alloc (Nat.le_refl _) _⟩
theorem chosen_nil (p : Int) (F : Value) (w : World) :
    Calls Try.prog 31 #[nilP, .int .i64 p, F] w fun e w' => e = .returned (.slice none 0 0) ∧ w = w' := by
  unfold nilP
  go_enter Try.func31, Try.ntmps31
  go_wp2
  go_ret
  exact ⟨rfl, rfl⟩
theorem sorted_nil (p : Int) (w : World) :
    Calls Try.prog 16 #[nilP, .int .i64 p] w fun e w' => e = .returned (.slice none 0 0) ∧ w = w' := by
  have HC := Lib.hid (fun F => chosen_nil p F w)
  unfold nilP at *
  go_enter Try.func16, Try.ntmps16
  go_wp2_with fail
  refine (HC.out _).mono ?_
  rintro e w1 ⟨rfl, rfl⟩
  go_wp2
  go_ret
  exact ⟨rfl, rfl⟩
theorem for_nil (p b : Int) (w : World) :
    Calls Try.prog 18 #[nilP, .int .i64 p, .int .u8 b] w fun e w' => e = .returned (.slice none 0 0) ∧ Below w.heap.size w w' := by
  have HC := Lib.hid (fun F W => chosen_nil p F W)
  have HB : Hid (Below w.heap.size w (w.alloc (.cells #[.int .u8 b] 5))) := Lib.hid ((Below.refl _ w).alloc (Nat.le_refl _) _)
  unfold nilP at *
  go_enter Try.func18, Try.ntmps18
  go_wp2_with fail
  refine (HC.out _ _).mono ?_
  rintro e w1 ⟨rfl, rfl⟩
  go_wp2
  go_ret
  exact ⟨rfl, HB.out⟩
theorem has_nil (s : ByteArray) (w : World) :
    Calls Try.prog 20 #[nilP, .string s] w fun e w' => e = .returned (.bool false) ∧ w = w' := by
  unfold nilP
  go_enter Try.func20, Try.ntmps20
  go_wp2
  go_ret
  exact ⟨rfl, rfl⟩
theorem step_nil (n : Int) (w : World) :
    Calls Try.prog 22 #[nilP, .int .i64 n] w fun e w' => e = .returned (.tuple #[]) ∧ w = w' := by
  unfold nilP
  go_enter Try.func22, Try.ntmps22
  go_wp2
  first | go_end0 | refine bodyPost_ret (results_none rfl _ _ _) rfl ?_
  exact ⟨rfl, rfl⟩
theorem steps_nil (w : World) :
    Calls Try.prog 24 #[nilP] w fun e w' => e = .returned (.int .i64 0) ∧ w = w' := by
  unfold nilP
  go_enter Try.func24, Try.ntmps24
  go_wp2
  go_ret
  exact ⟨rfl, rfl⟩
end Rg
end Go.Proofs.Ytemcahbpfjlnlaa
