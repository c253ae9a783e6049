/- Layer 7: Add. -/
import Derived.Test.YtemcahbpfjlnlaaRegF
import Derived.RegionTactic
import Derived.Deep.Cut
import Derived.Deep.CutRange
import Derived.Deep.DeepCutAuto
import Derived.Laws.Cover3
namespace Go.Proofs.Ytemcahbpfjlnlaa
open Go Go.RowKit Go.MuLone
namespace Rg
set_option maxRecDepth 100000
set_option linter.unusedVariables false
set_option linter.unusedSimpArgs false

theorem Only.tight {X : Nat → Prop} {w w' : World} (h : Only X w w') (hX : ∀ k, X k → w'.heap[k]? = w.heap[k]?) : Below w.heap.size w w' :=
  ⟨h.os, h.tape, h.output, h.size, fun k hk => by
    by_cases hx : X k
    · exact hX k hx
    · exact h.block k hk hx⟩
def fresh (hs : List Hk) (sl : Bool) (x : Hk) : Bool := !x.name.toList.isEmpty && !named hs x.name.data.toList && !sl
def lockedC (m : Int) (bm : Nat) (bp : Option Nat) (dn st : Int) : Array Value := #[.int .i64 m, .int .i32 1, .int .u32 0, .map (some bm), .int .u32 dn, .int .i32 0, .int .u32 0, .map bp, .int .i64 st]

theorem RB.remake {w wf : World} {X : Nat → Prop} {A : Nat} {m : Int} {hs : List Hk} {sl : Bool} {st : Int} {bm : Nat} {D : DU} {bp : Option Nat} {dn : Int} (h : RB w X A m hs sl st) (g1 : X bm) (g2 : A ≠ bm) (g4 : HMap w bm D hs)
    (g5 : sl = false ∧ bp = none ∧ dn = 0 ∨ sl = true ∧ dn = 1 ∧ ∃ b2 n D2 V, bp = some b2 ∧ X b2 ∧ b2 ≠ A ∧ PMap w b2 n D2 V (told m hs) (fun g => X g ∧ g ≠ A))
    (ho : Only (fun k => k = A) w wf) (hA : Blk wf A (regC m bm bp dn st) 69) : RB wf X A m hs sl st := by
  refine ⟨fun k hk => Nat.lt_of_lt_of_le (h.lt k hk) ho.size, h.names, h.ok, h.len, h.st0, h.st1, h.xA, bm, D, bp, dn, g1, g2, hA, g4.only ho (fun e => g2 e.symm), ?_⟩
  rcases g5 with g5 | ⟨e1, e2, b2, n, D2, V, e3, h6, h7, h8⟩
  · exact .inl g5
  · exact .inr ⟨e1, e2, b2, n, D2, V, e3, h6, h7, h8.only ho h7 fun g hg => hg.2⟩
theorem RB.added {w wf : World} {X : Nat → Prop} {A : Nat} {m : Int} {hs : List Hk} {st : Int} {bm : Nat} {D : DU} {x : Hk} (h : RB w X A m hs false st) (g1 : X bm) (g2 : A ≠ bm) (hx : HkOk x) (hl : hs.length < 1000000)
    (hn : named hs x.name.data.toList = false) (ho : Only X w wf) (hA : Blk wf A (regC m bm none 0 st) 69) (hM : HMap wf bm D (hs ++ [x])) : RB wf X A m (hs ++ [x]) false st := by
  refine ⟨fun k hk => Nat.lt_of_lt_of_le (h.lt k hk) ho.size, h.names.snoc fun y hy e => ?_, fun y hy => ?_, by simp; omega, h.st0, h.st1, h.xA, bm, D, none, 0, g1, g2, hA, hM, .inl ⟨rfl, rfl, rfl⟩⟩
  · have : named hs x.name.data.toList = true := named_iff.2 ⟨y, hy, by rw [e]⟩
    rw [hn] at this; cases this
  · rcases List.mem_append.1 hy with hy | hy
    · exact h.ok y hy
    · rw [List.mem_singleton] at hy; subst hy; exact hx

set_option maxHeartbeats 4000000 in
theorem add_any {w : World} {X : Nat → Prop} {A : Nat} {m : Int} {hs : List Hk} {sl : Bool} {st : Int} (h : RB w X A m hs sl st) (x : Hk) (hx : HkOk x) (hl : hs.length < 1000000) :
    Calls Try.prog 13 #[ptr A, hookV x] w fun e w' => e = .returned (.bool (fresh hs sl x)) ∧ RB w' X A m (if fresh hs sl x then hs ++ [x] else hs) sl st ∧ Only X w w' := by
  have hrb := h
  obtain ⟨bm, D, bp, dn, g1, g2, g3, g4, g5⟩ := h.body
  have hAlt := g3.lt
  have hbmlt := g4.own.lt
  have hBox := Blk.new w (hookC x) 29
  have hb0 : Below w.heap.size w (w.alloc (.cells (hookC x) 29)) := (Below.refl _ w).alloc (Nat.le_refl _) _
  by_cases he : x.name.toList = []
  · have e0 : (x.name.toList == []) = true := by simp [he]
    have hf : fresh hs sl x = false := by simp [fresh, he]
    have c0 := hBox.cell 0 rfl
    have HR := Lib.hid (h.below hb0)
    rw [hf]
    unfold hookC at *
    unfold ptr hookV hookC
    clear g3 g4 g5 hrb
    go_enter_defers Try.func13, Try.ntmps13
    go_wp2
    exact ⟨_, results_tmp rfl _ _ _, rfl, HR.out, Only.of_below ((Below.refl _ w).alloc (Nat.le_refl _) _)⟩
  have e0 : (x.name.toList == []) = false := by simp [he]
  have K0 : Blk (w.alloc (.cells (hookC x) 29)) A _ _ := g3.below hb0
  have c0 : (w.alloc (.cells (hookC x) 29)).cell? ⟨w.heap.size, 0, none⟩ = some (.string x.name) := hBox.cell 0 rfl
  have l0 : (w.alloc (.cells (hookC x) 29)).cell? ⟨A, 1, none⟩ = some (.int .i32 0) := K0.cell 1 rfl
  have z0 : (w.alloc (.cells (hookC x) 29)).frozen? ⟨A, 1, none⟩ = false := K0.fr 1
  obtain ⟨W1, hW1⟩ : ∃ W1, W1 = (w.alloc (.cells (hookC x) 29)).setCell ⟨A, 1, none⟩ (.int .i32 1) := ⟨_, rfl⟩
  have HL := Lib.hid (lock_free Try.muLib ⟨A, 1, none⟩ _ l0 z0)
  rw [← hW1] at HL
  have HB0 := Lib.hid hb0
  have HRB := Lib.hid hrb
  have HG4 := Lib.hid g4
  have HG5 := Lib.hid g5
  obtain ⟨fr, hfr⟩ : ∃ fr, fr = fresh hs sl x := ⟨_, rfl⟩
  rw [← hfr]
  have HFr : Hid (fr = (!named hs x.name.data.toList && !sl)) := Lib.hid (by
    have : x.name.toList.isEmpty = false := by simpa using he
    rw [hfr]; simp [fresh, this])
  clear hfr
  have HAd := Lib.hid (fun (wf : World) (D : DU) (hsl : sl = false) => RB.added (wf := wf) (D := D) (x := x) (hsl ▸ h) g1 g2 hx hl)
  have HPut := Lib.hid (fun (W : World) (hW : Only (fun k => k = A) w W) => g4.only hW (fun e => g2 e.symm))
  unfold hookC at HL c0
  unfold ptr hookV hookC
  clear hb0 K0 l0 z0 hBox hrb h
  go_enter_defers Try.func13, Try.ntmps13
  go_wp2_with fail
  refine HL.out.mono ?_
  rintro e W1 ⟨rfl, rfl⟩
  have H1 : Blk W1 A (lockedC m bm bp dn st) 69 := by rw [hW1]; exact (g3.below HB0.out).set 1 (.int .i32 1) rfl
  have B1 : Blk W1 w.heap.size (hookC x) 29 := by rw [hW1]; exact (Blk.new w (hookC x) 29).other _ (by show w.heap.size ≠ A; omega)
  have hW : Only (fun k => k = A) w W1 := by rw [hW1]; exact Only.setCell (X := fun k => k = A) (Only.of_below HB0.out) rfl _
  have hM1 : HMap W1 bm D hs := g4.only hW (fun e => g2 e.symm)
  have lkA := (hM1.only (Only.drew (Only.refl (fun _ => False) W1)) (fun h => h)).look hx.1
  have lkB := (hM1.only (Only.drew ((Only.refl (fun _ => False) W1).alloc (.cells #[.string ⟨#[]⟩, .int .i64 0, .int .i64 0, .string ⟨#[]⟩, .int .i64 0] 29))) (fun h => h)).look hx.1
  have a3 : W1.cell? ⟨A, 3, none⟩ = some (.map (some bm)) := H1.cell 3 rfl
  have n0 : W1.cell? ⟨w.heap.size, 0, none⟩ = some (.string x.name) := B1.cell 0 rfl
  have b0 : w.heap.size < W1.heap.size := B1.lt
  have b1 : A < W1.heap.size := H1.lt
  have HH1 := Lib.hid H1
  have HBx := Lib.hid B1
  have HW := Lib.hid hW
  have HM := Lib.hid hM1
  clear H1 B1 hW hM1 hW1 HL c0 g3 g4 hAlt g5
  obtain ⟨nm, hnm⟩ : ∃ nm, named hs x.name.data.toList = nm := ⟨_, rfl⟩
  rw [hnm] at lkA lkB HFr HAd
  have HNm := Lib.hid hnm
  clear hnm
  unfold hookV at lkA lkB
  unfold hookC at lkA lkB
  go_upto_region 5 with fail
  go_cut [6] from 7 (fun v6 wx => v6 = .bool nm ∧ Below W1.heap.size W1 wx)
  case first =>
    go_region
    all_goals
      go_wp2
      go_meet
      refine ⟨rfl, ?_⟩
      repeat (first | exact Below.refl _ _ | refine Below.setCell ?_ (Nat.le_refl _) _ | refine Below.drew ?_ | refine Below.alloc ?_ (Nat.le_refl _) _)
  obtain ⟨rfl, hbc⟩ := hcut
  have hC : Blk wc A (lockedC m bm bp dn st) _ := HH1.out.below hbc
  have hCx : Blk wc w.heap.size (hookC x) _ := HBx.out.below hbc
  have hWc : Only (fun k => k = A) w wc := HW.out.then_below hbc
  have hMc : HMap wc bm D hs := HPut.out wc hWc
  have HC := Lib.hid hC
  have HCx := Lib.hid hCx
  have HWc := Lib.hid hWc
  have HMc := Lib.hid hMc
  have a7 : wc.cell? ⟨A, 7, none⟩ = some (.map bp) := hC.cell 7 rfl
  clear lkA lkB a3 n0 b0 b1 HH1 HBx HW hC hCx hWc hMc hbc HM
  have HFin : Hid (RB (wc.setCell ⟨A, 1, none⟩ (.int .i32 0)) X A m hs sl st ∧ Only X w (wc.setCell ⟨A, 1, none⟩ (.int .i32 0))) := Lib.hid (by
    have ho : Only (fun k => k = A) w (wc.setCell ⟨A, 1, none⟩ (.int .i32 0)) := Only.setCell (X := fun k => k = A) HWc.out rfl _
    exact ⟨HRB.out.remake g1 g2 HG4.out HG5.out ho (HC.out.set 1 (.int .i32 0) rfl), ho.mono fun k e => e ▸ HRB.out.xA⟩)
  cases nm with
  | true =>
    obtain rfl : fr = false := HFr.out
    go_wp2
    refine leaves_cons (f := 28) (args := #[.pointer (some ⟨A, 1, none⟩)]) (by simp) (by simp [go_sem]) ?_
    refine (unlock_deferred Try.muLib ⟨A, 1, none⟩ _ _ (HC.out.cell 1 rfl) (HC.out.fr 1)).mono ?_
    rintro e u' w'' ⟨rfl, rfl, rfl⟩
    simp [Leaves, settle, results]
    exact HFin.out
  | false =>
    rcases HG5.out with ⟨hsl, rfl, rfl⟩ | ⟨hsl, rfl, b2, n, D2, V, rfl, q6, q7, q8⟩
    · subst hsl
      obtain rfl : fr = true := HFr.out
      have HOwn := Lib.hid (own_any x wc hx.1 hx.2.1)
      have hnq := fun W => run_neq_map_nil (P := Try.prog) (w := W) 64 _ _ none Try.underlying64
      have c0 : wc.cell? ⟨w.heap.size, 0, none⟩ = _ := HCx.out.hook.c0
      have c1 : wc.cell? ⟨w.heap.size, 1, none⟩ = _ := HCx.out.hook.c1
      have c2 : wc.cell? ⟨w.heap.size, 2, none⟩ = _ := HCx.out.hook.c2
      have c3 : wc.cell? ⟨w.heap.size, 3, none⟩ = _ := HCx.out.hook.c3
      have c4 : wc.cell? ⟨w.heap.size, 4, none⟩ = _ := HCx.out.hook.c4
      unfold hookV hookC at HOwn
      go_upto_region 8 with fail
      go_cut [] from 39 (fun wx => Blk wx A (lockedC m bm none 0 st) 69 ∧ Blk wx w.heap.size (hookC x) 29 ∧ Only (fun k => k = A) w wx)
      case first =>
        go_wp2_with fail
        refine HOwn.out.mono ?_
        rintro e w5 ⟨rfl, hb5⟩
        have f5 := fun k => (HCx.out.below hb5).fr k
        have K5 := (HCx.out.below hb5).hook
        have d0 : w5.cell? ⟨w.heap.size, 0, none⟩ = _ := K5.c0
        have d1 : w5.cell? ⟨w.heap.size, 1, none⟩ = _ := K5.c1
        have d2 : w5.cell? ⟨w.heap.size, 2, none⟩ = _ := K5.c2
        have d3 : w5.cell? ⟨w.heap.size, 3, none⟩ = _ := K5.c3
        have d4 : w5.cell? ⟨w.heap.size, 4, none⟩ = _ := K5.c4
        have hAw : A < w.heap.size := HRB.out.lt A HRB.out.xA
        have HEnd : Hid (∀ wx, wx = (((((w5.setCell ⟨w.heap.size, 0, none⟩ (.string x.name)).setCell ⟨w.heap.size, 1, none⟩ (.int .i64 x.ph)).setCell ⟨w.heap.size, 2, none⟩ (.int .i64 x.pri)).setCell ⟨w.heap.size, 3, none⟩ (.string x.trig)).setCell ⟨w.heap.size, 4, none⟩ (.int .i64 x.bit)) →
            Blk wx A (lockedC m bm none 0 st) 69 ∧ Blk wx w.heap.size (hookC x) 29 ∧ Only (fun k => k = A) w wx) := Lib.hid (by
          rintro wx rfl
          have ho : Only (fun k => k = w.heap.size) w5 (((((w5.setCell ⟨w.heap.size, 0, none⟩ (.string x.name)).setCell ⟨w.heap.size, 1, none⟩ (.int .i64 x.ph)).setCell ⟨w.heap.size, 2, none⟩ (.int .i64 x.pri)).setCell ⟨w.heap.size, 3, none⟩ (.string x.trig)).setCell ⟨w.heap.size, 4, none⟩ (.int .i64 x.bit)) := by
            iterate 5 (refine Only.setCell (X := fun k => k = w.heap.size) ?_ rfl _)
            exact Only.refl _ _
          exact ⟨(HC.out.below hb5).only ho (by omega), (HCx.out.below hb5).rehook x, (HWc.out.then_below hb5).trans ho fun i hi e => by omega⟩)
        clear K5 HOwn c0 c1 c2 c3 c4
        go_wp2
        go_meet
        exact HEnd.out _ rfl
      have hE := Lib.hid hcut
      obtain ⟨e1, e2, e3⟩ := hcut
      have a3 : wc.cell? ⟨A, 3, none⟩ = some (.map (some bm)) := e1.cell 3 rfl
      have n0 : wc.cell? ⟨w.heap.size, 0, none⟩ = some (.string x.name) := e2.cell 0 rfl
      have n1 : wc.cell? ⟨w.heap.size, 1, none⟩ = some (.int .i64 x.ph) := e2.cell 1 rfl
      have n2 : wc.cell? ⟨w.heap.size, 2, none⟩ = some (.int .i64 x.pri) := e2.cell 2 rfl
      have n3 : wc.cell? ⟨w.heap.size, 3, none⟩ = some (.string x.trig) := e2.cell 3 rfl
      have n4 : wc.cell? ⟨w.heap.size, 4, none⟩ = some (.int .i64 x.bit) := e2.cell 4 rfl
      have hMw : HMap wc.drew bm D hs := (HPut.out wc e3).only (Only.drew (Only.refl (fun _ => False) wc)) (fun h => h)
      obtain ⟨w6, hrun6, hown6, hgr6⟩ := hMw.own.update keyS Try.underlying51 (by unfold maxLen; omega) (key_string hx.1) (hkR_mk x)
      have HF6 : Hid (RB (w6.setCell ⟨A, 1, none⟩ (.int .i32 0)) X A m (hs ++ [x]) false st ∧ Only X w (w6.setCell ⟨A, 1, none⟩ (.int .i32 0))) := Lib.hid (by
        have hM6 := hMw.put HNm.out hown6
        have ho6 : Only (fun g => g = bm) wc w6 := (Only.drew (Only.refl _ wc)).trans' ((only_grown hgr6).mono fun g e => by injection e with e; exact e.symm)
        have hA6 : Blk w6 A (lockedC m bm none 0 st) _ := e1.only ho6 g2
        have ho7 : Only (fun k => k = A) w6 (w6.setCell ⟨A, 1, none⟩ (.int .i32 0)) := Only.setCell (X := fun k => k = A) (Only.refl _ w6) rfl _
        have hoX : Only X w (w6.setCell ⟨A, 1, none⟩ (.int .i32 0)) := ((e3.mono fun k e => e ▸ HRB.out.xA).trans' (ho6.mono fun k e => e ▸ g1)).trans' (ho7.mono fun k e => e ▸ HRB.out.xA)
        exact ⟨HAd.out _ _ (by trivial) (by trivial) hoX (hA6.set 1 (.int .i32 0) rfl) (hM6.only ho7 (fun e => g2 e.symm)), hoX⟩)
      have HA6 : Hid (Blk w6 A (lockedC m bm none 0 st) 69) := Lib.hid (e1.only ((Only.drew (Only.refl (fun g => g = bm) wc)).trans' ((only_grown hgr6).mono fun g e => by injection e with e; exact e.symm)) g2)
      unfold hookV hookC at hrun6
      clear e1 e2 e3 hMw hown6 hgr6 hnq a7 HOwn c0 c1 c2 c3 c4
      go_wp2_with fail
      go_region
      all_goals
        go_wp2
        refine leaves_cons (f := 28) (args := #[.pointer (some ⟨A, 1, none⟩)]) (by simp) (by simp [go_sem]) ?_
        refine (unlock_deferred Try.muLib ⟨A, 1, none⟩ _ _ (HA6.out.cell 1 rfl) (HA6.out.fr 1)).mono ?_
        rintro e u' w'' ⟨rfl, rfl, rfl⟩
        simp [Leaves, settle, results]
        exact HF6.out
    · subst hsl
      obtain rfl : fr = false := HFr.out
      have hnq := fun W => run_neq_map_nil (P := Try.prog) (w := W) 64 _ _ (some b2) Try.underlying64
      go_wp2
      refine leaves_cons (f := 28) (args := #[.pointer (some ⟨A, 1, none⟩)]) (by simp) (by simp [go_sem]) ?_
      refine (unlock_deferred Try.muLib ⟨A, 1, none⟩ _ _ (HC.out.cell 1 rfl) (HC.out.fr 1)).mono ?_
      rintro e u' w'' ⟨rfl, rfl, rfl⟩
      simp [Leaves, settle, results]
      exact HFin.out
end Rg
end Go.Proofs.Ytemcahbpfjlnlaa
