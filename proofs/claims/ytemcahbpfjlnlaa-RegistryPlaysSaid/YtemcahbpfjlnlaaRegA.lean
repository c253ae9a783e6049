/- Layer 7: own, on, the closures, steps. -/
import Derived.Test.YtemcahbpfjlnlaaRegMem
import Derived.Laws.ResultCell
import Derived.Laws.BitsLemmas
namespace Go.Proofs.Ytemcahbpfjlnlaa
open Go Go.RowKit
namespace Rg
set_option maxRecDepth 100000
set_option linter.unusedVariables false
set_option linter.unusedSimpArgs false

/-- Texts that can be copied. -/
def HkOk (h : Hk) : Prop := h.name.size ≤ 281474976710656 ∧ h.trig.size ≤ 281474976710656 ∧ (Lit.int .i64 h.ph).wf = true
theorem clone_any (s : ByteArray) (w : World) (h : s.size ≤ 281474976710656) :
    Calls Try.prog 43 #[.string s] w fun e w' => e = .returned (.string s) ∧ Below w.heap.size w w' := by
  go_enter Try.func43, Try.ntmps43
  go_wp2_with (go_at_call 59; refine (Try.stringslite_Clone _ _ h).mono ?_; rintro e w2 ⟨rfl, hb⟩)
  go_ret
  exact ⟨rfl, hb⟩

set_option maxHeartbeats 2000000 in
theorem own_any (h : Hk) (w : World) (h1 : h.name.size ≤ 281474976710656) (h2 : h.trig.size ≤ 281474976710656) :
    Calls Try.prog 29 #[hookV h] w fun e w' => e = .returned (hookV h) ∧ Below w.heap.size w w' := by
  have HS := Lib.hid (fun W => clone_any h.name W h1)
  have HT := Lib.hid (fun W => clone_any h.trig W h2)
  have HB1 : Blk ((w.alloc (.cells (hookC h) 29)).alloc (.cells (hookC default) 29)) w.heap.size (hookC h) 29 := (Blk.new _ _ _).alloc _
  have HB2 : Blk ((w.alloc (.cells (hookC h) 29)).alloc (.cells (hookC default) 29)) (w.heap.size + 1) (hookC default) 29 := by
    have := Blk.new (w.alloc (.cells (hookC h) 29)) (hookC default) 29
    rwa [World.size_alloc] at this
  have HB1 := Lib.hid HB1
  have HB2 := Lib.hid HB2
  have hbw : Below w.heap.size w ((w.alloc (.cells (hookC h) 29)).alloc (.cells (hookC default) 29)) := ((Below.refl _ w).alloc (Nat.le_refl _) _).alloc (by simp) _
  have HW := Lib.hid hbw
  clear hbw
  unfold hookV hookC
  go_enter Try.func29, Try.ntmps29
  go_wp2_with fail
  refine (HS.out _).mono ?_
  rintro e w1 ⟨rfl, hb1⟩
  have K1 : Blk w1 w.heap.size _ _ := HB1.out.below hb1
  have K2 : Blk w1 (w.heap.size + 1) _ _ := HB2.out.below hb1
  have hbw1 : Below w.heap.size w w1 := HW.out.trans (hb1.mono (HW.out.size))
  have c3 : w1.cell? ⟨w.heap.size, 3, none⟩ = some (.string h.trig) := K1.cell 3 rfl
  have c0 : w1.cell? ⟨w.heap.size, 0, none⟩ = some (.string h.name) := K1.cell 0 rfl
  have f1 := fun k => K1.fr k
  have HK1 := Lib.hid K1
  have HK2 := Lib.hid K2
  clear K1 K2 hb1
  go_wp2_with fail
  refine (HT.out _).mono ?_
  rintro e w2 ⟨rfl, hb2⟩
  have K1 : Blk w2 w.heap.size (hookC h) _ := (HK1.out.set 0 (.string h.name) rfl).below hb2
  have K2 : Blk w2 (w.heap.size + 1) _ _ := (HK2.out.other _ (by simp)).below hb2
  have hbw2 : Below w.heap.size w w2 := (hbw1.setCell (Nat.le_refl _) _).trans (hb2.mono (by simp; exact hbw1.size))
  clear hb2 c0 c3 f1 hbw1
  have c0 : w2.cell? ⟨w.heap.size, 0, none⟩ = _ := K1.hook.c0
  have c1 : w2.cell? ⟨w.heap.size, 1, none⟩ = _ := K1.hook.c1
  have c2 : w2.cell? ⟨w.heap.size, 2, none⟩ = _ := K1.hook.c2
  have c3 : w2.cell? ⟨w.heap.size, 3, none⟩ = _ := K1.hook.c3
  have c4 : w2.cell? ⟨w.heap.size, 4, none⟩ = _ := K1.hook.c4
  have d0 : w2.cell? ⟨w.heap.size + 1, 0, none⟩ = _ := K2.hook.c0
  have d1 : w2.cell? ⟨w.heap.size + 1, 1, none⟩ = _ := K2.hook.c1
  have d2 : w2.cell? ⟨w.heap.size + 1, 2, none⟩ = _ := K2.hook.c2
  have d3 : w2.cell? ⟨w.heap.size + 1, 3, none⟩ = _ := K2.hook.c3
  have d4 : w2.cell? ⟨w.heap.size + 1, 4, none⟩ = _ := K2.hook.c4
  have f1 := fun k => K1.fr k
  have f2 := fun k => K2.fr k
  have HK1 := Lib.hid K1
  have HK2 := Lib.hid K2
  clear K1 K2
  go_wp2
  refine bodyPost_ret (v := hookV h) (results_cell_row rfl _ _ (w.heap.size + 1) _ (hookC h) (0, 0) _ rfl ((HK2.out.other (p := ⟨w.heap.size, 3, none⟩) (.string h.trig) (by simp)).rehook h) Try.underlying29 rfl infoHook) rfl ⟨rfl, ?_⟩
  iterate 6 (refine Below.setCell ?_ (by first | exact Nat.le_refl _ | exact Nat.le_succ _) _)
  exact hbw2

/-- 'on': what the mask's cell says. -/
theorem on_any (h : Hk) (A : Nat) (m : Int) (w : World) (hm : w.cell? ⟨A, 0, none⟩ = some (.int .i64 m)) :
    Calls Try.prog 37 #[ptr A, hookV h] w fun e w' => e = .returned (.bool (onB m h)) ∧ Below w.heap.size w w' := by
  have hA := World.block_lt_of_cell? w _ hm
  have hb0 : Below w.heap.size w (w.alloc (.cells (hookC h) 29)) := (Below.refl _ w).alloc (Nat.le_refl _) _
  have hm1 := keep_cell hb0 hm
  have K := (Blk.new w (hookC h) 29).hook.c4
  have HB := Lib.hid hb0
  clear hb0
  unfold ptr hookV hookC at *
  unfold onB
  go_enter Try.func37, Try.ntmps37
  by_cases hz : h.bit = 0
  · have e0 : (h.bit == 0) = true := by simp [hz]
    go_wp2_with fail
    go_quiet (fail)
    go_wp2
    go_ret
    exact ⟨by simp [hz], below_drewN ((Below.refl _ w).alloc (Nat.le_refl _) _) _⟩
  · have e0 : (h.bit == 0) = false := by simp [hz]
    go_wp2_with fail
    go_quiet (fail)
    go_wp2
    go_ret
    exact ⟨by simp [hz], below_drewN ((Below.refl _ w).alloc (Nat.le_refl _) _) _⟩

theorem always_any (h : Hk) (w : World) :
    Calls Try.prog 32 #[hookV h] w fun e w' => e = .returned (.bool true) ∧ Below w.heap.size w w' := by
  unfold hookV hookC
  go_enter Try.func32, Try.ntmps32
  go_wp2
  go_ret
  exact ⟨rfl, (Below.refl _ w).alloc (Nat.le_refl _) _⟩
theorem indexByte_nonneg : ∀ (l : List UInt8) (c : UInt8), decide (0 ≤ Lib.indexByte l c) = l.any fun x => x == c
  | [], c => rfl
  | x :: l, c => by
    have ih := indexByte_nonneg l c
    have hge := Lib.indexByte_ge l c
    rw [Lib.indexByte, List.any_cons, ← ih]
    by_cases h : (x == c) = true
    · simp [h]
    · have h' : (x == c) = false := by simpa using h
      rw [if_neg h, h', Bool.false_or]
      by_cases h2 : (Lib.indexByte l c == -1) = true
      · rw [if_pos h2]
        have : Lib.indexByte l c = -1 := by simpa using h2
        rw [this]
      · rw [if_neg h2]
        have : ¬ Lib.indexByte l c = -1 := by simpa using h2
        have h3 : 0 ≤ Lib.indexByte l c := by omega
        have h4 : 0 ≤ Lib.indexByte l c + 1 := by omega
        simp [h3, h4]
theorem byte_eq (x : UInt8) {b : Int} (h0 : 0 ≤ b) (h1 : b ≤ 255) : (x == b.toNat.toUInt8) = decide ((x.toNat : Int) = b) := by
  obtain ⟨n, rfl⟩ : ∃ n : Nat, b = n := ⟨b.toNat, by omega⟩
  have hn : n < 256 := by omega
  have e : ((n : Int).toNat.toUInt8).toNat = n := by simp; omega
  rw [Bool.eq_iff_iff]
  simp only [beq_iff_eq, decide_eq_true_eq]
  constructor
  · intro h; rw [h, e]
  · intro h; apply UInt8.toNat_inj.1; rw [e]; omega
theorem empty_iff (a : ByteArray) : a.toList = [] ↔ a.data.toList.isEmpty = true := by rw [toList_eq]; simp
theorem trigB_eq (b : Int) (h : Hk) (h0 : 0 ≤ b) (h1 : b ≤ 255) (hz : ¬ h.trig.toList = []) : trigB b h = decide (0 ≤ Lib.indexByte h.trig.data.toList b.toNat.toUInt8) := by
  rw [empty_iff] at hz
  have hz' : h.trig.data.toList.isEmpty = false := by simpa using hz
  unfold trigB
  rw [indexByte_nonneg, hz', Bool.false_or]
  congr 1
  funext x
  exact (byte_eq x h0 h1).symm
/-- 'For': what a byte triggers; the byte lies in a variable of its own. -/
theorem fits_any (h : Hk) (B : Nat) (b : Int) (w : World) (h0 : 0 ≤ b) (h1 : b ≤ 255) (hc : w.cell? ⟨B, 0, none⟩ = some (.int .u8 b)) :
    Calls Try.prog 34 #[hookV h, ptr B] w fun e w' => e = .returned (.bool (trigB b h)) ∧ Below w.heap.size w w' := by
  have hb0 : Below w.heap.size w (w.alloc (.cells (hookC h) 29)) := (Below.refl _ w).alloc (Nat.le_refl _) _
  have hc1 := keep_cell hb0 hc
  have K := (Blk.new w (hookC h) 29).hook.c3
  have HI := Lib.hid (fun W => Try.strings_IndexByte h.trig b W)
  clear hb0
  by_cases hz : h.trig.toList = []
  · have HE : Hid (true = trigB b h) := Lib.hid (by rw [empty_iff] at hz; simp [trigB, hz])
    have e0 : (h.trig.toList == []) = true := by simp [hz]
    clear HI
    unfold ptr hookV hookC at *
    go_enter Try.func34, Try.ntmps34
    go_wp2
    go_ret
    exact ⟨ret_bool HE.out, (Below.refl _ w).alloc (Nat.le_refl _) _⟩
  · have HE := Lib.hid (trigB_eq b h h0 h1 hz)
    have e0 : (h.trig.toList == []) = false := by simp [hz]
    unfold ptr hookV hookC at *
    generalize Lib.indexByte h.trig.data.toList b.toNat.toUInt8 = r at *
    go_enter Try.func34, Try.ntmps34
    go_wp2_with fail
    refine (HI.out _).mono ?_
    rintro e w1 ⟨rfl, rfl⟩
    go_wp2
    go_ret
    exact ⟨ret_bool HE.out.symm, (Below.refl _ w).alloc (Nat.le_refl _) _⟩
theorem wrap_of {n : Int} (h : (Lit.int .i64 n).wf = true) : -9223372036854775808 ≤ n ∧ n ≤ 9223372036854775807 := by
  have hmin : IntKind.i64.min = -9223372036854775808 := rfl
  have hmax : IntKind.i64.max = 9223372036854775807 := rfl
  simp only [Lit.wf, Bool.and_eq_true, decide_eq_true_eq] at h
  omega
/-- Steps: what the counter's cell holds. -/
theorem load_any (A : Nat) (s : Int) (w : World) (h : w.cell? ⟨A, 8, none⟩ = some (.int .i64 s)) :
    Calls Try.prog 38 #[.pointer (some ⟨A, 8, none⟩)] w fun e w' => e = .returned (.int .i64 s) ∧ w = w' := by
  have hl := run_call_load (P := Try.prog) Try.func49 (by kernel_rfl) (by kernel_rfl) (by kernel_rfl) .i64 (by kernel_rfl) h
  go_enter Try.func38, Try.ntmps38
  go_wp2
  go_ret
  exact ⟨rfl, rfl⟩
theorem cas_any (A : Nat) (s t : Int) (w : World) (h : w.cell? ⟨A, 8, none⟩ = some (.int .i64 s)) (hz : w.frozen? ⟨A, 8, none⟩ = false) :
    Calls Try.prog 39 #[.pointer (some ⟨A, 8, none⟩), .int .i64 s, .int .i64 t] w fun e w' => e = .returned (.bool true) ∧ w' = w.setCell ⟨A, 8, none⟩ (.int .i64 t) := by
  have hl := run_call_cas_hit (P := Try.prog) Try.func50 (by kernel_rfl) (by kernel_rfl) (by kernel_rfl) .i64 (by kernel_rfl) (y := t) h hz
  go_enter Try.func39, Try.ntmps39
  go_wp2
  go_ret
  exact ⟨rfl, rfl⟩
theorem steps_any (A : Nat) (s : Int) (w : World) (h : w.cell? ⟨A, 8, none⟩ = some (.int .i64 s)) :
    Calls Try.prog 24 #[ptr A] w fun e w' => e = .returned (.int .i64 s) ∧ w = w' := by
  have HL := Lib.hid (load_any A s w h)
  unfold ptr
  go_enter Try.func24, Try.ntmps24
  go_wp2_with fail
  refine HL.out.mono ?_
  rintro e w1 ⟨rfl, rfl⟩
  go_wp2
  go_ret
  exact ⟨rfl, rfl⟩
theorem step_none (A : Nat) (n : Int) (w : World) (hn : n ≤ 0) :
    Calls Try.prog 22 #[ptr A, .int .i64 n] w fun e w' => e = .returned (.tuple #[]) ∧ w = w' := by
  unfold ptr
  go_enter Try.func22, Try.ntmps22
  go_wp2
  first | go_end0 | refine bodyPost_ret (results_none rfl _ _ _) rfl ?_
  exact ⟨rfl, rfl⟩
theorem step_some (A : Nat) (s n : Int) (w : World) (hn : 0 < n) (hm : n ≤ 9223372036854775807) (h0 : 0 ≤ s) (h1 : s ≤ 4611686018427387904) (h : w.cell? ⟨A, 8, none⟩ = some (.int .i64 s)) (hz : w.frozen? ⟨A, 8, none⟩ = false) :
    Calls Try.prog 22 #[ptr A, .int .i64 n] w fun e w' => e = .returned (.tuple #[]) ∧ w' = w.setCell ⟨A, 8, none⟩ (.int .i64 (stepF s n)) := by
  have HL := Lib.hid (load_any A s w h)
  have HC := Lib.hid (fun t => cas_any A s t w h hz)
  have hn' : ¬ n ≤ 0 := by omega
  have hwr : IntKind.i64.wrap (4611686018427387904 - s) = 4611686018427387904 - s := by rw [IntKind.wrap_i64]; omega
  have hmn : min n (4611686018427387904 - s) ≤ 4611686018427387904 - s := Int.min_le_right _ _
  have hmn0 : 0 ≤ min n (4611686018427387904 - s) := by rw [Int.le_min]; omega
  have HF : Hid (stepF s n = s + min n (4611686018427387904 - s)) := Lib.hid (by unfold stepF; rw [if_neg hn'])
  unfold ptr
  go_enter Try.func22, Try.ntmps22
  go_wp2_with fail
  refine wp_loop_rounds 1 ?_
  rw [rounds_succ]
  go_wp2_with fail
  refine HL.out.mono ?_
  rintro e w1 ⟨rfl, rfl⟩
  go_wp2_with fail
  refine (HC.out _).mono ?_
  rintro e w2 ⟨rfl, rfl⟩
  go_wp2
  first | go_end0 | (simp only [Exit.inBlock, Exit.then]; refine bodyPost_ret (results_none rfl _ _ _) rfl ?_) | refine bodyPost_ret (results_none rfl _ _ _) rfl ?_
  exact ⟨rfl, by rw [HF.out]⟩
end Rg
end Go.Proofs.Ytemcahbpfjlnlaa
