/- Layer 13: the program's Flank, and its small functions over runs. -/
import Derived.Test.YtbdcbeghiglfgaaDoorDlBlk
import Derived.Test.YtbdcbeghiglfgaaDoorDlCls
import Derived.Test.YtbdcbeghiglfgaaDoorDlR
import Derived.Test.YtbdcbeghiglfgaaDoorDlR2
import Derived.Test.YtbdcbeghiglfgaaDoorDlStk
namespace Go.Proofs.YtbdcbeghiglfgaaDoor
open Go Go.RowKit
namespace Dl
set_option maxRecDepth 100000
set_option linter.unusedVariables false
set_option linter.unusedSimpArgs false

set_option maxHeartbeats 4000000 in
theorem white_any (r : Int) (w : World) (hL : Laid w) :
    Calls Tryd.prog 26 #[.int .i32 r] w fun e w' => e = .returned (.bool (isW r)) ∧ w = w' := by
  have HS := Lib.hid (space_any r w hL)
  have HV : Hid (isW r = (r == 0 || amg whites r)) := Lib.hid rfl
  generalize isW r = V at *
  clear hL
  generalize amg whites r = s at *
  go_enter Tryd.func26, Tryd.ntmps26
  cases h0 : (r == 0) with
  | true =>
    rw [h0] at HV
    go_wp2
    go_ret
    exact ⟨retB HV.out.symm, rfl⟩
  | false =>
    rw [h0] at HV
    go_wp2_with fail
    refine HS.out.mono ?_
    rintro e w' ⟨rfl, rfl⟩
    go_wp2
    go_ret
    exact ⟨retB HV.out.symm, rfl⟩

set_option maxHeartbeats 4000000 in
theorem leans_any (t o : Int) (w : World) (hL : Laid w) :
    Calls Tryd.prog 18 #[.int .i32 t, .int .i32 o] w fun e w' => e = .returned (.bool (leans o t)) ∧ w = w' := by
  have HWt := Lib.hid (white_any t w hL)
  have HWo := Lib.hid (white_any o w hL)
  have HPt := Lib.hid (punct_any t w hL)
  have HPo := Lib.hid (punct_any o w hL)
  have HV : Hid (leans o t = (!isW t && (!amg signs t || isW o || amg signs o))) := Lib.hid rfl
  generalize leans o t = V at *
  generalize isW t = wt at *
  generalize isW o = wo at *
  generalize amg signs t = pt at *
  generalize amg signs o = po at *
  clear hL
  go_enter Tryd.func18, Tryd.ntmps18
  go_wp2_with fail
  refine HWt.out.mono ?_
  rintro e w' ⟨rfl, rfl⟩
  cases wt with
  | true =>
    go_wp2
    go_ret
    exact ⟨retB HV.out.symm, rfl⟩
  | false =>
    go_wp2_with fail
    refine HPt.out.mono ?_
    rintro e w' ⟨rfl, rfl⟩
    cases pt with
    | false =>
      go_wp2
      go_ret
      exact ⟨retB HV.out.symm, rfl⟩
    | true =>
      go_wp2_with fail
      refine HWo.out.mono ?_
      rintro e w' ⟨rfl, rfl⟩
      cases wo with
      | true =>
        go_wp2
        go_ret
        exact ⟨retB HV.out.symm, rfl⟩
      | false =>
        go_wp2_with fail
        refine HPo.out.mono ?_
        rintro e w' ⟨rfl, rfl⟩
        go_wp2
        go_ret
        exact ⟨retB HV.out.symm, rfl⟩

set_option maxHeartbeats 4000000 in
theorem flank_any (b a : Int) (c : UInt8) (w : World) (hL : Laid w) :
    Calls Tryd.prog 11 #[.int .i32 b, .int .i32 a, .int .u8 (c.toNat : Int)] w fun e w' => e = .returned (flankV b a c) ∧ w = w' := by
  have e95 : ((c.toNat : Int) == 95) = (c == 95) := eq_u8 c 95 (by decide)
  have n95 : ((c.toNat : Int) != 95) = !(c == 95) := by unfold bne; rw [e95]
  have HR := Lib.hid (leans_any a b w hL)
  have HL := Lib.hid (leans_any b a w hL)
  have HPb := Lib.hid (punct_any b w hL)
  have HPa := Lib.hid (punct_any a w hL)
  have HV : Hid (flankV b a c = .tuple #[.bool (if (c == 95) = true then (leans b a && (!leans a b || amg signs b)) else leans b a), .bool (if (c == 95) = true then (leans a b && (!leans b a || amg signs a)) else leans a b)]) := Lib.hid (by
    unfold flankV flankP isS
    simp only [beq_iff_eq]
    split <;> rfl)
  generalize flankV b a c = V at *
  generalize leans b a = r at *
  generalize leans a b = l at *
  generalize amg signs b = pb at *
  generalize amg signs a = pa at *
  generalize (c == 95) = q at *
  clear hL e95
  go_enter Tryd.func11, Tryd.ntmps11
  go_wp2_with fail
  refine HR.out.mono ?_
  rintro e w' ⟨rfl, rfl⟩
  go_wp2_with fail
  refine HL.out.mono ?_
  rintro e w' ⟨rfl, rfl⟩
  cases q with
  | false =>
    have HV2 : Hid (V = .tuple #[.bool r, .bool l]) := Lib.hid HV.out
    clear HV
    simp only [Bool.not_false] at n95
    go_wp2
    go_ret2
    exact ⟨retV HV2.out.symm, rfl⟩
  | true =>
    have HV2 : Hid (V = .tuple #[.bool (r && (!l || pb)), .bool (l && (!r || pa))]) := Lib.hid HV.out
    clear HV
    simp only [Bool.not_true] at n95
    cases r with
    | false =>
      cases l <;>
      · go_wp2
        go_ret2
        exact ⟨retV HV2.out.symm, rfl⟩
    | true =>
      cases l with
      | false =>
        go_wp2
        go_ret2
        exact ⟨retV HV2.out.symm, rfl⟩
      | true =>
        go_wp2_with fail
        refine HPb.out.mono ?_
        rintro e w' ⟨rfl, rfl⟩
        go_wp2_with fail
        refine HPa.out.mono ?_
        rintro e w' ⟨rfl, rfl⟩
        go_wp2
        go_ret2
        exact ⟨retV HV2.out.symm, rfl⟩

/-! ### signs, kindOf, fits, taken -/
theorem one_box (w : World) (a : Rn) (t : TypeId) : AtG runE (w.alloc (.cells (runE a).toArray t)) w.heap.size 0 a := by
  intro j u hu
  rw [World.cell?_alloc_new, Nat.zero_add]; simpa using hu
set_option maxHeartbeats 4000000 in
theorem signs_any (r : Rn) (w : World) :
    Calls Tryd.prog 22 #[.agg (runE r).toArray] w fun e w' => e = .returned (.int .i64 (cap r : Int)) ∧ Below w.heap.size w w' := by
  obtain ⟨a0, a1, a2, a3⟩ := run_cells (one_box w r 28)
  simp only [Nat.zero_add] at a0 a1 a2 a3
  have HB := Lib.hid ((Below.refl _ w).alloc (Nat.le_refl _) (.cells (runE r).toArray 28))
  have HV : Hid (cap r = if 1 ≤ r.n ∧ r.n ≤ 1073741824 then r.n.toNat else 0) := Lib.hid rfl
  generalize cap r = V at *
  unfold runE at *
  obtain ⟨c, n, o, k⟩ := r
  simp only at *
  go_enter Tryd.func22, Tryd.ntmps22
  by_cases h1 : n < 1
  · have e : (V : Int) = 0 := by rw [HV.out, if_neg (by omega)]; rfl
    clear HV
    go_wp2
    go_ret
    exact ⟨by first | rfl | exact ret_int' e.symm, HB.out⟩
  · by_cases h2 : 1073741824 < n
    · have e : (V : Int) = 0 := by rw [HV.out, if_neg (by omega)]; rfl
      clear HV
      go_wp2
      go_ret
      exact ⟨by first | rfl | exact ret_int' e.symm, HB.out⟩
    · have e : (V : Int) = n := by rw [HV.out, if_pos (by omega)]; omega
      clear HV
      go_wp2
      go_ret
      exact ⟨by first | rfl | exact ret_int' e.symm, HB.out⟩
/-- The value of a kind. -/
def kindV (k : UInt8 × Int) : Value := .agg #[.int .u8 (k.1.toNat : Int), .int .i64 k.2]
theorem infoKind : (Tryd.prog.info? 66).map (·.size) = some 2 := by kernel_rfl
set_option maxHeartbeats 4000000 in
theorem kindOf_any (r : Rn) (w : World) :
    Calls Tryd.prog 32 #[.agg (runE r).toArray] w fun e w' => e = .returned (kindV (kn r)) ∧ Below w.heap.size w w' := by
  obtain ⟨a0, a1, a2, a3⟩ := run_cells (one_box w r 28)
  simp only [Nat.zero_add] at a0 a1 a2 a3
  have HB := Lib.hid (fun (o : Obj) => (((Below.refl w.heap.size w).alloc (Nat.le_refl _) (.cells (runE r).toArray 28)).alloc (by simp) o))
  have HN : Hid (∀ u v : Value, Blk ((w.alloc (.cells (runE r).toArray 28)).alloc (.cells #[u, v] 66)) (w.heap.size + 1) #[u, v] 66) := Lib.hid (fun u v => by
    have h0 := Blk.new (w.alloc (.cells (runE r).toArray 28)) #[u, v] 66
    rwa [World.size_alloc] at h0)
  have HV : Hid (kindV (kn r) = .agg #[.int .u8 (r.c.toNat : Int), .int .i64 (if r.c = 126 then r.n else 0)]) := Lib.hid rfl
  have e126 : ((r.c.toNat : Int) == 126) = (r.c == 126) := eq_u8 r.c 126 (by decide)
  generalize kindV (kn r) = V at *
  unfold runE at *
  obtain ⟨c, n, o, k⟩ := r
  simp only at *
  go_enter Tryd.func32, Tryd.ntmps32
  by_cases hc : c = 126
  · have e1 : ((c.toNat : Int) == 126) = true := by rw [e126, hc]; rfl
    rw [if_pos hc] at HV
    clear e126 hc
    go_wp2
    refine bodyPost_ret (v := .agg #[.int .u8 (c.toNat : Int), .int .i64 n]) (results_cell_row rfl _ _ (w.heap.size + 1) _ #[.int .u8 (c.toNat : Int), .int .i64 n] (0, 0) _ rfl (HN.out _ _) Tryd.underlying66 rfl infoKind) rfl ⟨retV HV.out.symm, HB.out _⟩
  · have e1 : ((c.toNat : Int) == 126) = false := by rw [e126, beq_eq_false_iff_ne.2 hc]
    rw [if_neg hc] at HV
    clear e126 hc
    go_wp2
    refine bodyPost_ret (v := .agg #[.int .u8 (c.toNat : Int), .int .i64 0]) (results_cell_row rfl _ _ (w.heap.size + 1) _ #[.int .u8 (c.toNat : Int), .int .i64 0] (0, 0) _ rfl (HN.out _ _) Tryd.underlying66 rfl infoKind) rfl ⟨retV HV.out.symm, HB.out _⟩
set_option maxHeartbeats 8000000 in
theorem fits_any (a b : Rn) (w : World) (ha : 1 ≤ a.n ∧ a.n ≤ 1073741824) (hb : 1 ≤ b.n ∧ b.n ≤ 1073741824) :
    Calls Tryd.prog 34 #[.agg (runE a).toArray, .agg (runE b).toArray] w fun e w' => e = .returned (.bool (fitsP a b)) ∧ Below w.heap.size w w' := by
  obtain ⟨hA, hB⟩ := two_boxes w a b 28
  obtain ⟨a0, a1, a2, a3⟩ := run_cells hA
  obtain ⟨b0, b1, b2, b3⟩ := run_cells hB
  simp only [Nat.zero_add] at a0 a1 a2 a3 b0 b1 b2 b3
  have HB0 := Lib.hid (two_below w (.cells (runE a).toArray 28) (.cells (runE b).toArray 28))
  have e126 : ((a.c.toNat : Int) == 126) = decide (a.c = 126) := by rw [show ((a.c.toNat : Int) == 126) = (a.c == 126) from eq_u8 a.c 126 (by decide)]; rw [Bool.eq_iff_iff, beq_iff_eq, decide_eq_true_iff]
  have HV : Hid (fitsP a b = (decide (a.c = 126) || (!a.k && !b.o) || decide ((a.n + b.n) % 3 ≠ 0) || decide (a.n % 3 = 0))) := Lib.hid rfl
  have x1 := (tmod3 (x := a.n + b.n) (by omega)).2
  have x2 := (tmod3 (x := a.n) (by omega)).1
  have v1 : ((a.n + b.n) % 3 != 0) = decide ((a.n + b.n) % 3 ≠ 0) := by rw [Bool.eq_iff_iff, bne_iff_ne, decide_eq_true_iff]
  have v2 : (a.n % 3 == 0) = decide (a.n % 3 = 0) := by rw [Bool.eq_iff_iff, beq_iff_eq, decide_eq_true_iff]
  have l1 : a.n + b.n ≤ 2147483648 := by omega
  have l2 : 2 ≤ a.n + b.n := by omega
  generalize fitsP a b = V at *
  generalize decide (a.c = 126) = q at *
  generalize decide ((a.n + b.n) % 3 ≠ 0) = y1 at *
  generalize decide (a.n % 3 = 0) = y2 at *
  unfold runE at *
  obtain ⟨ac, an, ao, ak⟩ := a
  obtain ⟨bc, bn, bo, bk⟩ := b
  simp only at *
  clear hA hB
  generalize hW : (w.alloc (.cells [Value.int .u8 (ac.toNat : Int), .int .i64 an, .bool ao, .bool ak].toArray 28)).alloc (.cells [Value.int .u8 (bc.toNat : Int), .int .i64 bn, .bool bo, .bool bk].toArray 28) = W at *
  go_enter Tryd.func34, Tryd.ntmps34
  go_upto_region 1 with fail
  clear hW
  cases q with
  | true =>
    go_wp2
    go_ret
    exact ⟨retB (by rw [HV.out]; rfl), HB0.out⟩
  | false =>
    go_cut [17] (fun v17 wx => v17 = .bool (!ak && !bo) ∧ W = wx)
    case first =>
      cases ak <;> cases bo <;>
      · go_wp2
        go_meet
        exact ⟨rfl, rfl⟩
    obtain ⟨rfl, rfl⟩ := hcut
    generalize (!ak && !bo) = z at *
    cases z <;> cases y1 <;> cases y2 <;>
    · go_wp2
      go_ret
      exact ⟨retB (by rw [HV.out]; rfl), HB0.out⟩
set_option maxHeartbeats 4000000 in
theorem taken_any (c : UInt8) (m n : Nat) (w : World) (hm : m ≤ 1073741824) (hn : n ≤ 1073741824) :
    Calls Tryd.prog 31 #[.int .u8 (c.toNat : Int), .int .i64 (m : Int), .int .i64 (n : Int)] w fun e w' => e = .returned (.int .i64 (takes c m n : Int)) ∧ w = w' := by
  have e126 : ((c.toNat : Int) == 126) = (c == 126) := eq_u8 c 126 (by decide)
  have HV : Hid (takes c m n = if c = 126 then n else if 2 ≤ m ∧ 2 ≤ n then 2 else 1) := Lib.hid rfl
  generalize takes c m n = V at *
  go_enter Tryd.func31, Tryd.ntmps31
  by_cases hc : c = 126
  · have e1 : ((c.toNat : Int) == 126) = true := by rw [e126, hc]; rfl
    rw [if_pos hc] at HV
    clear e126 hc
    go_wp2
    go_ret
    exact ⟨ret_int' (by rw [HV.out]), rfl⟩
  · have e1 : ((c.toNat : Int) == 126) = false := by rw [e126, beq_eq_false_iff_ne.2 hc]
    rw [if_neg hc] at HV
    clear e126 hc
    by_cases h2 : 2 ≤ m
    · by_cases h3 : 2 ≤ n
      · have e : (V : Int) = 2 := by rw [HV.out, if_pos ⟨h2, h3⟩]; rfl
        have g2 : (2 : Int) ≤ (m : Int) := by omega
        have g3 : (2 : Int) ≤ (n : Int) := by omega
        clear HV
        go_wp2
        go_ret
        exact ⟨by first | rfl | exact ret_int' e.symm, rfl⟩
      · have e : (V : Int) = 1 := by rw [HV.out, if_neg (fun h => h3 h.2)]; rfl
        have g2 : (2 : Int) ≤ (m : Int) := by omega
        have g3 : ¬ (2 : Int) ≤ (n : Int) := by omega
        clear HV
        go_wp2
        go_ret
        exact ⟨by first | rfl | exact ret_int' e.symm, rfl⟩
    · have e : (V : Int) = 1 := by rw [HV.out, if_neg (fun h => h2 h.1)]; rfl
      have g2 : ¬ (2 : Int) ≤ (m : Int) := by omega
      clear HV
      go_wp2
      go_ret
      exact ⟨by first | rfl | exact ret_int' e.symm, rfl⟩
end Dl
end Go.Proofs.YtbdcbeghiglfgaaDoor
