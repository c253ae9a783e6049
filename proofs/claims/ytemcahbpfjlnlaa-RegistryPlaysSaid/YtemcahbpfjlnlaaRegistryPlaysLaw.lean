/- RegistryPlays: the program's registry and the reference's, op by op. -/
import Derived.Test.YtemcahbpfjlnlaaRegW
import Derived.Deep.RegionHeld3
import Derived.Deep.DrawnRows
namespace Go.Proofs.Ytemcahbpfjlnlaa
open Go Go.RowKit Rg
namespace RegistryPlays
attribute [local go_sem ↓] Go.wp_at_zero Go.wp_at_succ
set_option maxRecDepth 100000
set_option linter.unusedVariables false
set_option linter.unusedSimpArgs false

/-- Both registries, no box. -/
def D0 (w w' : World) (A T : Nat) (m : Int) (hs : List Hk) (sl : Bool) (st : Int) : Prop :=
  ∃ X Z, At w w' X A m hs sl st ∧ RF w' Z T m hs sl st ∧ (∀ k, Z k → w.heap.size ≤ k) ∧ ∀ k, X k → ¬ Z k
section
variable {w w1 w2 : World} {A T g : Nat} {m : Int} {hs : List Hk} {sl : Bool} {st : Int} {cs : Array Value} {ty : TypeId}
theorem D0.on (h : D0 w w1 A T m hs sl st) : Below w.heap.size w w1 := by obtain ⟨X, Z, h, _⟩ := h; exact h.on
theorem _root_.Go.Proofs.Ytemcahbpfjlnlaa.Rg.DS.to0 (h : DS w w1 A T m hs sl st hs sl st g cs ty) : D0 w w1 A T m hs sl st := by
  obtain ⟨X, Z, h⟩ := h
  exact ⟨X, Z, h.a, h.r, h.lo, h.dis⟩
theorem D0.box (h : D0 w w1 A T m hs sl st) (c : Array Value) (t : TypeId) : DS w (w1.alloc (.cells c t)) A T m hs sl st hs sl st w1.heap.size c t := by
  obtain ⟨X, Z, h1, h2, h3, h4⟩ := h
  have hb : Below w1.heap.size w1 (w1.alloc (.cells c t)) := (Below.refl _ _).alloc (Nat.le_refl _) _
  exact ⟨X, Z, h1.then_below hb, h2.below hb, h3, h4, Blk.new w1 c t, fun hx => by have := h1.rb.lt _ hx; omega, fun hz => by have := h2.lt _ hz; omega, h1.on.size⟩
theorem D0.new {X Z : Nat → Prop} (h : At w w1 X A m [] false 0) (hr : RF w2 Z T m [] false 0) (hz : ∀ k, Z k → w1.heap.size ≤ k) (hb : Below w1.heap.size w1 w2) : D0 w w2 A T m [] false 0 :=
  ⟨X, Z, h.then_below hb, hr, fun k hk => Nat.le_trans h.on.size (hz k hk), fun k hk hy => by have := h.rb.lt k hk; have := hz k hy; omega⟩
end

set_option maxHeartbeats 60000000 in
theorem law_any (mask : Int) (v : Value) (l : List Opr) (w : World) (hm : wfI mask) (hl : Oprs w v l) (hg : ∀ x ∈ l, OprIn x) :
    Calls Try.prog 3 #[.int .i64 mask, v] w fun e w' => e = .returned (.bool true) ∧ Below w.heap.size w w' := by
  obtain ⟨a, cap, rfl, hlm, hc⟩ := hl
  have HA := Lib.hid (fun W => awake_any W)
  have HN1 := Lib.hid (fun W => At.new W mask)
  have HN2 := Lib.hid (fun W => rnew_any mask W)
  have HC := Lib.hid hc
  clear hc
  obtain ⟨n, hn⟩ : ∃ n, n = l.length := ⟨_, rfl⟩
  rw [← hn] at hlm ⊢
  have HLn := Lib.hid hn
  clear hn
  go_enter Try.func3, Try.ntmps3
  go_wp2_with fail
  refine (HA.out _).mono ?_
  rintro e w1 ⟨rfl, hb1'⟩
  have HB1 := Lib.hid hb1'
  clear hb1'
  by_cases h60 : (60 : Int) < (n : Int)
  · go_wp2
    go_ret
    exact ⟨rfl, HB1.out⟩
  go_wp2_with fail
  refine (HN1.out _).mono ?_
  rintro e w2 ⟨A, rfl, X, hA⟩
  have HA2 := Lib.hid (hA.from HB1.out)
  clear hA
  unfold ptr
  go_wp2_with fail
  refine (HN2.out _).mono ?_
  rintro e w3 ⟨T, rfl, hR, hTl, hb3⟩
  have hD : D0 w w3 A T (bits .and .i64 mask 127) [] false 0 := D0.new HA2.out hR (fun k hk => by subst hk; exact hTl) hb3
  generalize bits .and .i64 mask 127 = m1 at *
  clear hR hTl hb3 HA2 HN1 HN2 HA HB1
  unfold ptr
  go_wp2_with fail
  go_loopg [8] n (fun G s8 wr => ∃ (i : Nat) (hs : List Hk) (sl : Bool) (st : Int), i + G = n ∧ s8 = .int .i64 i ∧ D0 w wr A T m1 hs sl st ∧ hs.length ≤ i ∧ ∀ o ∈ hs, o.trig.size ≤ 300)
  case atStart => exact ⟨0, [], false, 0, by omega, rfl, hD, Nat.le_refl _, fun x hx => by cases hx⟩
  case round =>
    clear hD
    obtain ⟨i, hs, sl, st, hig, rfl, hD, hle, htr⟩ := hrel
    have HTr := Lib.hid htr
    have HD0 := Lib.hid hD
    have hb := hD.on
    clear htr
    cases gk with
    | zero =>
      have hlt : ¬ ((i : Int) < (n : Int)) := by omega
      clear hD HD0
      go_wp2
      go_ret
      exact ⟨rfl, hb⟩
    | succ G =>
      have hlt : (i : Int) < (n : Int) := by omega
      obtain ⟨x, hx⟩ : ∃ x, l[i]? = some x := ⟨_, List.getElem?_eq_getElem (by have := HLn.out; omega)⟩
      rcases HC.out with rfl | ⟨b, off, rfl, hcell⟩
      · simp at hx
      have K0 := hcell i x hx
      have K : OpAt wr b (off + i * 8) x := ⟨keep_cell hb K0.c0, keep_cell hb K0.c1, keep_cell hb K0.c2, K0.hk.carry fun off' v hv => keep_cell hb hv⟩
      have c0 : wr.cell? ⟨b, off + i * 8, none⟩ = some (.int .i64 x.what) := K.c0
      have c1 : wr.cell? ⟨b, off + i * 8 + 1, none⟩ = some (.int .i64 x.n) := K.c1
      have c2 : wr.cell? ⟨b, off + i * 8 + 2, none⟩ = some (.int .u8 x.b) := K.c2
      have c3 : wr.cell? ⟨b, off + i * 8 + 3, none⟩ = some (.string x.h.name) := K.hk.c0
      have c4 : wr.cell? ⟨b, off + i * 8 + 4, none⟩ = some (.int .i64 x.h.ph) := K.hk.c1
      have c5 : wr.cell? ⟨b, off + i * 8 + 5, none⟩ = some (.int .i64 x.h.pri) := K.hk.c2
      have c6 : wr.cell? ⟨b, off + i * 8 + 6, none⟩ = some (.string x.h.trig) := K.hk.c3
      have c7 : wr.cell? ⟨b, off + i * 8 + 7, none⟩ = some (.int .i64 x.h.bit) := K.hk.c4
      obtain ⟨hww, hwn, ⟨hb0, hb1⟩, hin⟩ := hg x (List.mem_of_getElem? hx)
      have hnx : x.n ≤ 9223372036854775807 := by
        have h := hwn
        unfold wfI at h
        simp only [Lit.wf, Bool.and_eq_true, decide_eq_true_eq] at h
        have h2 : IntKind.i64.max = 9223372036854775807 := by decide
        omega
      clear K K0 hcell hx
      have k0 : (wr.alloc (.cells #[.int .i64 x.what, .int .i64 x.n, .int .u8 x.b, .string x.h.name, .int .i64 x.h.ph, .int .i64 x.h.pri, .string x.h.trig, .int .i64 x.h.bit] 31)).cell? ⟨wr.heap.size, 0, none⟩ = some (.int .i64 x.what) := (Blk.new wr _ _).cell 0 rfl
      have k1 : (wr.alloc (.cells #[.int .i64 x.what, .int .i64 x.n, .int .u8 x.b, .string x.h.name, .int .i64 x.h.ph, .int .i64 x.h.pri, .string x.h.trig, .int .i64 x.h.bit] 31)).cell? ⟨wr.heap.size, 1, none⟩ = some (.int .i64 x.n) := (Blk.new wr _ _).cell 1 rfl
      have k2 : (wr.alloc (.cells #[.int .i64 x.what, .int .i64 x.n, .int .u8 x.b, .string x.h.name, .int .i64 x.h.ph, .int .i64 x.h.pri, .string x.h.trig, .int .i64 x.h.bit] 31)).cell? ⟨wr.heap.size, 2, none⟩ = some (.int .u8 x.b) := (Blk.new wr _ _).cell 2 rfl
      have k3 : (wr.alloc (.cells #[.int .i64 x.what, .int .i64 x.n, .int .u8 x.b, .string x.h.name, .int .i64 x.h.ph, .int .i64 x.h.pri, .string x.h.trig, .int .i64 x.h.bit] 31)).cell? ⟨wr.heap.size, 3, none⟩ = some (.string x.h.name) := (Blk.new wr _ _).cell 3 rfl
      have k4 : (wr.alloc (.cells #[.int .i64 x.what, .int .i64 x.n, .int .u8 x.b, .string x.h.name, .int .i64 x.h.ph, .int .i64 x.h.pri, .string x.h.trig, .int .i64 x.h.bit] 31)).cell? ⟨wr.heap.size, 4, none⟩ = some (.int .i64 x.h.ph) := (Blk.new wr _ _).cell 4 rfl
      have k5 : (wr.alloc (.cells #[.int .i64 x.what, .int .i64 x.n, .int .u8 x.b, .string x.h.name, .int .i64 x.h.ph, .int .i64 x.h.pri, .string x.h.trig, .int .i64 x.h.bit] 31)).cell? ⟨wr.heap.size, 5, none⟩ = some (.int .i64 x.h.pri) := (Blk.new wr _ _).cell 5 rfl
      have k6 : (wr.alloc (.cells #[.int .i64 x.what, .int .i64 x.n, .int .u8 x.b, .string x.h.name, .int .i64 x.h.ph, .int .i64 x.h.pri, .string x.h.trig, .int .i64 x.h.bit] 31)).cell? ⟨wr.heap.size, 6, none⟩ = some (.string x.h.trig) := (Blk.new wr _ _).cell 6 rfl
      have k7 : (wr.alloc (.cells #[.int .i64 x.what, .int .i64 x.n, .int .u8 x.b, .string x.h.name, .int .i64 x.h.ph, .int .i64 x.h.pri, .string x.h.trig, .int .i64 x.h.bit] 31)).cell? ⟨wr.heap.size, 7, none⟩ = some (.int .i64 x.h.bit) := (Blk.new wr _ _).cell 7 rfl
      by_cases h1 : (300 : Int) < (x.h.name.size : Int)
      · have hb2 : Below w.heap.size w (wr.alloc (.cells #[.int .i64 x.what, .int .i64 x.n, .int .u8 x.b, .string x.h.name, .int .i64 x.h.ph, .int .i64 x.h.pri, .string x.h.trig, .int .i64 x.h.bit] 31)) := hb.alloc hb.size _
        clear hD HD0
        go_wp2
        go_ret
        exact ⟨rfl, hb2⟩
      by_cases h2 : (300 : Int) < (x.h.trig.size : Int)
      · have hb2 : Below w.heap.size w (wr.alloc (.cells #[.int .i64 x.what, .int .i64 x.n, .int .u8 x.b, .string x.h.name, .int .i64 x.h.ph, .int .i64 x.h.pri, .string x.h.trig, .int .i64 x.h.bit] 31)) := hb.alloc hb.size _
        clear hD HD0
        go_wp2
        go_ret
        exact ⟨rfl, hb2⟩
      have hok : HkOk x.h := hin.ok (by omega) (by omega)
      have hns : x.h.name.size ≤ 281474976710656 := by omega
      have hl0 : hs.length < 1000000 := by omega
      have hl1 : hs.length ≤ 1000000 := by omega
      have hle1 : hs.length ≤ i + 1 := by omega
      have HTr6 : Hid (∀ o ∈ hs, o.trig.size ≤ 1000000) := Lib.hid (fun o ho => Nat.le_trans (HTr.out o ho) (by decide))
      have hds := HD0.out.box #[.int .i64 x.what, .int .i64 x.n, .int .u8 x.b, .string x.h.name, .int .i64 x.h.ph, .int .i64 x.h.pri, .string x.h.trig, .int .i64 x.h.bit] 31
      have HNm := Lib.hid hds.names.1
      have hst0 := hds.names.2.2.1
      have hst1 := hds.names.2.2.2
      have hi1 : IntKind.i64.wrap ((i : Int) + 1) = ((i + 1 : Nat) : Int) := by rw [IntKind.wrap_i64]; omega
      obtain ⟨N0, hN0⟩ : ∃ N0, N0 = wr.heap.size := ⟨_, rfl⟩
      have HSl : Hid (∀ W, Blk W N0 #[.int .i64 x.what, .int .i64 x.n, .int .u8 x.b, .string x.h.name, .int .i64 x.h.ph, .int .i64 x.h.pri, .string x.h.trig, .int .i64 x.h.bit] 31 → W.cell? ⟨N0, 3, none⟩ = some (.string x.h.name) ∧ W.cell? ⟨N0, 4, none⟩ = some (.int .i64 x.h.ph) ∧ W.cell? ⟨N0, 5, none⟩ = some (.int .i64 x.h.pri) ∧ W.cell? ⟨N0, 6, none⟩ = some (.string x.h.trig) ∧ W.cell? ⟨N0, 7, none⟩ = some (.int .i64 x.h.bit) ∧ W.cell? ⟨N0, 1, none⟩ = some (.int .i64 x.n) ∧ W.cell? ⟨N0, 2, none⟩ = some (.int .u8 x.b)) := Lib.hid (fun W h => ⟨h.cell 3 rfl, h.cell 4 rfl, h.cell 5 rfl, h.cell 6 rfl, h.cell 7 rfl, h.cell 1 rfl, h.cell 2 rfl⟩)
      have HN0 := Lib.hid hN0
      have hds : DS w (wr.alloc (.cells #[.int .i64 x.what, .int .i64 x.n, .int .u8 x.b, .string x.h.name, .int .i64 x.h.ph, .int .i64 x.h.pri, .string x.h.trig, .int .i64 x.h.bit] 31)) A T m1 hs sl st hs sl st N0 #[.int .i64 x.what, .int .i64 x.n, .int .u8 x.b, .string x.h.name, .int .i64 x.h.ph, .int .i64 x.h.pri, .string x.h.trig, .int .i64 x.h.bit] 31 := by rw [hN0]; exact hds
      clear hin hb hD HD0 hN0 hww hg
      have w_0 : ∀ j, x.what = j → (x.what == j) = true := fun j e => by simp [e]
      have w_1 : ∀ j, ¬ x.what = j → (x.what == j) = false := fun j e => by simp [e]
      go_upto_region 12 with fail
      rw [← HN0.out] at k0 k1 k2 k3 k4 k5 k6 k7 ⊢
      by_cases q0 : x.what = 0
      · have e0 := w_0 0 q0
        clear q0 w_0 w_1
        obtain ⟨fr, hfr⟩ : ∃ fr, fr = fresh hs sl x.h := ⟨_, rfl⟩
        have HTr1 : Hid (∀ o ∈ (if fr then hs ++ [x.h] else hs), o.trig.size ≤ 300) := Lib.hid (fun o ho => by
          cases fr with
          | false => exact HTr.out o ho
          | true =>
            rcases List.mem_append.1 ho with h | h
            · exact HTr.out o h
            · rw [List.mem_singleton] at h; subst h; omega)
        have HLe1 : Hid ((if fr then hs ++ [x.h] else hs).length ≤ i + 1) := Lib.hid (by
          cases fr with
          | false => exact hle1
          | true => show (hs ++ [x.h]).length ≤ i + 1; rw [List.length_append, List.length_singleton]; omega)
        have C1 := Lib.hid (fun (W : World) (h2 : List Hk) (h : DS w W A T m1 hs sl st h2 sl st N0 #[.int .i64 x.what, .int .i64 x.n, .int .u8 x.b, .string x.h.name, .int .i64 x.h.ph, .int .i64 x.h.pri, .string x.h.trig, .int .i64 x.h.bit] 31) => h.addL x.h hok hl0)
        have C2 := Lib.hid (fun (W : World) (h2 : List Hk) (h : DS w W A T m1 h2 sl st hs sl st N0 #[.int .i64 x.what, .int .i64 x.n, .int .u8 x.b, .string x.h.name, .int .i64 x.h.ph, .int .i64 x.h.pri, .string x.h.trig, .int .i64 x.h.bit] 31) => h.addR x.h hl1)
        rw [← hfr] at C1 C2
        obtain ⟨hsN, hhsN⟩ : ∃ hsN, hsN = (if fr then hs ++ [x.h] else hs) := ⟨_, rfl⟩
        rw [← hhsN] at C1 C2 HTr1 HLe1
        unfold ptr hookV hookC at C1 C2
        have hd0 := hds.below (Below.refl _ _).drew
        have hbx := hd0.blk
        clear hds hfr hhsN
        go_wp2_with fail
        clear k0 k1 k2 k3 k4 k5 k6 k7
        go_region_held3 (fun W => W.cell? ⟨N0, 3, none⟩ = some (.string x.h.name) ∧ W.cell? ⟨N0, 4, none⟩ = some (.int .i64 x.h.ph) ∧ W.cell? ⟨N0, 5, none⟩ = some (.int .i64 x.h.pri) ∧ W.cell? ⟨N0, 6, none⟩ = some (.string x.h.trig) ∧ W.cell? ⟨N0, 7, none⟩ = some (.int .i64 x.h.bit) ∧ W.cell? ⟨N0, 1, none⟩ = some (.int .i64 x.n) ∧ W.cell? ⟨N0, 2, none⟩ = some (.int .u8 x.b)) (exact HSl.out _ (by assumption)) (first
          | (go_at_call_of 13 (Value.pointer (some ⟨A, 0, none⟩)); refine (C1.out _ _ (by assumption)).mono ?_; rintro e w' ⟨rfl, hd8⟩; have hbx := hd8.blk)
          | (go_at_call_of 14 (Value.pointer (some ⟨T, 0, none⟩)); refine (C2.out _ _ (by assumption)).mono ?_; rintro e w' ⟨rfl, hd8⟩; have hbx := hd8.blk))
        all_goals
          have hd9 : DS w _ A T m1 hsN sl st hsN sl st N0 #[.int .i64 x.what, .int .i64 x.n, .int .u8 x.b, .string x.h.name, .int .i64 x.h.ph, .int .i64 x.h.pri, .string x.h.trig, .int .i64 x.h.bit] 31 := hd8
          clear hd8 hbx
          have hst9 := hd9.below (Below.refl _ _).drew
          have CS := Lib.hid (fun (W : World) (h : DS w W A T m1 hsN sl st hsN sl st N0 #[.int .i64 x.what, .int .i64 x.n, .int .u8 x.b, .string x.h.name, .int .i64 x.h.ph, .int .i64 x.h.pri, .string x.h.trig, .int .i64 x.h.bit] 31) => h.steps)
          have HS3 := Lib.hid (fun (W : World) (h : DS w W A T m1 hsN sl st hsN sl st N0 #[.int .i64 x.what, .int .i64 x.n, .int .u8 x.b, .string x.h.name, .int .i64 x.h.ph, .int .i64 x.h.pri, .string x.h.trig, .int .i64 x.h.bit] 31) => h.cell3)
          unfold ptr at CS
          clear hd9
          go_wp2_with fail
          go_region_held3 (fun W => W.cell? ⟨T, 3, none⟩ = some (.int .i64 (st))) (exact HS3.out _ (by assumption)) (first | (go_at_call_of 24 (Value.pointer (some ⟨A, 0, none⟩)); refine (CS.out _ (by assumption)).mono ?_; rintro e w' ⟨rfl, rfl⟩))
          all_goals
            have HD := Lib.hid (show DS w _ A T m1 hsN sl st hsN sl st N0 #[.int .i64 x.what, .int .i64 x.n, .int .u8 x.b, .string x.h.name, .int .i64 x.h.ph, .int .i64 x.h.pri, .string x.h.trig, .int .i64 x.h.bit] 31 from hst9)
            clear hst9
            go_wp2_with fail
            go_roundg G
            case rel => exact ⟨i + 1, hsN, sl, st, by omega, by first | rfl | go_num, HD.out.to0, HLe1.out, HTr1.out⟩
            case measure => omega
      have e0 := w_1 0 q0
      by_cases q1 : x.what = 1
      · have e1 := w_0 1 q1
        clear q0 q1 w_0 w_1
        obtain ⟨L1, hL1⟩ : ∃ L1, L1 = told m1 hs x.n := ⟨_, rfl⟩
        have C1 := Lib.hid (fun (W : World) (h : DS w W A T m1 hs sl st hs sl st N0 #[.int .i64 x.what, .int .i64 x.n, .int .u8 x.b, .string x.h.name, .int .i64 x.h.ph, .int .i64 x.h.pri, .string x.h.trig, .int .i64 x.h.bit] 31) => h.sortedL x.n hwn)
        have C2 := Lib.hid (fun (W : World) (h : DS w W A T m1 hs sl st hs sl st N0 #[.int .i64 x.what, .int .i64 x.n, .int .u8 x.b, .string x.h.name, .int .i64 x.h.ph, .int .i64 x.h.pri, .string x.h.trig, .int .i64 x.h.bit] 31) => h.sortedR x.n hl1 HNm.out)
        have C3 := Lib.hid (fun (W : World) (v : Value) (h : DV w W A T m1 hs sl st hs true st N0 #[.int .i64 x.what, .int .i64 x.n, .int .u8 x.b, .string x.h.name, .int .i64 x.h.ph, .int .i64 x.h.pri, .string x.h.trig, .int .i64 x.h.bit] 31 v L1) => h.sortedL x.n hwn)
        have C4 := Lib.hid (fun (W : World) (v : Value) (h : DV w W A T m1 hs true st hs sl st N0 #[.int .i64 x.what, .int .i64 x.n, .int .u8 x.b, .string x.h.name, .int .i64 x.h.ph, .int .i64 x.h.pri, .string x.h.trig, .int .i64 x.h.bit] 31 v L1) => h.sortedR x.n hl1 HNm.out)
        have D1 := Lib.hid (fun (W : World) (v v' : Value) (h : Hooks W v L1) (h' : Hooks W v' L1) => same_any h h')
        rw [← hL1] at C1 C2 C3 C4
        unfold ptr at C1 C2 C3 C4
        have hd0 := hds.below (Below.refl _ _).drew
        have hbx := hd0.blk
        clear hds hL1
        go_wp2_with fail
        clear k0 k1 k2 k3 k4 k5 k6 k7
        go_region_held3 (fun W => W.cell? ⟨N0, 3, none⟩ = some (.string x.h.name) ∧ W.cell? ⟨N0, 4, none⟩ = some (.int .i64 x.h.ph) ∧ W.cell? ⟨N0, 5, none⟩ = some (.int .i64 x.h.pri) ∧ W.cell? ⟨N0, 6, none⟩ = some (.string x.h.trig) ∧ W.cell? ⟨N0, 7, none⟩ = some (.int .i64 x.h.bit) ∧ W.cell? ⟨N0, 1, none⟩ = some (.int .i64 x.n) ∧ W.cell? ⟨N0, 2, none⟩ = some (.int .u8 x.b)) (exact HSl.out _ (by assumption)) (first
          | (go_at_call_of 16 (Value.pointer (some ⟨A, 0, none⟩)); first
              | (refine (C1.out _ (by assumption)).mono ?_; rintro e w' ⟨va, rfl, hv8⟩; have hbx := hv8.ds.blk)
              | (refine (C3.out _ _ (by assumption)).mono ?_; rintro e w' ⟨va, rfl, hd8, hka, hkb⟩; have hbx := hd8.blk))
          | (go_at_call_of 17 (Value.pointer (some ⟨T, 0, none⟩)); first
              | (refine (C2.out _ (by assumption)).mono ?_; rintro e w' ⟨vb, rfl, hv8⟩; have hbx := hv8.ds.blk)
              | (refine (C4.out _ _ (by assumption)).mono ?_; rintro e w' ⟨vb, rfl, hd8, hka, hkb⟩; have hbx := hd8.blk))
          | (go_at_call 15; refine (D1.out _ _ _ (by assumption) (by assumption)).mono ?_; rintro e w' ⟨rfl, hbs⟩; have hd7 := DS.below (show DS w _ A T m1 hs true st hs true st N0 #[.int .i64 x.what, .int .i64 x.n, .int .u8 x.b, .string x.h.name, .int .i64 x.h.ph, .int .i64 x.h.pri, .string x.h.trig, .int .i64 x.h.bit] 31 by assumption) hbs; have hbx := hd7.blk))
        all_goals
          have hd9 : DS w _ A T m1 hs true st hs true st N0 #[.int .i64 x.what, .int .i64 x.n, .int .u8 x.b, .string x.h.name, .int .i64 x.h.ph, .int .i64 x.h.pri, .string x.h.trig, .int .i64 x.h.bit] 31 := hd7
          clear hd8 hd7 hbx
          have hst9 := hd9.below (Below.refl _ _).drew
          have CS := Lib.hid (fun (W : World) (h : DS w W A T m1 hs true st hs true st N0 #[.int .i64 x.what, .int .i64 x.n, .int .u8 x.b, .string x.h.name, .int .i64 x.h.ph, .int .i64 x.h.pri, .string x.h.trig, .int .i64 x.h.bit] 31) => h.steps)
          have HS3 := Lib.hid (fun (W : World) (h : DS w W A T m1 hs true st hs true st N0 #[.int .i64 x.what, .int .i64 x.n, .int .u8 x.b, .string x.h.name, .int .i64 x.h.ph, .int .i64 x.h.pri, .string x.h.trig, .int .i64 x.h.bit] 31) => h.cell3)
          unfold ptr at CS
          clear hd9
          go_wp2_with fail
          go_region_held3 (fun W => W.cell? ⟨T, 3, none⟩ = some (.int .i64 (st))) (exact HS3.out _ (by assumption)) (first | (go_at_call_of 24 (Value.pointer (some ⟨A, 0, none⟩)); refine (CS.out _ (by assumption)).mono ?_; rintro e w' ⟨rfl, rfl⟩))
          all_goals
            have HD := Lib.hid (show DS w _ A T m1 hs true st hs true st N0 #[.int .i64 x.what, .int .i64 x.n, .int .u8 x.b, .string x.h.name, .int .i64 x.h.ph, .int .i64 x.h.pri, .string x.h.trig, .int .i64 x.h.bit] 31 from hst9)
            clear hst9
            go_wp2_with fail
            go_roundg G
            case rel => exact ⟨i + 1, hs, true, st, by omega, by first | rfl | go_num, HD.out.to0, hle1, HTr.out⟩
            case measure => omega
      have e1 := w_1 1 q1
      by_cases q2 : x.what = 2
      · have e2 := w_0 2 q2
        clear q0 q1 q2 w_0 w_1
        obtain ⟨L1, hL1⟩ : ∃ L1, L1 = (told m1 hs x.n).filter (trigB x.b) := ⟨_, rfl⟩
        have C1 := Lib.hid (fun (W : World) (h : DS w W A T m1 hs sl st hs sl st N0 #[.int .i64 x.what, .int .i64 x.n, .int .u8 x.b, .string x.h.name, .int .i64 x.h.ph, .int .i64 x.h.pri, .string x.h.trig, .int .i64 x.h.bit] 31) => h.forL x.n hwn x.b hb0 hb1)
        have C2 := Lib.hid (fun (W : World) (h : DS w W A T m1 hs sl st hs sl st N0 #[.int .i64 x.what, .int .i64 x.n, .int .u8 x.b, .string x.h.name, .int .i64 x.h.ph, .int .i64 x.h.pri, .string x.h.trig, .int .i64 x.h.bit] 31) => h.forR x.n x.b hl1 HNm.out HTr6.out)
        have C3 := Lib.hid (fun (W : World) (v : Value) (h : DV w W A T m1 hs sl st hs true st N0 #[.int .i64 x.what, .int .i64 x.n, .int .u8 x.b, .string x.h.name, .int .i64 x.h.ph, .int .i64 x.h.pri, .string x.h.trig, .int .i64 x.h.bit] 31 v L1) => h.forL x.n hwn x.b hb0 hb1)
        have C4 := Lib.hid (fun (W : World) (v : Value) (h : DV w W A T m1 hs true st hs sl st N0 #[.int .i64 x.what, .int .i64 x.n, .int .u8 x.b, .string x.h.name, .int .i64 x.h.ph, .int .i64 x.h.pri, .string x.h.trig, .int .i64 x.h.bit] 31 v L1) => h.forR x.n x.b hl1 HNm.out HTr6.out)
        have D1 := Lib.hid (fun (W : World) (v v' : Value) (h : Hooks W v L1) (h' : Hooks W v' L1) => same_any h h')
        rw [← hL1] at C1 C2 C3 C4
        unfold ptr at C1 C2 C3 C4
        have hd0 := hds.below (Below.refl _ _).drew
        have hbx := hd0.blk
        clear hds hL1
        go_wp2_with fail
        clear k0 k1 k2 k3 k4 k5 k6 k7
        go_region_held3 (fun W => W.cell? ⟨N0, 3, none⟩ = some (.string x.h.name) ∧ W.cell? ⟨N0, 4, none⟩ = some (.int .i64 x.h.ph) ∧ W.cell? ⟨N0, 5, none⟩ = some (.int .i64 x.h.pri) ∧ W.cell? ⟨N0, 6, none⟩ = some (.string x.h.trig) ∧ W.cell? ⟨N0, 7, none⟩ = some (.int .i64 x.h.bit) ∧ W.cell? ⟨N0, 1, none⟩ = some (.int .i64 x.n) ∧ W.cell? ⟨N0, 2, none⟩ = some (.int .u8 x.b)) (exact HSl.out _ (by assumption)) (first
          | (go_at_call_of 18 (Value.pointer (some ⟨A, 0, none⟩)); first
              | (refine (C1.out _ (by assumption)).mono ?_; rintro e w' ⟨va, rfl, hv8⟩; have hbx := hv8.ds.blk)
              | (refine (C3.out _ _ (by assumption)).mono ?_; rintro e w' ⟨va, rfl, hd8, hka, hkb⟩; have hbx := hd8.blk))
          | (go_at_call_of 19 (Value.pointer (some ⟨T, 0, none⟩)); first
              | (refine (C2.out _ (by assumption)).mono ?_; rintro e w' ⟨vb, rfl, hv8⟩; have hbx := hv8.ds.blk)
              | (refine (C4.out _ _ (by assumption)).mono ?_; rintro e w' ⟨vb, rfl, hd8, hka, hkb⟩; have hbx := hd8.blk))
          | (go_at_call 15; refine (D1.out _ _ _ (by assumption) (by assumption)).mono ?_; rintro e w' ⟨rfl, hbs⟩; have hd7 := DS.below (show DS w _ A T m1 hs true st hs true st N0 #[.int .i64 x.what, .int .i64 x.n, .int .u8 x.b, .string x.h.name, .int .i64 x.h.ph, .int .i64 x.h.pri, .string x.h.trig, .int .i64 x.h.bit] 31 by assumption) hbs; have hbx := hd7.blk))
        all_goals
          have hd9 : DS w _ A T m1 hs true st hs true st N0 #[.int .i64 x.what, .int .i64 x.n, .int .u8 x.b, .string x.h.name, .int .i64 x.h.ph, .int .i64 x.h.pri, .string x.h.trig, .int .i64 x.h.bit] 31 := hd7
          clear hd8 hd7 hbx
          have hst9 := hd9.below (Below.refl _ _).drew
          have CS := Lib.hid (fun (W : World) (h : DS w W A T m1 hs true st hs true st N0 #[.int .i64 x.what, .int .i64 x.n, .int .u8 x.b, .string x.h.name, .int .i64 x.h.ph, .int .i64 x.h.pri, .string x.h.trig, .int .i64 x.h.bit] 31) => h.steps)
          have HS3 := Lib.hid (fun (W : World) (h : DS w W A T m1 hs true st hs true st N0 #[.int .i64 x.what, .int .i64 x.n, .int .u8 x.b, .string x.h.name, .int .i64 x.h.ph, .int .i64 x.h.pri, .string x.h.trig, .int .i64 x.h.bit] 31) => h.cell3)
          unfold ptr at CS
          clear hd9
          go_wp2_with fail
          go_region_held3 (fun W => W.cell? ⟨T, 3, none⟩ = some (.int .i64 (st))) (exact HS3.out _ (by assumption)) (first | (go_at_call_of 24 (Value.pointer (some ⟨A, 0, none⟩)); refine (CS.out _ (by assumption)).mono ?_; rintro e w' ⟨rfl, rfl⟩))
          all_goals
            have HD := Lib.hid (show DS w _ A T m1 hs true st hs true st N0 #[.int .i64 x.what, .int .i64 x.n, .int .u8 x.b, .string x.h.name, .int .i64 x.h.ph, .int .i64 x.h.pri, .string x.h.trig, .int .i64 x.h.bit] 31 from hst9)
            clear hst9
            go_wp2_with fail
            go_roundg G
            case rel => exact ⟨i + 1, hs, true, st, by omega, by first | rfl | go_num, HD.out.to0, hle1, HTr.out⟩
            case measure => omega
      have e2 := w_1 2 q2
      by_cases q3 : x.what = 3
      · have e3 := w_0 3 q3
        clear q0 q1 q2 q3 w_0 w_1
        have C1 := Lib.hid (fun (W : World) (s2 : Bool) (h : DS w W A T m1 hs sl st hs s2 st N0 #[.int .i64 x.what, .int .i64 x.n, .int .u8 x.b, .string x.h.name, .int .i64 x.h.ph, .int .i64 x.h.pri, .string x.h.trig, .int .i64 x.h.bit] 31) => h.hasL x.h.name hns)
        have C2 := Lib.hid (fun (W : World) (s2 : Bool) (h : DS w W A T m1 hs s2 st hs sl st N0 #[.int .i64 x.what, .int .i64 x.n, .int .u8 x.b, .string x.h.name, .int .i64 x.h.ph, .int .i64 x.h.pri, .string x.h.trig, .int .i64 x.h.bit] 31) => h.hasR x.h.name hl1)
        obtain ⟨hq, hhq⟩ : ∃ hq, hq = hasB m1 hs x.h.name.data.toList := ⟨_, rfl⟩
        rw [← hhq] at C1 C2
        unfold ptr at C1 C2
        have hd0 := hds.below (Below.refl _ _).drew
        have hbx := hd0.blk
        clear hds hhq
        go_wp2_with fail
        clear k0 k1 k2 k3 k4 k5 k6 k7
        go_region_held3 (fun W => W.cell? ⟨N0, 3, none⟩ = some (.string x.h.name) ∧ W.cell? ⟨N0, 4, none⟩ = some (.int .i64 x.h.ph) ∧ W.cell? ⟨N0, 5, none⟩ = some (.int .i64 x.h.pri) ∧ W.cell? ⟨N0, 6, none⟩ = some (.string x.h.trig) ∧ W.cell? ⟨N0, 7, none⟩ = some (.int .i64 x.h.bit) ∧ W.cell? ⟨N0, 1, none⟩ = some (.int .i64 x.n) ∧ W.cell? ⟨N0, 2, none⟩ = some (.int .u8 x.b)) (exact HSl.out _ (by assumption)) (first
          | (go_at_call_of 20 (Value.pointer (some ⟨A, 0, none⟩)); refine (C1.out _ _ (by assumption)).mono ?_; rintro e w' ⟨rfl, hd8⟩; have hbx := hd8.blk)
          | (go_at_call_of 21 (Value.pointer (some ⟨T, 0, none⟩)); refine (C2.out _ _ (by assumption)).mono ?_; rintro e w' ⟨rfl, hd8⟩; have hbx := hd8.blk))
        all_goals
          have hd9 : DS w _ A T m1 hs true st hs true st N0 #[.int .i64 x.what, .int .i64 x.n, .int .u8 x.b, .string x.h.name, .int .i64 x.h.ph, .int .i64 x.h.pri, .string x.h.trig, .int .i64 x.h.bit] 31 := hd8
          clear hd8 hbx
          have hst9 := hd9.below (Below.refl _ _).drew
          have CS := Lib.hid (fun (W : World) (h : DS w W A T m1 hs true st hs true st N0 #[.int .i64 x.what, .int .i64 x.n, .int .u8 x.b, .string x.h.name, .int .i64 x.h.ph, .int .i64 x.h.pri, .string x.h.trig, .int .i64 x.h.bit] 31) => h.steps)
          have HS3 := Lib.hid (fun (W : World) (h : DS w W A T m1 hs true st hs true st N0 #[.int .i64 x.what, .int .i64 x.n, .int .u8 x.b, .string x.h.name, .int .i64 x.h.ph, .int .i64 x.h.pri, .string x.h.trig, .int .i64 x.h.bit] 31) => h.cell3)
          unfold ptr at CS
          clear hd9
          go_wp2_with fail
          go_region_held3 (fun W => W.cell? ⟨T, 3, none⟩ = some (.int .i64 (st))) (exact HS3.out _ (by assumption)) (first | (go_at_call_of 24 (Value.pointer (some ⟨A, 0, none⟩)); refine (CS.out _ (by assumption)).mono ?_; rintro e w' ⟨rfl, rfl⟩))
          all_goals
            have HD := Lib.hid (show DS w _ A T m1 hs true st hs true st N0 #[.int .i64 x.what, .int .i64 x.n, .int .u8 x.b, .string x.h.name, .int .i64 x.h.ph, .int .i64 x.h.pri, .string x.h.trig, .int .i64 x.h.bit] 31 from hst9)
            clear hst9
            go_wp2_with fail
            go_roundg G
            case rel => exact ⟨i + 1, hs, true, st, by omega, by first | rfl | go_num, HD.out.to0, hle1, HTr.out⟩
            case measure => omega
      have e3 := w_1 3 q3
      clear q0 q1 q2 q3 w_0 w_1
      have HL1 := Lib.hid (hds.stepL x.n hnx)
      unfold ptr at HL1
      go_wp2_with fail
      refine HL1.out.mono ?_
      rintro e w2 ⟨rfl, hd2⟩
      have k1 : w2.cell? ⟨N0, 1, none⟩ = some (.int .i64 x.n) := hd2.blk.cell 1 rfl
      have HR1 := Lib.hid (hd2.stepR x.n hnx hst0 hst1)
      unfold ptr at HR1
      clear HL1 hds hd2
      go_wp2_with fail
      refine HR1.out.mono ?_
      rintro e w3 ⟨rfl, hd9⟩
      clear HR1
      have hst9 := hd9.below (Below.refl _ _).drew
      have CS := Lib.hid (fun (W : World) (h : DS w W A T m1 hs sl (stepF st x.n) hs sl (stepF st x.n) N0 #[.int .i64 x.what, .int .i64 x.n, .int .u8 x.b, .string x.h.name, .int .i64 x.h.ph, .int .i64 x.h.pri, .string x.h.trig, .int .i64 x.h.bit] 31) => h.steps)
      have HS3 := Lib.hid (fun (W : World) (h : DS w W A T m1 hs sl (stepF st x.n) hs sl (stepF st x.n) N0 #[.int .i64 x.what, .int .i64 x.n, .int .u8 x.b, .string x.h.name, .int .i64 x.h.ph, .int .i64 x.h.pri, .string x.h.trig, .int .i64 x.h.bit] 31) => h.cell3)
      unfold ptr at CS
      clear hd9
      go_wp2_with fail
      go_region_held3 (fun W => W.cell? ⟨T, 3, none⟩ = some (.int .i64 ((stepF st x.n)))) (exact HS3.out _ (by assumption)) (first | (go_at_call_of 24 (Value.pointer (some ⟨A, 0, none⟩)); refine (CS.out _ (by assumption)).mono ?_; rintro e w' ⟨rfl, rfl⟩))
      all_goals
        have HD := Lib.hid (show DS w _ A T m1 hs sl (stepF st x.n) hs sl (stepF st x.n) N0 #[.int .i64 x.what, .int .i64 x.n, .int .u8 x.b, .string x.h.name, .int .i64 x.h.ph, .int .i64 x.h.pri, .string x.h.trig, .int .i64 x.h.bit] 31 from hst9)
        clear hst9
        go_wp2_with fail
        go_roundg G
        case rel => exact ⟨i + 1, hs, sl, (stepF st x.n), by omega, by first | rfl | go_num, HD.out.to0, hle1, HTr.out⟩
        case measure => omega
end RegistryPlays
end Go.Proofs.Ytemcahbpfjlnlaa
