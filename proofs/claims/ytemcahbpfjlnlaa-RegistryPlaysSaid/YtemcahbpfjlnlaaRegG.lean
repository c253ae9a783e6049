/- Layer 7: the function that seals a registry: hooks that are on, by phase, each phase in order. -/
import Derived.Test.YtemcahbpfjlnlaaRegF
import Derived.Test.YtemcahbpfjlnlaaRegC
import Derived.Test.YtemcahbpfjlnlaaRegOnce
import Derived.Deep.AppendLies
import Derived.Deep.RegionHeldLaw
namespace Go.Proofs.Ytemcahbpfjlnlaa
open Go Go.RowKit Go.MuLone
namespace Rg
set_option maxRecDepth 100000
set_option linter.unusedVariables false
set_option linter.unusedSimpArgs false

theorem key_string_inv {s : ByteArray} {kl : Lit} (h : keyOf Try.prog 9 (.string s) = some kl) : kl = .string s.data.toList := by
  simp [keyOf, Try.underlying9, mapKey] at h
  exact h.2.symm
theorem key_int_inv {n : Int} {kl : Lit} (h : keyOf Try.prog 3 (.int .i64 n) = some kl) : kl = .int .i64 n ∧ wfI n := by
  simp [keyOf, Try.underlying3, mapKey] at h
  exact ⟨h.2.symm, h.1⟩
theorem map_size {w : World} {k : TypeId} {R : Value → Option (DU × List MemPlace)} {b n : Nat} {D : DU} (h : w.ownsMap Try.prog k R b n D) : Maps.size D ≤ n := by
  obtain ⟨es, clock, _, _, hs, rfl⟩ := h
  simp only [Maps.size, length_sorted, List.length_map]
  simpa using hs
theorem hookInfo2 : (Try.prog.info? 29).map (fun i => (i.zero, i.size, i.bytes)) = some (some (.agg #[.string ⟨#[]⟩, .int .i64 0, .int .i64 0, .string ⟨#[]⟩, .int .i64 0]), 5, 56) := by kernel_rfl
/-- A locked registry whose once is under way. -/
def lockC (m : Int) (bm : Nat) (bp : Option Nat) (st : Int) : Array Value := #[.int .i64 m, .int .i32 1, .int .u32 0, .map (some bm), .int .u32 0, .int .i32 1, .int .u32 0, .map bp, .int .i64 st]
def unlockC (m : Int) (bm : Nat) (bp : Option Nat) (st : Int) : Array Value := #[.int .i64 m, .int .i32 0, .int .u32 0, .map (some bm), .int .u32 0, .int .i32 1, .int .u32 0, .map bp, .int .i64 st]
/-- What one finds of a hook that the range over the map gives. -/
theorem HMap.comes {w : World} {b : Nat} {D : DU} {hs : List Hk} (h : HMap w b D hs) {s : ByteArray} {kl : Lit} {k : Hk} {y : DU × List MemPlace} (hkey : keyOf Try.prog 9 (.string s) = some kl)
    (hh : Maps.has D kl = true) (hR : hkR (hookV k) = some y) (hat : ∀ zd, D.atKey kl zd = y.1) : k ∈ hs ∧ kl = .string k.name.data.toList := by
  have e := key_string_inv hkey
  subst e
  rw [h.has] at hh
  obtain ⟨h1, h2⟩ := found_mem hh
  rw [hkR_mk] at hR
  obtain rfl : (hkD k, []) = y := Option.some.inj hR
  have h3 := h.get _ h1 (hkD k)
  rw [h2, hat] at h3
  have : k = found hs s.data.toList := hkD_inj h3
  rw [← this] at h1 h2
  exact ⟨h1, by rw [h2]⟩

structure Sl where
  a : Option Addr
  n : Nat
  c : Nat
/-- The first loop: what has been put by phase. -/
structure In1 (w wr : World) (x A bm b2 R : Nat) (m st : Int) (D : DU) (hs : List Hk) (c0 : Nat) (left : Lit → Bool) (cnt n2 : Nat) (D2 : DU) (V : Int → Value) (f : Int → List Hk) : Prop where
  rg : wr.ranges Try.prog 9 hkR bm R hs.length D left cnt
  lh : ∀ kl, left kl = true → Maps.has D kl = true
  pm : PMap wr b2 n2 D2 V f (fun g => w.heap.size ≤ g)
  pt : Part m hs left f
  cn : n2 + cnt ≤ c0
  cx : wr.cell? ⟨x, 0, none⟩ = some (ptr A)
  bA : Blk wr A (lockC m bm (some b2) st) 69
  on : Only (fun k => k = A) w wr
/-- The second loop: which rows are in order. -/
structure In2 (w wr : World) (x A bm b2 R n2 : Nat) (m st : Int) (D D2 : DU) (V : Int → Value) (hs : List Hk) (left : Lit → Bool) (cnt : Nat) (f : Int → List Hk) : Prop where
  rg : wr.ranges Try.prog 3 slR b2 R n2 D2 left cnt
  lh : ∀ kl, left kl = true → Maps.has D2 kl = true
  pm : PMap wr b2 n2 D2 V f (fun g => w.heap.size ≤ g)
  od : Ord m hs left f
  hm : HMap wr bm D hs
  bA : Blk wr A (lockC m bm (some b2) st) 69
  on : Only (fun k => k = A) w wr

theorem In1.put {w w4 w5 : World} {x A bm R : Nat} {m st : Int} {D : DU} {hs : List Hk} {c0 : Nat} {left : Lit → Bool} {cnt n2 : Nat} {D2 : DU} {V : Int → Value} {f : Int → List Hk} {k : Hk} {v' : Value}
    (hAlt : A < w.heap.size) (hxlt : x < w.heap.size) (hbmlt : bm < w.heap.size) (hRgt : w.heap.size < R) (hxA : x ≠ A)
    (rg : w4.ranges Try.prog 9 hkR bm R hs.length D left cnt) (lh : ∀ kl, left kl = true → Maps.has D kl = true)
    (pm : PMap w4 w.heap.size n2 D2 V f (fun g => w.heap.size ≤ g)) (pt : Part m hs left (fun q => if q = k.ph then f k.ph ++ [k] else f q)) (cn : n2 + 1 + cnt ≤ c0) (hc0 : c0 ≤ 1000000)
    (cx : w4.cell? ⟨x, 0, none⟩ = some (ptr A)) (bA : Blk w4 A (lockC m bm (some w.heap.size) st) 69) (on : Only (fun k => k = A) w w4) (hp : wfI k.ph)
    (hg : Only (fun g => (V k.ph).ownBlock = some g) w4 w5) (hrow : w5.ownsRow 0 29 5 v' ((f k.ph).length + 1) (rowC (f k.ph ++ [k])))
    (hloc : ∀ g, v'.ownBlock = some g → (V k.ph).ownBlock = some g ∨ w4.heap.size ≤ g) :
    ∃ w6, (Instr.mapUpdate 64 (.map (some w.heap.size)) (.int .i64 k.ph) v').run Try.prog w5 = .ok () w6 ∧
      In1 w w6 x A bm w.heap.size R m st D hs c0 left cnt (n2 + 1) (D2.put (.int .i64 k.ph) (slD v')) (fun q => if q = k.ph then v' else V q) (fun q => if q = k.ph then f k.ph ++ [k] else f q) ∧
      Only (fun g => (V k.ph).ownBlock = some g ∨ g = w.heap.size) w4 w6 := by
  have hm1 := map_only pm.own hg (row_ne_map (pm.row _ hp) pm.own)
  obtain ⟨w6, hrun, hown, hgr⟩ := hm1.update keyI Try.underlying64 (by unfold maxLen; omega) (key_int hp) (owns_slR hrow)
  have hg2 : Only (fun g => g = w.heap.size) w5 w6 := (only_grown hgr).mono fun g e => by injection e with e; exact e.symm
  have hge : ∀ g, (V k.ph).ownBlock = some g → w.heap.size ≤ g := fun g e => pm.new _ g hp e
  have hsz := on.size
  have hsz5 := hg.size
  have hP := PMap.put pm hp hg hrow hloc hown hg2 (fun g e => by omega)
  refine ⟨w6, hrun, ⟨?_, lh, hP, pt, by omega, ?_, ?_, ?_⟩, (hg.mono fun _ e => .inl e).trans' (hg2.mono fun _ e => .inr e)⟩
  · refine ranges_only (ranges_only rg hg (fun e => ?_) (row_ne_iter (pm.row _ hp) rg)) hg2 (by omega) (by omega)
    have := hge _ e; omega
  · rw [World.cell?_of_block (hg2.block x (by omega) (by omega)), World.cell?_of_block (hg.block x (by omega) (fun e => by have := hge _ e; omega))]; exact cx
  · exact (bA.only hg fun e => by have := hge _ e; omega).only hg2 (by omega)
  · exact (on.trans hg fun i hi e => by have := hge _ e; omega).trans hg2 fun i hi e => by omega
set_option maxHeartbeats 4000000 in
theorem seal1_any {w : World} {x A bm : Nat} {m st : Int} {D : DU} {hs : List Hk} (hx : w.cell? ⟨x, 0, none⟩ = some (ptr A)) (hA : Blk w A (unlockC m bm none st) 69)
    (hM : HMap w bm D hs) (hn : Names hs) (hok : ∀ h ∈ hs, HkOk h) (hlen : hs.length ≤ 1000000) (hxA : x ≠ A) (hAb : A ≠ bm) :
    Calls Try.prog 46 #[ptr x] w fun e w' => e = .returned (.tuple #[]) ∧ ∃ b2 n D2 V, Blk w' A (unlockC m bm (some b2) st) 69 ∧ HMap w' bm D hs ∧
      PMap w' b2 n D2 V (told m hs) (fun g => w.heap.size ≤ g) ∧ w.heap.size ≤ b2 ∧ Only (fun k => k = A) w w' := by
  have hmm := @run_makeMap Try.prog
  have hAlt := hA.lt
  have hxlt := World.block_lt_of_cell? w _ hx
  have hbmlt := hM.own.lt
  have HL := Lib.hid (lock_free Try.muLib ⟨A, 1, none⟩ w (hA.cell 1 rfl) (hA.fr 1))
  have H1 : Blk (w.setCell ⟨A, 1, none⟩ (.int .i32 1)) A (lockC m bm none st) _ := hA.set 1 (.int .i32 1) rfl
  have O1 : Only (fun k => k = A) w (w.setCell ⟨A, 1, none⟩ (.int .i32 1)) := (Only.refl _ w).setCell (X := fun k => k = A) rfl _
  have hs1 : (w.setCell ⟨A, 1, none⟩ (.int .i32 1)).heap.size = w.heap.size := by simp
  have x1 : (w.setCell ⟨A, 1, none⟩ (.int .i32 1)).cell? ⟨x, 0, none⟩ = some (ptr A) := (World.cell?_setCell_other _ _ _ _ (by simp)).trans hx
  generalize w.setCell ⟨A, 1, none⟩ (.int .i32 1) = W1 at *
  have M1 : HMap W1 bm D hs := hM.only O1 (fun e => hAb e.symm)
  have a3 : W1.cell? ⟨A, 3, none⟩ = some (.map (some bm)) := H1.cell 3 rfl
  have a7 : W1.cell? ⟨A, 7, none⟩ = some (.map none) := H1.cell 7 rfl
  have f7 : W1.frozen? ⟨A, 7, none⟩ = false := H1.fr 7
  have HM := Lib.hid (fun W (h : Only (fun k => k = A) W1 W) => M1.only h (fun e => hAb e.symm))
  have HH1 := Lib.hid H1
  have HO1 := Lib.hid O1
  unfold ptr at x1 hx
  clear hA hM H1 O1 M1
  unfold ptr
  go_enter_defers Try.func46, Try.ntmps46
  go_wp2_with fail
  refine HL.out.mono ?_
  rintro e W2 ⟨rfl, rfl⟩
  go_wp2_with (first
    | (at_range; refine wpList_range_own _ rfl _ 51 rfl 9 29 keyS Try.underlying51 hkR bm hs.length D rfl (HM.out _ (by exact Only.alloc (Only.setCell (Only.refl _ _) (by exact rfl) _) _)).own ?_; intro w0 hrg0 hg0 hs0)
    | go_in)
  go_frame
  have hob : Only (fun k => k = A) W2 ((W2.setCell ⟨A, 7, none⟩ (.map (some w.heap.size))).alloc (.map #[] 0)) := Only.alloc (Only.setCell (Only.refl _ _) (by exact rfl) _) _
  have how : Only (fun k => k = A) w w0 := (HO1.out.trans' hob).trans' ((only_grown hg0).mono (fun k hk => by cases hk))
  have hw0 : w.heap.size + 2 ≤ w0.heap.size := by rw [hs0]; simp; omega
  have hpm0 := PMap.only (pmap_made (W2.setCell ⟨A, 7, none⟩ (.map (some w.heap.size))) (fun g => w.heap.size ≤ g)) (only_grown hg0) (fun e => by cases e) (fun g _ e => by cases e)
  have hbA0 : Blk w0 A (lockC m bm (some w.heap.size) st) 69 := ((HH1.out.set 7 (.map (some w.heap.size)) rfl).alloc _).only (only_grown hg0) (fun e => by cases e)
  have hx0 : w0.cell? ⟨x, 0, none⟩ = some (ptr A) := by
    rw [World.cell?_of_block (how.block x hxlt hxA)]; exact hx
  have hsz2 : (W2.setCell ⟨A, 7, none⟩ (.map (some w.heap.size))).heap.size = w.heap.size := by simp [hs1]
  rw [hsz2] at hpm0
  have hR : ((W2.setCell ⟨A, 7, none⟩ (.map (some w.heap.size))).alloc (.map #[] 0)).heap.size = w.heap.size + 1 := by simp [hs1]
  rw [hR] at hrg0
  rw [hR]
  clear hR hsz2
  have HMW : Hid ((∀ k, Maps.has D (.string k) = named hs k) ∧ ∀ h ∈ hs, ∀ z, D.atKey (.string h.name.data.toList) z = hkD h) := Lib.hid ⟨(HM.out _ (Only.refl _ _)).has, (HM.out _ (Only.refl _ _)).get⟩
  go_loopw [21] (fun _ wr => ∃ left cnt n2 D2 V f, In1 w wr x A bm w.heap.size (w.heap.size + 1) m st D hs hs.length left cnt n2 D2 V f) (fun _ wr => wr.rangeLeft bm (w.heap.size + 1))
  case atStart =>
    refine ⟨_, _, 0, _, _, _, hrg0, fun kl h => h, hpm0, part_start m hs fun h hh => ?_, ?_, hx0, hbA0, how⟩
    · rw [(HM.out _ (Only.refl _ _)).has]
      exact named_iff.2 ⟨h, hh, rfl⟩
    · rw [Nat.zero_add]; exact map_size hrg0.owns
  case round =>
    obtain ⟨left, cnt, n2, D2, V, f, I⟩ := hrel
    have HI := Lib.hid I
    have hrg := I.rg
    clear HL hs1 a3 a7 f7 HH1 HO1 hrg0 hg0 hs0 hob how hw0 hpm0 hbA0 hx0 x1 I
    go_wp2_with (first
      | (at_next; refine wpList_next_ranges _ rfl _ rfl 9 keyS hkR (fun s : ByteArray => Value.string s) (fun k : Hk => Value.agg #[.string k.name, .int .i64 k.ph, .int .i64 k.pri, .string k.trig, .int .i64 k.bit]) (fun _ _ h => Maps.keyOf_string_inv Try.underlying9 h) (fun _ _ h => by obtain ⟨k, h1, _⟩ := hkR_inv h; exact ⟨k, h1⟩) bm (w.heap.size + 1) hs.length D left cnt rfl hrg ?_ ?_)
      | go_in)
    · intro hc0 hl0
      have cx := HI.out.cx
      have a7 : wr.cell? ⟨A, 7, none⟩ = some (.map (some w.heap.size)) := HI.out.bA.cell 7 rfl
      unfold ptr at cx
      have hown2 := HI.out.pm.own
      go_wp2_with (first
        | (at_range; refine wpList_range_own _ rfl _ 64 rfl 3 34 keyI Try.underlying64 slR w.heap.size n2 D2 rfl hown2 ?_; intro w5 hrg5 hg5 hs5)
        | go_in)
      go_frame
      have o5 : Only (fun g => none = some g) wr w5 := only_grown hg5
      have hJ : In2 w w5 x A bm w.heap.size wr.heap.size n2 m st D D2 V hs (Maps.has D2) (Maps.size D2) f :=
        ⟨hrg5, fun _ h => h, HI.out.pm.only o5 (fun e => by cases e) (fun _ _ e => by cases e), ord_start (part_end HI.out.pt hl0) HI.out.pm.has, ⟨map_only hrg.owns o5 (fun e => by cases e), HMW.out.1, HMW.out.2⟩, HI.out.bA.only o5 (fun e => by cases e), HI.out.on.trans' (o5.mono fun _ e => by cases e)⟩
      have hsw : w.heap.size < wr.heap.size := hown2.lt
      obtain ⟨R2, hR2⟩ : ∃ R2, R2 = wr.heap.size := ⟨_, rfl⟩
      rw [← hR2] at hJ hsw
      rw [← hR2]
      clear hrg5 hg5 hs5 o5 hown2 cx a7 hR2
      go_loopw [49] (fun _ wq => ∃ left cnt f, In2 w wq x A bm w.heap.size R2 n2 m st D D2 V hs left cnt f) (fun _ wq => wq.rangeLeft w.heap.size R2)
      case atStart => exact ⟨_, _, _, hJ⟩
      case round =>
        obtain ⟨left2, cnt2, f2, J⟩ := hrel
        have HJ := Lib.hid J
        have hrg2 := J.rg
        clear J hJ
        go_wp2_with (first
          | (at_next; refine wpList_next_ranges _ rfl _ rfl 3 keyI slR (fun z : Int => Value.int .i64 z) (fun v : Sl => Value.slice v.a v.n v.c) (fun _ _ h => by obtain ⟨z, hz, _⟩ := Maps.keyOf_int_inv Try.underlying3 h; exact ⟨z, hz⟩) (fun _ _ h => by obtain ⟨_, a, n, c, h1⟩ := slR_form h; exact ⟨⟨a, n, c⟩, h1⟩) w.heap.size R2 n2 D2 left2 cnt2 rfl hrg2 ?_ ?_)
          | go_in)
        · intro hc1 hl1
          go_wp2
          refine leaves_cons (f := 28) (args := #[.pointer (some ⟨A, 1, none⟩)]) (by simp) (by simp [go_sem]) ?_
          refine (unlock_deferred Try.muLib ⟨A, 1, none⟩ _ _ (HJ.out.bA.cell 1 rfl) (HJ.out.bA.fr 1)).mono ?_
          rintro e u' w'' ⟨rfl, rfl, rfl⟩
          simp [Leaves, settle, results]
          have hoA : Only (fun k => k = A) wr (wr.setCell ⟨A, 1, none⟩ (.int .i32 0)) := Only.setCell (X := fun k => k = A) (Only.refl _ _) rfl _
          exact ⟨w.heap.size, HJ.out.bA.set 1 (.int .i32 0) rfl, HJ.out.hm.only hoA (fun e => hAb e.symm), ⟨n2, D2, V, (HJ.out.pm.only2 hoA (by omega) fun p g hp hg e => by have := HJ.out.pm.new p g hp hg; omega).congr (ord_end hn HJ.out.od hl1)⟩, Nat.le_refl _, HJ.out.on.trans' hoA⟩
        · intro p v kl y ps w6 cnt3 hkey hlx hR hat hrg6 hlt6 hg6 hs6 hen
          obtain ⟨rfl, hp⟩ := key_int_inv hkey
          have hV : V p = .slice v.a v.n v.c := slR_inj (HJ.out.pm.get p hp) hR (hat _)
          have o6 : Only (fun g => some R2 = some g) _ w6 := only_grown hg6
          have P6 := HJ.out.pm.only2 o6 (fun e => by injection e with e; omega) fun p g hp hg e => row_ne_iter (HJ.out.pm.row p hp) hrg2 (hg.trans e.symm)
          have hne : f2 p ≠ [] := fun e => by
            have h1 := P6.has p hp
            rw [HJ.out.lh _ hlx, e] at h1
            cases h1
          have hfl : (f2 p).length ≤ 1000000 := by
            rw [(HJ.out.od p hp).1.length_eq]
            exact Nat.le_trans (List.length_filter_le _ _) hlen
          have hge : ∀ g, (V p).ownBlock = some g → w.heap.size ≤ g := fun g e => P6.new _ g hp e
          have HS := Lib.hid (sort_row (P6.row p hp) hne (by omega))
          rw [hV] at HS
          have HP := Lib.hid P6
          have HV := Lib.hid hV
          have HO6 := Lib.hid o6
          have HG := Lib.hid hge
          clear P6 hV o6 hge hg6
          go_wp2_with fail
          refine HS.out.mono ?_
          rintro e w7 ⟨rfl, l', hl', ho', hrow', hon'⟩
          have hsz7 := hon'.size
          go_wp2_with fail
          rw [← HV.out] at hrow' hon'
          have hRx := row_ne_iter (HP.out.row p hp) hrg6
          have hbx := row_ne_map (HP.out.row p hp) HP.out.own
          go_roundw
          case rel =>
            refine ⟨_, _, _, ranges_only hrg6 hon' hbx hRx, fun kl h => HJ.out.lh kl (by simp only [Bool.and_eq_true] at h; exact h.1), HP.out.resort hp hl'.length_eq hrow' hon', ord_step HJ.out.od hl' ho', (HJ.out.hm.only HO6.out (fun e => by injection e with e; omega)).only hon' (fun e => by have := HG.out _ e; omega), (HJ.out.bA.only HO6.out (fun e => by injection e with e; omega)).only hon' (fun e => by have := HG.out _ e; omega), (HJ.out.on.trans HO6.out fun i hi e => by injection e with e; omega).trans hon' fun i hi e => by have := HG.out _ e; omega⟩
          case measure =>
            rw [(ranges_only hrg6 hon' hbx hRx).left_eq, hrg2.left_eq]; exact hlt6
    · intro s k kl y ps w1 cnt1 hkey hlx hR hat hrg1 hlt hg1 hs1 hen
      have hbm : k ∈ hs ∧ kl = .string k.name.data.toList := HMap.comes (y := (y, ps)) ⟨hrg.owns, HMW.out.1, HMW.out.2⟩ hkey (HI.out.lh kl hlx) hR hat
      have o1 : Only (fun g => some (w.heap.size + 1) = some g) wr w1 := only_grown hg1
      have cx1 : w1.cell? ⟨x, 0, none⟩ = some (.pointer (some ⟨A, 0, none⟩)) := by
        rw [World.cell?_of_block (o1.block x (World.block_lt_of_cell? wr _ HI.out.cx) (fun e => by injection e with e; omega))]; exact HI.out.cx
      have hpm1 : PMap w1 w.heap.size n2 D2 V f (fun g => w.heap.size ≤ g) := HI.out.pm.only2 o1 (fun e => by injection e with e; omega) fun p g hp hg e => row_ne_iter (HI.out.pm.row p hp) hrg (hg.trans e.symm)
      have hbA1 : Blk w1 A (lockC m bm (some w.heap.size) st) 69 := HI.out.bA.only o1 (fun e => by injection e with e; omega)
      have ho1 : Only (fun k => k = A) w w1 := HI.out.on.trans o1 fun i hi e => by injection e with e; omega
      clear hg1 hs1
      have hP := Lib.hid hpm1
      have hB := Lib.hid hbA1
      have hO := Lib.hid ho1
      have hltV : ∀ g, (V k.ph).ownBlock = some g → g < w1.heap.size := fun g e => ((hpm1.row k.ph (hok k hbm.1).2.2).lt g e).2
      have hw1 : w.heap.size < w1.heap.size := hpm1.own.lt
      clear hpm1 hbA1 ho1 o1 hR hat
      have hbk : Below w1.heap.size w1 (w1.alloc (.cells (hookC k) 29)) := (Below.refl _ w1).alloc (Nat.le_refl _) _
      have cxk := keep_cell hbk cx1
      have hNon := Lib.hid (on_any k A m _ (keep_cell hbk (hB.out.cell 0 rfl)))
      have hkB := Blk.new w1 (hookC k) 29
      have hK := Lib.hid hkB
      have hBk := Lib.hid hbk
      have k0 : (w1.alloc (.cells (hookC k) 29)).cell? ⟨w1.heap.size, 0, none⟩ = some (.string k.name) := hkB.cell 0 rfl
      have k1 : (w1.alloc (.cells (hookC k) 29)).cell? ⟨w1.heap.size, 1, none⟩ = some (.int .i64 k.ph) := hkB.cell 1 rfl
      have k2 : (w1.alloc (.cells (hookC k) 29)).cell? ⟨w1.heap.size, 2, none⟩ = some (.int .i64 k.pri) := hkB.cell 2 rfl
      have k3 : (w1.alloc (.cells (hookC k) 29)).cell? ⟨w1.heap.size, 3, none⟩ = some (.string k.trig) := hkB.cell 3 rfl
      have k4 : (w1.alloc (.cells (hookC k) 29)).cell? ⟨w1.heap.size, 4, none⟩ = some (.int .i64 k.bit) := hkB.cell 4 rfl
      clear hkB hbk cx1
      unfold hookC at cxk k0 k1 k2 k3 k4
      unfold hookV hookC ptr at hNon
      go_wp2_with fail
      refine hNon.out.mono ?_
      rintro e w4 ⟨rfl, hb4⟩
      have hbw : Below w1.heap.size w1 w4 := below_later hBk.out hb4
      have P4 := hP.out.only2 (Only.of_below (X := fun _ => False) hbw) (fun e => e) fun _ _ _ _ e => e
      have B4 : Blk w4 A (lockC m bm (some w.heap.size) st) 69 := hB.out.below hbw
      have rg4 := ranges_only hrg1 (Only.of_below (X := fun _ => False) hbw) (fun e => e) (fun e => e)
      have O4 := hO.out.then_below hbw
      have K4 : Blk w4 w1.heap.size (hookC k) _ := hK.out.below hb4
      have cx4 : w4.cell? ⟨x, 0, none⟩ = some (.pointer (some ⟨A, 0, none⟩)) := keep_cell hb4 cxk
      obtain ⟨hk1, rfl⟩ := hbm
      have hwf : wfI k.ph := (hok k hk1).2.2
      have lh1 : ∀ kl, (left kl && !kl.sameKey (.string k.name.data.toList)) = true → Maps.has D kl = true := fun kl h => HI.out.lh kl (by simp only [Bool.and_eq_true] at h; exact h.1)
      have cn1 := HI.out.cn
      have ps4 := HI.out.pt
      have hR4 := rg4.left_eq
      clear hb4 hbw hNon hK hBk hP hB hO k0 k1 k2 k3 k4 cxk hkey hen hrg1
      cases hon : onB m k
      · have pt1 := part_off hn ps4 hk1 hon
        go_wp2_with fail
        go_roundw
        case rel => exact ⟨_, _, _, _, _, _, rg4, lh1, P4, pt1, by omega, cx4, B4, O4⟩
        case measure => rw [hR4, hrg.left_eq]; exact hlt
      · have pt1 := part_on hn ps4 hk1 hlx hon
        have hfl : (f k.ph).length ≤ 1000000 := by
          rw [(ps4 k.ph hwf).length_eq]
          exact Nat.le_trans (List.length_filter_le _ _) hlen
        have HU := Lib.hid (fun (w5 : World) (v' : Value) => In1.put (w5 := w5) (v' := v') hAlt hxlt hbmlt (Nat.lt_succ_self _) hxA rg4 lh1 P4 pt1 (by omega) hlen cx4 B4 O4 hwf)
        have hge : ∀ g, (V k.ph).ownBlock = some g → w.heap.size ≤ g := fun g e => P4.new _ g hwf e
        have HS : Hid (∀ W, Only (fun g => (V k.ph).ownBlock = some g ∨ g = w.heap.size) w4 W → (W.cell? ⟨x, 0, none⟩ = some (.pointer (some ⟨A, 0, none⟩)) ∧ W.cell? ⟨A, 7, none⟩ = some (.map (some w.heap.size))) ∧ (W.cell? ⟨w1.heap.size, 0, none⟩ = some (.string k.name) ∧ W.cell? ⟨w1.heap.size, 1, none⟩ = some (.int .i64 k.ph) ∧ W.cell? ⟨w1.heap.size, 2, none⟩ = some (.int .i64 k.pri) ∧ W.cell? ⟨w1.heap.size, 3, none⟩ = some (.string k.trig) ∧ W.cell? ⟨w1.heap.size, 4, none⟩ = some (.int .i64 k.bit))) := Lib.hid (by
          intro W hW
          have hsz := O4.size
          have K := (K4.only hW (by rintro (e | e); exact absurd (hltV _ e) (Nat.lt_irrefl _); have := hw1; omega)).hook
          refine ⟨⟨?_, (B4.only hW (by rintro (e | e); have := hge _ e; omega; omega)).cell 7 rfl⟩, K.c0, K.c1, K.c2, K.c3, K.c4⟩
          rw [World.cell?_of_block (hW.block x (by omega) (by rintro (e | e); have := hge _ e; omega; omega))]; exact cx4)
        have HNew : Hid (Blk (w4.alloc (.cells (hookC k) 29)).drew w4.heap.size (hookC k) 29) := Lib.hid (Blk.new w4 (hookC k) _)
        have HRow := Lib.hid (fun W (hW : Below w4.heap.size w4 W) => owns_keep (P4.row k.ph hwf) hW)
        have lkA := (P4.only2 (Only.drew (Only.refl (fun _ => False) w4)) (fun h => h) fun _ _ _ _ e => e).look hwf
        have lkB := (P4.only2 (Only.drew ((Only.refl (fun _ => False) w4).alloc (.cells (hookC k) 29))) (fun h => h) fun _ _ _ _ e => e).look hwf
        unfold hookC at lkB
        obtain ⟨i0, hi, hz0, hz1, hz2⟩ := info_parts hookInfo2
        clear P4 B4 rg4 O4 K4 cx4 pt1 lh1 ps4 hR4
        unfold hookC at HNew
        go_wp2_with fail
        refine wp_noPanic ?_
        go_region_held_law (fun W => (W.cell? ⟨x, 0, none⟩ = some (.pointer (some ⟨A, 0, none⟩)) ∧ W.cell? ⟨A, 7, none⟩ = some (.map (some w.heap.size))) ∧ (W.cell? ⟨w1.heap.size, 0, none⟩ = some (.string k.name) ∧ W.cell? ⟨w1.heap.size, 1, none⟩ = some (.int .i64 k.ph) ∧ W.cell? ⟨w1.heap.size, 2, none⟩ = some (.int .i64 k.pri) ∧ W.cell? ⟨w1.heap.size, 3, none⟩ = some (.string k.trig) ∧ W.cell? ⟨w1.heap.size, 4, none⟩ = some (.int .i64 k.bit)))
          (first | assumption | exact HS.out _ (Only.drew (Only.refl _ _)) | exact HS.out _ (Only.drew (Only.alloc (Only.refl _ _) _)))
          (first | (refine step_append_lies _ rfl (.tmp 40) (.tmp 42) 34 rfl 0 29 i0 (.agg #[.string ⟨#[]⟩, .int .i64 0, .int .i64 0, .string ⟨#[]⟩, .int .i64 0]) 5 56 Try.underlying34 hi hz0 hz1 hz2 rfl (by decide) (V k.ph) (f k.ph).length (rowC (f k.ph)) (by simp [Act.eval, Act.put]) (HRow.out _ ((Below.refl _ _).alloc (Nat.le_refl _) _).drew) ⟨w4.heap.size, 0, none⟩ 1 1 (hookC k).toList (by simp [Act.eval, Act.put]) rfl (World.news_of_block HNew.out) (hookC_one k) (by decide) (by unfold maxLen; omega) (by omega) (Nat.zero_le _) _ rfl ?_; intro g' cap' w5 hown5 hgrow5 hat5 hlt5; obtain ⟨w6, hrun6, hI6, hO6⟩ := HU.out w5 _ ((Only.drew (Only.alloc (Only.refl _ w4) _)).trans' (only_grown hgrow5)) (by rw [rowC_snoc]; exact hown5) (fun g e => by injection e with e; subst e; exact hat5.imp id (fun e => by rw [e]; exact (((Below.refl _ _).alloc (Nat.le_refl _) _).drew).size)); have hS5 := HS.out w5 (((Only.drew (Only.alloc (Only.refl _ w4) _)).trans' (only_grown hgrow5)).mono fun _ e => .inl e); have hS6 := HS.out w6 hO6))
        all_goals
          refine noPanic_le _ _ _ ?_
          show Exit.inBlock 1 _ Exit.normal _ _
          go_wp2_with fail
          go_roundw
          case rel => (repeat apply Exists.intro); exact ⟨⟨_, _, _, _, _, _, hI6⟩, rfl⟩
          case measure => rw [hI6.rg.left_eq, hrg.left_eq]; exact hlt
end Rg
end Go.Proofs.Ytemcahbpfjlnlaa
