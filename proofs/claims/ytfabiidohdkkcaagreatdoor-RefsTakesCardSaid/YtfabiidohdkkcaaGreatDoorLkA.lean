/- Walks of layer 9, the first part: which bytes are escaped, the one search. -/
import Derived.Test.YtfabiidohdkkcaaGreatDoorProg
import Derived.Test.YtfabiidohdkkcaaGreatDoorLkProg
import Derived.WalkKit
import Derived.BigCall
import Derived.BigQuiet
import Derived.Deep.QuietTactic
import Derived.Deep.LoopGhost
import Derived.Lib.Hide
import Derived.Deep.DeepCutAuto
import Derived.OneCell
import Derived.RegionTactic
import Derived.Below
import Derived.Laws.DeepStrings4
namespace Go.Proofs.YtfabiidohdkkcaaGreatDoor
open Go Go.RowKit
namespace Lk
open Es
set_option maxRecDepth 100000
set_option linter.unusedVariables false
set_option linter.unusedSimpArgs false

theorem retB {a b : Bool} (h : a = b) : Ending.returned (.bool a) = .returned (.bool b) := by rw [h]
theorem retI {k : IntKind} {a b : Int} (h : a = b) : Ending.returned (.int k a) = .returned (.int k b) := by rw [h]
theorem szL (s : ByteArray) : s.data.toList.length = s.size := by rw [Array.length_toList]; rfl
theorem consAt {s : ByteArray} {k : Nat} (h : k < s.size) : ∃ c t, s.data.toList.drop k = c :: t ∧ s[k] = c ∧ s.data.toList.drop (k + 1) = t := by
  cases hd : s.data.toList.drop k with
  | nil => have := congrArg List.length hd; rw [List.length_drop, szL] at this; simp at this; omega
  | cons x t =>
    refine ⟨x, t, rfl, ?_, ?_⟩
    · have := congrArg (fun l => l[0]?) hd
      simp at this
      rw [Array.getElem?_eq_getElem (show k < s.data.size from h)] at this
      exact Option.some.inj this
    · rw [← List.drop_drop, hd]; rfl
theorem eqU (c : UInt8) (n : Nat) (hn : n < 256) : ((c.toNat : Int) == (n : Int)) = (c == UInt8.ofNat n) := by
  rw [Bool.eq_iff_iff, beq_iff_eq, beq_iff_eq]
  constructor
  · intro e
    have e2 : c.toNat = n := Int.ofNat.inj e
    rw [← e2, UInt8.ofNat_toNat]
  · intro e
    rw [e]; simp only [UInt8.toNat_ofNat']; omega

/-- Only this block may have turned; what is new lies behind. -/
abbrev Gr (B : Nat) (w w' : World) : Prop := w.grownBy w' (some B)
theorem Gr.refl (B : Nat) (w : World) : Gr B w w := ⟨rfl, rfl, rfl, Nat.le_refl _, fun _ _ _ => rfl⟩
theorem Gr.trans {B : Nat} {a b c : World} (h : Gr B a b) (k : Gr B b c) : Gr B a c :=
  ⟨k.os.trans h.os, k.tape.trans h.tape, k.output.trans h.output, Nat.le_trans h.size k.size, fun i hi hn => (k.block i (Nat.lt_of_lt_of_le hi h.size) hn).trans (h.block i hi hn)⟩
theorem Gr.set {B o : Nat} {a w : World} (h : Gr B a w) (u : Value) : Gr B a (w.setCell ⟨B, o, none⟩ u) :=
  Gr.trans h ⟨rfl, rfl, rfl, by simp [World.setCell], fun k hk hn => Below.heap_setCell _ _ _ _ (fun e => hn (by rw [e]))⟩
theorem Gr.of_below {B : Nat} {w w' : World} (h : Below w.heap.size w w') : Gr B w w' := ⟨h.os, h.tape, h.output, h.size, fun k hk _ => h.block k hk⟩
theorem Gr.below {B : Nat} {w w' : World} (h : Gr B w w') {B0 : Nat} (h0 : B0 ≤ B) (h1 : B0 ≤ w.heap.size) : Below B0 w w' :=
  ⟨h.os, h.tape, h.output, h.size, fun k hk => h.block k (by omega) (fun e => by have := Option.some.inj e; omega)⟩
/-- Two frames, one behind the other: what is new in the first may turn in the second. -/
theorem Gr.behind {B g : Nat} {a b c : World} (h : Gr B a b) (k : Gr g b c) (hg : a.heap.size ≤ g) : Gr B a c :=
  ⟨k.os.trans h.os, k.tape.trans h.tape, k.output.trans h.output, Nat.le_trans h.size k.size, fun i hi hn => (k.block i (Nat.lt_of_lt_of_le hi h.size) (fun e => by have := Option.some.inj e; omega)).trans (h.block i hi hn)⟩

/-- The block of one captured truth. -/
def BVar (w : World) (g : Nat) (b : Bool) : Prop := w.heap[g]? = some (.cells #[.bool b] 4 (0, 0))
theorem BVar.lt {w : World} {g : Nat} {b : Bool} (h : BVar w g b) : g < w.heap.size := lt_of_block h
theorem BVar.gr {w w' : World} {g B : Nat} {b : Bool} (h : BVar w g b) (hG : Gr B w w') (hne : g ≠ B) : BVar w' g b := (hG.block g h.lt (fun e => hne (Option.some.inj e))).trans h

theorem escapes_any (w : World) :
    Calls Tryz.prog 79 #[] w fun e w' => e = .returned (.func (.func 99) #[] #[.pointer (some ⟨w.heap.size, 0, none⟩)]) ∧ BVar w' w.heap.size false ∧ Below w.heap.size w w' := by
  go_enter Tryz.func79, Tryz.ntmps79
  go_wp2
  go_ret
  exact ⟨rfl, heap_alloc_new w _, (Below.refl _ w).alloc (Nat.le_refl _) _⟩

theorem esc_any (c : UInt8) (bb : Bool) (g : Nat) (w : World) (hv : BVar w g bb) (hS : Calls Tryz.prog 88 #[.int .u8 (c.toNat : Int)] w fun e w' => e = .returned (.bool (sg c)) ∧ w = w') :
    Calls Tryz.prog 99 #[.int .u8 (c.toNat : Int), .pointer (some ⟨g, 0, none⟩)] w fun e w' => e = .returned (.bool (bb && sg c)) ∧ BVar w' g (bk bb c) ∧ Gr g w w' := by
  have hcell := cell_of_one hv
  have hfree := free_of_one hv
  have Hset := Lib.hid (fun u => one_setCell (u := u) hv)
  have HS := Lib.hid hS
  have h92 : ((c.toNat : Int) == 92) = (c == 92) := eqU c 92 (by decide)
  have HB : Hid (bk bb c = (c == 92 && !(bb && sg c))) := Lib.hid rfl
  clear hv hS
  cases bb with
  | false =>
    rw [Bool.false_and] at HB ⊢
    generalize bk false c = z at *
    generalize (c == 92) = x at *
    cases x <;>
    · go_enter Tryz.func99, Tryz.ntmps99
      go_wp2
      go_ret
      rw [HB.out]
      exact ⟨rfl, Hset.out _, (Gr.refl g w).set _⟩
  | true =>
    rw [Bool.true_and] at HB ⊢
    generalize bk true c = z at *
    generalize (c == 92) = x at *
    generalize sg c = y at *
    cases x <;> cases y <;>
    · go_enter Tryz.func99, Tryz.ntmps99
      go_wp2_with fail
      refine HS.out.mono ?_
      rintro e w1 ⟨rfl, rfl⟩
      go_wp2
      go_ret
      rw [HB.out]
      exact ⟨rfl, Hset.out _, (Gr.refl g w).set _⟩

/-- A function of the program's own, called by its value. -/
def Ent (f : FuncId) : Prop := ∀ (args : Array Value) (W : World), (callFunc f args).run Tryz.prog W = .ok (.enter f args) W

/-- The search, with whatever stop. -/
def Stops {σ : Type} (step : σ → UInt8 → Bool × σ) (ok : σ → Prop) (I : σ → World → Prop) (b : Nat) (w : World) (fn : FuncId) (caps : Array Value) : Prop :=
  Ent fn ∧ (∀ (q : σ) (c : UInt8), ok q → (step q c).1 = false → ok (step q c).2) ∧ (∀ (q : σ) (c : UInt8) (W : World), ok q → I q W → Gr b w W → Calls Tryz.prog fn (#[.int .u8 (c.toNat : Int)] ++ caps) W fun e W' => e = .returned (.bool (step q c).1) ∧ I (step q c).2 W' ∧ Gr b W W')
  ∧ (∀ (q : σ) (g : Nat) (W W' : World), w.heap.size ≤ g → w.heap.size ≤ W.heap.size → I q W → Gr g W W' → I q W')
def SignOk (b : Nat) (w : World) : Prop := ∀ (c : UInt8) (W : World), Gr b w W → Calls Tryz.prog 88 #[.int .u8 (c.toNat : Int)] W fun e w' => e = .returned (.bool (sg c)) ∧ W = w'

set_option maxHeartbeats 2000000 in
theorem find_any {σ : Type} {step : σ → UInt8 → Bool × σ} {ok : σ → Prop} {I : σ → World → Prop} {b : Nat} {fn : FuncId} {caps : Array Value} (s : ByteArray) (w : World) (q0 : σ) (hz : s.size ≤ 1000000)
    (hS : SignOk b w) (hst : Stops step ok I b w fn caps) (h0 : ok q0) (hI : I q0 w) (hb : b < w.heap.size) :
    Calls Tryz.prog 57 #[.string s, .func (.func fn) #[] caps] w fun e w' => e = .returned (.int .i64 ((fnd step q0 false s.data.toList).1 : Nat)) ∧ I (fnd step q0 false s.data.toList).2 w' ∧ Gr b w w' := by
  have hdl := Lib.hid (szL s)
  have HS := Lib.hid hS
  have eb := hst.1
  unfold Ent at eb
  have HO := Lib.hid hst.2.1
  have HC := Lib.hid hst.2.2.1
  have HK := Lib.hid hst.2.2.2
  have HI0 := Lib.hid hI
  have HQ0 := Lib.hid h0
  clear hS hst hI h0
  go_enter Tryz.func57, Tryz.ntmps57
  go_wp2_with (go_at_call 79; refine (escapes_any w).mono ?_; rintro e w1 ⟨rfl, hv, hb1⟩)
  have HV1 := Lib.hid hv
  have HB1 := Lib.hid (Gr.of_below (B := b) hb1)
  have HI1 := Lib.hid (HK.out q0 w.heap.size w w1 (Nat.le_refl _) (Nat.le_refl _) HI0.out (Gr.of_below hb1))
  clear hv hb1
  go_loopg [10] s.size (fun g s10 wr => ∃ (k : Nat) (q : σ) (bb : Bool), k + g = s.size ∧ s10 = .int .i64 (k : Int) ∧ Hid (BVar wr w.heap.size bb) ∧ Hid (I q wr) ∧ Hid (ok q) ∧ Hid (Gr b w wr) ∧ Hid (fnd step q0 false s.data.toList = ((fnd step q (bb && hs (s.data.toList.drop k)) (s.data.toList.drop k)).1 + k, (fnd step q (bb && hs (s.data.toList.drop k)) (s.data.toList.drop k)).2)))
  case atStart => exact ⟨0, q0, false, by omega, rfl, HV1, HI1, HQ0, HB1, Lib.hid rfl⟩
  case round =>
    obtain ⟨k, q, bb, hkg, rfl, HV, HI, HQ, HG, HF⟩ := hrel
    clear HV1 HI1 HB1
    cases gk with
    | zero =>
      have hkl : ¬ ((k : Int) < (s.size : Int)) := by omega
      have HX : Hid (fnd step q0 false s.data.toList = (s.size, q)) := Lib.hid (by
        rw [HF.out, List.drop_eq_nil_of_le (by rw [hdl.out]; omega), fnd_nil]
        simp only [Prod.mk.injEq, and_true]; omega)
      go_wp2
      go_ret
      rw [HX.out]
      exact ⟨rfl, HI.out, HG.out⟩
    | succ g =>
      have hkl : (k : Int) < (s.size : Int) := by omega
      have hk2 : k < s.size := by omega
      obtain ⟨c, t, hd, hck, ht⟩ := consAt hk2
      have HE := Lib.hid (esc_any c bb w.heap.size wr HV.out (HS.out c wr HG.out))
      have HN : Hid ((bk bb c && hs t) = nf (bb && sg c) c t) := Lib.hid (bk_nf bb c t)
      have HF2 : Hid (fnd step q0 false s.data.toList = ((fnd step q (bb && sg c) (c :: t)).1 + k, (fnd step q (bb && sg c) (c :: t)).2)) := Lib.hid (by
        have := HF.out
        rw [hd] at this; exact this)
      have HT := Lib.hid ht
      clear hd ht
      obtain ⟨x, hx⟩ : ∃ x, x = (bb && sg c) := ⟨_, rfl⟩
      rw [← hx] at HE HF2 HN
      clear hx
      cases x with
      | true =>
        have HX : Hid (fnd step q0 false s.data.toList = ((fnd step q (bk bb c && hs (s.data.toList.drop (k + 1))) (s.data.toList.drop (k + 1))).1 + (k + 1), (fnd step q (bk bb c && hs (s.data.toList.drop (k + 1))) (s.data.toList.drop (k + 1))).2)) := Lib.hid (by
          rw [HF2.out, fnd_esc, HT.out, HN.out]
          simp only [Prod.mk.injEq, and_true]; omega)
        go_wp2_with fail
        refine HE.out.mono ?_
        rintro e w2 ⟨rfl, hv2, hg2⟩
        have HI2 := Lib.hid (HK.out q _ _ _ (Nat.le_refl _) HG.out.size HI.out hg2)
        have HG2 := Lib.hid (HG.out.behind hg2 (Nat.le_refl _))
        have HV2 := Lib.hid hv2
        clear hv2 hg2
        go_wp2
        go_roundg g
        case rel => exact ⟨k + 1, q, bk bb c, by omega, by go_num, HV2, HI2, HQ, HG2, HX⟩
        case measure => omega
      | false =>
        rcases hst : step q c with ⟨y, q1⟩
        have Hst := Lib.hid hst
        have HCq := Lib.hid (fun W => HC.out q c W HQ.out)
        have HOq := Lib.hid (HO.out q c HQ.out)
        rw [hst] at HCq HOq
        clear hst
        cases y with
        | true =>
          have HX : Hid (fnd step q0 false s.data.toList = (k, q1)) := Lib.hid (by
            rw [HF2.out, fnd_hit t Hst.out]
            simp only [Prod.mk.injEq, and_true]; omega)
          go_wp2_with fail
          refine HE.out.mono ?_
          rintro e w2 ⟨rfl, hv2, hg2⟩
          have HI2 := Lib.hid (HK.out q _ _ _ (Nat.le_refl _) HG.out.size HI.out hg2)
          have HG2 := Lib.hid (HG.out.behind hg2 (Nat.le_refl _))
          clear hv2 hg2
          go_wp2_with fail
          refine (HCq.out w2 HI2.out HG2.out).mono ?_
          rintro e w3 ⟨rfl, hi3, hg3⟩
          have HI3 := Lib.hid hi3
          have HG3 := Lib.hid (HG2.out.trans hg3)
          clear hi3 hg3
          go_wp2
          go_ret
          rw [HX.out]
          exact ⟨rfl, HI3.out, HG3.out⟩
        | false =>
          have HX : Hid (fnd step q0 false s.data.toList = ((fnd step q1 (bk bb c && hs (s.data.toList.drop (k + 1))) (s.data.toList.drop (k + 1))).1 + (k + 1), (fnd step q1 (bk bb c && hs (s.data.toList.drop (k + 1))) (s.data.toList.drop (k + 1))).2)) := Lib.hid (by
            rw [HF2.out, fnd_miss t Hst.out, HT.out, HN.out]
            simp only [Prod.mk.injEq, and_true]; omega)
          go_wp2_with fail
          refine HE.out.mono ?_
          rintro e w2 ⟨rfl, hv2, hg2⟩
          have HI2 := Lib.hid (HK.out q _ _ _ (Nat.le_refl _) HG.out.size HI.out hg2)
          have HG2 := Lib.hid (HG.out.behind hg2 (Nat.le_refl _))
          have HV2 := Lib.hid hv2
          clear hv2 hg2
          go_wp2_with fail
          refine (HCq.out w2 HI2.out HG2.out).mono ?_
          rintro e w3 ⟨rfl, hi3, hg3⟩
          have HI3 := Lib.hid hi3
          have HQ3 := Lib.hid (HOq.out (by first | rfl | trivial))
          have HV3 := Lib.hid (HV2.out.gr hg3 (by omega))
          have HG3 := Lib.hid (HG2.out.trans hg3)
          clear hi3 hg3
          go_wp2
          go_roundg g
          case rel => exact ⟨k + 1, q1, bk bb c, by omega, by go_num, HV3, HI3, HQ3, HG3, HX⟩
          case measure => omega
end Lk
end Go.Proofs.YtfabiidohdkkcaaGreatDoor
