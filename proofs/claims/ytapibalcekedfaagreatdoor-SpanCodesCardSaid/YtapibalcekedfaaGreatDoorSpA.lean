/- Walks of layer 12, the first part: counting, by what a closure tells of a byte; runs. -/
import Derived.Test.YtapibalcekedfaaGreatDoorScB
import Derived.Test.YtapibalcekedfaaGreatDoorSpPure
namespace Go.Proofs.YtapibalcekedfaaGreatDoor
open Go Go.RowKit
namespace Sp
open Sc
set_option maxRecDepth 100000
set_option linter.unusedVariables false
set_option linter.unusedSimpArgs false

/-- The blocks of one captured byte, and of one captured text. -/
def CVar (w : World) (g : Nat) (e : UInt8) : Prop := w.heap[g]? = some (.cells #[.int .u8 (e.toNat : Int)] 5 (0, 0))
def SVar (w : World) (g : Nat) (s : ByteArray) : Prop := w.heap[g]? = some (.cells #[.string s] 9 (0, 0))
theorem CVar.below {w w' : World} {g : Nat} {e : UInt8} (h : CVar w g e) (hB : Below w.heap.size w w') : CVar w' g e := (hB.block g (lt_of_block h)).trans h
theorem SVar.below {w w' : World} {g : Nat} {e : ByteArray} (h : SVar w g e) (hB : Below w.heap.size w w') : SVar w' g e := (hB.block g (lt_of_block h)).trans h

/-- What a function's value tells of a byte, wherever nothing of what lay in w has turned. -/
def Tells (w : World) (fn : FuncId) (caps : Array Value) (p : UInt8 → Bool) : Prop :=
  Ent fn ∧ ∀ (c : UInt8) (W : World), Below w.heap.size w W → Calls Tryz.prog fn (#[.int .u8 (c.toNat : Int)] ++ caps) W fun e W' => e = .returned (.bool (p c)) ∧ W = W'
theorem Tells.below {w w' : World} {fn : FuncId} {caps : Array Value} {p : UInt8 → Bool} (h : Tells w fn caps p) (hB : Below w.heap.size w w') : Tells w' fn caps p :=
  ⟨h.1, fun c W hW => h.2 c W (hB.trans (hW.mono hB.size))⟩

set_option maxHeartbeats 2000000 in
theorem count_any {fn : FuncId} {caps : Array Value} {p : UInt8 → Bool} (s : ByteArray) (w : World) (hs : s.size ≤ 1000000) (ht : Tells w fn caps p) :
    Calls Tryz.prog 22 #[.string s, .func (.func fn) #[] caps] w fun e w' => e = .returned (.int .i64 (cnt p s.data.toList : Nat)) ∧ w = w' := by
  have eb := ht.1
  unfold Ent at eb
  have HC := Lib.hid ht.2
  have hs' : (s.size : Int) ≤ 1000000 := by omega
  clear ht
  go_enter Tryz.func22, Tryz.ntmps22
  go_wp2_with fail
  go_loopg [8] s.size (fun g s8 wr => ∃ k : Nat, k + g = s.size ∧ s8 = .int .i64 (k : Int) ∧ w = wr ∧ Hid (cnt p s.data.toList = k + cnt p (s.data.toList.drop k)))
  case atStart => exact ⟨0, by omega, rfl, rfl, Lib.hid (by simp)⟩
  case round =>
    obtain ⟨k, hkg, rfl, rfl, HF⟩ := hrel
    by_cases hlt : k < s.size
    · obtain ⟨c, t, hd, hck, ht⟩ := cons_at hlt
      have hlt' : (k : Int) < (s.size : Int) := by omega
      have HC1 := Lib.hid (HC.out c w (Below.refl _ _))
      cases hp : p c with
      | true =>
        have HY : Hid (cnt p s.data.toList = (k + 1) + cnt p (s.data.toList.drop (k + 1))) := Lib.hid (by rw [HF.out, hd, ht, cnt_hit t hp]; omega)
        rw [hp] at HC1
        clear hd ht hp
        go_wp2_with fail
        refine HC1.out.mono ?_
        rintro e w2 ⟨rfl, rfl⟩
        go_wp2
        go_roundg (gk - 1)
        case rel => exact ⟨k + 1, by omega, by go_num, rfl, HY⟩
        case measure => omega
      | false =>
        have HN : Hid (cnt p s.data.toList = k) := Lib.hid (by rw [HF.out, hd, cnt_miss t hp]; rfl)
        rw [hp] at HC1
        clear hd ht hp
        go_wp2_with fail
        refine HC1.out.mono ?_
        rintro e w2 ⟨rfl, rfl⟩
        go_wp2
        go_ret
        rw [HN.out]
        exact ⟨rfl, rfl⟩
    · have hlt' : ¬ (k : Int) < (s.size : Int) := by omega
      have HN : Hid (cnt p s.data.toList = s.size) := Lib.hid (by rw [HF.out, drop_all (by omega), cnt_nil]; omega)
      go_wp2
      go_ret
      rw [HN.out]
      exact ⟨rfl, rfl⟩

theorem run1_any (e c : UInt8) (g : Nat) (w : World) (h : CVar w g e) :
    Calls Tryz.prog 36 #[.int .u8 (c.toNat : Int), .pointer (some ⟨g, 0, none⟩)] w fun e' w' => e' = .returned (.bool (c == e)) ∧ w = w' := by
  have c1 := cell_of_one h
  have hce : ((c.toNat : Int) == (e.toNat : Int)) = (c == e) := by
    rw [Bool.eq_iff_iff, beq_iff_eq, beq_iff_eq]
    exact ⟨fun h => UInt8.toNat_inj.1 (Int.ofNat.inj h), fun h => by rw [h]⟩
  clear h
  generalize (c == e) = x at *
  go_enter Tryz.func36, Tryz.ntmps36
  go_wp2
  go_ret
  exact ⟨rfl, rfl⟩
theorem tells_run {w : World} {g : Nat} {e : UInt8} (h : CVar w g e) : Tells w 36 #[.pointer (some ⟨g, 0, none⟩)] (fun c => c == e) :=
  ⟨fun _ _ => by kernel_rfl, fun c W hW => run1_any e c g W (h.below hW)⟩
theorem cnt_run (c : UInt8) (l : List UInt8) : cnt (fun x => x == c) l = Sc.runN c l := rfl

theorem run_any (s : ByteArray) (w : World) (hs : s.size ≤ 1000000) :
    Calls Tryz.prog 16 #[.string s] w fun e w' => e = .returned (.int .i64 (runP s.data.toList : Nat)) ∧ Below w.heap.size w w' := by
  by_cases h0 : 0 < s.size
  · obtain ⟨c, t, hd, hck, ht⟩ := cons_at h0
    rw [List.drop_zero] at hd
    have he : s.toList.isEmpty = false := by
      rw [Go.ByteArray.toList_eq, hd]; rfl
    have hs0 : (0 : Int) < (s.size : Int) := by omega
    have H1 : Hid (CVar (w.alloc (.cells #[.int .u8 (c.toNat : Int)] 5)) w.heap.size c) := Lib.hid (heap_alloc_new w _)
    have H0 : Hid (Below w.heap.size w (w.alloc (.cells #[.int .u8 (c.toNat : Int)] 5))) := Lib.hid ((Below.refl _ w).alloc (Nat.le_refl _) _)
    have HF : Hid (∀ W, CVar W w.heap.size c → Calls Tryz.prog 22 #[.string s, .func (.func 36) #[] #[.pointer (some ⟨w.heap.size, 0, none⟩)]] W fun e w' => e = .returned (.int .i64 (runP s.data.toList : Nat)) ∧ W = w') := Lib.hid (fun W hc => by
      have := count_any s W hs (tells_run hc)
      rw [cnt_run] at this
      rw [show runP s.data.toList = Sc.runN c s.data.toList by rw [hd]; rfl]
      exact this)
    clear hd ht
    go_enter Tryz.func16, Tryz.ntmps16
    go_wp2_with fail
    refine (HF.out _ H1.out).mono ?_
    rintro e w1 ⟨rfl, rfl⟩
    go_wp2
    go_ret
    exact ⟨rfl, H0.out⟩
  · have hn : s.data.toList = [] := List.length_eq_zero_iff.1 (by rw [sz]; omega)
    have he : s.toList.isEmpty = true := by rw [Go.ByteArray.toList_eq, hn]; rfl
    have HV : Hid (runP s.data.toList = 0) := Lib.hid (by rw [hn]; rfl)
    clear hn
    go_enter Tryz.func16, Tryz.ntmps16
    go_wp2
    go_ret
    rw [HV.out]
    exact ⟨rfl, Below.refl _ _⟩

theorem inA_any (c : UInt8) (w : World) :
    Calls Tryz.prog 23 #[.int .u8 (c.toNat : Int)] w fun e w' => e = .returned (.bool (inA c)) ∧ w = w' := by
  have h1 : ((c.toNat : Int) != 127) = (c != 127) := by unfold bne; rw [show ((127 : Int)) = ((127 : Nat) : Int) from rfl, eq_u8 c 127 (by decide)]; rfl
  have h2 : ((c.toNat : Int) != 60) = (c != 60) := by unfold bne; rw [show ((60 : Int)) = ((60 : Nat) : Int) from rfl, eq_u8 c 60 (by decide)]; rfl
  have h3 : ((c.toNat : Int) != 62) = (c != 62) := by unfold bne; rw [show ((62 : Int)) = ((62 : Nat) : Int) from rfl, eq_u8 c 62 (by decide)]; rfl
  have h4 : decide ((32 : Int) < (c.toNat : Int)) = decide (32 < c.toNat) := by rw [decide_eq_decide]; omega
  have HV : Hid (inA c = (decide (32 < c.toNat) && c != 127 && c != 60 && c != 62)) := Lib.hid rfl
  generalize (c != 127) = x at *
  generalize (c != 60) = y at *
  generalize (c != 62) = z at *
  generalize decide (32 < c.toNat) = u at *
  cases u <;> cases x <;> cases y <;> cases z <;>
  · go_enter Tryz.func23, Tryz.ntmps23
    go_wp2
    go_ret
    exact ⟨ret_bool' HV.out.symm, rfl⟩
theorem tells_inA (w : World) : Tells w 23 #[] inA := ⟨fun _ _ => by kernel_rfl, fun c W _ => inA_any c W⟩

theorem isAll_any {fn : FuncId} {caps : Array Value} {p : UInt8 → Bool} (s : ByteArray) (w : World) (hs : s.size ≤ 1000000) (ht : Tells w fn caps p) :
    Calls Tryz.prog 46 #[.string s, .func (.func fn) #[] caps] w fun e w' => e = .returned (.bool (s.data.toList.all p)) ∧ w = w' := by
  have HC := Lib.hid (count_any s w hs ht)
  have hv : ((cnt p s.data.toList : Int) == (s.size : Int)) = s.data.toList.all p := by
    rw [← cnt_all, sz, Bool.eq_iff_iff, beq_iff_eq, decide_eq_true_iff]; omega
  clear ht
  generalize s.data.toList.all p = x at *
  generalize cnt p s.data.toList = n at *
  go_enter Tryz.func46, Tryz.ntmps46
  go_wp2_with fail
  refine HC.out.mono ?_
  rintro e w1 ⟨rfl, rfl⟩
  go_wp2
  go_ret
  exact ⟨rfl, rfl⟩
end Sp
end Go.Proofs.YtapibalcekedfaaGreatDoor
