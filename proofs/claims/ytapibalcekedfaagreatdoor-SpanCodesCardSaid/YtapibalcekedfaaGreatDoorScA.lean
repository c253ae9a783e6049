/- Walks of layer 8, the first part: the reader of tags, its sign. -/
import Derived.Test.YtapibalcekedfaaGreatDoorProg
import Derived.Test.YtapibalcekedfaaGreatDoorScPure
import Derived.WalkKit
import Derived.BigCall
import Derived.BigQuiet
import Derived.Deep.QuietTactic
import Derived.Lib.Hide
import Derived.Deep.DeepCutAuto
import Derived.OneCell
import Derived.RegionTactic
import Derived.Below
import Derived.Laws.AppendOwn
namespace Go.Proofs.YtapibalcekedfaaGreatDoor
open Go Go.RowKit
namespace Sc
set_option maxRecDepth 100000
set_option linter.unusedVariables false
set_option linter.unusedSimpArgs false

theorem ret_bool' {a b : Bool} (h : a = b) : Ending.returned (.bool a) = .returned (.bool b) := by rw [h]
theorem ret_int' {k : IntKind} {a b : Int} (h : a = b) : Ending.returned (.int k a) = .returned (.int k b) := by rw [h]
theorem sz (s : ByteArray) : s.data.toList.length = s.size := by rw [Array.length_toList]; rfl
theorem cons_at {s : ByteArray} {k : Nat} (h : k < s.size) : ∃ c t, s.data.toList.drop k = c :: t ∧ s[k] = c ∧ s.data.toList.drop (k + 1) = t := by
  cases hd : s.data.toList.drop k with
  | nil => have := congrArg List.length hd; rw [List.length_drop, sz] at this; simp at this; omega
  | cons x t =>
    refine ⟨x, t, rfl, ?_, ?_⟩
    · have := congrArg (fun l => l[0]?) hd
      simp at this
      rw [Array.getElem?_eq_getElem (show k < s.data.size from h)] at this
      exact Option.some.inj this
    · rw [← List.drop_drop, hd]; rfl
theorem drop_all {s : ByteArray} {k : Nat} (h : s.size ≤ k) : s.data.toList.drop k = [] := List.drop_eq_nil_of_le (by rw [sz]; exact h)
theorem u8_ne {c : UInt8} {n : Nat} (hn : n < 256) (h : c ≠ UInt8.ofNat n) : ((c.toNat : Int) == (n : Int)) = false := by
  rw [beq_eq_false_iff_ne]
  intro e
  apply h
  have e2 : c.toNat = n := Int.ofNat.inj e
  rw [← e2, UInt8.ofNat_toNat]

/-- Only this block may have turned; what is new lies behind. -/
abbrev Gr (B : Nat) (w w' : World) : Prop := w.grownBy w' (some B)
theorem Gr.refl (B : Nat) (w : World) : Gr B w w := ⟨rfl, rfl, rfl, Nat.le_refl _, fun _ _ _ => rfl⟩
theorem Gr.trans {B : Nat} {a b c : World} (h : Gr B a b) (k : Gr B b c) : Gr B a c :=
  ⟨k.os.trans h.os, k.tape.trans h.tape, k.output.trans h.output, Nat.le_trans h.size k.size, fun i hi hn => (k.block i (Nat.lt_of_lt_of_le hi h.size) hn).trans (h.block i hi hn)⟩
theorem Gr.alloc {B : Nat} {a w : World} (h : Gr B a w) (o : Obj) : Gr B a (w.alloc o) := Gr.trans h (World.grownBy_alloc w o (some B))
theorem Gr.set {B o : Nat} {a w : World} (h : Gr B a w) (u : Value) : Gr B a (w.setCell ⟨B, o, none⟩ u) :=
  Gr.trans h ⟨rfl, rfl, rfl, by simp [World.setCell], fun k hk hn => Below.heap_setCell _ _ _ _ (fun e => hn (by rw [e]))⟩
theorem Gr.drew {B : Nat} {a w : World} (h : Gr B a w) : Gr B a w.drew := ⟨h.os, h.tape, h.output, h.size, h.block⟩
theorem Gr.drewN {B : Nat} {a w : World} (h : Gr B a w) (n : Nat) : Gr B a (w.drewN n) := ⟨h.os, h.tape, h.output, h.size, h.block⟩
theorem Gr.below {B : Nat} {w w' : World} (h : Gr B w w') {B0 : Nat} (h0 : B0 ≤ B) (h1 : B0 ≤ w.heap.size) : Below B0 w w' :=
  ⟨h.os, h.tape, h.output, h.size, fun k hk => h.block k (by omega) (fun e => by have := Option.some.inj e; omega)⟩

/-- A reader in memory: its text, and where what is left begins. -/
def RK (w : World) (B : Nat) (s : ByteArray) (k : Nat) : Prop := w.heap[B]? = some (.cells #[.string s, .int .i64 (k : Int)] 48 (0, 0))
/-- A reader in memory: its text, and what is left. -/
def RD (w : World) (B : Nat) (s : ByteArray) (l : List UInt8) : Prop := ∃ k, k ≤ s.size ∧ l = s.data.toList.drop k ∧ RK w B s k
theorem RK.c0 {w : World} {B k : Nat} {s : ByteArray} (h : RK w B s k) : w.cell? ⟨B, 0, none⟩ = some (.string s) := by unfold RK at h; simp [World.cell?, h]
theorem RK.c1 {w : World} {B k : Nat} {s : ByteArray} (h : RK w B s k) : w.cell? ⟨B, 1, none⟩ = some (.int .i64 (k : Int)) := by unfold RK at h; simp [World.cell?, h]
theorem RK.fr {w : World} {B k : Nat} {s : ByteArray} (h : RK w B s k) (o : Nat) : w.frozen? ⟨B, o, none⟩ = false := by unfold RK at h; simp [World.frozen?, h]
theorem RK.lt {w : World} {B k : Nat} {s : ByteArray} (h : RK w B s k) : B < w.heap.size := lt_of_block h
theorem RK.set {w : World} {B k : Nat} {s : ByteArray} (h : RK w B s k) (m : Nat) : RK (w.setCell ⟨B, 1, none⟩ (.int .i64 (m : Int))) B s m := by
  unfold RK at h ⊢
  simp only [World.setCell, Array.getElem?_modify, if_pos, h, Option.map_some]
  rfl
theorem RK.alloc {w : World} {B k : Nat} {s : ByteArray} (h : RK w B s k) (o : Obj) : RK (w.alloc o) B s k := (Below.heap_alloc w o B h.lt).trans h
theorem RK.drewN {w : World} {B k : Nat} {s : ByteArray} (h : RK w B s k) (n : Nat) : RK (w.drewN n) B s k := h
theorem RK.drew {w : World} {B k : Nat} {s : ByteArray} (h : RK w B s k) : RK w.drew B s k := h

/-- A function of the program's own, called by its value. -/
def Ent (f : FuncId) : Prop := ∀ (args : Array Value) (W : World), (callFunc f args).run Tryz.prog W = .ok (.enter f args) W
/-- What a method does that goes over what p goes over. -/
def Does (f : FuncId) (p : List UInt8 → Option (List UInt8)) : Prop := Ent f ∧ ∀ (W : World) (B : Nat) (s : ByteArray) (l : List UInt8), s.size ≤ 1000000 → RD W B s l →
  Calls Tryz.prog f #[.pointer (some ⟨B, 0, none⟩)] W fun e W' => e = .returned (.bool (p l).isSome) ∧ RD W' B s ((p l).getD l) ∧ Gr B W W'
/-- What a test of a byte does. -/
def DoesB (f : FuncId) (b : UInt8 → Bool) : Prop := Ent f ∧ ∀ (c : UInt8) (W : World), Calls Tryz.prog f #[.int .u8 (c.toNat : Int)] W fun e W' => e = .returned (.bool (b c)) ∧ W = W'

set_option maxHeartbeats 1000000 in
theorem sign_any (x : UInt8) (W : World) (B : Nat) (s : ByteArray) (l : List UInt8) (hs : s.size ≤ 1000000) (h : RD W B s l) :
    Calls Tryz.prog 92 #[.pointer (some ⟨B, 0, none⟩), .int .u8 (x.toNat : Int)] W fun e W' => e = .returned (.bool (sgn x l).isSome) ∧ RD W' B s ((sgn x l).getD l) ∧ Gr B W W' := by
  obtain ⟨k, hk, rfl, hr⟩ := h
  have c0 := hr.c0
  have c1 := hr.c1
  have f1 := hr.fr 1
  have HR := Lib.hid hr
  have hs2 : (s.size : Int) ≤ 1000000 := by omega
  clear hr
  by_cases hlt : k < s.size
  · obtain ⟨c, t, hd, hck, ht⟩ := cons_at hlt
    have hlt' : (k : Int) < (s.size : Int) := by omega
    have hne : ((k : Int) == (s.size : Int)) = false := by simp; omega
    by_cases hc : c = x
    · have hcx : ((c.toNat : Int) != (x.toNat : Int)) = false := by rw [hc]; simp
      have HV : Hid (sgn x (s.data.toList.drop k) = some (s.data.toList.drop (k + 1))) := Lib.hid (by rw [hd, ht, hc]; exact sgn_self x t)
      clear hd ht hc
      go_enter Tryz.func92, Tryz.ntmps92
      go_wp2_with fail
      go_big_quiet (fail)
      go_wp2
      go_ret
      rw [HV.out]
      exact ⟨rfl, ⟨k + 1, by omega, rfl, (HR.out.drewN nq).set (k + 1)⟩, ((Gr.refl B W).drewN nq).set _⟩
    · have hcx : ((c.toNat : Int) != (x.toNat : Int)) = true := by
        simp only [bne_iff_ne, ne_eq]
        intro e
        exact hc (UInt8.toNat_inj.1 (Int.ofNat.inj e))
      have HV : Hid (sgn x (s.data.toList.drop k) = none) := Lib.hid (by rw [hd]; exact sgn_no t hc)
      clear hd ht hc
      go_enter Tryz.func92, Tryz.ntmps92
      go_wp2_with fail
      go_big_quiet (fail)
      go_wp2
      go_ret
      rw [HV.out]
      exact ⟨rfl, ⟨k, by omega, rfl, HR.out.drewN nq⟩, (Gr.refl B W).drewN nq⟩
  · have he : ((k : Int) == (s.size : Int)) = true := by simp; omega
    have HV : Hid (sgn x (s.data.toList.drop k) = none) := Lib.hid (by rw [drop_all (by omega)]; rfl)
    go_enter Tryz.func92, Tryz.ntmps92
    go_wp2_with fail
    go_big_quiet (fail)
    go_wp2
    go_ret
    rw [HV.out]
    exact ⟨rfl, ⟨k, by omega, rfl, HR.out.drewN nq⟩, (Gr.refl B W).drewN nq⟩
end Sc
end Go.Proofs.YtapibalcekedfaaGreatDoor
