/- Walks of layer 12, the third part: the reference's mailboxes, and addresses. -/
import Derived.Test.YtapibalcekedfaaGreatDoorSpB
import Derived.Test.YtapibalcekedfaaGreatDoorSpPur2
import Derived.Test.YtapibalcekedfaaGreatDoorScI
import Derived.Deep.RegionHeld3
import Derived.Deep.DrawnRows
namespace Go.Proofs.YtapibalcekedfaaGreatDoor
open Go Go.RowKit
namespace Sp
open Sc
set_option maxRecDepth 100000
set_option linter.unusedVariables false
set_option linter.unusedSimpArgs false

theorem begins_any (s t : ByteArray) (w : World) (hs : s.size ≤ 1000000) (ht : t.size ≤ 1000000) :
    Calls Tryz.prog 33 #[.string s, .string t] w fun e w' => e = .returned (.bool (Lib.hasPrefix s.data.toList t.data.toList)) ∧ w = w' := by
  by_cases hle : t.size ≤ s.size
  · have hle' : (t.size : Int) ≤ (s.size : Int) := by omega
    have HV : Hid ((( s.extract 0 t.size).toList == t.toList) = Lib.hasPrefix s.data.toList t.data.toList) := Lib.hid (by
      rw [toList_eq, toList_eq, ext_to]
      unfold Lib.hasPrefix
      rw [Bool.eq_iff_iff, beq_iff_eq, List.isPrefixOf_iff_prefix, List.prefix_iff_eq_take, sz]
      exact eq_comm)
    go_enter Tryz.func33, Tryz.ntmps33
    go_wp2
    go_ret
    exact ⟨ret_bool' (by first | exact HV.out | (rw [← HV.out]; simp)), rfl⟩
  · have hle' : (s.size : Int) < (t.size : Int) := by omega
    have HV : Hid (Lib.hasPrefix s.data.toList t.data.toList = false) := Lib.hid (by
      unfold Lib.hasPrefix
      cases hp : t.data.toList.isPrefixOf s.data.toList with
      | false => rfl
      | true =>
        have := (List.isPrefixOf_iff_prefix.1 hp).length_le
        rw [sz, sz] at this
        omega)
    go_enter Tryz.func33, Tryz.ntmps33
    go_wp2
    go_ret
    exact ⟨ret_bool' HV.out.symm, rfl⟩

set_option maxHeartbeats 2000000 in
theorem within_any (s t : ByteArray) (w : World) (hs : s.size ≤ 1000000) (ht : t.size ≤ 1000000) (h0 : 0 < t.size) :
    Calls Tryz.prog 49 #[.string s, .string t] w fun e w' => e = .returned (.bool (Lib.contains s.data.toList t.data.toList)) ∧ w = w' := by
  go_enter Tryz.func49, Tryz.ntmps49
  go_wp2_with fail
  go_loopg [5] (s.size + 1) (fun G v5 wr => ∃ m : Nat, m + G = s.size + 1 ∧ m ≤ s.size ∧ v5 = .int .i64 (m : Int) ∧ w = wr ∧ Hid (Lib.contains s.data.toList t.data.toList = Lib.contains (s.data.toList.drop m) t.data.toList))
  case atStart => exact ⟨0, by omega, by omega, rfl, rfl, Lib.hid rfl⟩
  case round =>
    obtain ⟨m, hm, hms, rfl, rfl, HR⟩ := hrel
    by_cases hle : m + t.size ≤ s.size
    · have hle' : (m : Int) + (t.size : Int) ≤ (s.size : Int) := by omega
      have hlt : m < s.size := by omega
      obtain ⟨c, d, hd, hck, hdt⟩ := cons_at hlt
      obtain ⟨E, hE⟩ : ∃ E : ByteArray, s.extract m (m + t.size) = E := ⟨_, rfl⟩
      have hEl : E.toList = (s.data.toList.drop m).take t.size := by
        rw [toList_eq, ← hE, Lib.extract_data]
        congr 1
        omega
      have HP : Hid ((E.toList == t.toList) = t.data.toList.isPrefixOf (c :: d)) := Lib.hid (by
        rw [hEl, toList_eq, ← hd]
        rw [Bool.eq_iff_iff, beq_iff_eq, List.isPrefixOf_iff_prefix, List.prefix_iff_eq_take, sz]
        exact eq_comm)
      have HC : Hid (Lib.contains s.data.toList t.data.toList = ((E.toList == t.toList) || Lib.contains (s.data.toList.drop (m + 1)) t.data.toList)) := Lib.hid (by rw [HR.out, hd, contains_cons, HP.out, hdt])
      clear hd hdt hEl
      cases he : (E.toList == t.toList) with
      | true =>
        have HV : Hid (Lib.contains s.data.toList t.data.toList = true) := Lib.hid (by rw [HC.out, he]; rfl)
        go_wp2
        go_ret
        exact ⟨ret_bool' HV.out.symm, rfl⟩
      | false =>
        have HV : Hid (Lib.contains s.data.toList t.data.toList = Lib.contains (s.data.toList.drop (m + 1)) t.data.toList) := Lib.hid (by rw [HC.out, he]; rfl)
        go_wp2
        go_roundg (gk - 1)
        case rel => exact ⟨m + 1, by omega, by omega, by go_num, rfl, HV⟩
        case measure => omega
    · have hle' : (s.size : Int) < (m : Int) + (t.size : Int) := by omega
      have HV : Hid (Lib.contains s.data.toList t.data.toList = false) := Lib.hid (by rw [HR.out]; exact contains_short (by rw [List.length_drop, sz, sz]; omega))
      go_wp2
      go_ret
      exact ⟨ret_bool' HV.out.symm, rfl⟩

theorem ext_one {s : ByteArray} {k : Nat} {c : UInt8} (h : k < s.size) (hc : s[k] = c) : (s.extract k (k + 1)).data.toList = [c] := by
  obtain ⟨x, t, hd, hck, ht⟩ := cons_at h
  rw [Lib.extract_data, hd, show k + 1 - k = 1 by omega]
  rw [← hc, hck]; rfl
/-- Is a byte among the signs of a name? -/
theorem withinN_any (c : UInt8) (E : ByteArray) (hE : E.data.toList = [c]) (w : World) :
    Calls Tryz.prog 49 #[.string ⟨#[46, 33, 35, 36, 37, 38, 39, 42, 43, 47, 61, 63, 94, 95, 96, 123, 124, 125, 126, 45]⟩, .string E] w fun e w' => e = .returned (.bool (signN.contains c)) ∧ w = w' := by
  have hz : E.size = 1 := by rw [← sz, hE]; rfl
  have := within_any ⟨#[46, 33, 35, 36, 37, 38, 39, 42, 43, 47, 61, 63, 94, 95, 96, 123, 124, 125, 126, 45]⟩ E w (by decide) (by omega) (by omega)
  rw [hE, contains_one] at this
  exact this

theorem four : ∀ l d p : Bool, (l = true) ∨ (l = false ∧ d = true) ∨ (l = false ∧ d = false ∧ p = true) ∨ (l = false ∧ d = false ∧ p = false) := by decide
theorem take_snoc {l : List UInt8} {k : Nat} {c : UInt8} (hc : l[k]? = some c) : l.take (k + 1) = l.take k ++ [c] := by
  obtain ⟨h1, h2⟩ := List.getElem?_eq_some_iff.1 hc
  rw [List.take_succ_eq_append_getElem h1, h2]
theorem get_of {s : ByteArray} {k : Nat} {c : UInt8} (h : k < s.size) (hc : s[k] = c) : s.data.toList[k]? = some c := by
  obtain ⟨x, t, hd, hck, ht⟩ := cons_at h
  have : (s.data.toList.drop k)[0]? = some x := by rw [hd]; rfl
  rw [List.getElem?_drop, Nat.add_zero] at this
  rw [this, ← hck, hc]
/-- What lies from f up to i. -/
def seg (l : List UInt8) (f i : Nat) : List UInt8 := (l.take i).drop f
theorem seg_snoc {l : List UInt8} {f i : Nat} {c : UInt8} (hf : f ≤ i) (hc : l[i]? = some c) : seg l f (i + 1) = seg l f i ++ [c] := by
  unfold seg
  have := (List.getElem?_eq_some_iff.1 hc).1
  rw [take_snoc hc, List.drop_append_of_le_length (by rw [List.length_take]; omega)]
theorem seg_self (l : List UInt8) (f : Nat) : seg l f f = [] := by
  unfold seg
  exact List.drop_eq_nil_of_le (by rw [List.length_take]; omega)
theorem seg_len {l : List UInt8} {f i : Nat} (h : i ≤ l.length) : (seg l f i).length = i - f := by
  unfold seg
  rw [List.length_drop, List.length_take]; omega
theorem seg_head {l : List UInt8} {f i : Nat} {x : UInt8} (h : f < i) (hx : l[f]? = some x) : (seg l f i).head? = some x := by
  unfold seg
  rw [List.head?_drop, List.getElem?_take_of_lt h, hx]
theorem seg_last {l : List UInt8} {f m : Nat} {y : UInt8} (h : f ≤ m) (hy : l[m]? = some y) : (seg l f (m + 1)).getLast? = some y := by
  rw [seg_snoc h hy]; simp
end Sp
end Go.Proofs.YtapibalcekedfaaGreatDoor
