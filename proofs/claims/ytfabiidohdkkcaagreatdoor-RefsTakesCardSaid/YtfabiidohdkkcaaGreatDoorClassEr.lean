/- Walks of layer 3, the fifth part: the reference's Fold and Label. -/
import Derived.Test.YtfabiidohdkkcaaGreatDoorClassBr
import Derived.Test.YtfabiidohdkkcaaGreatDoorClassCr
import Derived.Test.YtfabiidohdkkcaaGreatDoorTextSc
namespace Go.Proofs.YtfabiidohdkkcaaGreatDoor
open Go Go.RowKit
namespace Ks
open Tx
set_option maxRecDepth 100000
set_option linter.unusedVariables false
set_option linter.unusedSimpArgs false

def caps32 : List (Int × Int) := [(65, 90), (192, 214), (216, 222), (913, 929), (931, 939), (1040, 1071)]
def caps80 : List (Int × Int) := [(1024, 1039)]
theorem caps32_iff (n : Nat) : amg caps32 (n : Int) = true ↔ (65 ≤ n ∧ n ≤ 90) ∨ (192 ≤ n ∧ n ≤ 214) ∨ (216 ≤ n ∧ n ≤ 222) ∨ (913 ≤ n ∧ n ≤ 929) ∨ (931 ≤ n ∧ n ≤ 939) ∨ (1040 ≤ n ∧ n ≤ 1071) := by
  simp [amg, caps32]; omega
theorem caps80_iff (n : Nat) : amg caps80 (n : Int) = true ↔ 1024 ≤ n ∧ n ≤ 1039 := by
  simp [amg, caps80]; omega
theorem sm_32 {n : Nat} (h : amg caps32 (n : Int) = true) : sm n = n + 32 := by
  rw [caps32_iff] at h
  rw [sm_eq]; (repeat' split) <;> omega
theorem sm_80 {n : Nat} (h : amg caps80 (n : Int) = true) : sm n = n + 80 := by
  rw [caps80_iff] at h
  rw [sm_eq]; (repeat' split) <;> omega
theorem sm_one {n : Nat} (h1 : ¬ amg caps32 (n : Int) = true) (h2 : ¬ amg caps80 (n : Int) = true) : sm n = if n = 962 then 963 else n := by
  rw [caps32_iff] at h1
  rw [caps80_iff] at h2
  rw [sm_eq]; (repeat' split) <;> omega
theorem enc_foldN {n : Nat} (h : ¬ (n = 223 ∨ n = 7838)) : enc (foldN n) = encN (sm n) := by
  unfold foldN; rw [if_neg h]; simp [enc]
theorem enc_z {n : Nat} {z : Int} (hv : Valid n) (hz : (n : Int) = z) : Utf8.encode z = ⟨(encN n).toArray⟩ := by
  subst hz; exact encode_eq n hv.2.2 hv.2.1
theorem ret_strB {a b : ByteArray} (h : a = b) : Ending.returned (.string a) = .returned (.string b) := by rw [h]

theorem pairs_new2 (w : World) (o : Obj) (ps : List (Int × Int)) (t : TypeId) : Pairs ((w.alloc o).alloc (.cells (ints (flat ps)).toArray t)) (w.heap.size + 1) ps := by
  have h := pairs_new (w.alloc o) ps t
  rw [show (w.alloc o).heap.size = w.heap.size + 1 by simp] at h
  exact h

set_option maxHeartbeats 2000000 in
theorem rfold_any (n : Nat) (w : World) (hv : Valid n) :
    Calls Tryz.prog 77 #[.int .i32 (n : Int)] w fun e w' => e = .returned (.string ⟨(enc (foldN n)).toArray⟩) ∧ Below w.heap.size w w' := by
  have HV := Lib.hid hv
  have H1 := Lib.hid (among_any (n : Int) caps32 w.heap.size 12 _ (pairs_new w caps32 21) (by decide))
  have H2 : Hid (∀ (W : World) (g : Nat), Pairs W g caps80 → Calls Tryz.prog 98 #[.int .i32 (n : Int), .slice (some ⟨g, 0, none⟩) 2 2] W fun e w' => e = .returned (.bool (amg caps80 (n : Int))) ∧ W = w') := Lib.hid (fun W g hP => among_any (n : Int) caps80 g 2 W hP (by decide))
  have hmax := hv.2.1
  obtain ⟨z, hz⟩ : ∃ z : Int, (n : Int) = z := ⟨_, rfl⟩
  have HZ := Lib.hid hz
  have hz0 : 0 ≤ z := by omega
  have hz1 : z ≤ 1114111 := by omega
  rw [hz] at H1 H2 ⊢
  clear hv hmax hz
  by_cases h1 : z = 223
  · have e1 : (z == 223) = true := by subst h1; rfl
    have HN : Hid (enc (foldN n) = [115, 115]) := Lib.hid (by
      have : n = 223 := by have := HZ.out; omega
      subst this; rfl)
    clear h1 H1 H2
    go_enter Tryz.func77, Tryz.ntmps77
    go_wp2
    go_ret
    exact ⟨ret_strB (by rw [HN.out]), Below.refl _ _⟩
  by_cases h2 : z = 7838
  · have e1 : (z == 223) = false := by simpa using h1
    have e2 : (z == 7838) = true := by subst h2; rfl
    have HN : Hid (enc (foldN n) = [115, 115]) := Lib.hid (by
      have : n = 7838 := by have := HZ.out; omega
      subst this; rfl)
    clear h1 h2 H1 H2
    go_enter Tryz.func77, Tryz.ntmps77
    go_wp2
    go_ret
    exact ⟨ret_strB (by rw [HN.out]), Below.refl _ _⟩
  have e1 : (z == 223) = false := by simpa using h1
  have e2 : (z == 7838) = false := by simpa using h2
  have HN : Hid (enc (foldN n) = encN (sm n)) := Lib.hid (enc_foldN (by have := HZ.out; omega))
  have HS := Lib.hid (sm_valid HV.out)
  clear h1 h2
  cases h3 : amg caps32 z with
  | true =>
    rw [h3] at H1
    have HE : Hid (Utf8.encode (z + 32) = ⟨(encN (sm n)).toArray⟩) := Lib.hid (enc_z HS.out (by rw [sm_32 (by rw [HZ.out]; exact h3)]; have := HZ.out; omega))
    clear h3 H2
    go_enter Tryz.func77, Tryz.ntmps77
    go_wp2_with (go_at_call 98; refine H1.out.mono ?_; rintro e w' ⟨rfl, rfl⟩)
    go_ret
    exact ⟨ret_strB (by rw [HN.out, HE.out]), (Below.refl _ w).alloc (Nat.le_refl _) _⟩
  | false =>
    rw [h3] at H1
    cases h4 : amg caps80 z with
    | true =>
      have HE : Hid (Utf8.encode (z + 80) = ⟨(encN (sm n)).toArray⟩) := Lib.hid (enc_z HS.out (by rw [sm_80 (by rw [HZ.out]; exact h4)]; have := HZ.out; omega))
      rw [h4] at H2
      clear h3 h4
      go_enter Tryz.func77, Tryz.ntmps77
      go_wp2_with fail
      refine H1.out.mono ?_
      rintro e w' ⟨rfl, rfl⟩
      go_wp2_with fail
      refine (H2.out _ _ ?p80).mono ?_
      case p80 => exact pairs_new2 w _ _ _
      rintro e w' ⟨rfl, rfl⟩
      go_wp2
      go_ret
      exact ⟨ret_strB (by rw [HN.out, HE.out]), ((Below.refl _ w).alloc (Nat.le_refl _) _).alloc (by simp) _⟩
    | false =>
      have hs := sm_one (n := n) (by rw [HZ.out, h3]; simp) (by rw [HZ.out, h4]; simp)
      rw [h4] at H2
      by_cases h5 : z = 962
      · have e3 : (z == 962) = true := by subst h5; rfl
        have HE : Hid (encN (sm n) = [207, 131]) := Lib.hid (by
          have : n = 962 := by have := HZ.out; omega
          subst this; rfl)
        clear h3 h4 h5 hs
        go_enter Tryz.func77, Tryz.ntmps77
        go_wp2_with fail
        refine H1.out.mono ?_
        rintro e w' ⟨rfl, rfl⟩
        go_wp2_with fail
        refine (H2.out _ _ ?p80).mono ?_
        case p80 => exact pairs_new2 w _ _ _
        rintro e w' ⟨rfl, rfl⟩
        go_wp2
        go_ret
        exact ⟨ret_strB (by rw [HN.out, HE.out]), ((Below.refl _ w).alloc (Nat.le_refl _) _).alloc (by simp) _⟩
      · have e3 : (z == 962) = false := by simpa using h5
        have HE : Hid (Utf8.encode z = ⟨(encN (sm n)).toArray⟩) := Lib.hid (enc_z HS.out (by rw [hs, if_neg (by have := HZ.out; omega)]; exact HZ.out))
        clear h3 h4 h5 hs
        go_enter Tryz.func77, Tryz.ntmps77
        go_wp2_with fail
        refine H1.out.mono ?_
        rintro e w' ⟨rfl, rfl⟩
        go_wp2_with fail
        refine (H2.out _ _ ?p80).mono ?_
        case p80 => exact pairs_new2 w _ _ _
        rintro e w' ⟨rfl, rfl⟩
        go_wp2
        go_ret
        exact ⟨ret_strB (by rw [HN.out, HE.out]), ((Below.refl _ w).alloc (Nat.le_refl _) _).alloc (by simp) _⟩

theorem mk_app (a b : List UInt8) : (⟨a.toArray⟩ : ByteArray) ++ ⟨b.toArray⟩ = ⟨(a ++ b).toArray⟩ := by
  apply ByteArray.ext
  rw [ByteArray.data_append]
  simp

set_option maxHeartbeats 2000000 in
theorem rFold_any (s : ByteArray) (w : World) (hs : s.size ≤ 100000000) :
    Calls Tryz.prog 52 #[.string s] w fun e w' => e = .returned (str (fold s.data.toList)) ∧ Below w.heap.size w w' := by
  have hdl : s.data.toList.length = s.size := by rw [Array.length_toList]; rfl
  have hrl := runes_len s.data.toList
  have HR := Lib.hid (rrunes_any s w hs)
  have HV := Lib.hid (runes_valid s.data.toList)
  have HF : Hid (fold s.data.toList = enc (foldRs (runes s.data.toList))) := Lib.hid rfl
  generalize runes s.data.toList = R at *
  go_enter Tryz.func52, Tryz.ntmps52
  go_wp2_with (go_at_call 76; refine HR.out.mono ?_; rintro e w1 ⟨v, rfl, hsl, hb1⟩)
  have HSL := Lib.hid hsl
  obtain ⟨ao, cap, rfl, hl9, _⟩ := hsl
  clear HR
  go_loopg [3, 5] R.length (fun g s3 s5 wr => ∃ (k : Nat) (acc : ByteArray), k + g = R.length ∧ s5 = .int .i64 k ∧ s3 = .string acc ∧ Hid (acc = ⟨(enc (foldRs (R.take k))).toArray⟩) ∧ acc.size ≤ 8 * R.length ∧ Below w1.heap.size w1 wr)
  case atStart => exact ⟨0, ⟨#[]⟩, by omega, rfl, rfl, Lib.hid rfl, Nat.zero_le _, Below.refl _ _⟩
  case round =>
    obtain ⟨k, acc, hkg, rfl, rfl, HA, has, hbw⟩ := hrel
    cases gk with
    | zero =>
      have hkl : ¬ ((k : Int) < (R.length : Int)) := by omega
      go_wp2
      go_ret
      refine ⟨?_, hb1.trans (hbw.mono hb1.size)⟩
      rw [HA.out, List.take_of_length_le (by omega)]
      exact ret_str' HF.out.symm
    | succ g =>
      have hkl : (k : Int) < (R.length : Int) := by omega
      have hk2 : k < R.length := by omega
      obtain ⟨ao', cap', hv', _, hrr⟩ := HSL.out.below hbw
      obtain ⟨b, off, hao, hcells⟩ := hrr (by intro e; subst e; simp at hk2)
      obtain ⟨rfl, rfl⟩ : ao = ao' ∧ cap = cap' := by injection hv' with h1 _ h3; exact ⟨h1, h3⟩
      subst hao
      have hc := hcells k hk2
      have HT := Lib.hid (take_fold R k hk2)
      have HG := Lib.hid (rfold_any R[k] wr (HV.out _ (List.getElem_mem hk2)))
      have hlen := take_fold_len R (k + 1)
      rw [HT.out] at hlen
      have HX : Hid (acc ++ ⟨(enc (foldN R[k])).toArray⟩ = ⟨(enc (foldRs (R.take (k + 1)))).toArray⟩) := Lib.hid (by rw [HA.out, mk_app, HT.out])
      have hxs : (acc ++ ⟨(enc (foldN R[k])).toArray⟩).size ≤ 8 * R.length := by
        rw [HX.out, size_mk, HT.out]; exact hlen
      have hxs2 : acc.size + (⟨(enc (foldN R[k])).toArray⟩ : ByteArray).size ≤ 8 * R.length := by
        rw [← ByteArray.size_append]; exact hxs
      have Hxs := Lib.hid hxs
      clear hcells hrr hv' hlen HT hxs
      generalize R[k] = x at *
      generalize (⟨(enc (foldN x)).toArray⟩ : ByteArray) = y at *
      go_wp2_with (go_at_call 77; refine HG.out.mono ?_; rintro e w2 ⟨rfl, hb2⟩)
      go_roundg g
      case rel => exact ⟨k + 1, _, by omega, by go_num, rfl, HX, Hxs.out, hbw.trans (hb2.mono hbw.size)⟩
      case measure => omega
end Ks
end Go.Proofs.YtfabiidohdkkcaaGreatDoor
