/- Walks of layer 8, the fifth part: the reference's tests of a byte; skip, Name, value. -/
import Derived.Test.YtapibalcekedfaaGreatDoorScD
import Derived.Laws.DeepStrings4
import Derived.Deep.CutBlock
namespace Go.Proofs.YtapibalcekedfaaGreatDoor
open Go Go.RowKit
namespace Sc
set_option maxRecDepth 100000
set_option linter.unusedVariables false
set_option linter.unusedSimpArgs false

theorem rletter_any (b : Int) (w : World) :
    Calls Tryz.prog 80 #[.int .u8 b] w fun e w' => e = .returned (.bool (lett b)) ∧ w = w' := by
  go_enter Tryz.func80, Tryz.ntmps80
  go_wp2
  all_goals (go_ret; refine ⟨ret_bool' ?_, rfl⟩; unfold lett; simp [*] <;> omega)
theorem rdigit_any (b : Int) (w : World) :
    Calls Tryz.prog 81 #[.int .u8 b] w fun e w' => e = .returned (.bool (digi b)) ∧ w = w' := by
  go_enter Tryz.func81, Tryz.ntmps81
  go_wp2
  all_goals (go_ret; refine ⟨ret_bool' ?_, rfl⟩; unfold digi; simp [*] <;> omega)
theorem does_rletter : DoesB 80 letU := ⟨fun _ _ => by kernel_rfl, fun c W => rletter_any _ W⟩
theorem does_rdigit : DoesB 81 digU := ⟨fun _ _ => by kernel_rfl, fun c W => rdigit_any _ W⟩
theorem does_rwhite : DoesB 83 wht := by
  refine ⟨fun _ _ => by kernel_rfl, ?_⟩
  intro c w
  have h1 : ((c.toNat : Int) == 32) = (c == 32) := eq_u8 c 32 (by decide)
  have h2 : ((c.toNat : Int) == 9) = (c == 9) := eq_u8 c 9 (by decide)
  have h3 : ((c.toNat : Int) == 10) = (c == 10) := eq_u8 c 10 (by decide)
  have HV : Hid (wht c = (c == 32 || c == 9 || c == 10)) := Lib.hid rfl
  generalize (c == 32) = x at *
  generalize (c == 9) = y at *
  generalize (c == 10) = z at *
  cases x <;> cases y <;> cases z <;>
  · go_enter Tryz.func83, Tryz.ntmps83
    go_wp2
    go_ret
    exact ⟨ret_bool' HV.out.symm, rfl⟩

theorem ba_eq {S : ByteArray} {l : List UInt8} (h : S.data.toList = l) : S = ⟨l.toArray⟩ := by
  subst h
  cases S; simp
theorem ba_self (S : ByteArray) : (⟨S.data.toList.toArray⟩ : ByteArray) = S := (ba_eq rfl).symm
theorem ext_rest (s : ByteArray) (a : Nat) : (s.extract a s.size).data.toList = s.data.toList.drop a := by
  rw [Lib.extract_data, List.take_of_length_le]
  rw [List.length_drop, sz]
  omega
theorem ext_to (s : ByteArray) (a : Nat) : (s.extract 0 a).data.toList = s.data.toList.take a := by
  rw [Lib.extract_data, List.drop_zero]; rfl
theorem toList_eq (a : ByteArray) : a.toList = a.data.toList := Go.ByteArray.toList_eq a
theorem emp_false {S : ByteArray} (h : 0 < S.size) : S.toList.isEmpty = false := by
  rw [toList_eq]
  cases hl : S.data.toList with
  | nil => have := congrArg List.length hl; rw [sz, List.length_nil] at this; omega
  | cons _ _ => rfl
theorem ret_str {a b : ByteArray} (h : a = b) : Ending.returned (.string a) = .returned (.string b) := by rw [h]
theorem nil_of {S : ByteArray} (h : ¬ 0 < S.size) : S.data.toList = [] := List.length_eq_zero_iff.1 (by rw [sz]; omega)
theorem cons_of {S : ByteArray} (h : 0 < S.size) : ∃ c t, S.data.toList = c :: t ∧ S[0] = c ∧ (S.extract 1 S.size).data.toList = t ∧ (S.extract 1 S.size).size = S.size - 1 := by
  obtain ⟨c, t, hd, hck, ht⟩ := cons_at h
  refine ⟨c, t, by simpa using hd, hck, by rw [ext_rest]; exact ht, by simp⟩

set_option maxHeartbeats 1000000 in
theorem rskip_any (s : ByteArray) (w : World) (hs : s.size ≤ 1000000) :
    Calls Tryz.prog 56 #[.string s] w fun e w' => e = .returned (.string ⟨(gap s.data.toList).toArray⟩) ∧ w = w' := by
  have HW := Lib.hid does_rwhite.2
  go_enter Tryz.func56, Tryz.ntmps56
  go_wp2_with fail
  go_loopg [0] s.size (fun G v0 wr => ∃ S : ByteArray, v0 = .string S ∧ w = wr ∧ Hid (S.size = G) ∧ Hid (gap S.data.toList = gap s.data.toList) ∧ Hid (S.size ≤ 1000000))
  case atStart => exact ⟨s, rfl, rfl, Lib.hid rfl, Lib.hid rfl, Lib.hid hs⟩
  case round =>
    obtain ⟨S, rfl, rfl, HS, HG, HL⟩ := hrel
    by_cases h0 : 0 < S.size
    · obtain ⟨c, t, hd, hck, ht, hsz⟩ := cons_of h0
      have h0' : (0 : Int) < (S.size : Int) := by omega
      have h1' : (1 : Int) ≤ (S.size : Int) := by omega
      have HW2 := Lib.hid (HW.out c w)
      have HT := Lib.hid ht
      have HZ := Lib.hid hsz
      cases hc : wht c with
      | true =>
        have HG2 : Hid (gap t = gap s.data.toList) := Lib.hid (by rw [← HG.out, hd, gap_of_w t hc])
        rw [hc] at HW2
        clear hd ht hsz hc
        go_wp2_with (first | (go_at_call 83; refine HW2.out.mono ?_; rintro e w' ⟨rfl, rfl⟩))
        go_roundg (gk - 1)
        case rel =>
          have := HZ.out
          have := HS.out
          have := HL.out
          exact ⟨_, rfl, rfl, Lib.hid (by omega), Lib.hid (by rw [HT.out]; exact HG2.out), Lib.hid (by omega)⟩
        case measure => have := HS.out; omega
      | false =>
        have HG2 : Hid (S = ⟨(gap s.data.toList).toArray⟩) := Lib.hid (ba_eq (by rw [← HG.out, hd, gap_of_nw t hc]))
        rw [hc] at HW2
        clear hd ht hsz hc
        go_wp2_with (first | (go_at_call 83; refine HW2.out.mono ?_; rintro e w' ⟨rfl, rfl⟩))
        go_ret
        exact ⟨ret_str HG2.out, rfl⟩
    · have HG2 : Hid (S = ⟨(gap s.data.toList).toArray⟩) := Lib.hid (ba_eq (by rw [← HG.out, nil_of h0]; rfl))
      have h0' : ¬ (0 : Int) < (S.size : Int) := by omega
      go_wp2
      go_ret
      exact ⟨ret_str HG2.out, rfl⟩

/-- The name with which a text begins, and what is left. -/
def nameS (l : List UInt8) : List UInt8 × List UInt8 := match name l with
  | some r => (l.take (l.length - r.length), r)
  | none => ([], l)
theorem ret_two {a b : ByteArray} {c d : ByteArray} (h1 : a = b) (h2 : c = d) : Ending.returned (.tuple #[.string a, .string c]) = .returned (.tuple #[.string b, .string d]) := by rw [h1, h2]
theorem ext_all (s : ByteArray) : s.extract s.size s.size = ByteArray.empty := by
  rw [ba_eq (S := s.extract s.size s.size) (l := []) (by rw [ext_rest]; exact drop_all (Nat.le_refl _))]; rfl

/-- What a loop over a name keeps. -/
theorem nameS_at {s : ByteArray} {m : Nat} {c : UInt8} {t : List UInt8} (h0 : s.data.toList = c :: t) (hc : letU c = true) (hm : m ≤ s.size) (h : s.data.toList.drop m = t.dropWhile inN) :
    (nameS s.data.toList).1 = s.data.toList.take m ∧ (nameS s.data.toList).2 = s.data.toList.drop m := by
  have hn : name s.data.toList = some (s.data.toList.drop m) := by rw [h, h0]; simp [name, word, hc]
  unfold nameS
  rw [hn]
  refine ⟨?_, rfl⟩
  show List.take _ _ = _
  congr 1
  rw [List.length_drop, sz]
  omega

set_option maxHeartbeats 4000000 in
theorem rname_any (s : ByteArray) (w : World) (hs : s.size ≤ 1000000) :
    Calls Tryz.prog 54 #[.string s] w fun e w' => e = .returned (.tuple #[.string ⟨(nameS s.data.toList).1.toArray⟩, .string ⟨(nameS s.data.toList).2.toArray⟩]) ∧ Below w.heap.size w w' := by
  have HWl := Lib.hid does_rletter.2
  have HWd := Lib.hid does_rdigit.2
  by_cases h0 : 0 < s.size
  · obtain ⟨c, t, hd, hck, ht, hsz⟩ := cons_of h0
    have h0' : s.toList.isEmpty = false := emp_false h0
    have hsz0 : (0 : Int) < (s.size : Int) := by omega
    have HW2 := Lib.hid (HWl.out c w)
    cases hc : letU c with
    | false =>
      have HV : Hid ((nameS s.data.toList) = ([], s.data.toList)) := Lib.hid (by unfold nameS; rw [hd, name_not t hc])
      rw [hc] at HW2
      clear hd ht hsz hc
      go_enter Tryz.func54, Tryz.ntmps54
      go_wp2_with (first | (go_at_call 80; refine HW2.out.mono ?_; rintro e w' ⟨rfl, rfl⟩))
      go_ret2
      rw [HV.out]
      exact ⟨ret_two rfl (ba_self s).symm, Below.refl _ _⟩
    | true =>
      have HD := Lib.hid hd
      have HC := Lib.hid hc
      have HT0 : Hid (s.data.toList.drop 1 = t) := Lib.hid (by rw [hd]; rfl)
      rw [hc] at HW2
      clear hd ht hsz hc
      go_enter Tryz.func54, Tryz.ntmps54
      go_wp2_with (first | (go_at_call 80; refine HW2.out.mono ?_; rintro e w' ⟨rfl, rfl⟩))
      go_loopg [4] (s.size - 1) (fun G v4 wr => ∃ m : Nat, 1 ≤ m ∧ m + G = s.size ∧ v4 = .int .i64 (m : Int) ∧ w = wr ∧ Hid ((s.data.toList.drop m).dropWhile inN = t.dropWhile inN))
      case atStart => exact ⟨1, by omega, by omega, rfl, rfl, Lib.hid (by rw [HT0.out])⟩
      case round =>
        obtain ⟨m, hm1, hm2, rfl, rfl, HR⟩ := hrel
        clear hck HW2
        have hml : (m : Int) ≤ (s.size : Int) := by omega
        have fin : Hid (s.data.toList.drop m = t.dropWhile inN → (⟨(nameS s.data.toList).1.toArray⟩ : ByteArray) = s.extract 0 m ∧ (⟨(nameS s.data.toList).2.toArray⟩ : ByteArray) = s.extract m s.size) := Lib.hid (fun h => by
          obtain ⟨e1, e2⟩ := nameS_at HD.out HC.out (by omega) h
          exact ⟨(ba_eq (by rw [ext_to, e1])).symm, (ba_eq (by rw [ext_rest, e2])).symm⟩)
        by_cases hlt : m < s.size
        · obtain ⟨c2, t2, hd2, hck2, ht2⟩ := cons_at hlt
          have hlt' : (m : Int) < (s.size : Int) := by omega
          have HA := Lib.hid (HWl.out c2 w)
          have HB := Lib.hid (HWd.out c2 w)
          have h3 : ((c2.toNat : Int) == 45) = (c2 == 45) := eq_u8 c2 45 (by decide)
          have HE : Hid (inN c2 = (letU c2 || digU c2 || c2 == 45)) := Lib.hid rfl
          have HY : Hid (inN c2 = true → (s.data.toList.drop (m + 1)).dropWhile inN = t.dropWhile inN) := Lib.hid (fun h => by rw [← HR.out, hd2, ht2]; simp [List.dropWhile, h])
          have HN : Hid (inN c2 = false → s.data.toList.drop m = t.dropWhile inN) := Lib.hid (fun h => by rw [← HR.out, hd2]; simp [List.dropWhile, h])
          clear hd2 ht2
          generalize letU c2 = x at *
          generalize digU c2 = y at *
          generalize (c2 == 45) = z at *
          cases x with
          | true =>
            go_wp2_with (first | (go_at_call 80; refine HA.out.mono ?_; rintro e w' ⟨rfl, rfl⟩) | (go_at_call 81; refine HB.out.mono ?_; rintro e w' ⟨rfl, rfl⟩))
            go_roundg (gk - 1)
            case rel => exact ⟨m + 1, by omega, by omega, by go_num, rfl, Lib.hid (HY.out (by rw [HE.out]; rfl))⟩
            case measure => omega
          | false =>
          cases y with
          | true =>
            go_wp2_with (first | (go_at_call 80; refine HA.out.mono ?_; rintro e w' ⟨rfl, rfl⟩) | (go_at_call 81; refine HB.out.mono ?_; rintro e w' ⟨rfl, rfl⟩))
            go_roundg (gk - 1)
            case rel => exact ⟨m + 1, by omega, by omega, by go_num, rfl, Lib.hid (HY.out (by rw [HE.out]; rfl))⟩
            case measure => omega
          | false =>
          cases z with
          | true =>
            go_wp2_with (first | (go_at_call 80; refine HA.out.mono ?_; rintro e w' ⟨rfl, rfl⟩) | (go_at_call 81; refine HB.out.mono ?_; rintro e w' ⟨rfl, rfl⟩))
            go_roundg (gk - 1)
            case rel => exact ⟨m + 1, by omega, by omega, by go_num, rfl, Lib.hid (HY.out (by rw [HE.out]; rfl))⟩
            case measure => omega
          | false =>
            have HF := Lib.hid (fin.out (HN.out (by rw [HE.out]; rfl)))
            go_wp2_with (first | (go_at_call 80; refine HA.out.mono ?_; rintro e w' ⟨rfl, rfl⟩) | (go_at_call 81; refine HB.out.mono ?_; rintro e w' ⟨rfl, rfl⟩))
            go_quiet (fail)
            go_wp2
            go_ret2
            exact ⟨ret_two HF.out.1.symm HF.out.2.symm, ⟨rfl, rfl, rfl, Nat.le_refl _, fun _ _ => rfl⟩⟩
        · have hlt' : ¬ (m : Int) < (s.size : Int) := by omega
          have HF := Lib.hid (fin.out (by rw [← HR.out, drop_all (by omega)]; rfl))
          go_wp2_with fail
          go_quiet (fail)
          go_wp2
          go_ret2
          exact ⟨ret_two HF.out.1.symm HF.out.2.symm, ⟨rfl, rfl, rfl, Nat.le_refl _, fun _ _ => rfl⟩⟩
  · have he := nil_of h0
    have HV : Hid ((nameS s.data.toList) = ([], [])) := Lib.hid (by rw [he]; rfl)
    obtain rfl : s = ByteArray.empty := ba_eq he
    clear h0 he
    go_enter Tryz.func54, Tryz.ntmps54
    go_wp2
    go_ret2
    rw [HV.out]
    exact ⟨rfl, Below.refl _ _⟩
end Sc
end Go.Proofs.YtapibalcekedfaaGreatDoor
