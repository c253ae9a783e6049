/- SpanCodes: the law's walk. -/
import Derived.Test.YtapibalcekedfaaGreatDoorSpJ
import Derived.Test.YtapibalcekedfaaGreatDoorSpQ
import Derived.Laws.BitsAllLaws
import Derived.Laws.BitsLemmas
namespace Go.Proofs.YtapibalcekedfaaGreatDoor
open Go Go.RowKit
namespace SpanCodes
open Sp Sc
set_option maxRecDepth 100000
set_option linter.unusedVariables false
set_option linter.unusedSimpArgs false

theorem ofInt_i64 (a : Nat) (ha : a < 9223372036854775808) : (BitVec.ofInt 64 (a : Int)).toNat = a := by
  rw [BitVec.ofInt_natCast, BitVec.toNat_ofNat]; exact Nat.mod_eq_of_lt (by omega)
/-- n & m, for a small m. -/
def msk (n : Int) (m : Nat) : Nat := ((BitVec.ofInt 64 n) &&& (BitVec.ofInt 64 (m : Int))).toNat
theorem msk_le (n : Int) (m : Nat) (hm : m < 9223372036854775808) : msk n m ≤ m := by
  unfold msk
  rw [BitVec.toNat_and, ofInt_i64 m hm]; exact Nat.and_le_right
theorem bits_and (n : Int) (m : Nat) (hm : m < 9223372036854775808) : bits .and .i64 n (m : Int) = (msk n m : Nat) := by
  have h := msk_le n m hm
  show IntKind.i64.wrap (((BitVec.ofInt 64 n) &&& (BitVec.ofInt 64 (m : Int))).toNat : Int) = _
  rw [IntKind.wrap_i64]
  unfold msk at *
  omega
theorem other_snoc2 {l : List UInt8} {j : Nat} {c : UInt8} (h : l[j]? = some c) : other (l.take (j + 1)) = (other (l.take j) || c != 32) := by
  unfold other
  rw [take_snoc h, List.any_append]
  simp
theorem map_no2 {a : List UInt8} (h : ∀ c ∈ a, c ≠ 96 ∧ c ≠ 10) : a.map bl10 = a := map_no (fun c hc => (h c hc).2)
/-- The text of a code, by its first and last sign. -/
theorem content_ways {s : ByteArray} {M : Nat} {x y : UInt8} (hM : s.size = M + 1) (hx : s.data.toList[0]? = some x) (hy : s.data.toList[M]? = some y) (h : ∀ c ∈ s.data.toList, c ≠ 96 ∧ c ≠ 10) :
    (other s.data.toList = false ∧ content s.data.toList = s.data.toList) ∨ (other s.data.toList = true ∧ (x == 32) = false ∧ content s.data.toList = s.data.toList) ∨ (other s.data.toList = true ∧ (x == 32) = true ∧ (y == 32) = false ∧ content s.data.toList = s.data.toList) ∨
    (other s.data.toList = true ∧ (x == 32) = true ∧ (y == 32) = true ∧ 1 ≤ M ∧ content s.data.toList = (s.extract 1 M).data.toList) := by
  have hc : content s.data.toList = if s.data.toList.head? = some 32 ∧ s.data.toList.getLast? = some 32 ∧ other s.data.toList = true then (s.data.toList.drop 1).dropLast else s.data.toList := by
    unfold content
    rw [map_no2 h]
  have h1 : s.data.toList.head? = some x := by rw [List.head?_eq_getElem?]; exact hx
  have h2 : s.data.toList.getLast? = some y := by rw [List.getLast?_eq_getElem?, sz, hM]; exact hy
  rw [h1, h2] at hc
  cases ho : other s.data.toList with
  | false => left; exact ⟨rfl, by rw [hc, if_neg (by rw [ho]; simp)]⟩
  | true =>
    right
    cases hqx : (x == 32) with
    | false =>
      left
      refine ⟨rfl, rfl, by rw [hc, if_neg]; intro hh; rw [Option.some.inj hh.1] at hqx; cases hqx⟩
    | true =>
      right
      cases hqy : (y == 32) with
      | false =>
        left
        refine ⟨rfl, rfl, rfl, by rw [hc, if_neg]; intro hh; rw [Option.some.inj hh.2.1] at hqy; cases hqy⟩
      | true =>
        right
        have ex := eq_of_beq hqx
        have ey := eq_of_beq hqy
        refine ⟨rfl, rfl, rfl, ?_, ?_⟩
        · rcases Nat.eq_zero_or_pos M with h0 | h0
          · exfalso
            have hl : s.data.toList.length = 1 := by rw [sz, hM, h0]
            obtain ⟨q, hq⟩ := List.length_eq_one_iff.1 hl
            rw [hq] at ho hx
            obtain rfl := Option.some.inj hx
            rw [ex] at ho
            cases ho
          · exact h0
        · rw [hc, if_pos ⟨by rw [ex], by rw [ey], ho⟩, Lib.extract_data, List.dropLast_eq_take, List.length_drop, sz, hM, Nat.add_sub_cancel]

set_option maxHeartbeats 8000000 in
theorem law_any (s : ByteArray) (n : Int) (more : ByteArray) (w : World) (hL : LaidP w) (hs : s.size ≤ maxLen) (hm : more.size ≤ maxLen) :
    Calls Tryz.prog 5 #[.string s, .int .i64 n, .string more] w fun e w' => e = .returned (.bool true) ∧ Below w.heap.size w w' := by
  unfold maxLen at hs hm
  have HA := Lib.hid (frm_awake hL)
  have hb0 := Below.refl w.heap.size w
  by_cases h0 : 0 < s.size
  case neg =>
    have he := emp_t (nil_ofS h0)
    clear hL h0
    go_enter Tryz.func5, Tryz.ntmps5
    go_wp2_with fail
    refine (HA.out _ hb0).mono ?_
    rintro e w1 ⟨rfl, hb1⟩
    go_wp2
    go_ret
    exact ⟨rfl, hb1⟩
  have he := emp_f h0
  by_cases hbig : 500 < s.size
  · have hb' : (500 : Int) < (s.size : Int) := by omega
    clear hL
    go_enter Tryz.func5, Tryz.ntmps5
    go_wp2_with fail
    refine (HA.out _ hb0).mono ?_
    rintro e w1 ⟨rfl, hb1⟩
    go_wp2
    go_ret
    exact ⟨rfl, hb1⟩
  by_cases hbig2 : 200 < more.size
  · have hb' : ¬ (500 : Int) < (s.size : Int) := by omega
    have hb2' : (200 : Int) < (more.size : Int) := by omega
    clear hL
    go_enter Tryz.func5, Tryz.ntmps5
    go_wp2_with fail
    refine (HA.out _ hb0).mono ?_
    rintro e w1 ⟨rfl, hb1⟩
    go_wp2
    go_ret
    exact ⟨rfl, hb1⟩
  have hsI : (s.size : Int) ≤ 500 := by omega
  have hmI : (more.size : Int) ≤ 200 := by omega
  have h0I : (0 : Int) < (s.size : Int) := by omega
  have hsN : s.size ≤ 500 := by omega
  have hmN : more.size ≤ 200 := by omega
  have hband : bits .and .i64 n 7 = (msk n 7 : Nat) := bits_and n 7 (by decide)
  have hq7 : msk n 7 ≤ 7 := msk_le n 7 (by decide)
  generalize msk n 7 = q at *
  have hq7' : (q : Int) ≤ 7 := by omega
  have HLa := Lib.hid hL
  clear hbig hbig2 hs hm hL
  go_enter Tryz.func5, Tryz.ntmps5
  go_wp2_with fail
  refine (HA.out _ hb0).mono ?_
  rintro e w1 ⟨rfl, hb1⟩
  have HB1 := Lib.hid hb1
  clear hb1 hb0
  go_wp2_with fail
  go_loopg [8, 9] s.size (fun g v8 v9 wr => ∃ (i : Nat) (o : Bool), i + g = s.size ∧ v8 = .bool o ∧ v9 = .int .i64 (i : Int) ∧ w1 = wr ∧ Hid (∀ c ∈ s.data.toList.take i, c ≠ 96 ∧ c ≠ 10) ∧ Hid (o = !other (s.data.toList.take i)))
  case atStart => exact ⟨0, true, by omega, rfl, rfl, rfl, Lib.hid (by rw [List.take_zero]; intro c hc; cases hc), Lib.hid rfl⟩
  case round =>
    obtain ⟨i, o, hig, rfl, rfl, rfl, HN, HO⟩ := hrel
    by_cases hlt : i < s.size
    · have hlt' : (i : Int) < (s.size : Int) := by omega
      obtain ⟨c, hc⟩ : ∃ c, s[i] = c := ⟨_, rfl⟩
      have hget := get_of hlt hc
      by_cases h96 : c = 96
      · subst h96
        clear hget
        go_wp2
        go_ret
        exact ⟨rfl, HB1.out⟩
      by_cases h10 : c = 10
      · subst h10
        clear hget h96
        go_wp2
        go_ret
        exact ⟨rfl, HB1.out⟩
      have e96 : ((c.toNat : Int) == 96) = false := u8_ne (n := 96) (by decide) h96
      have e10 : ((c.toNat : Int) == 10) = false := u8_ne (n := 10) (by decide) h10
      have e32 : ((c.toNat : Int) == 32) = (c == 32) := eq_u8 c 32 (by decide)
      have HN2 : Hid (∀ c ∈ s.data.toList.take (i + 1), c ≠ 96 ∧ c ≠ 10) := Lib.hid (by
        rw [take_snoc hget]
        intro d hd
        rcases List.mem_append.1 hd with hd | hd
        · exact HN.out d hd
        · rw [List.mem_singleton.1 hd]; exact ⟨h96, h10⟩)
      have HO2 : Hid ((o && (c == 32)) = !other (s.data.toList.take (i + 1))) := Lib.hid (by
        rw [other_snoc2 hget, HO.out]
        unfold bne
        cases other (s.data.toList.take i) <;> cases (c == 32) <;> rfl)
      clear hget h96 h10
      generalize (c == 32) = z at *
      cases o with
      | true =>
        go_wp2
        go_roundg (gk - 1)
        case rel => exact ⟨i + 1, z, by omega, rfl, by go_num, rfl, HN2, Lib.hid (by rw [← HO2.out]; rfl)⟩
        case measure => omega
      | false =>
        go_wp2
        go_roundg (gk - 1)
        case rel => exact ⟨i + 1, false, by omega, rfl, by go_num, rfl, HN2, Lib.hid (by rw [← HO2.out]; rfl)⟩
        case measure => omega
    · have hlt' : ¬ (i : Int) < (s.size : Int) := by omega
      have e1 : s.data.toList.take i = s.data.toList := List.take_of_length_le (by rw [sz]; omega)
      rw [e1] at HN HO
      clear e1
      go_wp2_with fail
      clear hlt' hlt hig
      go_loopg [10, 11] (q + 1) (fun g v10 v11 wr => ∃ (i : Nat) (T : ByteArray), i + g = q + 1 ∧ v10 = .string T ∧ v11 = .int .i64 (i : Int) ∧ w1 = wr ∧ Hid (T.data.toList = List.replicate i 96) ∧ T.size ≤ i)
      case atStart => exact ⟨0, ⟨#[]⟩, by omega, rfl, rfl, rfl, Lib.hid rfl, by decide⟩
      case round =>
        obtain ⟨j, T, hjg, rfl, rfl, rfl, HT, sT⟩ := hrel
        have sT2 : (T.size : Int) ≤ 8 := by omega
        by_cases hjl : j ≤ q
        · have hjl' : (j : Int) ≤ (q : Int) := by omega
          obtain ⟨U, hU⟩ : ∃ U, T ++ (⟨#[96]⟩ : ByteArray) = U := ⟨_, rfl⟩
          have HU : Hid (U.data.toList = List.replicate (j + 1) 96 ∧ U.size ≤ j + 1) := Lib.hid (by
            rw [← hU, app_data, HT.out, app_size, List.replicate_succ']
            exact ⟨rfl, Nat.add_le_add_right sT 1⟩)
          go_wp2
          go_roundg (gk - 1)
          case rel => exact ⟨j + 1, U, by omega, rfl, by go_num, rfl, Lib.hid HU.out.1, HU.out.2⟩
          case measure => omega
        · have hjl' : ¬ (j : Int) ≤ (q : Int) := by omega
          have hjq : j = q + 1 := by omega
          rw [hjq] at HT
          have hTs : T.size = q + 1 := by rw [← sz, HT.out, List.length_replicate]
          obtain ⟨M, hM⟩ : ∃ M, s.size = M + 1 := ⟨s.size - 1, by omega⟩
          have hMs : M < s.size := by omega
          obtain ⟨x, hx⟩ : ∃ x, s[0] = x := ⟨_, rfl⟩
          obtain ⟨y, hy⟩ : ∃ y, s[M] = y := ⟨_, rfl⟩
          have hM2 : (s.size : Int) - 1 = (M : Int) := by omega
          have hM3 : (M : Int) < (s.size : Int) := by omega
          have hM4 : (M : Int) ≤ (s.size : Int) := by omega
          have ex : ((x.toNat : Int) == 32) = (x == 32) := eq_u8 x 32 (by decide)
          have ey : ((y.toNat : Int) == 32) = (y == 32) := eq_u8 y 32 (by decide)
          have HW := Lib.hid (content_ways hM (get_of h0 hx) (get_of hMs hy) HN.out)
          obtain ⟨J1, hJ1⟩ : ∃ J, T ++ s = J := ⟨_, rfl⟩
          obtain ⟨J2, hJ2⟩ : ∃ J, J1 ++ T = J := ⟨_, rfl⟩
          obtain ⟨J3, hJ3⟩ : ∃ J, J2 ++ (⟨#[120]⟩ : ByteArray) = J := ⟨_, rfl⟩
          obtain ⟨J4, hJ4⟩ : ∃ J, J3 ++ more = J := ⟨_, rfl⟩
          obtain ⟨J5, hJ5⟩ : ∃ J, J2 ++ (⟨#[96]⟩ : ByteArray) = J := ⟨_, rfl⟩
          obtain ⟨J6, hJ6⟩ : ∃ J, J5 ++ s = J := ⟨_, rfl⟩
          obtain ⟨J7, hJ7⟩ : ∃ J, J6 ++ T = J := ⟨_, rfl⟩
          have a1 : J1.size ≤ 600 := by rw [← hJ1, app_size]; omega
          have a2 : J2.size ≤ 700 := by rw [← hJ2, app_size]; omega
          have a3 : J3.size ≤ 800 := by rw [← hJ3, app_size, show (⟨#[120]⟩ : ByteArray).size = 1 from rfl]; omega
          have a4 : J4.size ≤ 1100 := by rw [← hJ4, app_size]; omega
          have a5 : J5.size ≤ 800 := by rw [← hJ5, app_size, show (⟨#[96]⟩ : ByteArray).size = 1 from rfl]; omega
          have a6 : J6.size ≤ 1400 := by rw [← hJ6, app_size]; omega
          have a7 : J7.size ≤ 1500 := by rw [← hJ7, app_size]; omega
          have hne : s.data.toList ≠ [] := by intro h; have := congrArg List.length h; rw [sz, List.length_nil] at this; omega
          have h96 : ∀ c ∈ s.data.toList, c ≠ 96 := fun c hc => (HN.out c hc).1
          have d4 : J4.data.toList = List.replicate (q + 1) 96 ++ (s.data.toList ++ (List.replicate (q + 1) 96 ++ 120 :: more.data.toList)) := by
            rw [← hJ4, app_data, ← hJ3, app_data, ← hJ2, app_data, ← hJ1, app_data, HT.out]
            simp
          have d5 : J5.data.toList = List.replicate (q + 1) 96 ++ (s.data.toList ++ (List.replicate (q + 1) 96 ++ [96])) := by
            rw [← hJ5, app_data, ← hJ2, app_data, ← hJ1, app_data, HT.out]
            simp
          have d7 : J7.data.toList = List.replicate (q + 1) 96 ++ (s.data.toList ++ (List.replicate (q + 1) 96 ++ 96 :: (s.data.toList ++ List.replicate (q + 1) 96))) := by
            rw [← hJ7, app_data, ← hJ6, app_data, ← hJ5, app_data, ← hJ2, app_data, ← hJ1, app_data, HT.out]
            simp
          obtain ⟨b, hb3, hbl⟩ := code3 (q := q) hne h96
          obtain ⟨C, hC⟩ := ba_mk b
          obtain ⟨N1, hN1⟩ : ∃ N, s.data.toList.length + 2 * (q + 1) = N := ⟨_, rfl⟩
          obtain ⟨N3, hN3⟩ : ∃ N, 2 * s.data.toList.length + 3 * (q + 1) + 1 = N := ⟨_, rfl⟩
          have F1 : Hid (∀ E : ByteArray, content s.data.toList = E.data.toList → Frm w 10 #[.string J4] (.tuple #[.string E, .int .i64 (N1 : Int)])) := Lib.hid (fun E hE => frm_code HLa.out (by omega) (by
            rw [d4, code1 hne h96]
            show Value.tuple #[.string ⟨(content s.data.toList).toArray⟩, .int .i64 ((s.data.toList.length + 2 * (q + 1) : Nat) : Int)] = _
            rw [hE, ba_self, hN1]))
          have F2 := Lib.hid (frm_code HLa.out (s := J5) (b := ⟨#[]⟩) (n := 0) (by omega) (by rw [d5, code2 hne h96]; rfl))
          have F3 := Lib.hid (frm_code HLa.out (s := J7) (b := C) (n := (N3 : Int)) (by omega) (by
            rw [d7, hb3]
            show Value.tuple #[.string ⟨b.toArray⟩, .int .i64 ((2 * s.data.toList.length + 3 * (q + 1) + 1 : Nat) : Int)] = _
            rw [hC, ba_self, hN3]))
          have k1 : ((N1 : Int) == (s.size : Int) + 2 * (T.size : Int)) = true := by
            rw [sz] at hN1
            rw [beq_iff_eq, hTs]; omega
          have k3 : ((N3 : Int) == 2 * (s.size : Int) + 3 * (T.size : Int) + 1) = true := by
            rw [sz] at hN3
            rw [beq_iff_eq, hTs]; omega
          have k2 : (s.size : Int) < (C.size : Int) := by
            have : s.size < C.size := by rw [← sz, ← sz, ← hC]; exact hbl
            omega
          have HE : Hid (o = !other s.data.toList) := HO
          clear hjg sT hne h96 d4 d5 d7 hb3 hbl hC hN1 hN3 hM hjq hjl HN HO HT hTs HLa
          rcases HW.out with ⟨w1', w2'⟩ | ⟨w1', w2', w3'⟩ | ⟨w1', w2', w3', w4'⟩ | ⟨w1', w2', w3', w5', w4'⟩
          · obtain rfl : o = true := by rw [HE.out, w1']; rfl
            have G1 := Lib.hid (F1.out s w2')
            clear w1' w2' HW
            go_wp2_with fail
            refine (G1.out _ HB1.out).mono ?_
            rintro e w2 ⟨rfl, hb2⟩
            go_wp2_with fail
            refine (F2.out _ hb2).mono ?_
            rintro e w3 ⟨rfl, hb3⟩
            go_wp2_with fail
            refine (F3.out _ hb3).mono ?_
            rintro e w4 ⟨rfl, hb4⟩
            go_wp2
            go_ret
            exact ⟨rfl, hb4⟩
          · obtain rfl : o = false := by rw [HE.out, w1']; rfl
            rw [w2'] at ex
            have G1 := Lib.hid (F1.out s w3')
            clear w1' w2' w3' HW
            go_wp2_with fail
            refine (G1.out _ HB1.out).mono ?_
            rintro e w2 ⟨rfl, hb2⟩
            go_wp2_with fail
            refine (F2.out _ hb2).mono ?_
            rintro e w3 ⟨rfl, hb3⟩
            go_wp2_with fail
            refine (F3.out _ hb3).mono ?_
            rintro e w4 ⟨rfl, hb4⟩
            go_wp2
            go_ret
            exact ⟨rfl, hb4⟩
          · obtain rfl : o = false := by rw [HE.out, w1']; rfl
            rw [w2'] at ex
            rw [w3'] at ey
            have G1 := Lib.hid (F1.out s w4')
            clear w1' w2' w3' w4' HW
            go_wp2_with fail
            refine (G1.out _ HB1.out).mono ?_
            rintro e w2 ⟨rfl, hb2⟩
            go_wp2_with fail
            refine (F2.out _ hb2).mono ?_
            rintro e w3 ⟨rfl, hb3⟩
            go_wp2_with fail
            refine (F3.out _ hb3).mono ?_
            rintro e w4 ⟨rfl, hb4⟩
            go_wp2
            go_ret
            exact ⟨rfl, hb4⟩
          · obtain rfl : o = false := by rw [HE.out, w1']; rfl
            rw [w2'] at ex
            rw [w3'] at ey
            have G1 := Lib.hid (F1.out (s.extract 1 M) w4')
            obtain ⟨E, hE⟩ : ∃ E, s.extract 1 M = E := ⟨_, rfl⟩
            rw [hE] at G1
            have hM1 : (1 : Int) ≤ (M : Int) := by omega
            clear w1' w2' w3' w4' HW
            go_wp2_with fail
            refine (G1.out _ HB1.out).mono ?_
            rintro e w2 ⟨rfl, hb2⟩
            go_wp2_with fail
            refine (F2.out _ hb2).mono ?_
            rintro e w3 ⟨rfl, hb3⟩
            go_wp2_with fail
            refine (F3.out _ hb3).mono ?_
            rintro e w4 ⟨rfl, hb4⟩
            go_wp2
            go_ret
            exact ⟨rfl, hb4⟩
end SpanCodes
end Go.Proofs.YtapibalcekedfaaGreatDoor
