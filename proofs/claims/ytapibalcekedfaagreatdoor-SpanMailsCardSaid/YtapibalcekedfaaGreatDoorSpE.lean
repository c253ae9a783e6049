/- Walks of layer 12, the fifth part: the reference's addresses, and HTML. -/
import Derived.Test.YtapibalcekedfaaGreatDoorSpD
namespace Go.Proofs.YtapibalcekedfaaGreatDoor
open Go Go.RowKit
namespace Sp
open Sc
set_option maxRecDepth 100000
set_option linter.unusedVariables false
set_option linter.unusedSimpArgs false

theorem retV {a b : Value} (h : a = b) : Ending.returned a = .returned b := by rw [h]
def mailto : List UInt8 := [109, 97, 105, 108, 116, 111, 58]
def autoA (m : Bool) (x : List UInt8) : List UInt8 := if m = true then mailto ++ x else x
/-- What Auto answers. -/
def autoV : Option (Bool × List UInt8) → Value
  | none => .tuple #[.string ⟨#[]⟩, .string ⟨#[]⟩, .int .i64 0]
  | some (m, x) => .tuple #[.string ⟨(autoA m x).toArray⟩, .string ⟨x.toArray⟩, .int .i64 ((x.length + 2 : Nat) : Int)]
theorem app_data (a b : ByteArray) : (a ++ b).data.toList = a.data.toList ++ b.data.toList := by
  rw [ByteArray.data_append, Array.toList_append]
theorem app_size (a b : ByteArray) : (a ++ b).size = a.size + b.size := by rw [← sz, ← sz, ← sz, app_data, List.length_append]
theorem ext_seg (s : ByteArray) (i : Nat) : (s.extract 1 i).data.toList = seg s.data.toList 1 i := by
  rw [Lib.extract_data]
  unfold seg
  rw [List.drop_take]
theorem seg_one {s : ByteArray} {i : Nat} {c x : UInt8} (h0 : 0 < s.size) (hc : s[0] = c) (hi : 1 ≤ i) (h : i < s.size) (hx : s[i] = x) : s.data.toList = c :: (seg s.data.toList 1 i ++ x :: s.data.toList.drop (i + 1)) := by
  obtain ⟨y, t, hd, hck, ht⟩ := cons_at h0
  obtain ⟨z, u, hd2, hck2, ht2⟩ := cons_at h
  rw [List.drop_zero] at hd
  rw [Nat.zero_add] at ht
  have e1 : y = c := hck.symm.trans hc
  have e2 : z = x := hck2.symm.trans hx
  subst e1 e2
  rw [ht2, ← hd2]
  unfold seg
  have h3 : (s.data.toList.take i).drop 1 ++ s.data.toList.drop i = s.data.toList.drop 1 := by
    have := List.take_append_drop i s.data.toList
    conv => rhs; rw [← this]
    rw [List.drop_append_of_le_length (by rw [List.length_take, sz]; omega)]
  rw [h3, ht]
  exact hd

set_option maxHeartbeats 4000000 in
theorem rauto_any (s : ByteArray) (w : World) (hs : s.size ≤ 1000000) :
    Calls Tryz.prog 13 #[.string s] w fun e w' => e = .returned (autoV (autoP s.data.toList)) ∧ w = w' := by
  have hs' : (s.size : Int) ≤ 1000000 := by omega
  obtain ⟨V, hV⟩ : ∃ V, autoV (autoP s.data.toList) = V := ⟨_, rfl⟩
  rw [hV]
  have HV := Lib.hid hV.symm
  clear hV
  by_cases h0 : 0 < s.size
  · have he := emp_f h0
    have h0' : (0 : Int) < (s.size : Int) := by omega
    obtain ⟨c, hc⟩ : ∃ c, s[0] = c := ⟨_, rfl⟩
    by_cases h60 : c = 60
    · subst h60
      have HC := Lib.hid hc
      have h1' : (1 : Int) ≤ (s.size : Int) := by omega
      go_enter Tryz.func13, Tryz.ntmps13
      go_wp2_with fail
      clear hc
      go_loopg [5] (s.size - 1) (fun g v5 wr => ∃ i : Nat, i + g = s.size ∧ 1 ≤ i ∧ v5 = .int .i64 (i : Int) ∧ w = wr ∧ Hid (∀ x ∈ seg s.data.toList 1 i, x ≠ 62))
      case atStart => exact ⟨1, by omega, by omega, rfl, rfl, Lib.hid (by rw [seg_self]; intro x hx; cases hx)⟩
      case round =>
        obtain ⟨i, hig, hi1, rfl, rfl, HR⟩ := hrel
        by_cases hlt : i < s.size
        · obtain ⟨x, hx⟩ : ∃ x, s[i] = x := ⟨_, rfl⟩
          have hlt' : (i : Int) < (s.size : Int) := by omega
          by_cases h62 : x = 62
          · subst h62
            have hi1' : (1 : Int) ≤ (i : Int) := by omega
            have hi2' : (i : Int) ≤ (s.size : Int) := by omega
            obtain ⟨T, hT⟩ : ∃ T, s.extract 1 i = T := ⟨_, rfl⟩
            have HTl : Hid (T.data.toList = seg s.data.toList 1 i) := Lib.hid (by rw [← hT, ext_seg])
            have hTs : T.size + 1 = i := by
              rw [← sz, HTl.out, seg_len (by rw [sz]; omega)]; omega
            have hTz : T.size ≤ 1000000 := by omega
            have HP : Hid (autoP s.data.toList = if (schP T.data.toList && T.data.toList.all inA) = true then some (false, T.data.toList) else if mailP T.data.toList = true then some (true, T.data.toList) else none) := Lib.hid (by
              rw [HTl.out]
              conv => lhs; rw [seg_one h0 HC.out hi1 hlt hx]
              exact auto_ref HR.out)
            have HA := Lib.hid (raddr_any T w hTz)
            have HM := Lib.hid (rmail_any T w hTz)
            have HI : Hid (((T.data.toList.length + 2 : Nat) : Int) = (i : Int) + 1) := Lib.hid (by rw [sz]; omega)
            have HTe : Hid ((⟨T.data.toList.toArray⟩ : ByteArray) = T) := Lib.hid (ba_self T)
            cases ha : (schP T.data.toList && T.data.toList.all inA) with
            | true =>
              have HVV : Hid (V = .tuple #[.string T, .string T, .int .i64 ((i : Int) + 1)]) := Lib.hid (by
                rw [HV.out, HP.out, ha, if_pos rfl]
                show Value.tuple #[.string ⟨T.data.toList.toArray⟩, .string ⟨T.data.toList.toArray⟩, .int .i64 ((T.data.toList.length + 2 : Nat) : Int)] = _
                rw [HTe.out, HI.out])
              rw [ha] at HA
              clear ha HP HTe HI HM HTl hTs hTz
              go_wp2_with (go_at_call 27; refine HA.out.mono ?_; rintro e w' ⟨rfl, rfl⟩)
              go_ret3
              exact ⟨retV HVV.out.symm, rfl⟩
            | false =>
              rw [ha] at HA HP
              rw [if_neg (by simp)] at HP
              clear ha
              cases hm : mailP T.data.toList with
              | true =>
                obtain ⟨J, hJ⟩ : ∃ J, (⟨#[109, 97, 105, 108, 116, 111, 58]⟩ : ByteArray) ++ T = J := ⟨_, rfl⟩
                have HVV : Hid (V = .tuple #[.string J, .string T, .int .i64 ((i : Int) + 1)]) := Lib.hid (by
                  rw [HV.out, HP.out, hm, if_pos rfl]
                  show Value.tuple #[.string ⟨(mailto ++ T.data.toList).toArray⟩, .string ⟨T.data.toList.toArray⟩, .int .i64 ((T.data.toList.length + 2 : Nat) : Int)] = _
                  have e : (⟨(mailto ++ T.data.toList).toArray⟩ : ByteArray) = J := (ba_eq (by rw [← hJ, app_data]; rfl)).symm
                  rw [HTe.out, HI.out, e])
                have sT : (T.size : Int) ≤ 1000000 := by omega
                have sJ : J.size = 7 + T.size := by rw [← hJ, app_size]; rfl
                rw [hm] at HM
                clear hm HP HTe HI HTl
                go_wp2_with (first | (go_at_call 27; refine HA.out.mono ?_; rintro e w' ⟨rfl, rfl⟩) | (go_at_call 28; refine HM.out.mono ?_; rintro e w' ⟨rfl, rfl⟩))
                go_ret3
                exact ⟨retV HVV.out.symm, rfl⟩
              | false =>
                have HVV : Hid (V = .tuple #[.string ⟨#[]⟩, .string ⟨#[]⟩, .int .i64 0]) := Lib.hid (by
                  rw [HV.out, HP.out, hm, if_neg (by simp)]; rfl)
                rw [hm] at HM
                clear hm HP HTe HI HTl
                go_wp2_with (first | (go_at_call 27; refine HA.out.mono ?_; rintro e w' ⟨rfl, rfl⟩) | (go_at_call 28; refine HM.out.mono ?_; rintro e w' ⟨rfl, rfl⟩))
                go_ret3
                exact ⟨retV HVV.out.symm, rfl⟩
          · have e62 : ((x.toNat : Int) != 62) = true := u8_neq (n := 62) (by decide) h62
            have HY : Hid (∀ y ∈ seg s.data.toList 1 (i + 1), y ≠ 62) := Lib.hid (by
              rw [seg_snoc hi1 (get_of hlt hx)]
              intro y hy
              rcases List.mem_append.1 hy with hy | hy
              · exact HR.out y hy
              · rw [List.mem_singleton.1 hy]; exact h62)
            clear h62
            go_wp2
            go_roundg (gk - 1)
            case rel => exact ⟨i + 1, by omega, by omega, by go_num, rfl, HY⟩
            case measure => omega
        · have hlt' : ¬ (i : Int) < (s.size : Int) := by omega
          have HVV : Hid (V = .tuple #[.string ⟨#[]⟩, .string ⟨#[]⟩, .int .i64 0]) := Lib.hid (by
            have hseg : seg s.data.toList 1 i = s.data.toList.drop 1 := by
              unfold seg; rw [List.take_of_length_le (by rw [sz]; omega)]
            have hd : s.data.toList = 60 :: s.data.toList.drop 1 := by
              obtain ⟨y, t, hd, hck, ht⟩ := cons_at h0
              rw [List.drop_zero] at hd
              rw [Nat.zero_add] at ht
              rw [ht, hd, ← hck, HC.out]
            have hno := HR.out
            rw [hseg] at hno
            rw [HV.out, hd, auto_none hno]; rfl)
          go_wp2
          go_ret3
          exact ⟨retV HVV.out.symm, rfl⟩
    · have e60 : ((c.toNat : Int) != 60) = true := u8_neq (n := 60) (by decide) h60
      have HVV : Hid (V = .tuple #[.string ⟨#[]⟩, .string ⟨#[]⟩, .int .i64 0]) := Lib.hid (by
        obtain ⟨y, t, hd, hck, ht⟩ := cons_at h0
        rw [List.drop_zero] at hd
        rw [HV.out, autoP_no]
        · rfl
        · rw [hd]
          simp only [List.head?_cons, ne_eq, Option.some.injEq]
          rw [← hck, hc]; exact h60)
      clear h60
      go_enter Tryz.func13, Tryz.ntmps13
      go_wp2
      go_ret3
      exact ⟨retV HVV.out.symm, rfl⟩
  · have he := emp_t (nil_ofS h0)
    have HVV : Hid (V = .tuple #[.string ⟨#[]⟩, .string ⟨#[]⟩, .int .i64 0]) := Lib.hid (by rw [HV.out, nil_ofS h0]; rfl)
    go_enter Tryz.func13, Tryz.ntmps13
    go_wp2
    go_ret3
    exact ⟨retV HVV.out.symm, rfl⟩

/-! ### HTML -/
set_option maxHeartbeats 2000000 in
theorem rupTo_any (s b e : ByteArray) (w : World) (hs : s.size ≤ 1000000) (hb : b.size ≤ 1000) (he : e.size ≤ 1000) (he0 : 0 < e.size) :
    Calls Tryz.prog 34 #[.string s, .string b, .string e] w fun r w' => r = .returned (.int .i64 (upToP s.data.toList b.size e.data.toList : Nat)) ∧ w = w' := by
  have hs' : (s.size : Int) ≤ 1000000 := by omega
  have hb' : (b.size : Int) ≤ 1000 := by omega
  have he' : (e.size : Int) ≤ 1000 := by omega
  obtain ⟨R, hR⟩ : ∃ R, upToP s.data.toList b.size e.data.toList = R := ⟨_, rfl⟩
  rw [hR]
  have HR0 := Lib.hid hR.symm
  have he2 : e.data.toList ≠ [] := by intro h; have := congrArg List.length h; rw [sz, List.length_nil] at this; omega
  have HE2 := Lib.hid he2
  clear hR he2
  go_enter Tryz.func34, Tryz.ntmps34
  go_wp2_with fail
  go_loopg [7] (s.size + 1) (fun G v7 wr => ∃ i : Nat, s.size + b.size + 1 ≤ i + G + b.size ∧ i ≤ s.size + b.size ∧ v7 = .int .i64 (i : Int) ∧ w = wr ∧ Hid (R = upToP s.data.toList i e.data.toList))
  case atStart => exact ⟨b.size, by omega, by omega, rfl, rfl, HR0⟩
  case round =>
    obtain ⟨i, hig, hib, rfl, rfl, HR⟩ := hrel
    have hib' : (i : Int) ≤ (s.size : Int) + (b.size : Int) := by omega
    by_cases hle : i + e.size ≤ s.size
    · have hle' : (i : Int) + (e.size : Int) ≤ (s.size : Int) := by omega
      have hlt : i < s.size := by omega
      obtain ⟨c, d, hd, hck, hdt⟩ := cons_at hlt
      obtain ⟨E, hE⟩ : ∃ E : ByteArray, s.extract i (i + e.size) = E := ⟨_, rfl⟩
      have hEl : E.toList = (s.data.toList.drop i).take e.size := by
        rw [toList_eq, ← hE, Lib.extract_data]
        congr 1
        omega
      have HP : Hid ((E.toList == e.toList) = e.data.toList.isPrefixOf (c :: d)) := Lib.hid (by
        rw [hEl, toList_eq, ← hd]
        rw [Bool.eq_iff_iff, beq_iff_eq, List.isPrefixOf_iff_prefix, List.prefix_iff_eq_take, sz]
        exact eq_comm)
      have HD : Hid (s.data.toList.drop i = c :: d ∧ s.data.toList.drop (i + 1) = d) := Lib.hid ⟨hd, hdt⟩
      clear hd hdt hEl
      cases heq : (E.toList == e.toList) with
      | true =>
        have HV : Hid (((R : Nat) : Int) = (i : Int) + (e.size : Int)) := Lib.hid (by
          rw [HR.out]
          unfold upToP
          rw [HD.out.1, idx_cons, if_pos (by rw [← HP.out, heq])]
          simp only
          rw [sz]; omega)
        go_wp2
        go_ret
        rw [HV.out]
        exact ⟨rfl, rfl⟩
      | false =>
        have HV : Hid (R = upToP s.data.toList (i + 1) e.data.toList) := Lib.hid (by
          rw [HR.out]
          unfold upToP
          rw [HD.out.1, HD.out.2, idx_cons, if_neg (by rw [← HP.out, heq]; simp)]
          cases idx e.data.toList d with
          | none => rfl
          | some k => simp only [Option.map_some]; omega)
        go_wp2
        go_roundg (gk - 1)
        case rel => exact ⟨i + 1, by omega, by omega, by go_num, rfl, HV⟩
        case measure => omega
    · have hle' : (s.size : Int) < (i : Int) + (e.size : Int) := by omega
      have HV : Hid (R = 0) := Lib.hid (by
        rw [HR.out]
        unfold upToP
        rw [idx_short (by rw [List.length_drop, sz, sz]; omega)])
      go_wp2
      go_ret
      rw [HV.out]
      exact ⟨rfl, rfl⟩

/-- What HTML a text begins with, by the tests' answers. -/
def rawX (n : Nat) (p1 p2 p3 p4 p5 p6 : Bool) (u1 u2 u3 u4 : Nat) : Nat :=
  if 0 < n then n else if p1 = true then 5 else if p2 = true then 6 else if p3 = true then u1 else if p4 = true then u2 else if p5 = true then u3 else if p6 = true then u4 else 0
theorem raw_x (l : List UInt8) : rawP l = rawX (tagN l) (Lib.hasPrefix l [60, 33, 45, 45, 62]) (Lib.hasPrefix l [60, 33, 45, 45, 45, 62]) (Lib.hasPrefix l [60, 33, 45, 45]) (Lib.hasPrefix l [60, 63]) (Lib.hasPrefix l [60, 33] && isLet l[2]?) (Lib.hasPrefix l pC) (upToP l 4 [45, 45, 62]) (upToP l 2 [63, 62]) (upToP l 2 [62]) (upToP l 9 [93, 93, 62]) := by
  unfold rawP rawX
  simp only [Bool.and_eq_true]
theorem let_62 (c : UInt8) (h : letU c = true) : c ≠ 62 := by rintro rfl; rw [show letU 62 = false by decide] at h; cases h
/-- The reference's test of a declaration. -/
theorem decl_ref (l : List UInt8) : (Lib.hasPrefix l [60, 33] && isLet l[2]?) = (decide (2 < l.length) && decide (l[0]? = some 60) && decide (l[1]? = some 33) && isLet l[2]?) := by
  cases l with
  | nil => rfl
  | cons a t =>
    cases t with
    | nil => simp [isLet]
    | cons b u =>
      cases u with
      | nil => simp [isLet]
      | cons d v =>
        simp only [Lib.hasPrefix, List.isPrefixOf, List.length_cons, List.getElem?_cons_zero, List.getElem?_cons_succ, Option.some.injEq, Bool.and_true]
        rw [decide_eq_true (by omega : 2 < v.length + 1 + 1 + 1), Bool.true_and]
        congr 1
        rw [Bool.eq_iff_iff]
        simp only [Bool.and_eq_true, beq_iff_eq, decide_eq_true_eq]
        exact ⟨fun h => ⟨h.1.symm, h.2.symm⟩, fun h => ⟨h.1.symm, h.2.symm⟩⟩

set_option maxHeartbeats 8000000 in
theorem rraw_any (s : ByteArray) (w : World) (hs : s.size ≤ 1000000) :
    Calls Tryz.prog 15 #[.string s] w fun e w' => e = .returned (.int .i64 (rawP s.data.toList : Nat)) ∧ Below w.heap.size w w' := by
  have hs' : (s.size : Int) ≤ 1000000 := by omega
  obtain ⟨R, hR⟩ : ∃ R, rawP s.data.toList = R := ⟨_, rfl⟩
  rw [hR]
  rw [raw_x, show pC = [60, 33, 91, 67, 68, 65, 84, 65, 91] from rfl] at hR
  have HT := Lib.hid (rtag_any s w hs)
  have HP1 := Lib.hid (fun w => begins_any s ⟨#[60, 33, 45, 45, 62]⟩ w hs (by decide))
  have HP2 := Lib.hid (fun w => begins_any s ⟨#[60, 33, 45, 45, 45, 62]⟩ w hs (by decide))
  have HP3 := Lib.hid (fun w => begins_any s ⟨#[60, 33, 45, 45]⟩ w hs (by decide))
  have HP4 := Lib.hid (fun w => begins_any s ⟨#[60, 63]⟩ w hs (by decide))
  have HP6 := Lib.hid (fun w => begins_any s ⟨#[60, 33, 91, 67, 68, 65, 84, 65, 91]⟩ w hs (by decide))
  have HU1 := Lib.hid (fun w => rupTo_any s ⟨#[60, 33, 45, 45]⟩ ⟨#[45, 45, 62]⟩ w hs (by decide) (by decide) (by decide))
  have HU2 := Lib.hid (fun w => rupTo_any s ⟨#[60, 63]⟩ ⟨#[63, 62]⟩ w hs (by decide) (by decide) (by decide))
  have HU3 := Lib.hid (fun w => rupTo_any s ⟨#[60, 33, 120]⟩ ⟨#[62]⟩ w hs (by decide) (by decide) (by decide))
  have HU4 := Lib.hid (fun w => rupTo_any s ⟨#[60, 33, 91, 67, 68, 65, 84, 65, 91]⟩ ⟨#[93, 93, 62]⟩ w hs (by decide) (by decide) (by decide))
  simp only [show (⟨#[60, 33, 45, 45, 62]⟩ : ByteArray).data.toList = [60, 33, 45, 45, 62] from rfl, show (⟨#[60, 33, 45, 45, 45, 62]⟩ : ByteArray).data.toList = [60, 33, 45, 45, 45, 62] from rfl, show (⟨#[60, 33, 45, 45]⟩ : ByteArray).data.toList = [60, 33, 45, 45] from rfl, show (⟨#[60, 63]⟩ : ByteArray).data.toList = [60, 63] from rfl, show (⟨#[60, 33, 91, 67, 68, 65, 84, 65, 91]⟩ : ByteArray).data.toList = [60, 33, 91, 67, 68, 65, 84, 65, 91] from rfl, show (⟨#[45, 45, 62]⟩ : ByteArray).data.toList = [45, 45, 62] from rfl, show (⟨#[63, 62]⟩ : ByteArray).data.toList = [63, 62] from rfl, show (⟨#[62]⟩ : ByteArray).data.toList = [62] from rfl, show (⟨#[93, 93, 62]⟩ : ByteArray).data.toList = [93, 93, 62] from rfl, show (⟨#[60, 33, 45, 45]⟩ : ByteArray).size = 4 from rfl, show (⟨#[60, 63]⟩ : ByteArray).size = 2 from rfl, show (⟨#[60, 33, 120]⟩ : ByteArray).size = 3 from rfl, show (⟨#[60, 33, 91, 67, 68, 65, 84, 65, 91]⟩ : ByteArray).size = 9 from rfl] at HP1 HP2 HP3 HP4 HP6 HU1 HU2 HU3 HU4
  have HD := Lib.hid (decl_ref s.data.toList)
  have H2 : Hid (isLet s.data.toList[2]? = true → upToP s.data.toList 2 [62] = upToP s.data.toList 3 [62]) := Lib.hid (fun h => by
    cases hc : s.data.toList[2]? with
    | none => rw [hc] at h; cases h
    | some c => rw [hc] at h; exact upTo_next hc (let_62 c h) [])
  obtain ⟨p5, hp5⟩ : ∃ p5, (Lib.hasPrefix s.data.toList [60, 33] && isLet s.data.toList[2]?) = p5 := ⟨_, rfl⟩
  rw [hp5] at HD hR
  have HP5 := Lib.hid hp5
  have HR := Lib.hid hR.symm
  clear hp5 hR
  generalize tagN s.data.toList = n at *
  generalize Lib.hasPrefix s.data.toList [60, 33, 45, 45, 62] = p1 at *
  generalize Lib.hasPrefix s.data.toList [60, 33, 45, 45, 45, 62] = p2 at *
  generalize Lib.hasPrefix s.data.toList [60, 33, 45, 45] = p3 at *
  generalize Lib.hasPrefix s.data.toList [60, 63] = p4 at *
  generalize Lib.hasPrefix s.data.toList [60, 33, 91, 67, 68, 65, 84, 65, 91] = p6 at *
  generalize upToP s.data.toList 4 [45, 45, 62] = u1 at *
  generalize upToP s.data.toList 2 [63, 62] = u2 at *
  generalize upToP s.data.toList 2 [62] = u3 at *
  generalize upToP s.data.toList 3 [62] = u3' at *
  generalize upToP s.data.toList 9 [93, 93, 62] = u4 at *
  by_cases hn : 0 < n
  · have hn' : (0 : Int) < (n : Int) := by omega
    have HV : Hid (R = n) := Lib.hid (by rw [HR.out]; unfold rawX; rw [if_pos hn])
    go_enter Tryz.func15, Tryz.ntmps15
    go_wp2_with fail
    refine HT.out.mono ?_
    rintro e w1 ⟨rfl, hb1⟩
    go_wp2
    go_ret
    rw [HV.out]
    exact ⟨rfl, hb1⟩
  · have hn' : ¬ (0 : Int) < (n : Int) := by omega
    have hn0 : n = 0 := by omega
    subst hn0
    cases p1 with
    | true =>
      have HV : Hid (R = 5) := Lib.hid HR.out
      go_enter Tryz.func15, Tryz.ntmps15
      go_wp2_with fail
      refine HT.out.mono ?_
      rintro e w1 ⟨rfl, hb1⟩
      go_wp2_with fail
      refine (HP1.out _).mono ?_
      rintro e w1 ⟨rfl, rfl⟩
      go_wp2
      go_ret
      rw [HV.out]
      exact ⟨rfl, hb1⟩
    | false =>
    cases p2 with
    | true =>
      have HV : Hid (R = 6) := Lib.hid HR.out
      go_enter Tryz.func15, Tryz.ntmps15
      go_wp2_with fail
      refine HT.out.mono ?_
      rintro e w1 ⟨rfl, hb1⟩
      go_wp2_with fail
      refine (HP1.out _).mono ?_
      rintro e w1 ⟨rfl, rfl⟩
      go_wp2_with fail
      refine (HP2.out _).mono ?_
      rintro e w1 ⟨rfl, rfl⟩
      go_wp2
      go_ret
      rw [HV.out]
      exact ⟨rfl, hb1⟩
    | false =>
    cases p3 with
    | true =>
      have HV : Hid (R = u1) := Lib.hid HR.out
      go_enter Tryz.func15, Tryz.ntmps15
      go_wp2_with fail
      refine HT.out.mono ?_
      rintro e w1 ⟨rfl, hb1⟩
      go_wp2_with fail
      refine (HP1.out _).mono ?_
      rintro e w1 ⟨rfl, rfl⟩
      go_wp2_with fail
      refine (HP2.out _).mono ?_
      rintro e w1 ⟨rfl, rfl⟩
      go_wp2_with fail
      refine (HP3.out _).mono ?_
      rintro e w1 ⟨rfl, rfl⟩
      go_wp2_with fail
      refine (HU1.out _).mono ?_
      rintro e w1 ⟨rfl, rfl⟩
      go_wp2
      go_ret
      rw [HV.out]
      exact ⟨rfl, hb1⟩
    | false =>
    cases p4 with
    | true =>
      have HV : Hid (R = u2) := Lib.hid HR.out
      go_enter Tryz.func15, Tryz.ntmps15
      go_wp2_with fail
      refine HT.out.mono ?_
      rintro e w1 ⟨rfl, hb1⟩
      go_wp2_with fail
      refine (HP1.out _).mono ?_
      rintro e w1 ⟨rfl, rfl⟩
      go_wp2_with fail
      refine (HP2.out _).mono ?_
      rintro e w1 ⟨rfl, rfl⟩
      go_wp2_with fail
      refine (HP3.out _).mono ?_
      rintro e w1 ⟨rfl, rfl⟩
      go_wp2_with fail
      refine (HP4.out _).mono ?_
      rintro e w1 ⟨rfl, rfl⟩
      go_wp2_with fail
      refine (HU2.out _).mono ?_
      rintro e w1 ⟨rfl, rfl⟩
      go_wp2
      go_ret
      rw [HV.out]
      exact ⟨rfl, hb1⟩
    | false =>
    have HA : Hid ((¬ (2 : Int) < (s.size : Int) ∧ p5 = false) ∨ ((2 : Int) < (s.size : Int) ∧ (1 : Int) < (s.size : Int) ∧ (0 : Int) < (s.size : Int) ∧ ∃ a b c : UInt8, (∃ h : 0 < s.size, s[0] = a) ∧ (∃ h : 1 < s.size, s[1] = b) ∧ (∃ h : 2 < s.size, s[2] = c) ∧ p5 = (((a.toNat : Int) == 60) && ((b.toNat : Int) == 33) && letU c) ∧ isLet s.data.toList[2]? = letU c)) := Lib.hid (by
      by_cases h2 : 2 < s.size
      · right
        obtain ⟨a, ha⟩ : ∃ a, s[0] = a := ⟨_, rfl⟩
        obtain ⟨b, hb⟩ : ∃ b, s[1] = b := ⟨_, rfl⟩
        obtain ⟨c, hc⟩ : ∃ c, s[2] = c := ⟨_, rfl⟩
        have ga := get_of (by omega) ha
        have gb := get_of (by omega) hb
        have gc := get_of h2 hc
        refine ⟨by omega, by omega, by omega, a, b, c, ⟨by omega, ha⟩, ⟨by omega, hb⟩, ⟨h2, hc⟩, ?_, by rw [gc]; rfl⟩
        have ea : ((a.toNat : Int) == 60) = (a == 60) := eq_u8 a 60 (by decide)
        have eb : ((b.toNat : Int) == 33) = (b == 33) := eq_u8 b 33 (by decide)
        rw [HD.out, ga, gb, gc, sz, decide_eq_true h2, ea, eb]
        simp only [Option.some.injEq, Bool.true_and]
        rfl
      · left
        refine ⟨by omega, ?_⟩
        rw [HD.out, sz, decide_eq_false h2]; rfl)
    clear HD
    rcases HA.out with ⟨h2, rfl⟩ | ⟨h2, h1, h0, a, b, c, ⟨g0, ha⟩, ⟨g1, hb⟩, ⟨g2, hc⟩, hp5, hl⟩
    · clear HA H2 HP5
      cases p6 with
      | true =>
        have HV : Hid (R = u4) := Lib.hid HR.out
        go_enter Tryz.func15, Tryz.ntmps15
        go_wp2_with fail
        refine HT.out.mono ?_
        rintro e w1 ⟨rfl, hb1⟩
        go_wp2_with fail
        refine (HP1.out _).mono ?_
        rintro e w1 ⟨rfl, rfl⟩
        go_wp2_with fail
        refine (HP2.out _).mono ?_
        rintro e w1 ⟨rfl, rfl⟩
        go_wp2_with fail
        refine (HP3.out _).mono ?_
        rintro e w1 ⟨rfl, rfl⟩
        go_wp2_with fail
        refine (HP4.out _).mono ?_
        rintro e w1 ⟨rfl, rfl⟩
        go_wp2_with fail
        refine (HP6.out _).mono ?_
        rintro e w1 ⟨rfl, rfl⟩
        go_wp2_with fail
        refine (HU4.out _).mono ?_
        rintro e w1 ⟨rfl, rfl⟩
        go_wp2
        go_ret
        rw [HV.out]
        exact ⟨rfl, hb1⟩
      | false =>
        have HV : Hid (R = 0) := Lib.hid HR.out
        go_enter Tryz.func15, Tryz.ntmps15
        go_wp2_with fail
        refine HT.out.mono ?_
        rintro e w1 ⟨rfl, hb1⟩
        go_wp2_with fail
        refine (HP1.out _).mono ?_
        rintro e w1 ⟨rfl, rfl⟩
        go_wp2_with fail
        refine (HP2.out _).mono ?_
        rintro e w1 ⟨rfl, rfl⟩
        go_wp2_with fail
        refine (HP3.out _).mono ?_
        rintro e w1 ⟨rfl, rfl⟩
        go_wp2_with fail
        refine (HP4.out _).mono ?_
        rintro e w1 ⟨rfl, rfl⟩
        go_wp2_with fail
        refine (HP6.out _).mono ?_
        rintro e w1 ⟨rfl, rfl⟩
        go_wp2
        go_ret
        rw [HV.out]
        exact ⟨rfl, hb1⟩
    · have HL := Lib.hid (fun w => rletU_any c w)
      have HLL := Lib.hid hl
      clear HA hl
      generalize letU c = l at *
      cases ea : ((a.toNat : Int) == 60) with
      | false =>
        rw [ea] at hp5
        obtain rfl : p5 = false := hp5
        cases p6 with
        | true =>
          have HV : Hid (R = u4) := Lib.hid HR.out
          go_enter Tryz.func15, Tryz.ntmps15
          go_wp2_with fail
          refine HT.out.mono ?_
          rintro e w1 ⟨rfl, hb1⟩
          go_wp2_with fail
          refine (HP1.out _).mono ?_
          rintro e w1 ⟨rfl, rfl⟩
          go_wp2_with fail
          refine (HP2.out _).mono ?_
          rintro e w1 ⟨rfl, rfl⟩
          go_wp2_with fail
          refine (HP3.out _).mono ?_
          rintro e w1 ⟨rfl, rfl⟩
          go_wp2_with fail
          refine (HP4.out _).mono ?_
          rintro e w1 ⟨rfl, rfl⟩
          go_wp2_with fail
          refine (HP6.out _).mono ?_
          rintro e w1 ⟨rfl, rfl⟩
          go_wp2_with fail
          refine (HU4.out _).mono ?_
          rintro e w1 ⟨rfl, rfl⟩
          go_wp2
          go_ret
          rw [HV.out]
          exact ⟨rfl, hb1⟩
        | false =>
          have HV : Hid (R = 0) := Lib.hid HR.out
          go_enter Tryz.func15, Tryz.ntmps15
          go_wp2_with fail
          refine HT.out.mono ?_
          rintro e w1 ⟨rfl, hb1⟩
          go_wp2_with fail
          refine (HP1.out _).mono ?_
          rintro e w1 ⟨rfl, rfl⟩
          go_wp2_with fail
          refine (HP2.out _).mono ?_
          rintro e w1 ⟨rfl, rfl⟩
          go_wp2_with fail
          refine (HP3.out _).mono ?_
          rintro e w1 ⟨rfl, rfl⟩
          go_wp2_with fail
          refine (HP4.out _).mono ?_
          rintro e w1 ⟨rfl, rfl⟩
          go_wp2_with fail
          refine (HP6.out _).mono ?_
          rintro e w1 ⟨rfl, rfl⟩
          go_wp2
          go_ret
          rw [HV.out]
          exact ⟨rfl, hb1⟩
      | true =>
      cases eb : ((b.toNat : Int) == 33) with
      | false =>
        rw [ea, eb] at hp5
        obtain rfl : p5 = false := hp5
        cases p6 with
        | true =>
          have HV : Hid (R = u4) := Lib.hid HR.out
          go_enter Tryz.func15, Tryz.ntmps15
          go_wp2_with fail
          refine HT.out.mono ?_
          rintro e w1 ⟨rfl, hb1⟩
          go_wp2_with fail
          refine (HP1.out _).mono ?_
          rintro e w1 ⟨rfl, rfl⟩
          go_wp2_with fail
          refine (HP2.out _).mono ?_
          rintro e w1 ⟨rfl, rfl⟩
          go_wp2_with fail
          refine (HP3.out _).mono ?_
          rintro e w1 ⟨rfl, rfl⟩
          go_wp2_with fail
          refine (HP4.out _).mono ?_
          rintro e w1 ⟨rfl, rfl⟩
          go_wp2_with fail
          refine (HP6.out _).mono ?_
          rintro e w1 ⟨rfl, rfl⟩
          go_wp2_with fail
          refine (HU4.out _).mono ?_
          rintro e w1 ⟨rfl, rfl⟩
          go_wp2
          go_ret
          rw [HV.out]
          exact ⟨rfl, hb1⟩
        | false =>
          have HV : Hid (R = 0) := Lib.hid HR.out
          go_enter Tryz.func15, Tryz.ntmps15
          go_wp2_with fail
          refine HT.out.mono ?_
          rintro e w1 ⟨rfl, hb1⟩
          go_wp2_with fail
          refine (HP1.out _).mono ?_
          rintro e w1 ⟨rfl, rfl⟩
          go_wp2_with fail
          refine (HP2.out _).mono ?_
          rintro e w1 ⟨rfl, rfl⟩
          go_wp2_with fail
          refine (HP3.out _).mono ?_
          rintro e w1 ⟨rfl, rfl⟩
          go_wp2_with fail
          refine (HP4.out _).mono ?_
          rintro e w1 ⟨rfl, rfl⟩
          go_wp2_with fail
          refine (HP6.out _).mono ?_
          rintro e w1 ⟨rfl, rfl⟩
          go_wp2
          go_ret
          rw [HV.out]
          exact ⟨rfl, hb1⟩
      | true =>
      rw [ea, eb] at hp5
      cases l with
      | false =>
        obtain rfl : p5 = false := hp5
        cases p6 with
        | true =>
          have HV : Hid (R = u4) := Lib.hid HR.out
          go_enter Tryz.func15, Tryz.ntmps15
          go_wp2_with fail
          refine HT.out.mono ?_
          rintro e w1 ⟨rfl, hb1⟩
          go_wp2_with fail
          refine (HP1.out _).mono ?_
          rintro e w1 ⟨rfl, rfl⟩
          go_wp2_with fail
          refine (HP2.out _).mono ?_
          rintro e w1 ⟨rfl, rfl⟩
          go_wp2_with fail
          refine (HP3.out _).mono ?_
          rintro e w1 ⟨rfl, rfl⟩
          go_wp2_with fail
          refine (HP4.out _).mono ?_
          rintro e w1 ⟨rfl, rfl⟩
          go_wp2_with fail
          refine (HL.out _).mono ?_
          rintro e w1 ⟨rfl, rfl⟩
          go_wp2_with fail
          refine (HP6.out _).mono ?_
          rintro e w1 ⟨rfl, rfl⟩
          go_wp2_with fail
          refine (HU4.out _).mono ?_
          rintro e w1 ⟨rfl, rfl⟩
          go_wp2
          go_ret
          rw [HV.out]
          exact ⟨rfl, hb1⟩
        | false =>
          have HV : Hid (R = 0) := Lib.hid HR.out
          go_enter Tryz.func15, Tryz.ntmps15
          go_wp2_with fail
          refine HT.out.mono ?_
          rintro e w1 ⟨rfl, hb1⟩
          go_wp2_with fail
          refine (HP1.out _).mono ?_
          rintro e w1 ⟨rfl, rfl⟩
          go_wp2_with fail
          refine (HP2.out _).mono ?_
          rintro e w1 ⟨rfl, rfl⟩
          go_wp2_with fail
          refine (HP3.out _).mono ?_
          rintro e w1 ⟨rfl, rfl⟩
          go_wp2_with fail
          refine (HP4.out _).mono ?_
          rintro e w1 ⟨rfl, rfl⟩
          go_wp2_with fail
          refine (HL.out _).mono ?_
          rintro e w1 ⟨rfl, rfl⟩
          go_wp2_with fail
          refine (HP6.out _).mono ?_
          rintro e w1 ⟨rfl, rfl⟩
          go_wp2
          go_ret
          rw [HV.out]
          exact ⟨rfl, hb1⟩
      | true =>
        obtain rfl : p5 = true := hp5
        have HV : Hid (R = u3') := Lib.hid (HR.out.trans (H2.out HLL.out))
        go_enter Tryz.func15, Tryz.ntmps15
        go_wp2_with fail
        refine HT.out.mono ?_
        rintro e w1 ⟨rfl, hb1⟩
        go_wp2_with fail
        refine (HP1.out _).mono ?_
        rintro e w1 ⟨rfl, rfl⟩
        go_wp2_with fail
        refine (HP2.out _).mono ?_
        rintro e w1 ⟨rfl, rfl⟩
        go_wp2_with fail
        refine (HP3.out _).mono ?_
        rintro e w1 ⟨rfl, rfl⟩
        go_wp2_with fail
        refine (HP4.out _).mono ?_
        rintro e w1 ⟨rfl, rfl⟩
        go_wp2_with fail
        refine (HL.out _).mono ?_
        rintro e w1 ⟨rfl, rfl⟩
        go_wp2_with fail
        refine (HU3.out _).mono ?_
        rintro e w1 ⟨rfl, rfl⟩
        go_wp2
        go_ret
        rw [HV.out]
        exact ⟨rfl, hb1⟩
end Sp
end Go.Proofs.YtapibalcekedfaaGreatDoor
