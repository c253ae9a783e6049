/- Walks of layer 8, the ninth part: runs, ends, trim, Closes, Setext, Bullet, Rule. -/
import Derived.Test.YtnpaagglnfocpaaGreatDoorScH
import Derived.Test.YtnpaagglnfocpaaGreatDoorScPurB
namespace Go.Proofs.YtnpaagglnfocpaaGreatDoor
open Go Go.RowKit
namespace Sc
set_option maxRecDepth 100000
set_option linter.unusedVariables false
set_option linter.unusedSimpArgs false

theorem clone_any (s : ByteArray) (w : World) (hs : s.size ≤ 281474976710656) :
    Calls Tryz.prog 33 #[.string s] w fun e w' => e = .returned (.string s) ∧ Below w.heap.size w w' := by
  go_enter Tryz.func33, Tryz.ntmps33
  go_wp2_with (go_at_call 65; refine (Tryz.stringslite_Clone s w hs).mono ?_; rintro e w1 ⟨rfl, hb⟩)
  go_ret
  exact ⟨rfl, hb⟩
theorem ascii_cut (cs : List UInt8) (h : cs.all (fun c => decide (c.toNat < 128)) = true) : ∀ (j : Nat) b, cs[j]? = some b → b.toNat < 128 := by
  intro j b hb
  have := List.all_eq_true.1 h b (List.mem_of_getElem? hb)
  simpa using this
theorem trim_any (s : ByteArray) (w : World) (hs : s.size ≤ 1000000) :
    Calls Tryz.prog 35 #[.string s, .string ⟨#[32, 9]⟩] w fun e w' => e = .returned (.string ⟨(trimB s.data.toList).toArray⟩) ∧ Below w.heap.size w w' := by
  have := Tryz.strings_Trim_ascii s ⟨#[32, 9]⟩ w (by omega) (by decide) (ascii_cut [32, 9] (by decide))
  rw [lib_trimB] at this
  exact this
theorem trimr_any (s : ByteArray) (w : World) (hs : s.size ≤ 1000000) :
    Calls Tryz.prog 66 #[.string s, .string ⟨#[32, 9]⟩] w fun e w' => e = .returned (.string ⟨(trimR s.data.toList).toArray⟩) ∧ Below w.heap.size w w' := by
  have := Tryz.strings_TrimRight_ascii s ⟨#[32, 9]⟩ w (by omega) (by decide) (ascii_cut [32, 9] (by decide))
  rw [lib_trimR] at this
  exact this
theorem run_any (s : ByteArray) (c : UInt8) (w : World) (hs : s.size ≤ 1000000) :
    Calls Tryz.prog 31 #[.string s, .int .u8 (c.toNat : Int)] w fun e w' => e = .returned (.int .i64 (runN c s.data.toList : Nat)) ∧ w = w' := by
  go_enter Tryz.func31, Tryz.ntmps31
  go_wp2_with fail
  go_loopg [5] s.size (fun G v5 wr => ∃ m : Nat, m + G = s.size ∧ v5 = .int .i64 (m : Int) ∧ w = wr ∧ Hid (runN c s.data.toList = m + runN c (s.data.toList.drop m)))
  case atStart => exact ⟨0, by omega, rfl, rfl, Lib.hid (by simp)⟩
  case round =>
    obtain ⟨m, hm, rfl, rfl, HR⟩ := hrel
    by_cases hlt : m < s.size
    · obtain ⟨x, t, hd, hck, ht⟩ := cons_at hlt
      have hlt' : (m : Int) < (s.size : Int) := by omega
      by_cases hx : x = c
      · have he : ((x.toNat : Int) == (c.toNat : Int)) = true := by rw [hx]; simp
        have HY : Hid (runN c s.data.toList = (m + 1) + runN c (s.data.toList.drop (m + 1))) := Lib.hid (by rw [HR.out, hd, ht, hx, runN_hit]; omega)
        clear hd ht hx
        go_wp2
        go_roundg (gk - 1)
        case rel => exact ⟨m + 1, by omega, by go_num, rfl, HY⟩
        case measure => omega
      · have he : ((x.toNat : Int) == (c.toNat : Int)) = false := by
          rw [beq_eq_false_iff_ne]; intro e; exact hx (UInt8.toNat_inj.1 (Int.ofNat.inj e))
        have HN : Hid (runN c s.data.toList = m) := Lib.hid (by rw [HR.out, hd, runN_miss t hx]; rfl)
        clear hd ht hx
        go_wp2
        go_ret
        rw [HN.out]
        exact ⟨rfl, rfl⟩
    · have hlt' : ¬ (m : Int) < (s.size : Int) := by omega
      have HN : Hid (runN c s.data.toList = m) := Lib.hid (by rw [HR.out, drop_all (by omega), runN_nil]; rfl)
      go_wp2
      go_ret
      rw [HN.out]
      exact ⟨rfl, rfl⟩
theorem rrun_any (s : ByteArray) (c : UInt8) (w : World) (hs : s.size ≤ 1000000) :
    Calls Tryz.prog 36 #[.string s, .int .u8 (c.toNat : Int)] w fun e w' => e = .returned (.int .i64 (runN c s.data.toList : Nat)) ∧ w = w' := by
  go_enter Tryz.func36, Tryz.ntmps36
  go_wp2_with fail
  go_loopg [5] s.size (fun G v5 wr => ∃ m : Nat, m + G = s.size ∧ v5 = .int .i64 (m : Int) ∧ w = wr ∧ Hid (runN c s.data.toList = m + runN c (s.data.toList.drop m)))
  case atStart => exact ⟨0, by omega, rfl, rfl, Lib.hid (by simp)⟩
  case round =>
    obtain ⟨m, hm, rfl, rfl, HR⟩ := hrel
    by_cases hlt : m < s.size
    · obtain ⟨x, t, hd, hck, ht⟩ := cons_at hlt
      have hlt' : (m : Int) < (s.size : Int) := by omega
      by_cases hx : x = c
      · have he : ((x.toNat : Int) == (c.toNat : Int)) = true := by rw [hx]; simp
        have HY : Hid (runN c s.data.toList = (m + 1) + runN c (s.data.toList.drop (m + 1))) := Lib.hid (by rw [HR.out, hd, ht, hx, runN_hit]; omega)
        clear hd ht hx
        go_wp2
        go_roundg (gk - 1)
        case rel => exact ⟨m + 1, by omega, by go_num, rfl, HY⟩
        case measure => omega
      · have he : ((x.toNat : Int) == (c.toNat : Int)) = false := by
          rw [beq_eq_false_iff_ne]; intro e; exact hx (UInt8.toNat_inj.1 (Int.ofNat.inj e))
        have HN : Hid (runN c s.data.toList = m) := Lib.hid (by rw [HR.out, hd, runN_miss t hx]; rfl)
        clear hd ht hx
        go_wp2
        go_ret
        rw [HN.out]
        exact ⟨rfl, rfl⟩
    · have hlt' : ¬ (m : Int) < (s.size : Int) := by omega
      have HN : Hid (runN c s.data.toList = m) := Lib.hid (by rw [HR.out, drop_all (by omega), runN_nil]; rfl)
      go_wp2
      go_ret
      rw [HN.out]
      exact ⟨rfl, rfl⟩
theorem atEnd_any (s : ByteArray) (w : World) :
    Calls Tryz.prog 32 #[.string s] w fun e w' => e = .returned (.bool (atE s.data.toList)) ∧ w = w' := by
  by_cases h0 : 0 < s.size
  · obtain ⟨c, t, hd, hck, ht, hsz⟩ := cons_of h0
    have he := emp_false h0
    have hs0 : (0 : Int) < (s.size : Int) := by omega
    have HV : Hid (atE s.data.toList = blk c) := Lib.hid (by rw [hd]; rfl)
    have HB := Lib.hid (does_blank.2 c w)
    clear hd ht hsz
    go_enter Tryz.func32, Tryz.ntmps32
    go_wp2_with (first | (go_at_call 44; refine HB.out.mono ?_; rintro e w1 ⟨rfl, rfl⟩))
    go_ret
    exact ⟨ret_bool' HV.out.symm, rfl⟩
  · have hn := nil_of h0
    have he := emp_true hn
    have HV : Hid (atE s.data.toList = true) := Lib.hid (by rw [hn]; rfl)
    clear hn
    go_enter Tryz.func32, Tryz.ntmps32
    go_wp2
    go_ret
    exact ⟨ret_bool' HV.out.symm, rfl⟩
theorem rend_any (s : ByteArray) (w : World) :
    Calls Tryz.prog 37 #[.string s] w fun e w' => e = .returned (.bool (atE s.data.toList)) ∧ w = w' := by
  by_cases h0 : 0 < s.size
  · obtain ⟨c, t, hd, hck, ht, hsz⟩ := cons_of h0
    have he := emp_false h0
    have hs0 : (0 : Int) < (s.size : Int) := by omega
    have HV : Hid (atE s.data.toList = blk c) := Lib.hid (by rw [hd]; rfl)
    have HB := Lib.hid (does_rblank.2 c w)
    clear hd ht hsz
    go_enter Tryz.func37, Tryz.ntmps37
    go_wp2_with (first | (go_at_call 39; refine HB.out.mono ?_; rintro e w1 ⟨rfl, rfl⟩))
    go_ret
    exact ⟨ret_bool' HV.out.symm, rfl⟩
  · have hn := nil_of h0
    have he := emp_true hn
    have HV : Hid (atE s.data.toList = true) := Lib.hid (by rw [hn]; rfl)
    clear hn
    go_enter Tryz.func37, Tryz.ntmps37
    go_wp2
    go_ret
    exact ⟨ret_bool' HV.out.symm, rfl⟩
theorem mk_empty (l : List UInt8) : (⟨l.toArray⟩ : ByteArray).toList.isEmpty = l.isEmpty := by rw [toList_eq]
theorem only_any (s : ByteArray) (w : World) (hs : s.size ≤ 1000000) :
    Calls Tryz.prog 45 #[.string s] w fun e w' => e = .returned (.bool (s.data.toList.all blk)) ∧ Below w.heap.size w w' := by
  obtain ⟨T, hT⟩ := ba_mk (trimB s.data.toList)
  have HT := Lib.hid (trim_any s w hs)
  rw [hT, ba_self] at HT
  have HE : Hid (T.toList.isEmpty = s.data.toList.all blk) := Lib.hid (by rw [toList_eq, ← hT, trim_empty])
  clear hT
  go_enter Tryz.func45, Tryz.ntmps45
  go_wp2_with (first | (go_at_call 35; refine HT.out.mono ?_; rintro e w1 ⟨rfl, hb⟩))
  go_ret
  exact ⟨ret_bool' HE.out, hb⟩

theorem last_of {S : ByteArray} (h : 0 < S.size) : ∃ M c t, S.size = M + 1 ∧ S.data.toList = t ++ [c] ∧ (∃ h2 : M < S.size, S[M] = c) ∧ (S.extract 0 M).data.toList = t ∧ (S.extract 0 M).size = M := by
  obtain ⟨M, hM⟩ : ∃ M, S.size = M + 1 := ⟨S.size - 1, by omega⟩
  have hlt : M < S.size := by omega
  obtain ⟨c, t, hd, hck, ht⟩ := cons_at hlt
  have ht2 : t = [] := by
    rw [← ht]; exact drop_all (by omega)
  subst ht2
  refine ⟨M, c, S.data.toList.take M, hM, ?_, ⟨hlt, hck⟩, ext_to S _, by simp; omega⟩
  rw [← hd, List.take_append_drop]

set_option maxHeartbeats 2000000 in
theorem rtrim_any (s : ByteArray) (w : World) (hs : s.size ≤ 1000000) :
    Calls Tryz.prog 38 #[.string s] w fun e w' => e = .returned (.string ⟨(trimB s.data.toList).toArray⟩) ∧ w = w' := by
  have HW := Lib.hid does_rblank.2
  have HT : Hid (trimB s.data.toList = trimR (trimL s.data.toList)) := Lib.hid (trim_comm _).symm
  go_enter Tryz.func38, Tryz.ntmps38
  go_wp2_with fail
  go_loopg [0] s.size (fun G v0 wr => ∃ S : ByteArray, v0 = .string S ∧ w = wr ∧ Hid (S.size = G) ∧ Hid (trimL S.data.toList = trimL s.data.toList) ∧ Hid (S.size ≤ 1000000))
  case atStart => exact ⟨s, rfl, rfl, Lib.hid rfl, Lib.hid rfl, Lib.hid hs⟩
  case round =>
    obtain ⟨S, rfl, rfl, HS, HG, HL⟩ := hrel
    by_cases hgo : 0 < S.size ∧ ∃ c t, S.data.toList = c :: t ∧ blk c = true
    · obtain ⟨h0, c', t', hct, hbl⟩ := hgo
      obtain ⟨c, t, hd, hck, ht, hsz⟩ := cons_of h0
      obtain ⟨rfl, rfl⟩ : c' = c ∧ t' = t := by rw [hd] at hct; simp only [List.cons.injEq] at hct; exact ⟨hct.1.symm, hct.2.symm⟩
      have h0' : (0 : Int) < (S.size : Int) := by omega
      have h1' : (1 : Int) ≤ (S.size : Int) := by omega
      have HW2 := Lib.hid (HW.out c' w)
      have HT2 := Lib.hid ht
      have HZ := Lib.hid hsz
      have HG2 : Hid (trimL t' = trimL s.data.toList) := Lib.hid (by rw [← HG.out, hd]; simp [trimL, List.dropWhile, hbl])
      rw [hbl] at HW2
      clear hd ht hsz hbl hct
      go_wp2_with (first | (go_at_call 39; refine HW2.out.mono ?_; rintro e w' ⟨rfl, rfl⟩))
      go_roundg (gk - 1)
      case rel =>
        have := HZ.out
        have := HS.out
        have := HL.out
        exact ⟨_, rfl, rfl, Lib.hid (by omega), Lib.hid (by rw [HT2.out]; exact HG2.out), Lib.hid (by omega)⟩
      case measure => have := HS.out; omega
    · have HST : Hid (trimB s.data.toList = trimR S.data.toList) := Lib.hid (by
        rw [HT.out, ← HG.out]
        congr 1
        cases hl : S.data.toList with
        | nil => rfl
        | cons c t =>
          cases hb : blk c with
          | true => exact absurd ⟨by rw [← sz, hl]; simp, c, t, hl, hb⟩ hgo
          | false => simp [trimL, List.dropWhile, hb])
      have HX : Hid (¬ (0 : Int) < (S.size : Int) ∨ ∃ c : UInt8, (0 : Int) < (S.size : Int) ∧ blk c = false ∧ ∃ h : 0 < S.size, S[0] = c) := Lib.hid (by
        by_cases h0 : 0 < S.size
        · right
          obtain ⟨c, t, hd, hck, ht, hsz⟩ := cons_of h0
          refine ⟨c, by omega, ?_, h0, hck⟩
          cases hb : blk c with
          | true => exact absurd ⟨h0, c, t, hd, hb⟩ hgo
          | false => rfl
        · left; omega)
      clear hgo
      have HWc : Hid (∀ c : UInt8, blk c = false → Calls Tryz.prog 39 #[.int .u8 (c.toNat : Int)] w fun e w' => e = .returned (.bool false) ∧ w = w') := Lib.hid (fun c hc => by have := HW.out c w; rwa [hc] at this)
      rcases HX.out with hx | ⟨c, hx1, hx2, hx3, hx4⟩
      · go_wp2_with fail
        go_loopg [0] S.size (fun G v0 wr => ∃ U : ByteArray, v0 = .string U ∧ w = wr ∧ Hid (U.size = G) ∧ Hid (trimR U.data.toList = trimR S.data.toList) ∧ Hid (U.size ≤ 1000000))
        case atStart => exact ⟨S, rfl, rfl, Lib.hid rfl, Lib.hid rfl, HL⟩
        obtain ⟨U, rfl, rfl, HSU, HGU, HLU⟩ := hrel
        have hLU := HLU.out
        by_cases h0 : 0 < U.size
        · obtain ⟨M, c, t, hM, hd, ⟨hlt9, hck⟩, ht, hsz⟩ := last_of h0
          have h0' : (0 : Int) < (U.size : Int) := by omega
          have h1' : (1 : Int) ≤ (U.size : Int) := by omega
          have hM2 : (U.size : Int) - 1 = (M : Int) := by omega
          have hM3 : (M : Int) < (U.size : Int) := by omega
          have hM4 : (M : Int) ≤ (U.size : Int) := by omega
          have HW2 := Lib.hid (HW.out c w)
          have HT2 := Lib.hid ht
          have HZ := Lib.hid hsz
          have HM := Lib.hid hM
          cases hc : blk c with
          | true =>
            have HG2 : Hid (trimR t = trimR S.data.toList) := Lib.hid (by rw [← HGU.out, hd, trimR_snoc, hc, if_pos rfl])
            rw [hc] at HW2
            clear hd ht hsz hc hM
            go_wp2_with (first | (go_at_call 39; refine HW2.out.mono ?_; rintro e w' ⟨rfl, rfl⟩))
            go_roundg (gk - 1)
            case rel =>
              have := HZ.out
              have := HSU.out
              have := HLU.out
              have := HM.out
              exact ⟨_, rfl, rfl, Lib.hid (by omega), Lib.hid (by rw [HT2.out]; exact HG2.out), Lib.hid (by omega)⟩
            case measure => have := HSU.out; omega
          | false =>
            have HG2 : Hid (U = ⟨(trimB s.data.toList).toArray⟩) := Lib.hid (ba_eq (by rw [HST.out, ← HGU.out, hd, trimR_snoc, hc, if_neg (by simp)]))
            rw [hc] at HW2
            clear hd ht hsz hc hM
            go_wp2_with (first | (go_at_call 39; refine HW2.out.mono ?_; rintro e w' ⟨rfl, rfl⟩))
            go_ret
            exact ⟨ret_str HG2.out, rfl⟩
        · have HG2 : Hid (U = ⟨(trimB s.data.toList).toArray⟩) := Lib.hid (ba_eq (by rw [HST.out, ← HGU.out, nil_of h0]; rfl))
          have h0' : ¬ (0 : Int) < (U.size : Int) := by omega
          go_wp2
          go_ret
          exact ⟨ret_str HG2.out, rfl⟩
      · have HWc2 := Lib.hid (HWc.out c hx2)
        go_wp2_with (first | (go_at_call 39; refine HWc2.out.mono ?_; rintro e w' ⟨rfl, rfl⟩))
        clear hx4 hx1 hx3
        go_loopg [0] S.size (fun G v0 wr => ∃ U : ByteArray, v0 = .string U ∧ w = wr ∧ Hid (U.size = G) ∧ Hid (trimR U.data.toList = trimR S.data.toList) ∧ Hid (U.size ≤ 1000000))
        case atStart => exact ⟨S, rfl, rfl, Lib.hid rfl, Lib.hid rfl, HL⟩
        obtain ⟨U, rfl, rfl, HSU, HGU, HLU⟩ := hrel
        have hLU := HLU.out
        by_cases h0 : 0 < U.size
        · obtain ⟨M, c, t, hM, hd, ⟨hlt9, hck⟩, ht, hsz⟩ := last_of h0
          have h0' : (0 : Int) < (U.size : Int) := by omega
          have h1' : (1 : Int) ≤ (U.size : Int) := by omega
          have hM2 : (U.size : Int) - 1 = (M : Int) := by omega
          have hM3 : (M : Int) < (U.size : Int) := by omega
          have hM4 : (M : Int) ≤ (U.size : Int) := by omega
          have HW2 := Lib.hid (HW.out c w)
          have HT2 := Lib.hid ht
          have HZ := Lib.hid hsz
          have HM := Lib.hid hM
          cases hc : blk c with
          | true =>
            have HG2 : Hid (trimR t = trimR S.data.toList) := Lib.hid (by rw [← HGU.out, hd, trimR_snoc, hc, if_pos rfl])
            rw [hc] at HW2
            clear hd ht hsz hc hM
            go_wp2_with (first | (go_at_call 39; refine HW2.out.mono ?_; rintro e w' ⟨rfl, rfl⟩))
            go_roundg (gk - 1)
            case rel =>
              have := HZ.out
              have := HSU.out
              have := HLU.out
              have := HM.out
              exact ⟨_, rfl, rfl, Lib.hid (by omega), Lib.hid (by rw [HT2.out]; exact HG2.out), Lib.hid (by omega)⟩
            case measure => have := HSU.out; omega
          | false =>
            have HG2 : Hid (U = ⟨(trimB s.data.toList).toArray⟩) := Lib.hid (ba_eq (by rw [HST.out, ← HGU.out, hd, trimR_snoc, hc, if_neg (by simp)]))
            rw [hc] at HW2
            clear hd ht hsz hc hM
            go_wp2_with (first | (go_at_call 39; refine HW2.out.mono ?_; rintro e w' ⟨rfl, rfl⟩))
            go_ret
            exact ⟨ret_str HG2.out, rfl⟩
        · have HG2 : Hid (U = ⟨(trimB s.data.toList).toArray⟩) := Lib.hid (ba_eq (by rw [HST.out, ← HGU.out, nil_of h0]; rfl))
          have h0' : ¬ (0 : Int) < (U.size : Int) := by omega
          go_wp2
          go_ret
          exact ⟨ret_str HG2.out, rfl⟩
end Sc
end Go.Proofs.YtnpaagglnfocpaaGreatDoor
