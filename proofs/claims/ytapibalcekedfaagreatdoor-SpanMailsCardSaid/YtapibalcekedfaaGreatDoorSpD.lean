/- Walks of layer 12, the fourth part: the reference's mailboxes, and addresses. -/
import Derived.Test.YtapibalcekedfaaGreatDoorSpC
namespace Go.Proofs.YtapibalcekedfaaGreatDoor
open Go Go.RowKit
namespace Sp
open Sc
set_option maxRecDepth 100000
set_option linter.unusedVariables false
set_option linter.unusedSimpArgs false

theorem made_N (c : UInt8) : made signN c = (letU c || digU c || signN.contains c) := rfl
theorem made_D (c : UInt8) : made signD c = (letU c || digU c || c == 45) := eq_of_beq (all_u8 (p := fun c => made signD c == (letU c || digU c || c == 45)) (by decide +kernel) c)
theorem snocN {l : List UInt8} {k : Nat} {c : UInt8} (hc : l[k]? = some c) (p : UInt8 → Bool) : (l.take (k + 1)).all p = ((l.take k).all p && p c) := by
  rw [take_snoc hc, List.all_append]; simp
theorem takes_empty {l : List UInt8} {k : Nat} (h : 0 < k) (h2 : k ≤ l.length) : (l.take k).isEmpty = false := by
  cases hl : l.take k with
  | nil => have := congrArg List.length hl; rw [List.length_take, List.length_nil] at this; omega
  | cons _ _ => rfl

set_option maxHeartbeats 8000000 in
theorem rmail_any (s : ByteArray) (w : World) (hs : s.size ≤ 1000000) :
    Calls Tryz.prog 28 #[.string s] w fun e w' => e = .returned (.bool (mailP s.data.toList)) ∧ w = w' := by
  have hs' : (s.size : Int) ≤ 1000000 := by omega
  obtain ⟨B, hB⟩ : ∃ B : Bool, mailP s.data.toList = B := ⟨_, rfl⟩
  rw [hB]
  have HB : Hid (B = mailQ [] s.data.toList) := Lib.hid hB.symm
  have hl := sz s
  have HSZ := Lib.hid hl
  clear hB hl
  go_enter Tryz.func28, Tryz.ntmps28
  go_upto_block 0 with fail
  go_cut [3] (fun v3 wx => w = wx ∧ ∃ k : Nat, k ≤ s.size ∧ v3 = .int .i64 (k : Int) ∧ Hid (B = mailQ (s.data.toList.take k) (s.data.toList.drop k)) ∧ Hid ((s.data.toList.take k).all (made signN) = true) ∧ Hid (∀ h : k < s.size, s[k] = 64))
  case first =>
    go_wp2_with fail
    go_loopg [3] s.size (fun g v3 wr => ∃ k : Nat, k + g = s.size ∧ v3 = .int .i64 (k : Int) ∧ w = wr ∧ Hid (B = mailQ (s.data.toList.take k) (s.data.toList.drop k)) ∧ Hid ((s.data.toList.take k).all (made signN) = true))
    case atStart => exact ⟨0, by omega, rfl, rfl, Lib.hid (by rw [HB.out]; simp), Lib.hid rfl⟩
    case round =>
      obtain ⟨k, hkg, rfl, rfl, HR, HM⟩ := hrel
      by_cases hlt : k < s.size
      · obtain ⟨c, t, hd, hck, ht⟩ := cons_at hlt
        have hlt' : (k : Int) < (s.size : Int) := by omega
        have hget := get_of hlt hck
        by_cases h64 : c = 64
        · subst h64
          have HE : Hid (∀ h : k < s.size, s[k] = 64) := Lib.hid (fun _ => hck)
          clear hd ht hget
          go_wp2
          go_meet
          exact ⟨rfl, k, by omega, rfl, HR, HM, HE⟩
        · have e64 : ((c.toNat : Int) != 64) = true := u8_neq (n := 64) (by decide) h64
          have HX := Lib.hid (ext_one hlt hck)
          have HL := Lib.hid (rletU_any c w)
          have HG := Lib.hid (rdigU_any c w)
          have HW := Lib.hid (fun E (hE : E.data.toList = [c]) => withinN_any c E hE w)
          have HMC := Lib.hid (made_N c)
          have HY : Hid (B = mailQ (s.data.toList.take (k + 1)) (s.data.toList.drop (k + 1))) := Lib.hid (by rw [HR.out, hd, mailQ_step _ _ h64, take_snoc hget, ht])
          have HY2 : Hid (made signN c = true → (s.data.toList.take (k + 1)).all (made signN) = true) := Lib.hid (fun h => by rw [snocN hget, HM.out, h]; rfl)
          have HN : Hid (made signN c = false → B = false) := Lib.hid (fun h => by rw [HY.out]; exact mailQ_bad _ _ (by rw [snocN hget, h]; simp))
          have HW2 := Lib.hid (HW.out _ HX.out)
          clear hd ht hget h64 HW
          generalize letU c = l at *
          generalize digU c = d at *
          generalize signN.contains c = p at *
          rcases four l d p with rfl | ⟨rfl, rfl⟩ | ⟨rfl, rfl, rfl⟩ | ⟨rfl, rfl, rfl⟩
          case _ | _ | _ =>
            have HY3 := Lib.hid (HY2.out (by rw [HMC.out]; rfl))
            go_wp2_with (first | (go_at_call 35; refine HL.out.mono ?_; rintro e w' ⟨rfl, rfl⟩) | (go_at_call 48; refine HG.out.mono ?_; rintro e w' ⟨rfl, rfl⟩) | (go_at_call 49; refine HW2.out.mono ?_; rintro e w' ⟨rfl, rfl⟩))
            go_roundg (gk - 1)
            case rel => exact ⟨k + 1, by omega, by go_num, rfl, HY, HY3⟩
            case measure => omega
          case _ =>
            have HN2 := Lib.hid (HN.out (by rw [HMC.out]; rfl))
            go_wp2_with (first | (go_at_call 35; refine HL.out.mono ?_; rintro e w' ⟨rfl, rfl⟩) | (go_at_call 48; refine HG.out.mono ?_; rintro e w' ⟨rfl, rfl⟩) | (go_at_call 49; refine HW2.out.mono ?_; rintro e w' ⟨rfl, rfl⟩))
            go_ret
            rw [HN2.out]
            exact ⟨rfl, rfl⟩
      · have hlt' : ¬ (k : Int) < (s.size : Int) := by omega
        have HE : Hid (∀ h : k < s.size, s[k] = 64) := Lib.hid (fun h => absurd h hlt)
        go_wp2
        go_meet
        exact ⟨rfl, k, by omega, rfl, HR, HM, HE⟩
  case rest =>
    obtain ⟨rfl, k, hks, rfl, HR, HM, HE⟩ := hcut
    by_cases hk0 : k = 0
    · subst hk0
      have HN : Hid (B = false) := Lib.hid (by
        rw [HR.out]
        by_cases hlt : 0 < s.size
        · obtain ⟨c, t, hd, hck, ht⟩ := cons_at hlt
          rw [hd, ← hck, HE.out hlt, mailQ_hit]; rfl
        · rw [drop_all (by omega)]; rfl)
      go_wp2
      go_ret
      rw [HN.out]
      exact ⟨rfl, rfl⟩
    · have g0 : ((k : Int) == 0) = false := by simp; omega
      by_cases hlt : k < s.size
      · have g1 : ((k : Int) == (s.size : Int)) = false := by simp; omega
        have hkI : (k : Int) < (s.size : Int) := by omega
        have HT : Hid (B = hostP [] (s.data.toList.drop (k + 1))) := Lib.hid (by
          obtain ⟨c, t, hd, hck, ht⟩ := cons_at hlt
          rw [HR.out, hd, ← hck, HE.out hlt, mailQ_hit, HM.out, takes_empty (by omega) (by rw [sz]; omega), ht]; rfl)
        clear HR HM HE HB
        go_wp2_with fail
        go_loopg [4, 5] (s.size - k) (fun g v4 v5 wr => ∃ f i : Nat, i + g = s.size + 1 ∧ k + 1 ≤ f ∧ f ≤ i ∧ v4 = .int .i64 (f : Int) ∧ v5 = .int .i64 (i : Int) ∧ w = wr ∧ Hid (i ≤ s.size → B = hostP (seg s.data.toList f i) (s.data.toList.drop i) ∧ (seg s.data.toList f i).all (made signD) = true) ∧ Hid (i = s.size + 1 → B = true))
        case atStart => exact ⟨k + 1, k + 1, by omega, by omega, by omega, by go_num, by go_num, rfl, Lib.hid (fun _ => ⟨by rw [HT.out, seg_self], by rw [seg_self]; rfl⟩), Lib.hid (fun h => by omega)⟩
        case round =>
          obtain ⟨f, i, hig, hkf, hfi, rfl, rfl, rfl, HR, HTr⟩ := hrel
          by_cases hle : i ≤ s.size
          · have hle' : (i : Int) ≤ (s.size : Int) := by omega
            obtain ⟨hr1, hr2⟩ := HR.out hle
            have HR1 := Lib.hid hr1
            have HR2 := Lib.hid hr2
            clear hr1 hr2
            by_cases hin : i < s.size ∧ s.data.toList[i]? ≠ some 46
            · obtain ⟨hlti, hne⟩ := hin
              obtain ⟨c, t, hd, hck, ht⟩ := cons_at hlti
              have hlt2 : (i : Int) < (s.size : Int) := by omega
              have hget := get_of hlti hck
              have h46 : c ≠ 46 := fun e => hne (by rw [hget, e])
              have e46 : ((c.toNat : Int) != 46) = true := u8_neq (n := 46) (by decide) h46
              have e45 : ((c.toNat : Int) != 45) = !(c == 45) := by unfold bne; rw [show ((45 : Int)) = ((45 : Nat) : Int) from rfl, eq_u8 c 45 (by decide)]; rfl
              have HL := Lib.hid (rletU_any c w)
              have HG := Lib.hid (rdigU_any c w)
              have HMC := Lib.hid (made_D c)
              have HY : Hid (B = hostP (seg s.data.toList f (i + 1)) (s.data.toList.drop (i + 1))) := Lib.hid (by rw [HR1.out, hd, hostP_step _ _ h46, ← seg_snoc hfi hget, ht])
              have HY2 : Hid (made signD c = true → (seg s.data.toList f (i + 1)).all (made signD) = true) := Lib.hid (fun h => by rw [seg_snoc hfi hget, List.all_append, HR2.out, List.all_cons, h]; rfl)
              have HN : Hid (made signD c = false → B = false) := Lib.hid (fun h => by rw [HY.out]; exact hostP_bad _ _ (by rw [seg_snoc hfi hget, List.all_append, List.all_cons, h]; simp))
              clear hd ht hget h46 hne
              generalize letU c = l at *
              generalize digU c = d at *
              generalize (c == 45) = p at *
              rcases four l d p with rfl | ⟨rfl, rfl⟩ | ⟨rfl, rfl, rfl⟩ | ⟨rfl, rfl, rfl⟩
              case _ | _ | _ =>
                have HY3 := Lib.hid (HY2.out (by rw [HMC.out]; rfl))
                go_wp2_with (first | (go_at_call 35; refine HL.out.mono ?_; rintro e w' ⟨rfl, rfl⟩) | (go_at_call 48; refine HG.out.mono ?_; rintro e w' ⟨rfl, rfl⟩))
                go_roundg (gk - 1)
                case rel => exact ⟨f, i + 1, by omega, by omega, by omega, by go_num, by go_num, rfl, Lib.hid (fun _ => ⟨HY.out, HY3.out⟩), Lib.hid (fun h => by omega)⟩
                case measure => omega
              case _ =>
                have HN2 := Lib.hid (HN.out (by rw [HMC.out]; rfl))
                go_wp2_with (first | (go_at_call 35; refine HL.out.mono ?_; rintro e w' ⟨rfl, rfl⟩) | (go_at_call 48; refine HG.out.mono ?_; rintro e w' ⟨rfl, rfl⟩))
                go_ret
                rw [HN2.out]
                exact ⟨rfl, rfl⟩
            · -- a part is at its end
              have HP := Lib.hid (part_of HR2.out)
              have HLen : Hid ((seg s.data.toList f i).length = i - f) := Lib.hid (seg_len (by rw [sz]; omega))
              have HQ : Hid (partP (seg s.data.toList f i) = false → B = false) := Lib.hid (fun h => by
                rw [HR1.out]
                by_cases hlti : i < s.size
                · obtain ⟨c, t, hd, hck, ht⟩ := cons_at hlti
                  have hget := get_of hlti hck
                  have : s.data.toList[i]? = some 46 := Decidable.byContradiction (fun h => hin ⟨hlti, h⟩)
                  rw [hget] at this
                  obtain rfl := Option.some.inj this
                  rw [hd, hostP_dot, h]; rfl
                · rw [drop_all (by omega), hostP_nil, h])
              have HQ2 : Hid (partP (seg s.data.toList f i) = true → (i < s.size → B = hostP [] (s.data.toList.drop (i + 1))) ∧ (i = s.size → B = true)) := Lib.hid (fun h => by
                rw [HR1.out]
                refine ⟨fun hlti => ?_, fun he => ?_⟩
                · obtain ⟨c, t, hd, hck, ht⟩ := cons_at hlti
                  have hget := get_of hlti hck
                  have : s.data.toList[i]? = some 46 := Decidable.byContradiction (fun h => hin ⟨hlti, h⟩)
                  rw [hget] at this
                  obtain rfl := Option.some.inj this
                  rw [hd, hostP_dot, h, ht]; rfl
                · rw [drop_all (by omega), hostP_nil, h])
              have HI : Hid (((i : Int) < (s.size : Int) ∧ ∃ c : UInt8, (∃ h : i < s.size, s[i] = c) ∧ ((c.toNat : Int) != 46) = false) ∨ ¬ (i : Int) < (s.size : Int)) := Lib.hid (by
                by_cases hlti : i < s.size
                · left
                  obtain ⟨c, t, hd, hck, ht⟩ := cons_at hlti
                  have hget := get_of hlti hck
                  have : s.data.toList[i]? = some 46 := Decidable.byContradiction (fun h => hin ⟨hlti, h⟩)
                  rw [hget] at this
                  obtain rfl := Option.some.inj this
                  exact ⟨by omega, 46, ⟨hlti, hck⟩, by decide⟩
                · right; omega)
              clear hin
              by_cases hif : i = f
              · have HN : Hid (B = false) := Lib.hid (HQ.out (by rw [HP.out, hif, seg_self]; rfl))
                subst hif
                rcases HI.out with ⟨q1, c, ⟨q2, q3⟩, q4⟩ | q1
                all_goals
                · go_wp2
                  go_ret
                  rw [HN.out]
                  exact ⟨rfl, rfl⟩
              · have gif : ((i : Int) == (f : Int)) = false := by simp; omega
                have hfi2 : f < i := by omega
                obtain ⟨M, hM⟩ : ∃ M, i = M + 1 := ⟨i - 1, by omega⟩
                have hMs : M < s.size := by omega
                have hfs : f < s.size := by omega
                obtain ⟨x, tx, hdx, hxk, htx⟩ := cons_at hfs
                obtain ⟨y, ty, hdy, hyk, hty⟩ := cons_at hMs
                have HX := Lib.hid (seg_head hfi2 (get_of hfs hxk))
                have HYl : Hid ((seg s.data.toList f i).getLast? = some y) := Lib.hid (by rw [hM]; exact seg_last (by omega) (get_of hMs hyk))
                have hM2 : (i : Int) - 1 = (M : Int) := by omega
                have hM3 : (M : Int) < (s.size : Int) := by omega
                have hf3 : (f : Int) < (s.size : Int) := by omega
                have HMs := Lib.hid hM
                clear hdx htx hdy hty hM
                have HEm : Hid ((seg s.data.toList f i).isEmpty = false) := Lib.hid (by
                  have h1 := HLen.out
                  cases hseg : seg s.data.toList f i with
                  | nil => rw [hseg, List.length_nil] at h1; omega
                  | cons _ _ => rfl)
                by_cases h63 : i - f ≤ 63
                · have g63 : ¬ (63 : Int) < (i : Int) - (f : Int) := by omega
                  have HV : Hid (partP (seg s.data.toList f i) = (!(x == 45) && !(y == 45))) := Lib.hid (by
                    rw [HP.out, HEm.out, HLen.out, HX.out, HYl.out, decide_eq_true h63]
                    by_cases hx : x = 45 <;> by_cases hy : y = 45 <;> simp [hx, hy])
                  have ex : ((x.toNat : Int) == 45) = (x == 45) := eq_u8 x 45 (by decide)
                  have ey : ((y.toNat : Int) == 45) = (y == 45) := eq_u8 y 45 (by decide)
                  clear HX HYl HEm HP HR1 HR2 HR HTr
                  cases hx : (x == 45) with
                  | true =>
                    rw [hx] at ex HV
                    have HN : Hid (B = false) := Lib.hid (HQ.out (by rw [HV.out]; rfl))
                    clear hx ey
                    rcases HI.out with ⟨q1, c, ⟨q2, q3⟩, q4⟩ | q1
                    all_goals
                    · go_wp2
                      go_ret
                      rw [HN.out]
                      exact ⟨rfl, rfl⟩
                  | false =>
                    rw [hx] at ex HV
                    clear hx
                    cases hy : (y == 45) with
                    | true =>
                      rw [hy] at ey HV
                      have HN : Hid (B = false) := Lib.hid (HQ.out (by rw [HV.out]; rfl))
                      clear hy
                      rcases HI.out with ⟨q1, c, ⟨q2, q3⟩, q4⟩ | q1
                      all_goals
                      · go_wp2
                        go_ret
                        rw [HN.out]
                        exact ⟨rfl, rfl⟩
                    | false =>
                      rw [hy] at ey HV
                      have HN := Lib.hid (HQ2.out (by rw [HV.out]; rfl))
                      clear hy
                      rcases HI.out with ⟨q1, c, ⟨q2, q3⟩, q4⟩ | q1
                      all_goals
                      · go_wp2
                        go_roundg (gk - 1)
                        case rel => exact ⟨i + 1, i + 1, by omega, by omega, by omega, by go_num, by go_num, rfl, Lib.hid (fun h => ⟨by rw [seg_self]; exact HN.out.1 (by omega), by rw [seg_self]; rfl⟩), Lib.hid (fun h => HN.out.2 (by omega))⟩
                        case measure => omega
                · have g63 : (63 : Int) < (i : Int) - (f : Int) := by omega
                  have HN : Hid (B = false) := Lib.hid (HQ.out (by rw [HP.out, HLen.out, decide_eq_false h63]; simp))
                  rcases HI.out with ⟨q1, c, ⟨q2, q3⟩, q4⟩ | q1
                  all_goals
                  · go_wp2
                    go_ret
                    rw [HN.out]
                    exact ⟨rfl, rfl⟩
          · have hle' : ¬ (i : Int) ≤ (s.size : Int) := by omega
            have HN : Hid (B = true) := Lib.hid (HTr.out (by omega))
            go_wp2
            go_ret
            rw [HN.out]
            exact ⟨rfl, rfl⟩
      · have g1 : ((k : Int) == (s.size : Int)) = true := by simp; omega
        have HN : Hid (B = false) := Lib.hid (by rw [HR.out, drop_all (by omega)]; rfl)
        go_wp2
        go_ret
        rw [HN.out]
        exact ⟨rfl, rfl⟩
end Sp
end Go.Proofs.YtapibalcekedfaaGreatDoor
