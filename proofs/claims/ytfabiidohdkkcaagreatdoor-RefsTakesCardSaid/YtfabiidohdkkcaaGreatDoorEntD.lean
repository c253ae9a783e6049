/- Walks of layer 4, the fourth part: readName. -/
import Derived.Test.YtfabiidohdkkcaaGreatDoorEntC
import Derived.Deep.CutBlock
import Derived.Laws.DeepStrings4
namespace Go.Proofs.YtfabiidohdkkcaaGreatDoor
open Go Go.RowKit
namespace En
set_option maxRecDepth 100000
set_option linter.unusedVariables false
set_option linter.unusedSimpArgs false

/-- What the reading of a reference answers. -/
def resV : Option (Int × Nat) → Value
  | some (c, n) => .tuple #[.string (Utf8.encode c), .int .i64 (n : Int)]
  | none => .tuple #[.string ⟨#[]⟩, .int .i64 0]

theorem alN_s {c : UInt8} {t : List UInt8} (h : isAl c = true) : alN (c :: t) = alN t + 1 := by simp [alN, h]
theorem alN_z {c : UInt8} {t : List UInt8} (h : isAl c = false) : alN (c :: t) = 0 := by simp [alN, h]
theorem alN_all {l : List UInt8} {k : Nat} (h : l.length ≤ k) : alN (l.drop k) = 0 := by rw [List.drop_eq_nil_of_le h]; rfl
/-- What the loop keeps. -/
def NRel (l : List UInt8) (k : Nat) : Prop := alN (l.drop 1) + 1 = k + alN (l.drop k)
theorem nrel_step {l : List UInt8} {k : Nat} {c : UInt8} {t : List UInt8} (h : NRel l k) (hd : l.drop k = c :: t) (ht : l.drop (k + 1) = t) (hc : isAl c = true) : NRel l (k + 1) := by
  unfold NRel at *
  rw [h, hd, alN_s hc, ht]
  omega
theorem nrel_stop {l : List UInt8} {k : Nat} {c : UInt8} {t : List UInt8} (h : NRel l k) (hd : l.drop k = c :: t) (hc : isAl c = false) : k = alN (l.drop 1) + 1 := by
  unfold NRel at *
  rw [h, hd, alN_z hc]
  omega
theorem nrel_end {l : List UInt8} {k : Nat} (h : NRel l k) (hk : l.length ≤ k) : k = alN (l.drop 1) + 1 := by
  unfold NRel at *
  rw [h, alN_all hk]
  omega

theorem int_eq {a b : Nat} (h : a = b) : (Value.int .i64 (a : Int)) = .int .i64 (b : Int) := by rw [h]

theorem nameG_no {L : List UInt8} (h : L[alN L]? ≠ some 59) : nameG L = none := by unfold nameG; rw [if_neg h]
theorem nameG_yes {L : List UInt8} (h : L[alN L]? = some 59) : nameG L = (namedF rowsT (L.take (alN L))).map (fun c => (c, alN L + 2)) := by unfold nameG; rw [if_pos h]

set_option maxHeartbeats 4000000 in
theorem readName_any (s : ByteArray) (w : World) (hs : s.size ≤ 1000000) (h1 : 1 ≤ s.size) :
    Calls Tryz.prog 111 #[.string s, .int .i64 1] w fun e w' => e = .returned (resV (nameG (s.data.toList.drop 1))) ∧ Below w.heap.size w w' := by
  obtain ⟨E, hE⟩ : ∃ E, alN (s.data.toList.drop 1) + 1 = E := ⟨_, rfl⟩
  have HE := Lib.hid hE
  have hE1 : 1 ≤ E := by omega
  have hE2 : E ≤ s.size := by
    have := alN_le (s.data.toList.drop 1)
    rw [List.length_drop, sz] at this
    omega
  clear hE
  go_enter Tryz.func111, Tryz.ntmps111
  go_upto_block 0 with fail
  go_cut [6] (fun v6 wx => v6 = .int .i64 (E : Int) ∧ w = wx)
  case first =>
    go_wp2_with fail
    go_loop [6] (fun v6 => ∃ k : Nat, 1 ≤ k ∧ k ≤ s.size ∧ v6 = .int .i64 (k : Int) ∧ Hid (NRel s.data.toList k)) (fun v6 => s.size - (intOf v6).toNat)
    case atStart => exact ⟨1, by omega, by omega, rfl, Lib.hid (by unfold NRel; omega)⟩
    case round =>
      obtain ⟨k, hk1, hk2, rfl, HR⟩ := hrel
      by_cases hlt : k < s.size
      · obtain ⟨c, t, hd, hck, ht⟩ := cons_at hlt
        have HL := Lib.hid (letter_any (c.toNat : Int) w)
        have HG := Lib.hid (digit_any (c.toNat : Int) w)
        have HD := Lib.hid hd
        have HT := Lib.hid ht
        clear hd ht
        cases hl : lett (c.toNat : Int) with
        | true =>
          have HS := Lib.hid (nrel_step HR.out HD.out HT.out (show isAl c = true by unfold isAl; rw [hl]; rfl))
          rw [hl] at HL
          clear hl
          go_wp2_with (first | (go_at_call 126; refine HL.out.mono ?_; rintro e w' ⟨rfl, rfl⟩))
          go_round
          case rel => exact ⟨k + 1, by omega, by omega, by go_num, HS⟩
          case measure => simp [intOf]; omega
        | false =>
          cases hg : digi (c.toNat : Int) with
          | true =>
            have HS := Lib.hid (nrel_step HR.out HD.out HT.out (show isAl c = true by unfold isAl; rw [hl, hg]; rfl))
            rw [hl] at HL
            rw [hg] at HG
            clear hl hg
            go_wp2_with (first | (go_at_call 126; refine HL.out.mono ?_; rintro e w' ⟨rfl, rfl⟩) | (go_at_call 127; refine HG.out.mono ?_; rintro e w' ⟨rfl, rfl⟩))
            go_round
            case rel => exact ⟨k + 1, by omega, by omega, by go_num, HS⟩
            case measure => simp [intOf]; omega
          | false =>
            have HS := Lib.hid (nrel_stop HR.out HD.out (show isAl c = false by unfold isAl; rw [hl, hg]; rfl))
            rw [hl] at HL
            rw [hg] at HG
            clear hl hg
            go_wp2_with (first | (go_at_call 126; refine HL.out.mono ?_; rintro e w' ⟨rfl, rfl⟩) | (go_at_call 127; refine HG.out.mono ?_; rintro e w' ⟨rfl, rfl⟩))
            go_meet
            exact ⟨int_eq (by rw [HS.out, HE.out]), rfl⟩
      · have HS := Lib.hid (nrel_end HR.out (by rw [sz]; omega))
        go_wp2
        go_meet
        exact ⟨int_eq (by rw [HS.out, HE.out]), rfl⟩
  case rest =>
    obtain ⟨rfl, rfl⟩ := hcut
    have HC := Lib.hid (closed_any s E w (by omega) (by omega))
    cases hsb : semiB s.data.toList E with
    | false =>
      have HV : Hid (nameG (s.data.toList.drop 1) = none) := Lib.hid (nameG_no (by
        unfold semiB at hsb
        rw [List.getElem?_drop, show 1 + alN (s.data.toList.drop 1) = E by have := HE.out; omega]
        exact of_decide_eq_false hsb))
      rw [hsb] at HC
      clear hsb
      go_wp2_with (first | (go_at_call 124; refine HC.out.mono ?_; rintro e w' ⟨rfl, rfl⟩))
      go_ret2
      exact ⟨ret_val (by rw [HV.out]; rfl), Below.refl _ _⟩
    | true =>
      have hES : E < s.size := by
        unfold semiB at hsb
        have := of_decide_eq_true hsb
        have := (List.getElem?_eq_some_iff.1 this).1
        rw [sz] at this
        exact this
      have HV : Hid (nameG (s.data.toList.drop 1) = (namedF rowsT ((s.data.toList.drop 1).take (E - 1))).map (fun c => (c, E + 1))) := Lib.hid (by
        have h2 : alN (s.data.toList.drop 1) = E - 1 := by have := HE.out; omega
        rw [nameG_yes (by
          unfold semiB at hsb
          rw [List.getElem?_drop, show 1 + alN (s.data.toList.drop 1) = E by omega]
          exact of_decide_eq_true hsb), h2, show E - 1 + 2 = E + 1 by omega])
      have HN := Lib.hid (named_any (s.extract 1 E) w)
      have HX : Hid ((s.extract 1 E).data.toList = (s.data.toList.drop 1).take (E - 1)) := Lib.hid (Lib.extract_data s 1 E)
      rw [HX.out] at HN
      rw [hsb] at HC
      generalize (s.data.toList.drop 1).take (E - 1) = n at *
      have hE1' : (1 : Int) ≤ (E : Int) := by omega
      have hE2' : (E : Int) ≤ (s.size : Int) := by omega
      clear hsb
      cases hn : namedF rowsT n with
      | none =>
        rw [namedV_none hn] at HN
        rw [hn] at HV
        clear hn
        go_wp2_with (first | (go_at_call 124; refine HC.out.mono ?_; rintro e w' ⟨rfl, rfl⟩) | (go_at_call 128; refine HN.out.mono ?_; rintro e w' ⟨rfl, hb⟩))
        go_ret2
        exact ⟨ret_val (by rw [HV.out]; rfl), hb⟩
      | some c =>
        rw [namedV_some hn] at HN
        rw [hn] at HV
        clear hn
        go_wp2_with (first | (go_at_call 124; refine HC.out.mono ?_; rintro e w' ⟨rfl, rfl⟩) | (go_at_call 128; refine HN.out.mono ?_; rintro e w' ⟨rfl, hb⟩))
        go_ret2
        exact ⟨ret_val (by rw [HV.out]; rfl), hb⟩
end En
end Go.Proofs.YtfabiidohdkkcaaGreatDoor
