import Derived.Test.YtkiipaaaakhhfaaGreatDoorCEnt1
section
namespace Go.Proofs.YtkiipaaaakhhfaaGreatDoor
open Go Go.RowKit
namespace En
set_option maxRecDepth 100000
set_option linter.unusedVariables false
set_option linter.unusedSimpArgs false
theorem dgt_nn (b : Int) : 0 ≤ dgt b := by
 unfold dgt digi
 split
 ·rename_i h; simp at h; omega
 ·split
  ·omega
  ·split <;> omega
theorem valN_snoc (base : Int) (l : List UInt8) (c : UInt8) : valN base (l ++ [c]) = valN base l * base + dg c := by
 unfold valN
 rw [List.foldl_append]
 rfl
theorem valN_bound (base : Int) (hb : 2 ≤ base) : ∀ (l : List UInt8), (∀ c ∈ l, dg c < base) → 0 ≤ valN base l ∧ valN base l + 1 ≤ base ^ l.length := by
 intro l
 obtain ⟨n, hn⟩ : ∃ n, l.length = n := ⟨_, rfl⟩
 induction n generalizing l with
 | zero =>
  intro _
  rw [List.length_eq_zero_iff.1 hn]
  simp [valN]
 | succ n ih =>
  intro h
  rcases List.eq_nil_or_concat l with rfl | ⟨l, c, rfl⟩
  ·simp at hn
  rw [List.concat_eq_append] at hn h ⊢
  obtain ⟨h1, h2⟩ := ih l (by simp at hn; omega) (fun x hx => h x (by simp [hx]))
  have h3 := h c (by simp)
  have h4 : 0 ≤ dg c := dgt_nn _
  rw [valN_snoc, List.length_append, List.length_singleton, Int.pow_succ]
  have h5 : 0 ≤ valN base l * base := Int.mul_nonneg h1 (by omega)
  have h6 : (valN base l + 1) * base ≤ base ^ l.length * base := Int.mul_le_mul_of_nonneg_right h2 (by omega)
  rw [Int.add_mul] at h6
  omega
theorem pow_mono {b : Int} (hb : 1 ≤ b) : ∀ (k a : Nat), b ^ a ≤ b ^ (a + k)
 | 0, a => Int.le_refl _
 | k + 1, a => by
  have ih := pow_mono hb k a
  have hp : 0 ≤ b ^ (a + k) := Int.pow_nonneg (by omega)
  have := Int.mul_le_mul_of_nonneg_left hb hp
  rw [← Nat.add_assoc, Int.pow_succ]
  omega
def MRel (base : Int) (most st : Nat) (l : List UInt8) (e : Nat) (v : Int) : Prop :=
 runN base most (l.drop st) = (e - st) + runN base (most - (e - st)) (l.drop e) ∧ v = valN base ((l.drop st).take (e - st)) ∧ ∀ c ∈ (l.drop st).take (e - st), dg c < base
theorem mrel_start (base : Int) (most st : Nat) (l : List UInt8) : MRel base most st l st 0 := by
 unfold MRel
 rw [Nat.sub_self]
 simp [valN]
theorem mrel_bound {base : Int} {most st : Nat} {l : List UInt8} {e : Nat} {v : Int} (hb : 2 ≤ base) (h : MRel base most st l e v) (m : Nat) (hm : e - st ≤ m) : 0 ≤ v ∧ v + 1 ≤ base ^ m := by
 obtain ⟨_, h2, h3⟩ := h
 obtain ⟨b1, b2⟩ := valN_bound base hb _ h3
 rw [← h2] at b1 b2
 refine ⟨b1, Int.le_trans b2 ?_⟩
 have hl : ((l.drop st).take (e - st)).length ≤ m := by rw [List.length_take]; omega
 have := pow_mono (b := base) (by omega) (m - ((l.drop st).take (e - st)).length) ((l.drop st).take (e - st)).length
 rwa [Nat.add_sub_cancel' hl] at this
theorem mrel_step {base : Int} {most st : Nat} {l : List UInt8} {e : Nat} {v : Int} {c : UInt8} {t : List UInt8} (h : MRel base most st l e v) (hst : st ≤ e) (hm : e - st < most)
  (hd : l.drop e = c :: t) (ht : l.drop (e + 1) = t) (hc : dg c < base) : MRel base most st l (e + 1) (v * base + dg c) := by
 obtain ⟨h1, h2, h3⟩ := h
 have hget : (l.drop st)[e - st]? = some c := by
  rw [List.getElem?_drop, show st + (e - st) = e by omega]
  have := congrArg (fun x => x[0]?) hd
  simpa using this
 obtain ⟨hlt, hge⟩ := List.getElem?_eq_some_iff.1 hget
 have htk : (l.drop st).take (e + 1 - st) = (l.drop st).take (e - st) ++ [c] := by
  rw [show e + 1 - st = (e - st) + 1 by omega, List.take_succ_eq_append_getElem hlt, hge]
 refine ⟨?_, ?_, ?_⟩
 ·obtain ⟨m, hmm⟩ : ∃ m, most - (e - st) = m + 1 := ⟨most - (e - st) - 1, by omega⟩
  rw [h1, hd, hmm, ht, show most - (e + 1 - st) = m by omega]
  simp only [runN, if_pos hc]
  omega
 ·rw [htk, valN_snoc, ← h2]
 ·rw [htk]
  intro x hx
  rcases List.mem_append.1 hx with hx | hx
  ·exact h3 x hx
  ·simp at hx; subst hx; exact hc
theorem mrel_end {base : Int} {most st : Nat} {l : List UInt8} {e : Nat} {v : Int} (h : MRel base most st l e v) (hst : st ≤ e)
  (h0 : runN base (most - (e - st)) (l.drop e) = 0) : e = st + runN base most (l.drop st) ∧ v = valN base ((l.drop st).take (runN base most (l.drop st))) := by
 obtain ⟨h1, h2, h3⟩ := h
 rw [h0, Nat.add_zero] at h1
 rw [h1]
 exact ⟨by omega, h2⟩
theorem runN_stop {base : Int} {m : Nat} {c : UInt8} {t : List UInt8} (h : ¬ dg c < base) : runN base m (c :: t) = 0 := by
 cases m with
 | zero => rfl
 | succ n => simp [runN, h]
theorem runN_nil {base : Int} {m : Nat} {l : List UInt8} {k : Nat} (h : l.length ≤ k) : runN base m (l.drop k) = 0 := by
 rw [List.drop_eq_nil_of_le h]
 cases m <;> rfl
theorem i32_eq {a b : Int} (h : a = b) : (Value.int .i32 a) = .int .i32 b := by rw [h]
set_option maxHeartbeats 4000000 in
theorem readNumber_10 (s : ByteArray) (w : World) (hs : s.size ≤ 1000000) (h1 : 2 ≤ s.size) :
  Calls Tryz.prog 169 #[.string s, .int .i64 2, .int .i32 10, .int .i64 7] w fun e w' => e = .returned (resV (numG 10 7 (s.data.toList.drop 2) 2)) ∧ w = w' := by
 obtain ⟨K, hK⟩ : ∃ K, runN 10 7 (s.data.toList.drop 2) = K := ⟨_, rfl⟩
 obtain ⟨V, hV⟩ : ∃ V, valN 10 ((s.data.toList.drop 2).take K) = V := ⟨_, rfl⟩
 obtain ⟨E, hE⟩ : ∃ E, 2 + K = E := ⟨_, rfl⟩
 have HK := Lib.hid hK
 have HVV := Lib.hid hV
 have HE := Lib.hid hE
 have hE1 : 2 ≤ E := by omega
 have hE2 : E ≤ s.size := by
  have := (runN_le 10 7 (s.data.toList.drop 2)).2
  rw [List.length_drop, sz] at this
  omega
 have hV0 : 0 ≤ V := by
  rw [← hV]
  exact (valN_bound 10 (by decide) _ (by rw [← hK]; exact runN_take 10 7 _)).1
 clear hK hV hE
 go_enter Tryz.func169, Tryz.ntmps169
 go_upto_block 0 with fail
 go_cut [10, 11] (fun v10 v11 wx => v10 = .int .i64 (E : Int) ∧ v11 = .int .i32 V ∧ w = wx)
 case first =>
  go_wp2_with fail
  go_loop [10, 11] (fun v10 v11 => ∃ (e : Nat) (v : Int), 2 ≤ e ∧ e ≤ s.size ∧ e - 2 ≤ 7 ∧ v10 = .int .i64 (e : Int) ∧ v11 = .int .i32 v ∧ Hid (MRel 10 7 2 s.data.toList e v)) (fun v10 _ => s.size - (intOf v10).toNat)
  case atStart => exact ⟨2, 0, by omega, by omega, by omega, rfl, rfl, Lib.hid (mrel_start _ _ _ _)⟩
  case round =>
   obtain ⟨e, v, he1, he2, he3, rfl, rfl, HR⟩ := hrel
   by_cases hlt : e < s.size
   ·by_cases hm : e - 2 < 7
    ·obtain ⟨c, t, hd, hck, ht⟩ := cons_at hlt
     have hc255 : (c.toNat : Int) ≤ 255 := by have := UInt8.toNat_lt c; omega
     have hc0 : 0 ≤ (c.toNat : Int) := by omega
     have HG := Lib.hid (dgt_any (c.toNat : Int) w hc0 hc255)
     have HD := Lib.hid hd
     have HT := Lib.hid ht
     obtain ⟨d, hdd⟩ : ∃ d, dgt (c.toNat : Int) = d := ⟨_, rfl⟩
     rw [hdd] at HG
     have hdc : dg c = d := hdd
     have hd0 : 0 ≤ d := by rw [← hdd]; exact dgt_nn _
     have HDC := Lib.hid hdc
     have hvb := mrel_bound (by decide) HR.out (7 - 1) (by omega)
     obtain ⟨hv0, hv1⟩ := hvb
     have hv2 : v ≤ 999999 := by
      have : (10 : Int) ^ (7 - 1) = 999999 + 1 := by decide
      omega
     have hm1 : (e : Int) < s.size := by omega
     have hm2 : (e : Int) - 2 < 7 := by omega
     clear hd ht hdd hdc hv1
     by_cases hdb : d < 10
     ·have HS := Lib.hid (mrel_step HR.out he1 hm HD.out HT.out (by rw [HDC.out]; exact hdb))
      rw [HDC.out] at HS
      go_wp2_with (first | (go_at_call 187; refine HG.out.mono ?_; rintro e w' ⟨rfl, rfl⟩))
      go_round
      case rel => exact ⟨e + 1, v * 10 + d, by omega, by omega, by omega, by go_num, rfl, HS⟩
      case measure => simp [intOf]; omega
     ·have HS := Lib.hid (mrel_end HR.out he1 (by rw [HD.out]; exact runN_stop (by rw [HDC.out]; exact hdb)))
      go_wp2_with (first | (go_at_call 187; refine HG.out.mono ?_; rintro e w' ⟨rfl, rfl⟩))
      go_meet
      exact ⟨int_eq (by rw [HS.out.1, HK.out, HE.out]), i32_eq (by rw [HS.out.2, HK.out, HVV.out]), rfl⟩
    ·have HS := Lib.hid (mrel_end HR.out he1 (by rw [show 7 - (e - 2) = 0 by omega]; rfl))
     have hm1 : (e : Int) < s.size := by omega
     have hm2 : ¬ (e : Int) - 2 < 7 := by omega
     go_wp2
     go_meet
     exact ⟨int_eq (by rw [HS.out.1, HK.out, HE.out]), i32_eq (by rw [HS.out.2, HK.out, HVV.out]), rfl⟩
   ·have HS := Lib.hid (mrel_end HR.out he1 (runN_nil (by rw [sz]; omega)))
    go_wp2
    go_meet
    exact ⟨int_eq (by rw [HS.out.1, HK.out, HE.out]), i32_eq (by rw [HS.out.2, HK.out, HVV.out]), rfl⟩
 case rest =>
  obtain ⟨rfl, rfl, rfl⟩ := hcut
  have HC := Lib.hid (closed_any s E w (by omega) (by omega))
  have HCH := Lib.hid (char_any V w hV0)
  by_cases hK0 : K = 0
  ·have HV : Hid (numG 10 7 (s.data.toList.drop 2) 2 = none) := Lib.hid (by
    unfold numG
    rw [if_pos (by rw [HK.out]; exact hK0)])
   obtain rfl : E = 2 := by have := HE.out; omega
   clear hK0
   go_wp2
   go_ret2
   exact ⟨ret_val (by rw [HV.out]; rfl), rfl⟩
  ·have hEb : ((E : Int) == 2) = false := by have := HE.out; simp; omega
   have HX : Hid ((s.data.toList.drop 2)[K]? = s.data.toList[E]?) := Lib.hid (by rw [List.getElem?_drop, HE.out])
   cases hsb : semiB s.data.toList E with
   | false =>
    have HV : Hid (numG 10 7 (s.data.toList.drop 2) 2 = none) := Lib.hid (by
     unfold numG
     rw [HK.out, if_neg hK0, if_neg]
     rw [HX.out]
     unfold semiB at hsb
     exact of_decide_eq_false hsb)
    rw [hsb] at HC
    clear hsb hK0
    go_wp2_with (first | (go_at_call 188; refine HC.out.mono ?_; rintro e w' ⟨rfl, rfl⟩))
    go_ret2
    exact ⟨ret_val (by rw [HV.out]; rfl), rfl⟩
   | true =>
    have HV : Hid (numG 10 7 (s.data.toList.drop 2) 2 = some (chr V, E + 1)) := Lib.hid (by
     unfold numG
     rw [HK.out, if_neg hK0, if_pos, HVV.out, HE.out]
     rw [HX.out]
     unfold semiB at hsb
     exact of_decide_eq_true hsb)
    rw [hsb] at HC
    clear hsb hK0
    go_wp2_with (first | (go_at_call 188; refine HC.out.mono ?_; rintro e w' ⟨rfl, rfl⟩) | (go_at_call 189; refine HCH.out.mono ?_; rintro e w' ⟨rfl, rfl⟩))
    go_ret2
    exact ⟨ret_val (by rw [HV.out]; rfl), rfl⟩
set_option maxHeartbeats 4000000 in
theorem readNumber_16 (s : ByteArray) (w : World) (hs : s.size ≤ 1000000) (h1 : 3 ≤ s.size) :
  Calls Tryz.prog 169 #[.string s, .int .i64 3, .int .i32 16, .int .i64 6] w fun e w' => e = .returned (resV (numG 16 6 (s.data.toList.drop 3) 3)) ∧ w = w' := by
 obtain ⟨K, hK⟩ : ∃ K, runN 16 6 (s.data.toList.drop 3) = K := ⟨_, rfl⟩
 obtain ⟨V, hV⟩ : ∃ V, valN 16 ((s.data.toList.drop 3).take K) = V := ⟨_, rfl⟩
 obtain ⟨E, hE⟩ : ∃ E, 3 + K = E := ⟨_, rfl⟩
 have HK := Lib.hid hK
 have HVV := Lib.hid hV
 have HE := Lib.hid hE
 have hE1 : 3 ≤ E := by omega
 have hE2 : E ≤ s.size := by
  have := (runN_le 16 6 (s.data.toList.drop 3)).2
  rw [List.length_drop, sz] at this
  omega
 have hV0 : 0 ≤ V := by
  rw [← hV]
  exact (valN_bound 16 (by decide) _ (by rw [← hK]; exact runN_take 16 6 _)).1
 clear hK hV hE
 go_enter Tryz.func169, Tryz.ntmps169
 go_upto_block 0 with fail
 go_cut [10, 11] (fun v10 v11 wx => v10 = .int .i64 (E : Int) ∧ v11 = .int .i32 V ∧ w = wx)
 case first =>
  go_wp2_with fail
  go_loop [10, 11] (fun v10 v11 => ∃ (e : Nat) (v : Int), 3 ≤ e ∧ e ≤ s.size ∧ e - 3 ≤ 6 ∧ v10 = .int .i64 (e : Int) ∧ v11 = .int .i32 v ∧ Hid (MRel 16 6 3 s.data.toList e v)) (fun v10 _ => s.size - (intOf v10).toNat)
  case atStart => exact ⟨3, 0, by omega, by omega, by omega, rfl, rfl, Lib.hid (mrel_start _ _ _ _)⟩
  case round =>
   obtain ⟨e, v, he1, he2, he3, rfl, rfl, HR⟩ := hrel
   by_cases hlt : e < s.size
   ·by_cases hm : e - 3 < 6
    ·obtain ⟨c, t, hd, hck, ht⟩ := cons_at hlt
     have hc255 : (c.toNat : Int) ≤ 255 := by have := UInt8.toNat_lt c; omega
     have hc0 : 0 ≤ (c.toNat : Int) := by omega
     have HG := Lib.hid (dgt_any (c.toNat : Int) w hc0 hc255)
     have HD := Lib.hid hd
     have HT := Lib.hid ht
     obtain ⟨d, hdd⟩ : ∃ d, dgt (c.toNat : Int) = d := ⟨_, rfl⟩
     rw [hdd] at HG
     have hdc : dg c = d := hdd
     have hd0 : 0 ≤ d := by rw [← hdd]; exact dgt_nn _
     have HDC := Lib.hid hdc
     have hvb := mrel_bound (by decide) HR.out (6 - 1) (by omega)
     obtain ⟨hv0, hv1⟩ := hvb
     have hv2 : v ≤ 1048575 := by
      have : (16 : Int) ^ (6 - 1) = 1048575 + 1 := by decide
      omega
     have hm1 : (e : Int) < s.size := by omega
     have hm2 : (e : Int) - 3 < 6 := by omega
     clear hd ht hdd hdc hv1
     by_cases hdb : d < 16
     ·have HS := Lib.hid (mrel_step HR.out he1 hm HD.out HT.out (by rw [HDC.out]; exact hdb))
      rw [HDC.out] at HS
      go_wp2_with (first | (go_at_call 187; refine HG.out.mono ?_; rintro e w' ⟨rfl, rfl⟩))
      go_round
      case rel => exact ⟨e + 1, v * 16 + d, by omega, by omega, by omega, by go_num, rfl, HS⟩
      case measure => simp [intOf]; omega
     ·have HS := Lib.hid (mrel_end HR.out he1 (by rw [HD.out]; exact runN_stop (by rw [HDC.out]; exact hdb)))
      go_wp2_with (first | (go_at_call 187; refine HG.out.mono ?_; rintro e w' ⟨rfl, rfl⟩))
      go_meet
      exact ⟨int_eq (by rw [HS.out.1, HK.out, HE.out]), i32_eq (by rw [HS.out.2, HK.out, HVV.out]), rfl⟩
    ·have HS := Lib.hid (mrel_end HR.out he1 (by rw [show 6 - (e - 3) = 0 by omega]; rfl))
     have hm1 : (e : Int) < s.size := by omega
     have hm2 : ¬ (e : Int) - 3 < 6 := by omega
     go_wp2
     go_meet
     exact ⟨int_eq (by rw [HS.out.1, HK.out, HE.out]), i32_eq (by rw [HS.out.2, HK.out, HVV.out]), rfl⟩
   ·have HS := Lib.hid (mrel_end HR.out he1 (runN_nil (by rw [sz]; omega)))
    go_wp2
    go_meet
    exact ⟨int_eq (by rw [HS.out.1, HK.out, HE.out]), i32_eq (by rw [HS.out.2, HK.out, HVV.out]), rfl⟩
 case rest =>
  obtain ⟨rfl, rfl, rfl⟩ := hcut
  have HC := Lib.hid (closed_any s E w (by omega) (by omega))
  have HCH := Lib.hid (char_any V w hV0)
  by_cases hK0 : K = 0
  ·have HV : Hid (numG 16 6 (s.data.toList.drop 3) 3 = none) := Lib.hid (by
    unfold numG
    rw [if_pos (by rw [HK.out]; exact hK0)])
   obtain rfl : E = 3 := by have := HE.out; omega
   clear hK0
   go_wp2
   go_ret2
   exact ⟨ret_val (by rw [HV.out]; rfl), rfl⟩
  ·have hEb : ((E : Int) == 3) = false := by have := HE.out; simp; omega
   have HX : Hid ((s.data.toList.drop 3)[K]? = s.data.toList[E]?) := Lib.hid (by rw [List.getElem?_drop, HE.out])
   cases hsb : semiB s.data.toList E with
   | false =>
    have HV : Hid (numG 16 6 (s.data.toList.drop 3) 3 = none) := Lib.hid (by
     unfold numG
     rw [HK.out, if_neg hK0, if_neg]
     rw [HX.out]
     unfold semiB at hsb
     exact of_decide_eq_false hsb)
    rw [hsb] at HC
    clear hsb hK0
    go_wp2_with (first | (go_at_call 188; refine HC.out.mono ?_; rintro e w' ⟨rfl, rfl⟩))
    go_ret2
    exact ⟨ret_val (by rw [HV.out]; rfl), rfl⟩
   | true =>
    have HV : Hid (numG 16 6 (s.data.toList.drop 3) 3 = some (chr V, E + 1)) := Lib.hid (by
     unfold numG
     rw [HK.out, if_neg hK0, if_pos, HVV.out, HE.out]
     rw [HX.out]
     unfold semiB at hsb
     exact of_decide_eq_true hsb)
    rw [hsb] at HC
    clear hsb hK0
    go_wp2_with (first | (go_at_call 188; refine HC.out.mono ?_; rintro e w' ⟨rfl, rfl⟩) | (go_at_call 189; refine HCH.out.mono ?_; rintro e w' ⟨rfl, rfl⟩))
    go_ret2
    exact ⟨ret_val (by rw [HV.out]; rfl), rfl⟩
end En
end Go.Proofs.YtkiipaaaakhhfaaGreatDoor
end
section
namespace Go.Proofs.YtkiipaaaakhhfaaGreatDoor
open Go Go.RowKit
namespace En
set_option maxRecDepth 100000
set_option linter.unusedVariables false
set_option linter.unusedSimpArgs false
inductive Form (l : List UInt8) : Bool → Bool → Bool → Bool → Prop
 | hexLow (r) (h : l = 38 :: 35 :: 120 :: r) : Form l true false true true
 | hexHigh (r) (h : l = 38 :: 35 :: 88 :: r) : Form l false true true true
 | dec (h : gread l = numG 10 7 (l.drop 2) 2) (h2 : 2 ≤ l.length) : Form l false false true true
 | name (h : gread l = nameG (l.drop 1)) (h1 : 1 ≤ l.length) : Form l false false false true
 | other (h : gread l = none) : Form l false false false false
theorem form_of (l : List UInt8) : Form l (Lib.hasPrefix l [38, 35, 120]) (Lib.hasPrefix l [38, 35, 88]) (Lib.hasPrefix l [38, 35]) (Lib.hasPrefix l [38]) := by
 cases l with
 | nil => exact Form.other rfl
 | cons c t =>
 by_cases hc : c = 38
 ·subst hc
  cases t with
  | nil => exact Form.name rfl (by simp)
  | cons x r =>
  by_cases hx : x = 35
  ·subst hx
   cases r with
   | nil => exact Form.dec rfl (by simp)
   | cons y r =>
    by_cases h1 : y = 120
    ·subst h1; exact Form.hexLow r rfl
    ·by_cases h2 : y = 88
     ·subst h2; exact Form.hexHigh r rfl
     ·have e1 : Lib.hasPrefix (38 :: 35 :: y :: r) [38, 35, 120] = false := by simp [Lib.hasPrefix, List.isPrefixOf, h1, Ne.symm h1]
      have e2 : Lib.hasPrefix (38 :: 35 :: y :: r) [38, 35, 88] = false := by simp [Lib.hasPrefix, List.isPrefixOf, h2, Ne.symm h2]
      have e3 : Lib.hasPrefix (38 :: 35 :: y :: r) [38, 35] = true := by simp [Lib.hasPrefix]
      have e4 : Lib.hasPrefix (38 :: 35 :: y :: r) [38] = true := by simp [Lib.hasPrefix]
      rw [e1, e2, e3, e4]
      exact Form.dec (by rw [gread_num, if_neg (by simp [h1, h2])]; rfl) (by simp)
  ·have e1 : Lib.hasPrefix (38 :: x :: r) [38, 35, 120] = false := by simp [Lib.hasPrefix, List.isPrefixOf, hx, Ne.symm hx]
   have e2 : Lib.hasPrefix (38 :: x :: r) [38, 35, 88] = false := by simp [Lib.hasPrefix, List.isPrefixOf, hx, Ne.symm hx]
   have e3 : Lib.hasPrefix (38 :: x :: r) [38, 35] = false := by simp [Lib.hasPrefix, List.isPrefixOf, hx, Ne.symm hx]
   have e4 : Lib.hasPrefix (38 :: x :: r) [38] = true := by simp [Lib.hasPrefix]
   rw [e1, e2, e3, e4]
   refine Form.name ?_ (by simp)
   show gread (38 :: x :: r) = nameG (x :: r)
   unfold gread
   split
   ·rename_i e; simp at e; exact absurd e.1 hx
   ·rename_i r2 _ e
    simp at e
    subst e
    rw [if_neg (by simp [hx])]
   ·rename_i h; exact absurd rfl (h (x :: r))
 ·have e1 : Lib.hasPrefix (c :: t) [38, 35, 120] = false := by simp [Lib.hasPrefix, List.isPrefixOf, hc, Ne.symm hc]
  have e2 : Lib.hasPrefix (c :: t) [38, 35, 88] = false := by simp [Lib.hasPrefix, List.isPrefixOf, hc, Ne.symm hc]
  have e3 : Lib.hasPrefix (c :: t) [38, 35] = false := by simp [Lib.hasPrefix, List.isPrefixOf, hc, Ne.symm hc]
  have e4 : Lib.hasPrefix (c :: t) [38] = false := by simp [Lib.hasPrefix, List.isPrefixOf, hc, Ne.symm hc]
  rw [e1, e2, e3, e4]
  refine Form.other ?_
  unfold gread
  split
  ·rename_i e; simp at e; exact absurd e.1 hc
  ·rename_i e; simp at e; exact absurd e.1 hc
  ·rfl
theorem resV_form (o : Option (Int × Nat)) : ∃ (b : ByteArray) (n : Int), resV o = .tuple #[.string b, .int .i64 n] := by
 cases o with
 | none => exact ⟨_, _, rfl⟩
 | some x => exact ⟨_, _, rfl⟩
set_option maxHeartbeats 4000000 in
theorem gread_any (s : ByteArray) (w : World) (hs : s.size ≤ 1000000) :
  Calls Tryz.prog 154 #[.string s] w fun e w' => e = .returned (resV (gread s.data.toList)) ∧ Below w.heap.size w w' := by
 have H1 := Lib.hid (fun w => Tryz.strings_HasPrefix s ⟨#[38, 35, 120]⟩ w)
 have H2 := Lib.hid (fun w => Tryz.strings_HasPrefix s ⟨#[38, 35, 88]⟩ w)
 have H3 := Lib.hid (fun w => Tryz.strings_HasPrefix s ⟨#[38, 35]⟩ w)
 have H4 := Lib.hid (fun w => Tryz.strings_HasPrefix s ⟨#[38]⟩ w)
 have hf := form_of s.data.toList
 change Hid (∀ w, Calls Tryz.prog 30 _ w fun e w' => e = .returned (.bool (Lib.hasPrefix s.data.toList [38, 35, 120])) ∧ w' = w) at H1
 change Hid (∀ w, Calls Tryz.prog 30 _ w fun e w' => e = .returned (.bool (Lib.hasPrefix s.data.toList [38, 35, 88])) ∧ w' = w) at H2
 change Hid (∀ w, Calls Tryz.prog 30 _ w fun e w' => e = .returned (.bool (Lib.hasPrefix s.data.toList [38, 35])) ∧ w' = w) at H3
 change Hid (∀ w, Calls Tryz.prog 30 _ w fun e w' => e = .returned (.bool (Lib.hasPrefix s.data.toList [38])) ∧ w' = w) at H4
 generalize Lib.hasPrefix s.data.toList [38, 35, 120] = b1 at *
 generalize Lib.hasPrefix s.data.toList [38, 35, 88] = b2 at *
 generalize Lib.hasPrefix s.data.toList [38, 35] = b3 at *
 generalize Lib.hasPrefix s.data.toList [38] = b4 at *
 cases hf with
 | hexLow r h =>
  have HR := Lib.hid (readNumber_16 s w hs (by rw [← sz, h]; simp))
  have HV : Hid (numG 16 6 (s.data.toList.drop 3) 3 = gread s.data.toList) := Lib.hid (by rw [h, gread_num]; rfl)
  rw [HV.out] at HR
  clear h HV
  generalize gread s.data.toList = o at *
  obtain ⟨b, n, hv⟩ := resV_form o
  rw [hv] at HR ⊢
  clear hv
  go_enter Tryz.func154, Tryz.ntmps154
  go_wp2_with fail
  refine (H1.out _).mono ?_
  rintro e w' ⟨rfl, rfl⟩
  go_wp2_with fail
  refine HR.out.mono ?_
  rintro e w' ⟨rfl, rfl⟩
  go_wp2
  go_ret2
  exact ⟨rfl, Below.refl _ _⟩
 | hexHigh r h =>
  have HR := Lib.hid (readNumber_16 s w hs (by rw [← sz, h]; simp))
  have HV : Hid (numG 16 6 (s.data.toList.drop 3) 3 = gread s.data.toList) := Lib.hid (by rw [h, gread_num]; rfl)
  rw [HV.out] at HR
  clear h HV
  generalize gread s.data.toList = o at *
  obtain ⟨b, n, hv⟩ := resV_form o
  rw [hv] at HR ⊢
  clear hv
  go_enter Tryz.func154, Tryz.ntmps154
  go_wp2_with fail
  refine (H1.out _).mono ?_
  rintro e w' ⟨rfl, rfl⟩
  go_wp2_with fail
  refine (H2.out _).mono ?_
  rintro e w' ⟨rfl, rfl⟩
  go_wp2_with fail
  refine HR.out.mono ?_
  rintro e w' ⟨rfl, rfl⟩
  go_wp2
  go_ret2
  exact ⟨rfl, Below.refl _ _⟩
 | dec h h2 =>
  have HR := Lib.hid (readNumber_10 s w hs (by rw [← sz]; exact h2))
  rw [← h] at HR
  clear h h2
  generalize gread s.data.toList = o at *
  obtain ⟨b, n, hv⟩ := resV_form o
  rw [hv] at HR ⊢
  clear hv
  go_enter Tryz.func154, Tryz.ntmps154
  go_wp2_with fail
  refine (H1.out _).mono ?_
  rintro e w' ⟨rfl, rfl⟩
  go_wp2_with fail
  refine (H2.out _).mono ?_
  rintro e w' ⟨rfl, rfl⟩
  go_wp2_with fail
  refine (H3.out _).mono ?_
  rintro e w' ⟨rfl, rfl⟩
  go_wp2_with fail
  refine HR.out.mono ?_
  rintro e w' ⟨rfl, rfl⟩
  go_wp2
  go_ret2
  exact ⟨rfl, Below.refl _ _⟩
 | name h h1 =>
  have HR := Lib.hid (readName_any s w hs (by rw [← sz]; exact h1))
  rw [← h] at HR
  clear h h1
  generalize gread s.data.toList = o at *
  obtain ⟨b, n, hv⟩ := resV_form o
  rw [hv] at HR ⊢
  clear hv
  go_enter Tryz.func154, Tryz.ntmps154
  go_wp2_with fail
  refine (H1.out _).mono ?_
  rintro e w' ⟨rfl, rfl⟩
  go_wp2_with fail
  refine (H2.out _).mono ?_
  rintro e w' ⟨rfl, rfl⟩
  go_wp2_with fail
  refine (H3.out _).mono ?_
  rintro e w' ⟨rfl, rfl⟩
  go_wp2_with fail
  refine (H4.out _).mono ?_
  rintro e w' ⟨rfl, rfl⟩
  go_wp2_with fail
  refine HR.out.mono ?_
  rintro e w' ⟨rfl, hb⟩
  go_wp2
  go_ret2
  exact ⟨rfl, hb⟩
 | other h =>
  rw [h]
  clear h
  go_enter Tryz.func154, Tryz.ntmps154
  go_wp2_with fail
  refine (H1.out _).mono ?_
  rintro e w' ⟨rfl, rfl⟩
  go_wp2_with fail
  refine (H2.out _).mono ?_
  rintro e w' ⟨rfl, rfl⟩
  go_wp2_with fail
  refine (H3.out _).mono ?_
  rintro e w' ⟨rfl, rfl⟩
  go_wp2_with fail
  refine (H4.out _).mono ?_
  rintro e w' ⟨rfl, rfl⟩
  go_wp2
  go_ret2
  exact ⟨rfl, Below.refl _ _⟩
end En
end Go.Proofs.YtkiipaaaakhhfaaGreatDoor
end
