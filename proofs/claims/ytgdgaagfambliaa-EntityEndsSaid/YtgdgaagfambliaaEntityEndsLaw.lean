/- EntityEnds: the law's walk. -/
import Derived.Test.YtgdgaagfambliaaEntJ
namespace Go.Proofs.Ytgdgaagfambliaa
open Go Go.RowKit
namespace EntityEnds
open En
set_option maxRecDepth 100000
set_option linter.unusedVariables false
set_option linter.unusedSimpArgs false

theorem enc_size (c : Int) : 0 < (Utf8.encode c).size := by
  unfold Utf8.encode
  simp only
  generalize (if Utf8.valid c = true then c.toNat else Utf8.runeError) = n
  split
  · exact Nat.one_pos
  · split
    · exact Nat.succ_pos 1
    · split
      · exact Nat.succ_pos 2
      · exact Nat.succ_pos 3
theorem enc_list (c : Int) : ((Utf8.encode c).toList == []) = false := by
  rw [Lib.toList_data, beq_eq_false_iff_ne]
  intro h
  have h1 : (Utf8.encode c).data.toList.length = 0 := by rw [h]; rfl
  have h2 := enc_size c
  rw [sz] at h1
  omega
theorem ofBody_len {b : List UInt8} {c : Int} (h : ofBody b = some c) : 3 ≤ b.length := by
  rcases Nat.lt_or_ge b.length 2 with hb | hb
  · rw [ofBody_short hb] at h; cases h
  · match b, hb with
    | x :: y :: d, _ =>
      by_cases hx : x = 38
      · subst hx
        by_cases hy : y = 35
        · subst hy
          cases d with
          | nil => rw [ofBody_bare] at h; simp [numB] at h
          | cons z d => simp
        · rw [ofBody_name hy] at h
          have := (row_ok (namedF_mem h)).2.1
          simp at this ⊢
          omega
      · rw [ofBody_other hx] at h; cases h

/-- What a reference that is read is made of. -/
theorem parts {l : List UInt8} {c : Int} {n : Nat} (h : rread l = some (c, n)) : 4 ≤ n ∧ n ≤ l.length ∧ (∀ m, rread (l.take n ++ m) = some (c, n)) ∧ rread (l.take (n - 1)) = none ∧ rread (120 :: l) = none ∧ l[0]? = some 38 ∧ l[n - 1]? = some 59 := by
  obtain ⟨b, m, hn, rfl, ho, rfl⟩ := rread_parts h
  have h3 := ofBody_len ho
  obtain ⟨t, rfl⟩ := ofBody_amp ho
  have htk : ((38 :: t) ++ 59 :: m).take ((38 :: t).length + 1) = (38 :: t) ++ [59] := by
    rw [show (38 :: t) ++ 59 :: m = ((38 :: t) ++ [59]) ++ m from by simp, show (38 :: t).length + 1 = ((38 :: t) ++ [59]).length from by simp]
    exact List.take_left
  refine ⟨by omega, by simp, fun m' => ?_, ?_, ?_, by simp, by simp⟩
  · rw [htk, List.append_assoc, List.singleton_append, rread_some (cutS_app _ _ hn), ho]
    rfl
  · rw [Nat.add_sub_cancel, List.take_left]
    exact rread_none (cutS_none hn)
  · have : cutS (120 :: ((38 :: t) ++ 59 :: m)) = some (120 :: 38 :: t) := by
      rw [cutS_cons 120 _ (by decide), cutS_app _ _ hn]
      rfl
    rw [rread_some this, ofBody_other (by decide)]
    rfl

set_option maxHeartbeats 2000000 in
theorem law_any (s more : ByteArray) (w : World) (hs : s.size ≤ maxLen) (hm : more.size ≤ maxLen) :
    Calls Try.prog 6 #[.string s, .string more] w fun e w' => e = .returned (.bool true) ∧ Below w.heap.size w w' := by
  unfold maxLen at hs hm
  have HA := Lib.hid (frm_awake w)
  have hb0 := Below.refl w.heap.size w
  by_cases hbig : 300 < s.size
  · have hb' : (300 : Int) < (s.size : Int) := by omega
    go_enter Try.func6, Try.ntmps6
    go_wp2_with fail
    refine (HA.out _ hb0).mono ?_
    rintro e w1 ⟨rfl, hb1⟩
    go_wp2
    go_ret
    exact ⟨rfl, hb1⟩
  have hb' : (s.size : Int) ≤ 300 := by omega
  by_cases hbig2 : 300 < more.size
  · have hb2' : (300 : Int) < (more.size : Int) := by omega
    go_enter Try.func6, Try.ntmps6
    go_wp2_with fail
    refine (HA.out _ hb0).mono ?_
    rintro e w1 ⟨rfl, hb1⟩
    go_wp2
    go_ret
    exact ⟨rfl, hb1⟩
  have hb2' : (more.size : Int) ≤ 300 := by omega
  cases hr : rread s.data.toList with
  | none =>
    have H1 := Lib.hid (frm_read w (s := s) rfl hr (by rw [sz]; omega))
    unfold resV at H1
    clear hr hbig hbig2
    go_enter Try.func6, Try.ntmps6
    go_wp2_with fail
    refine (HA.out _ hb0).mono ?_
    rintro e w1 ⟨rfl, hb1⟩
    go_wp2_with fail
    refine (H1.out _ hb1).mono ?_
    rintro e w2 ⟨rfl, hb2⟩
    go_wp2
    go_ret
    exact ⟨rfl, hb2⟩
  | some x =>
    obtain ⟨c, n⟩ := x
    obtain ⟨h4, hn, happ, hcut, hx, hf, hl⟩ := parts hr
    rw [sz] at hn
    have H1 := Lib.hid (frm_read w (s := s) rfl hr (by rw [sz]; omega))
    have H2 := Lib.hid (frm_read w (s := s.extract 0 n ++ more) (by rw [app_data, Lib.extract_data, List.drop_zero, Nat.sub_zero]) (happ more.data.toList) (by simp [sz]; omega))
    have H3 := Lib.hid (frm_read w (s := s.extract 0 (n - 1)) (by rw [Lib.extract_data, List.drop_zero, Nat.sub_zero]) hcut (by simp; omega))
    have H4 := Lib.hid (frm_read w (s := (⟨#[120]⟩ : ByteArray) ++ s) (by rw [app_data]; rfl) hx (by simp [sz]; omega))
    dsimp only [resV] at H1 H2 H3 H4
    have he := enc_list c
    have hs0 : s[0]'(by omega) = 38 := at_of rfl hf _
    have hs1 : s[n - 1]'(by omega) = 59 := at_of rfl hl _
    have hn4 : (4 : Int) ≤ (n : Int) := by omega
    have hns : (n : Int) ≤ (s.size : Int) := by omega
    have hn0 : ((n : Int) == 0) = false := by rw [beq_eq_false_iff_ne]; omega
    have hn1 : ((n : Int) - 1).toNat = n - 1 := by omega
    generalize hE : Utf8.encode c = E at *
    clear hr happ hcut hx hf hl hE
    go_enter Try.func6, Try.ntmps6
    go_wp2_with fail
    refine (HA.out _ hb0).mono ?_
    rintro e w1 ⟨rfl, hb1⟩
    go_wp2_with fail
    refine (H1.out _ hb1).mono ?_
    rintro e w2 ⟨rfl, hb2⟩
    go_wp2_with fail
    refine (H2.out _ hb2).mono ?_
    rintro e w3 ⟨rfl, hb3⟩
    go_wp2_with fail
    refine (H3.out _ hb3).mono ?_
    rintro e w4 ⟨rfl, hb4⟩
    go_wp2_with fail
    refine (H4.out _ hb4).mono ?_
    rintro e w5 ⟨rfl, hb5⟩
    go_wp2
    go_ret
    exact ⟨rfl, hb5⟩
end EntityEnds
end Go.Proofs.Ytgdgaagfambliaa
