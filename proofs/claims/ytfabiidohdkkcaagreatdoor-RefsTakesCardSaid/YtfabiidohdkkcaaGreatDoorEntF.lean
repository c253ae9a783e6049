/- Walks of layer 4, the sixth part: Read. -/
import Derived.Test.YtfabiidohdkkcaaGreatDoorEntE
namespace Go.Proofs.YtfabiidohdkkcaaGreatDoor
open Go Go.RowKit
namespace En
set_option maxRecDepth 100000
set_option linter.unusedVariables false
set_option linter.unusedSimpArgs false

/-- What is asked of a text's beginning: five forms of it. -/
inductive Form (l : List UInt8) : Bool → Bool → Bool → Bool → Prop
  | hexLow (r) (h : l = 38 :: 35 :: 120 :: r) : Form l true false true true
  | hexHigh (r) (h : l = 38 :: 35 :: 88 :: r) : Form l false true true true
  | dec (h : gread l = numG 10 7 (l.drop 2) 2) (h2 : 2 ≤ l.length) : Form l false false true true
  | name (h : gread l = nameG (l.drop 1)) (h1 : 1 ≤ l.length) : Form l false false false true
  | other (h : gread l = none) : Form l false false false false

theorem form_of (l : List UInt8) : Form l (Lib.hasPrefix l [38, 35, 120]) (Lib.hasPrefix l [38, 35, 88]) (Lib.hasPrefix l [38, 35]) (Lib.hasPrefix l [38]) := by
  cases l with
  | nil => exact Form.other rfl
  | cons c t =>
  by_cases hc : c = 38
  · subst hc
    cases t with
    | nil => exact Form.name rfl (by simp)
    | cons x r =>
    by_cases hx : x = 35
    · subst hx
      cases r with
      | nil => exact Form.dec rfl (by simp)
      | cons y r =>
        by_cases h1 : y = 120
        · subst h1; exact Form.hexLow r rfl
        · by_cases h2 : y = 88
          · subst h2; exact Form.hexHigh r rfl
          · have e1 : Lib.hasPrefix (38 :: 35 :: y :: r) [38, 35, 120] = false := by simp [Lib.hasPrefix, List.isPrefixOf, h1, Ne.symm h1]
            have e2 : Lib.hasPrefix (38 :: 35 :: y :: r) [38, 35, 88] = false := by simp [Lib.hasPrefix, List.isPrefixOf, h2, Ne.symm h2]
            have e3 : Lib.hasPrefix (38 :: 35 :: y :: r) [38, 35] = true := by simp [Lib.hasPrefix]
            have e4 : Lib.hasPrefix (38 :: 35 :: y :: r) [38] = true := by simp [Lib.hasPrefix]
            rw [e1, e2, e3, e4]
            exact Form.dec (by rw [gread_num, if_neg (by simp [h1, h2])]; rfl) (by simp)
    · have e1 : Lib.hasPrefix (38 :: x :: r) [38, 35, 120] = false := by simp [Lib.hasPrefix, List.isPrefixOf, hx, Ne.symm hx]
      have e2 : Lib.hasPrefix (38 :: x :: r) [38, 35, 88] = false := by simp [Lib.hasPrefix, List.isPrefixOf, hx, Ne.symm hx]
      have e3 : Lib.hasPrefix (38 :: x :: r) [38, 35] = false := by simp [Lib.hasPrefix, List.isPrefixOf, hx, Ne.symm hx]
      have e4 : Lib.hasPrefix (38 :: x :: r) [38] = true := by simp [Lib.hasPrefix]
      rw [e1, e2, e3, e4]
      refine Form.name ?_ (by simp)
      show gread (38 :: x :: r) = nameG (x :: r)
      unfold gread
      split
      · rename_i e; simp at e; exact absurd e.1 hx
      · rename_i r2 _ e
        simp at e
        subst e
        rw [if_neg (by simp [hx])]
      · rename_i h; exact absurd rfl (h (x :: r))
  · have e1 : Lib.hasPrefix (c :: t) [38, 35, 120] = false := by simp [Lib.hasPrefix, List.isPrefixOf, hc, Ne.symm hc]
    have e2 : Lib.hasPrefix (c :: t) [38, 35, 88] = false := by simp [Lib.hasPrefix, List.isPrefixOf, hc, Ne.symm hc]
    have e3 : Lib.hasPrefix (c :: t) [38, 35] = false := by simp [Lib.hasPrefix, List.isPrefixOf, hc, Ne.symm hc]
    have e4 : Lib.hasPrefix (c :: t) [38] = false := by simp [Lib.hasPrefix, List.isPrefixOf, hc, Ne.symm hc]
    rw [e1, e2, e3, e4]
    refine Form.other ?_
    unfold gread
    split
    · rename_i e; simp at e; exact absurd e.1 hc
    · rename_i e; simp at e; exact absurd e.1 hc
    · rfl

theorem resV_form (o : Option (Int × Nat)) : ∃ (b : ByteArray) (n : Int), resV o = .tuple #[.string b, .int .i64 n] := by
  cases o with
  | none => exact ⟨_, _, rfl⟩
  | some x => exact ⟨_, _, rfl⟩

set_option maxHeartbeats 4000000 in
theorem gread_any (s : ByteArray) (w : World) (hs : s.size ≤ 1000000) :
    Calls Tryz.prog 89 #[.string s] w fun e w' => e = .returned (resV (gread s.data.toList)) ∧ Below w.heap.size w w' := by
  have H1 := Lib.hid (fun w => Tryz.strings_HasPrefix s ⟨#[38, 35, 120]⟩ w)
  have H2 := Lib.hid (fun w => Tryz.strings_HasPrefix s ⟨#[38, 35, 88]⟩ w)
  have H3 := Lib.hid (fun w => Tryz.strings_HasPrefix s ⟨#[38, 35]⟩ w)
  have H4 := Lib.hid (fun w => Tryz.strings_HasPrefix s ⟨#[38]⟩ w)
  have hf := form_of s.data.toList
  change Hid (∀ w, Calls Tryz.prog 20 _ w fun e w' => e = .returned (.bool (Lib.hasPrefix s.data.toList [38, 35, 120])) ∧ w' = w) at H1
  change Hid (∀ w, Calls Tryz.prog 20 _ w fun e w' => e = .returned (.bool (Lib.hasPrefix s.data.toList [38, 35, 88])) ∧ w' = w) at H2
  change Hid (∀ w, Calls Tryz.prog 20 _ w fun e w' => e = .returned (.bool (Lib.hasPrefix s.data.toList [38, 35])) ∧ w' = w) at H3
  change Hid (∀ w, Calls Tryz.prog 20 _ w fun e w' => e = .returned (.bool (Lib.hasPrefix s.data.toList [38])) ∧ w' = w) at H4
  generalize Lib.hasPrefix s.data.toList [38, 35, 120] = b1 at *
  generalize Lib.hasPrefix s.data.toList [38, 35, 88] = b2 at *
  generalize Lib.hasPrefix s.data.toList [38, 35] = b3 at *
  generalize Lib.hasPrefix s.data.toList [38] = b4 at *
  cases hf with
  | hexLow r h =>
    have HR := Lib.hid (readNumber_16 s w hs (by rw [← sz, h]; simp))
    have HV : Hid (numG 16 6 (s.data.toList.drop 3) 3 = gread s.data.toList) := Lib.hid (by rw [h, gread_num]; rfl)
    rw [HV.out] at HR
    clear h HV
    generalize gread s.data.toList = o at *
    obtain ⟨b, n, hv⟩ := resV_form o
    rw [hv] at HR ⊢
    clear hv
    go_enter Tryz.func89, Tryz.ntmps89
    go_wp2_with fail
    refine (H1.out _).mono ?_
    rintro e w' ⟨rfl, rfl⟩
    go_wp2_with fail
    refine HR.out.mono ?_
    rintro e w' ⟨rfl, rfl⟩
    go_wp2
    go_ret2
    exact ⟨rfl, Below.refl _ _⟩
  | hexHigh r h =>
    have HR := Lib.hid (readNumber_16 s w hs (by rw [← sz, h]; simp))
    have HV : Hid (numG 16 6 (s.data.toList.drop 3) 3 = gread s.data.toList) := Lib.hid (by rw [h, gread_num]; rfl)
    rw [HV.out] at HR
    clear h HV
    generalize gread s.data.toList = o at *
    obtain ⟨b, n, hv⟩ := resV_form o
    rw [hv] at HR ⊢
    clear hv
    go_enter Tryz.func89, Tryz.ntmps89
    go_wp2_with fail
    refine (H1.out _).mono ?_
    rintro e w' ⟨rfl, rfl⟩
    go_wp2_with fail
    refine (H2.out _).mono ?_
    rintro e w' ⟨rfl, rfl⟩
    go_wp2_with fail
    refine HR.out.mono ?_
    rintro e w' ⟨rfl, rfl⟩
    go_wp2
    go_ret2
    exact ⟨rfl, Below.refl _ _⟩
  | dec h h2 =>
    have HR := Lib.hid (readNumber_10 s w hs (by rw [← sz]; exact h2))
    rw [← h] at HR
    clear h h2
    generalize gread s.data.toList = o at *
    obtain ⟨b, n, hv⟩ := resV_form o
    rw [hv] at HR ⊢
    clear hv
    go_enter Tryz.func89, Tryz.ntmps89
    go_wp2_with fail
    refine (H1.out _).mono ?_
    rintro e w' ⟨rfl, rfl⟩
    go_wp2_with fail
    refine (H2.out _).mono ?_
    rintro e w' ⟨rfl, rfl⟩
    go_wp2_with fail
    refine (H3.out _).mono ?_
    rintro e w' ⟨rfl, rfl⟩
    go_wp2_with fail
    refine HR.out.mono ?_
    rintro e w' ⟨rfl, rfl⟩
    go_wp2
    go_ret2
    exact ⟨rfl, Below.refl _ _⟩
  | name h h1 =>
    have HR := Lib.hid (readName_any s w hs (by rw [← sz]; exact h1))
    rw [← h] at HR
    clear h h1
    generalize gread s.data.toList = o at *
    obtain ⟨b, n, hv⟩ := resV_form o
    rw [hv] at HR ⊢
    clear hv
    go_enter Tryz.func89, Tryz.ntmps89
    go_wp2_with fail
    refine (H1.out _).mono ?_
    rintro e w' ⟨rfl, rfl⟩
    go_wp2_with fail
    refine (H2.out _).mono ?_
    rintro e w' ⟨rfl, rfl⟩
    go_wp2_with fail
    refine (H3.out _).mono ?_
    rintro e w' ⟨rfl, rfl⟩
    go_wp2_with fail
    refine (H4.out _).mono ?_
    rintro e w' ⟨rfl, rfl⟩
    go_wp2_with fail
    refine HR.out.mono ?_
    rintro e w' ⟨rfl, hb⟩
    go_wp2
    go_ret2
    exact ⟨rfl, hb⟩
  | other h =>
    rw [h]
    clear h
    go_enter Tryz.func89, Tryz.ntmps89
    go_wp2_with fail
    refine (H1.out _).mono ?_
    rintro e w' ⟨rfl, rfl⟩
    go_wp2_with fail
    refine (H2.out _).mono ?_
    rintro e w' ⟨rfl, rfl⟩
    go_wp2_with fail
    refine (H3.out _).mono ?_
    rintro e w' ⟨rfl, rfl⟩
    go_wp2_with fail
    refine (H4.out _).mono ?_
    rintro e w' ⟨rfl, rfl⟩
    go_wp2
    go_ret2
    exact ⟨rfl, Below.refl _ _⟩
end En
end Go.Proofs.YtfabiidohdkkcaaGreatDoor
