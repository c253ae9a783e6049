/- Walks of layer 4, the ninth part: the reference's Read. -/
import Derived.Test.YtfabiidohdkkcaaGreatDoorEntH
namespace Go.Proofs.YtfabiidohdkkcaaGreatDoor
open Go Go.RowKit
namespace En
set_option maxRecDepth 100000
set_option linter.unusedVariables false
set_option linter.unusedSimpArgs false

theorem rread_none {l : List UInt8} (h : cutS l = none) : rread l = none := by unfold rread; rw [h]; rfl
theorem rread_some {l b : List UInt8} (h : cutS l = some b) : rread l = (ofBody b).map fun c => (c, b.length + 1) := by unfold rread; rw [h]; rfl
theorem endI_none {l : List UInt8} (h : cutS l = none) : endI l = -1 := by unfold endI; rw [h]
theorem endI_some {l b : List UInt8} (h : cutS l = some b) : endI l = b.length := by unfold endI; rw [h]
theorem ofBody_short {b : List UInt8} (h : b.length < 2) : ofBody b = none := by
  match b, h with
  | [], _ => rfl
  | [x], _ =>
    by_cases hx : x = 38
    · subst hx
      show (if ([] : List UInt8) = [35] then none else namedF rowsT []) = none
      rw [if_neg (by simp), namedF_nil]
    · unfold ofBody
      split
      · rename_i e; simp at e
      · rename_i e; simp at e; exact absurd e.1 hx
      · rfl
theorem ofBody_other {x : UInt8} {t : List UInt8} (h : x ≠ 38) : ofBody (x :: t) = none := by
  unfold ofBody
  split
  · rename_i e; simp at e; exact absurd e.1 h
  · rename_i e; simp at e; exact absurd e.1 h
  · rfl
theorem ofBody_name {y : UInt8} {d : List UInt8} (h : y ≠ 35) : ofBody (38 :: y :: d) = namedF rowsT (y :: d) := by
  unfold ofBody
  split
  · rename_i e; simp at e; exact absurd e.1 h
  · rename_i n _ e
    simp at e
    subst e
    rw [if_neg (by simp [h])]
  · rename_i h; exact absurd rfl (h (y :: d))
theorem ofBody_hex {z : UInt8} {d : List UInt8} (h : z = 120 ∨ z = 88) : ofBody (38 :: 35 :: z :: d) = (numB 16 6 d).map chr := by
  show (if z = 120 ∨ z = 88 then _ else _) = _
  rw [if_pos h]
theorem ofBody_dec {z : UInt8} {d : List UInt8} (h : ¬ (z = 120 ∨ z = 88)) : ofBody (38 :: 35 :: z :: d) = (numB 10 7 (z :: d)).map chr := by
  show (if z = 120 ∨ z = 88 then _ else _) = _
  rw [if_neg h]
theorem ofBody_bare : ofBody [38, 35] = (numB 10 7 []).map chr := by
  rw [show numB 10 7 [] = none from by simp [numB]]
  show (if [35] = [(35 : UInt8)] then none else namedF rowsT [35]) = _
  rw [if_pos rfl]
  rfl
theorem numB_cases (base : Int) (most : Nat) (hb : 2 ≤ base) (hp : base ^ most ≤ 16777216) (d : List UInt8) : (numB base most d = none ∧ numI base most d = -1) ∨ ∃ v, numB base most d = some v ∧ numI base most d = v ∧ 0 ≤ v ∧ v ≤ 16777215 := by
  cases h : numB base most d with
  | none => exact Or.inl ⟨rfl, numI_no h⟩
  | some v =>
    refine Or.inr ⟨v, rfl, numI_yes h, ?_⟩
    obtain ⟨a1, a2, a3, a4⟩ := numB_of h
    obtain ⟨b1, b2⟩ := valN_bound base hb d a3
    have := pow_mono (b := base) (by omega) (most - d.length) d.length
    rw [Nat.add_sub_cancel' a2] at this
    omega
theorem at_of {s : ByteArray} {k : Nat} {c : UInt8} {l : List UInt8} (hl : s.data.toList = l) (h : l[k]? = some c) (hk : k < s.size) : s[k] = c := by
  rw [← hl, get_at hk] at h
  exact Option.some.inj h

set_option maxHeartbeats 3000000 in
theorem rread_any (s : ByteArray) (w : World) (hs : s.size ≤ 1000000) :
    Calls Tryz.prog 75 #[.string s] w fun e w' => e = .returned (resV (rread s.data.toList)) ∧ Below w.heap.size w w' := by
  have HE := Lib.hid (end_any s w hs)
  cases hc : cutS s.data.toList with
  | none =>
    rw [endI_none hc] at HE
    have HV := Lib.hid (rread_none hc)
    clear hc
    go_enter Tryz.func75, Tryz.ntmps75
    go_wp2_with (first | (go_at_call 93; refine HE.out.mono ?_; rintro e w' ⟨rfl, rfl⟩))
    go_ret2
    exact ⟨ret_val (by rw [HV.out]; rfl), Below.refl _ _⟩
  | some b =>
  rw [endI_some hc] at HE
  obtain ⟨hn, m, hl⟩ := cutS_some hc
  have hsize : b.length < s.size := by rw [← sz, hl]; simp
  by_cases hb2 : b.length < 2
  · have HV : Hid (rread s.data.toList = none) := Lib.hid (by rw [rread_some hc, ofBody_short hb2]; rfl)
    have hk : (b.length : Int) < 2 := by omega
    clear hc hn hl hb2
    generalize b.length = k at *
    go_enter Tryz.func75, Tryz.ntmps75
    go_wp2_with (first | (go_at_call 93; refine HE.out.mono ?_; rintro e w' ⟨rfl, rfl⟩))
    go_ret2
    exact ⟨ret_val (by rw [HV.out]; rfl), Below.refl _ _⟩
  obtain ⟨x, y, d, rfl⟩ : ∃ x y d, b = x :: y :: d := by
    match b, hb2 with
    | [], h => exact absurd (by simp) h
    | [x], h => exact absurd (by simp) h
    | x :: y :: d, _ => exact ⟨x, y, d, rfl⟩
  clear hb2
  have hs0 : s[0]'(by omega) = x := at_of hl (by simp) _
  have hs1 : s[1]'(by simp at hsize; omega) = y := at_of hl (by simp) _
  have HR := Lib.hid (rread_some hc)
  have HL : Hid (s.data.toList = x :: y :: (d ++ 59 :: m)) := Lib.hid hl
  obtain ⟨k, hk⟩ : ∃ k, (x :: y :: d).length = k := ⟨_, rfl⟩
  rw [hk] at HE HR hsize
  have hkd : k = d.length + 2 := by rw [← hk]; simp
  have HKD := Lib.hid hkd
  have hk2 : (2 : Int) ≤ (k : Int) := by omega
  have hks : (k : Int) ≤ (s.size : Int) := by omega
  have hk2n : 2 ≤ k := by omega
  clear hc hn hl hk hkd
  by_cases hx : x = 38
  · subst hx
    by_cases hy : y = 35
    · subst hy
      cases d with
      | nil =>
        obtain rfl : k = 2 := HKD.out
        have HN := Lib.hid (rnumber_10 ByteArray.empty w (by decide))
        have hx : ByteArray.empty.data.toList = [] := rfl
        rw [hx] at HN
        rw [ofBody_bare] at HR
        rcases numB_cases 10 7 (by decide) (by decide) [] with ⟨e1, e2⟩ | ⟨v, e1, e2, hv0, hv1⟩
        · rw [e1] at HR
          rw [e2] at HN
          clear e1 e2 hx HL HKD
          go_enter Tryz.func75, Tryz.ntmps75
          go_wp2_with (first | (go_at_call 93; refine HE.out.mono ?_; rintro e w' ⟨rfl, rfl⟩) | (go_at_call 95; (with_reducible refine HN.out.mono ?_); rintro e w' ⟨rfl, hb⟩))
          go_ret2
          exact ⟨ret_val (by rw [HR.out]; rfl), hb⟩
        · rw [e1] at HR
          rw [e2] at HN
          clear e1 e2 hx HL HKD
          by_cases c0 : v = 0
          · subst c0
            go_enter Tryz.func75, Tryz.ntmps75
            go_wp2_with (first | (go_at_call 93; refine HE.out.mono ?_; rintro e w' ⟨rfl, rfl⟩) | (go_at_call 95; (with_reducible refine HN.out.mono ?_); rintro e w' ⟨rfl, hb⟩))
            go_ret2
            exact ⟨ret_val (by rw [HR.out]; rfl), hb⟩
          · have cb : (v == 0) = false := by simpa using c0
            by_cases c1 : 55296 ≤ v
            · by_cases c2 : v ≤ 57343
              · have HV : Hid (chr v = 65533) := Lib.hid (by unfold chr; rw [if_pos (by omega)])
                clear c0
                go_enter Tryz.func75, Tryz.ntmps75
                go_wp2_with (first | (go_at_call 93; refine HE.out.mono ?_; rintro e w' ⟨rfl, rfl⟩) | (go_at_call 95; (with_reducible refine HN.out.mono ?_); rintro e w' ⟨rfl, hb⟩))
                go_ret2
                exact ⟨ret_val (by rw [HR.out]; simp only [Option.map_some, resV, HV.out]; rfl), hb⟩
              · by_cases c3 : 1114111 < v
                · have HV : Hid (chr v = 65533) := Lib.hid (by unfold chr; rw [if_pos (by omega)])
                  clear c0
                  go_enter Tryz.func75, Tryz.ntmps75
                  go_wp2_with (first | (go_at_call 93; refine HE.out.mono ?_; rintro e w' ⟨rfl, rfl⟩) | (go_at_call 95; (with_reducible refine HN.out.mono ?_); rintro e w' ⟨rfl, hb⟩))
                  go_ret2
                  exact ⟨ret_val (by rw [HR.out]; simp only [Option.map_some, resV, HV.out]; rfl), hb⟩
                · have HV : Hid (chr v = v) := Lib.hid (by unfold chr; rw [if_neg (by omega)])
                  clear c0
                  go_enter Tryz.func75, Tryz.ntmps75
                  go_wp2_with (first | (go_at_call 93; refine HE.out.mono ?_; rintro e w' ⟨rfl, rfl⟩) | (go_at_call 95; (with_reducible refine HN.out.mono ?_); rintro e w' ⟨rfl, hb⟩))
                  go_ret2
                  exact ⟨ret_val (by rw [HR.out]; simp only [Option.map_some, resV, HV.out]; rfl), hb⟩
            · have HV : Hid (chr v = v) := Lib.hid (by unfold chr; rw [if_neg (by omega)])
              have c3 : ¬ 1114111 < v := by omega
              clear c0
              go_enter Tryz.func75, Tryz.ntmps75
              go_wp2_with (first | (go_at_call 93; refine HE.out.mono ?_; rintro e w' ⟨rfl, rfl⟩) | (go_at_call 95; (with_reducible refine HN.out.mono ?_); rintro e w' ⟨rfl, hb⟩))
              go_ret2
              exact ⟨ret_val (by rw [HR.out]; simp only [Option.map_some, resV, HV.out]; rfl), hb⟩
      | cons z d =>
        have hk3 : (2 : Int) < (k : Int) := by have := HKD.out; simp at this; omega
        have hk3' : (3 : Int) ≤ (k : Int) := by omega
        have hk3n : 3 ≤ k := by omega
        have hs2 : s[2]'(by omega) = z := at_of HL.out (by simp) _
        by_cases hz : z = 120
        · subst hz
          have hz : (s.extract 3 k).size ≤ 1000000 := by simp; omega
          have HN := Lib.hid (rnumber_16 (s.extract 3 k) w hz)
          have hx : (s.extract 3 k).data.toList = d := by
            have := HKD.out
            simp at this
            rw [Lib.extract_data, HL.out, this]
            simp
          rw [hx] at HN
          rw [ofBody_hex (Or.inl rfl)] at HR
          rcases numB_cases 16 6 (by decide) (by decide) d with ⟨e1, e2⟩ | ⟨v, e1, e2, hv0, hv1⟩
          · rw [e1] at HR
            rw [e2] at HN
            clear e1 e2 hx HL HKD
            go_enter Tryz.func75, Tryz.ntmps75
            go_wp2_with (first | (go_at_call 93; refine HE.out.mono ?_; rintro e w' ⟨rfl, rfl⟩) | (go_at_call 95; (with_reducible refine HN.out.mono ?_); rintro e w' ⟨rfl, hb⟩))
            go_ret2
            exact ⟨ret_val (by rw [HR.out]; rfl), hb⟩
          · rw [e1] at HR
            rw [e2] at HN
            clear e1 e2 hx HL HKD
            by_cases c0 : v = 0
            · subst c0
              go_enter Tryz.func75, Tryz.ntmps75
              go_wp2_with (first | (go_at_call 93; refine HE.out.mono ?_; rintro e w' ⟨rfl, rfl⟩) | (go_at_call 95; (with_reducible refine HN.out.mono ?_); rintro e w' ⟨rfl, hb⟩))
              go_ret2
              exact ⟨ret_val (by rw [HR.out]; rfl), hb⟩
            · have cb : (v == 0) = false := by simpa using c0
              by_cases c1 : 55296 ≤ v
              · by_cases c2 : v ≤ 57343
                · have HV : Hid (chr v = 65533) := Lib.hid (by unfold chr; rw [if_pos (by omega)])
                  clear c0
                  go_enter Tryz.func75, Tryz.ntmps75
                  go_wp2_with (first | (go_at_call 93; refine HE.out.mono ?_; rintro e w' ⟨rfl, rfl⟩) | (go_at_call 95; (with_reducible refine HN.out.mono ?_); rintro e w' ⟨rfl, hb⟩))
                  go_ret2
                  exact ⟨ret_val (by rw [HR.out]; simp only [Option.map_some, resV, HV.out]; rfl), hb⟩
                · by_cases c3 : 1114111 < v
                  · have HV : Hid (chr v = 65533) := Lib.hid (by unfold chr; rw [if_pos (by omega)])
                    clear c0
                    go_enter Tryz.func75, Tryz.ntmps75
                    go_wp2_with (first | (go_at_call 93; refine HE.out.mono ?_; rintro e w' ⟨rfl, rfl⟩) | (go_at_call 95; (with_reducible refine HN.out.mono ?_); rintro e w' ⟨rfl, hb⟩))
                    go_ret2
                    exact ⟨ret_val (by rw [HR.out]; simp only [Option.map_some, resV, HV.out]; rfl), hb⟩
                  · have HV : Hid (chr v = v) := Lib.hid (by unfold chr; rw [if_neg (by omega)])
                    clear c0
                    go_enter Tryz.func75, Tryz.ntmps75
                    go_wp2_with (first | (go_at_call 93; refine HE.out.mono ?_; rintro e w' ⟨rfl, rfl⟩) | (go_at_call 95; (with_reducible refine HN.out.mono ?_); rintro e w' ⟨rfl, hb⟩))
                    go_ret2
                    exact ⟨ret_val (by rw [HR.out]; simp only [Option.map_some, resV, HV.out]; rfl), hb⟩
              · have HV : Hid (chr v = v) := Lib.hid (by unfold chr; rw [if_neg (by omega)])
                have c3 : ¬ 1114111 < v := by omega
                clear c0
                go_enter Tryz.func75, Tryz.ntmps75
                go_wp2_with (first | (go_at_call 93; refine HE.out.mono ?_; rintro e w' ⟨rfl, rfl⟩) | (go_at_call 95; (with_reducible refine HN.out.mono ?_); rintro e w' ⟨rfl, hb⟩))
                go_ret2
                exact ⟨ret_val (by rw [HR.out]; simp only [Option.map_some, resV, HV.out]; rfl), hb⟩
        · by_cases hz2 : z = 88
          · subst hz2
            have hz : (s.extract 3 k).size ≤ 1000000 := by simp; omega
            have HN := Lib.hid (rnumber_16 (s.extract 3 k) w hz)
            have hx : (s.extract 3 k).data.toList = d := by
              have := HKD.out
              simp at this
              rw [Lib.extract_data, HL.out, this]
              simp
            rw [hx] at HN
            rw [ofBody_hex (Or.inr rfl)] at HR
            rcases numB_cases 16 6 (by decide) (by decide) d with ⟨e1, e2⟩ | ⟨v, e1, e2, hv0, hv1⟩
            · rw [e1] at HR
              rw [e2] at HN
              clear e1 e2 hx HL HKD
              go_enter Tryz.func75, Tryz.ntmps75
              go_wp2_with (first | (go_at_call 93; refine HE.out.mono ?_; rintro e w' ⟨rfl, rfl⟩) | (go_at_call 95; (with_reducible refine HN.out.mono ?_); rintro e w' ⟨rfl, hb⟩))
              go_ret2
              exact ⟨ret_val (by rw [HR.out]; rfl), hb⟩
            · rw [e1] at HR
              rw [e2] at HN
              clear e1 e2 hx HL HKD
              by_cases c0 : v = 0
              · subst c0
                go_enter Tryz.func75, Tryz.ntmps75
                go_wp2_with (first | (go_at_call 93; refine HE.out.mono ?_; rintro e w' ⟨rfl, rfl⟩) | (go_at_call 95; (with_reducible refine HN.out.mono ?_); rintro e w' ⟨rfl, hb⟩))
                go_ret2
                exact ⟨ret_val (by rw [HR.out]; rfl), hb⟩
              · have cb : (v == 0) = false := by simpa using c0
                by_cases c1 : 55296 ≤ v
                · by_cases c2 : v ≤ 57343
                  · have HV : Hid (chr v = 65533) := Lib.hid (by unfold chr; rw [if_pos (by omega)])
                    clear c0
                    go_enter Tryz.func75, Tryz.ntmps75
                    go_wp2_with (first | (go_at_call 93; refine HE.out.mono ?_; rintro e w' ⟨rfl, rfl⟩) | (go_at_call 95; (with_reducible refine HN.out.mono ?_); rintro e w' ⟨rfl, hb⟩))
                    go_ret2
                    exact ⟨ret_val (by rw [HR.out]; simp only [Option.map_some, resV, HV.out]; rfl), hb⟩
                  · by_cases c3 : 1114111 < v
                    · have HV : Hid (chr v = 65533) := Lib.hid (by unfold chr; rw [if_pos (by omega)])
                      clear c0
                      go_enter Tryz.func75, Tryz.ntmps75
                      go_wp2_with (first | (go_at_call 93; refine HE.out.mono ?_; rintro e w' ⟨rfl, rfl⟩) | (go_at_call 95; (with_reducible refine HN.out.mono ?_); rintro e w' ⟨rfl, hb⟩))
                      go_ret2
                      exact ⟨ret_val (by rw [HR.out]; simp only [Option.map_some, resV, HV.out]; rfl), hb⟩
                    · have HV : Hid (chr v = v) := Lib.hid (by unfold chr; rw [if_neg (by omega)])
                      clear c0
                      go_enter Tryz.func75, Tryz.ntmps75
                      go_wp2_with (first | (go_at_call 93; refine HE.out.mono ?_; rintro e w' ⟨rfl, rfl⟩) | (go_at_call 95; (with_reducible refine HN.out.mono ?_); rintro e w' ⟨rfl, hb⟩))
                      go_ret2
                      exact ⟨ret_val (by rw [HR.out]; simp only [Option.map_some, resV, HV.out]; rfl), hb⟩
                · have HV : Hid (chr v = v) := Lib.hid (by unfold chr; rw [if_neg (by omega)])
                  have c3 : ¬ 1114111 < v := by omega
                  clear c0
                  go_enter Tryz.func75, Tryz.ntmps75
                  go_wp2_with (first | (go_at_call 93; refine HE.out.mono ?_; rintro e w' ⟨rfl, rfl⟩) | (go_at_call 95; (with_reducible refine HN.out.mono ?_); rintro e w' ⟨rfl, hb⟩))
                  go_ret2
                  exact ⟨ret_val (by rw [HR.out]; simp only [Option.map_some, resV, HV.out]; rfl), hb⟩
          · have hb1 : ((z.toNat : Int) == 120) = false := u8_ne (n := 120) (by decide) hz
            have hb2 : ((z.toNat : Int) == 88) = false := u8_ne (n := 88) (by decide) hz2
            have hzz : (s.extract 2 k).size ≤ 1000000 := by simp; omega
            have HN := Lib.hid (rnumber_10 (s.extract 2 k) w hzz)
            have hx : (s.extract 2 k).data.toList = z :: d := by
              have := HKD.out
              simp at this
              rw [Lib.extract_data, HL.out, this]
              simp
            rw [hx] at HN
            rw [ofBody_dec (by simp [hz, hz2])] at HR
            clear hz hz2 hzz
            rcases numB_cases 10 7 (by decide) (by decide) (z :: d) with ⟨e1, e2⟩ | ⟨v, e1, e2, hv0, hv1⟩
            · rw [e1] at HR
              rw [e2] at HN
              clear e1 e2 hx HL HKD
              go_enter Tryz.func75, Tryz.ntmps75
              go_wp2_with (first | (go_at_call 93; refine HE.out.mono ?_; rintro e w' ⟨rfl, rfl⟩) | (go_at_call 95; (with_reducible refine HN.out.mono ?_); rintro e w' ⟨rfl, hb⟩))
              go_ret2
              exact ⟨ret_val (by rw [HR.out]; rfl), hb⟩
            · rw [e1] at HR
              rw [e2] at HN
              clear e1 e2 hx HL HKD
              by_cases c0 : v = 0
              · subst c0
                go_enter Tryz.func75, Tryz.ntmps75
                go_wp2_with (first | (go_at_call 93; refine HE.out.mono ?_; rintro e w' ⟨rfl, rfl⟩) | (go_at_call 95; (with_reducible refine HN.out.mono ?_); rintro e w' ⟨rfl, hb⟩))
                go_ret2
                exact ⟨ret_val (by rw [HR.out]; rfl), hb⟩
              · have cb : (v == 0) = false := by simpa using c0
                by_cases c1 : 55296 ≤ v
                · by_cases c2 : v ≤ 57343
                  · have HV : Hid (chr v = 65533) := Lib.hid (by unfold chr; rw [if_pos (by omega)])
                    clear c0
                    go_enter Tryz.func75, Tryz.ntmps75
                    go_wp2_with (first | (go_at_call 93; refine HE.out.mono ?_; rintro e w' ⟨rfl, rfl⟩) | (go_at_call 95; (with_reducible refine HN.out.mono ?_); rintro e w' ⟨rfl, hb⟩))
                    go_ret2
                    exact ⟨ret_val (by rw [HR.out]; simp only [Option.map_some, resV, HV.out]; rfl), hb⟩
                  · by_cases c3 : 1114111 < v
                    · have HV : Hid (chr v = 65533) := Lib.hid (by unfold chr; rw [if_pos (by omega)])
                      clear c0
                      go_enter Tryz.func75, Tryz.ntmps75
                      go_wp2_with (first | (go_at_call 93; refine HE.out.mono ?_; rintro e w' ⟨rfl, rfl⟩) | (go_at_call 95; (with_reducible refine HN.out.mono ?_); rintro e w' ⟨rfl, hb⟩))
                      go_ret2
                      exact ⟨ret_val (by rw [HR.out]; simp only [Option.map_some, resV, HV.out]; rfl), hb⟩
                    · have HV : Hid (chr v = v) := Lib.hid (by unfold chr; rw [if_neg (by omega)])
                      clear c0
                      go_enter Tryz.func75, Tryz.ntmps75
                      go_wp2_with (first | (go_at_call 93; refine HE.out.mono ?_; rintro e w' ⟨rfl, rfl⟩) | (go_at_call 95; (with_reducible refine HN.out.mono ?_); rintro e w' ⟨rfl, hb⟩))
                      go_ret2
                      exact ⟨ret_val (by rw [HR.out]; simp only [Option.map_some, resV, HV.out]; rfl), hb⟩
                · have HV : Hid (chr v = v) := Lib.hid (by unfold chr; rw [if_neg (by omega)])
                  have c3 : ¬ 1114111 < v := by omega
                  clear c0
                  go_enter Tryz.func75, Tryz.ntmps75
                  go_wp2_with (first | (go_at_call 93; refine HE.out.mono ?_; rintro e w' ⟨rfl, rfl⟩) | (go_at_call 95; (with_reducible refine HN.out.mono ?_); rintro e w' ⟨rfl, hb⟩))
                  go_ret2
                  exact ⟨ret_val (by rw [HR.out]; simp only [Option.map_some, resV, HV.out]; rfl), hb⟩
    · have hb1 : ((y.toNat : Int) == 35) = false := u8_ne (n := 35) (by decide) hy
      have hb2 : ((y.toNat : Int) != 35) = true := by rw [bne, hb1]; rfl
      have HN := Lib.hid (fun W => rnamed_any (s.extract 1 k) W)
      have hx : (s.extract 1 k).data.toList = y :: d := by
        rw [Lib.extract_data, HL.out, HKD.out]
        simp
      rw [hx] at HN
      rw [ofBody_name hy] at HR
      clear hx HL HKD hy
      cases hn : namedF rowsT (y :: d) with
      | none =>
        rw [namedV_none hn] at HN
        rw [hn] at HR
        clear hn
        go_enter Tryz.func75, Tryz.ntmps75
        go_wp2_with (first | (go_at_call 93; refine HE.out.mono ?_; rintro e w' ⟨rfl, rfl⟩) | (go_at_call 94; refine (HN.out _).mono ?_; rintro e w' ⟨rfl, hb⟩))
        go_ret2
        exact ⟨ret_val (by rw [HR.out]; rfl), hb⟩
      | some c =>
        rw [namedV_some hn] at HN
        rw [hn] at HR
        clear hn
        go_enter Tryz.func75, Tryz.ntmps75
        go_wp2_with (first | (go_at_call 93; refine HE.out.mono ?_; rintro e w' ⟨rfl, rfl⟩) | (go_at_call 94; refine (HN.out _).mono ?_; rintro e w' ⟨rfl, hb⟩))
        go_ret2
        exact ⟨ret_val (by rw [HR.out]; rfl), hb⟩
  · have HV : Hid (rread s.data.toList = none) := Lib.hid (by rw [HR.out, ofBody_other hx]; rfl)
    have hb1 : ((x.toNat : Int) == 38) = false := u8_ne (n := 38) (by decide) hx
    have hb2 : ((x.toNat : Int) != 38) = true := by rw [bne, hb1]; rfl
    clear hx HR HL HKD
    go_enter Tryz.func75, Tryz.ntmps75
    go_wp2_with (first | (go_at_call 93; refine HE.out.mono ?_; rintro e w' ⟨rfl, rfl⟩))
    go_ret2
    exact ⟨ret_val (by rw [HV.out]; rfl), Below.refl _ _⟩
end En
end Go.Proofs.YtfabiidohdkkcaaGreatDoor
