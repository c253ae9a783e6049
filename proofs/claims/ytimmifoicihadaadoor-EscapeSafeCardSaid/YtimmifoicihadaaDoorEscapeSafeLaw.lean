/- EscapeSafe: the law's walk. -/
import Derived.Test.YtimmifoicihadaaDoorEscI
namespace Go.Proofs.YtimmifoicihadaaDoor
open Go Go.RowKit
namespace EscapeSafe
open En Es
set_option maxRecDepth 100000
set_option linter.unusedVariables false
set_option linter.unusedSimpArgs false

theorem ext_min (X : ByteArray) (k n : Nat) (hk : k ≤ X.size) : X.extract k (min X.size (k + n)) = ⟨((X.data.toList.drop k).take n).toArray⟩ := by
  refine ext_of X k _ _ ?_
  have hl : (X.data.toList.drop k).length = X.size - k := by rw [List.length_drop, sz]
  rcases Nat.le_total (k + n) X.size with h | h
  · rw [Nat.min_eq_right h, Nat.add_sub_cancel_left]
  · rw [Nat.min_eq_left h, List.take_of_length_le (by omega), List.take_of_length_le (by omega)]

set_option maxHeartbeats 4000000 in
theorem law_any (s : ByteArray) (w : World) (hL : LaidK w) (hs : s.size ≤ maxLen) :
    Calls Tryd.prog 4 #[.string s] w fun e w' => e = .returned (.bool true) ∧ Below w.heap.size w w' := by
  unfold maxLen at hs
  have HA := Lib.hid (Es.frm_awake hL)
  have hb0 := Below.refl w.heap.size w
  by_cases hbig : 2000 < s.size
  · have hb' : (2000 : Int) < (s.size : Int) := by omega
    clear hL
    go_enter Tryd.func4, Tryd.ntmps4
    go_wp2_with fail
    refine (HA.out _ hb0).mono ?_
    rintro e w1 ⟨rfl, hb1⟩
    go_wp2
    go_ret
    exact ⟨rfl, hb1⟩
  · have hb' : (s.size : Int) ≤ 2000 := by omega
    have hl : s.data.toList.length ≤ 2000 := by rw [sz]; omega
    have F1 := Lib.hid (frm_html hL (s := s) rfl rfl (by omega))
    have F2 := Lib.hid (frm_href hL (s := s) rfl rfl (by omega))
    have L1 := html_len s.data.toList
    have L2 := href_len s.data.toList
    have HX : Hid ((⟨(html s.data.toList).toArray⟩ : ByteArray).data.toList = html s.data.toList) := Lib.hid rfl
    have HY : Hid ((⟨(href s.data.toList).toArray⟩ : ByteArray).data.toList = href s.data.toList) := Lib.hid rfl
    have hx1 : (⟨(html s.data.toList).toArray⟩ : ByteArray).size ≤ 12000 := by rw [size_mk]; omega
    have hy1 : (⟨(href s.data.toList).toArray⟩ : ByteArray).size ≤ 10000 := by rw [size_mk]; omega
    have hx2 : (s.size : Int) ≤ ((⟨(html s.data.toList).toArray⟩ : ByteArray).size : Int) := by rw [size_mk (html s.data.toList)]; have := sz s; omega
    have hy2 : (s.size : Int) ≤ ((⟨(href s.data.toList).toArray⟩ : ByteArray).size : Int) := by rw [size_mk (href s.data.toList)]; have := sz s; omega
    have HSX := Lib.hid (html_safe s.data.toList)
    have HSY := Lib.hid (href_safe s.data.toList)
    rw [← HX.out] at HSX
    rw [← HY.out] at HSY
    clear hL hbig hl L1 L2 HX HY
    generalize (⟨(html s.data.toList).toArray⟩ : ByteArray) = X at *
    generalize (⟨(href s.data.toList).toArray⟩ : ByteArray) = Y at *
    go_enter Tryd.func4, Tryd.ntmps4
    go_wp2_with fail
    refine (HA.out _ hb0).mono ?_
    rintro e w1 ⟨rfl, hb1⟩
    clear hb0 HA
    go_wp2_with fail
    refine (F1.out _ hb1).mono ?_
    rintro e w2 ⟨rfl, hb2⟩
    clear F1 hb1
    go_wp2
    go_loop [5] (fun v5 => ∃ (k : Nat), k ≤ X.size ∧ v5 = .int .i64 (k : Int)) (fun v5 => X.size - (intOf v5).toNat)
    case atStart => exact ⟨0, by omega, rfl⟩
    case round =>
      obtain ⟨k, hk, rfl⟩ := hrel
      by_cases hlt : k < X.size
      · obtain ⟨c, t, hd, hck, ht⟩ := cons_at hlt
        obtain ⟨c', t', he, n1, n2, n3, hamp⟩ := HSX.out k (by rw [sz]; exact hlt)
        obtain ⟨rfl, rfl⟩ : c = c' ∧ t = t' := by
          rw [hd] at he
          injection he with h1 h2
          exact ⟨h1, h2⟩
        have e1 : ((c.toNat : Int) == 60) = false := Es.u8_ne (n := 60) (by decide) n1
        have e2 : ((c.toNat : Int) == 62) = false := Es.u8_ne (n := 62) (by decide) n2
        have e3 : ((c.toNat : Int) == 34) = false := Es.u8_ne (n := 34) (by decide) n3
        by_cases h1 : c = 38
        · subst h1
          have ha := hamp rfl
          have hm5 : min (X.size : Int) ((k : Int) + 5) = ((min X.size (k + 5) : Nat) : Int) := by omega
          have hm4 : min (X.size : Int) ((k : Int) + 4) = ((min X.size (k + 4) : Nat) : Int) := by omega
          have hm6 : min (X.size : Int) ((k : Int) + 6) = ((min X.size (k + 6) : Nat) : Int) := by omega
          have b5 : min X.size (k + 5) ≤ X.size ∧ k ≤ min X.size (k + 5) := by omega
          have b4 : min X.size (k + 4) ≤ X.size ∧ k ≤ min X.size (k + 4) := by omega
          have b6 : min X.size (k + 6) ≤ X.size ∧ k ≤ min X.size (k + 6) := by omega
          have x5 := Lib.hid (ext_min X k 5 hk)
          have x4 := Lib.hid (ext_min X k 4 hk)
          have x6 := Lib.hid (ext_min X k 6 hk)
          clear hd ht he hamp n1 n2 n3 e1 e2 e3
          generalize min X.size (k + 5) = m5 at *
          generalize min X.size (k + 4) = m4 at *
          generalize min X.size (k + 6) = m6 at *
          generalize (X.data.toList.drop k).take 5 = l5 at *
          generalize (X.data.toList.drop k).take 4 = l4 at *
          generalize (X.data.toList.drop k).take 6 = l6 at *
          obtain ⟨b51, b52⟩ := b5
          obtain ⟨b41, b42⟩ := b4
          obtain ⟨b61, b62⟩ := b6
          have y5 := x5.out
          by_cases h5 : l5 = ampB
          · subst h5
            unfold ampB at y5
            clear x4 x6 x5 ha
            go_wp2
            go_round
            case rel => exact ⟨k + 1, by omega, by go_num⟩
            case measure => simp [intOf]; omega
          have n5 : (l5 == [38, 97, 109, 112, 59]) = false := by rw [beq_eq_false_iff_ne]; exact h5
          have y4 := x4.out
          by_cases h4 : l4 = ltB
          · subst h4
            unfold ltB at y4
            clear x4 x6 x5 ha h5
            go_wp2
            go_round
            case rel => exact ⟨k + 1, by omega, by go_num⟩
            case measure => simp [intOf]; omega
          have n4 : (l4 == [38, 108, 116, 59]) = false := by rw [beq_eq_false_iff_ne]; exact h4
          by_cases h4' : l4 = gtB
          · subst h4'
            unfold gtB at y4
            clear x4 x6 x5 ha h5 h4 n4
            go_wp2
            go_round
            case rel => exact ⟨k + 1, by omega, by go_num⟩
            case measure => simp [intOf]; omega
          have n4' : (l4 == [38, 103, 116, 59]) = false := by rw [beq_eq_false_iff_ne]; exact h4'
          have h6 : l6 = quotB := by
            rcases ha with h | h | h | h
            · exact absurd h h5
            · exact absurd h h4
            · exact absurd h h4'
            · exact h
          have y6 := x6.out
          subst h6
          unfold quotB at y6
          clear x4 x6 x5 ha h5 h4 h4'
          go_wp2
          go_round
          case rel => exact ⟨k + 1, by omega, by go_num⟩
          case measure => simp [intOf]; omega
        · have e4 : ((c.toNat : Int) == 38) = false := Es.u8_ne (n := 38) (by decide) h1
          clear hd ht he hamp n1 n2 n3 h1
          go_wp2
          go_round
          case rel => exact ⟨k + 1, by omega, by go_num⟩
          case measure => simp [intOf]; omega
      · have hke : k = X.size := by omega
        subst hke
        go_wp2_with fail
        refine (F2.out _ hb2).mono ?_
        rintro e w3 ⟨rfl, hb3⟩
        clear F2
        go_wp2
        go_loop [7] (fun v7 => ∃ (k : Nat), k ≤ Y.size ∧ v7 = .int .i64 (k : Int)) (fun v7 => Y.size - (intOf v7).toNat)
        case atStart => exact ⟨0, by omega, rfl⟩
        case round =>
          obtain ⟨k, hk, rfl⟩ := hrel
          by_cases hlt : k < Y.size
          · obtain ⟨c, t, hd, hck, ht⟩ := cons_at hlt
            have hsf := HSY.out c (by
              have : c ∈ Y.data.toList.drop k := by rw [hd]; simp
              exact List.mem_of_mem_drop this)
            obtain ⟨x, hx⟩ : ∃ x : Int, (c.toNat : Int) = x := ⟨_, rfl⟩
            have hsx : (Y[k].toNat : Int) = x := by rw [hck]; exact hx
            unfold safeA at hsf
            simp only [Bool.and_eq_true, decide_eq_true_eq, bne_iff_ne, ne_eq] at hsf
            obtain ⟨⟨⟨⟨⟨⟨f1, f2⟩, f3⟩, f4⟩, f5⟩, f6⟩, f7⟩ := hsf
            have g1 : 32 < x := by omega
            have g2 : x ≤ 126 := by omega
            have g3 : (x == 60) = false := by rw [← hx]; exact Es.u8_ne (n := 60) (by decide) f3
            have g4 : (x == 62) = false := by rw [← hx]; exact Es.u8_ne (n := 62) (by decide) f4
            have g5 : (x == 34) = false := by rw [← hx]; exact Es.u8_ne (n := 34) (by decide) f5
            have g6 : (x == 39) = false := by rw [← hx]; exact Es.u8_ne (n := 39) (by decide) f6
            have g7 : (x == 92) = false := by rw [← hx]; exact Es.u8_ne (n := 92) (by decide) f7
            have d1 : decide (x ≤ 32) = false := decide_eq_false (by omega)
            have d2 : decide (126 < x) = false := decide_eq_false (by omega)
            clear f1 f2 f3 f4 f5 f6 f7 hd ht hck hx
            go_wp2
            go_round
            case rel => exact ⟨k + 1, by omega, by go_num⟩
            case measure => simp [intOf]; omega
          · go_wp2
            go_ret
            exact ⟨rfl, hb3⟩
end EscapeSafe
end Go.Proofs.YtimmifoicihadaaDoor
