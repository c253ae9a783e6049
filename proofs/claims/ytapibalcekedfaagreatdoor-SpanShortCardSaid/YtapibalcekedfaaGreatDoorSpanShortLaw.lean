/- SpanShort: the law's walk. -/
import Derived.Test.YtapibalcekedfaaGreatDoorSpJ
import Derived.Test.YtapibalcekedfaaGreatDoorSpQ
namespace Go.Proofs.YtapibalcekedfaaGreatDoor
open Go Go.RowKit
namespace SpanShort
open Sp Sc
set_option maxRecDepth 100000
set_option linter.unusedVariables false
set_option linter.unusedSimpArgs false

theorem at_of {s : ByteArray} {k : Nat} {c : UInt8} (h : s.data.toList[k]? = some c) : ∃ h : k < s.size, s[k] = c := by
  have h1 := (List.getElem?_eq_some_iff.1 h).1
  rw [sz] at h1
  obtain ⟨x, t, hd, hck, ht⟩ := cons_at h1
  have := get_of h1 hck
  rw [this] at h
  exact ⟨h1, hck.trans (Option.some.inj h)⟩
theorem auto_at (l : List UInt8) : ∃ (b c : ByteArray) (n : Nat), autoV (autoP l) = .tuple #[.string b, .string c, .int .i64 (n : Int)] ∧ n ≤ l.length := by
  cases h : autoP l with
  | none => exact ⟨⟨#[]⟩, ⟨#[]⟩, 0, rfl, Nat.zero_le _⟩
  | some p => exact ⟨⟨(autoA p.1 p.2).toArray⟩, ⟨p.2.toArray⟩, p.2.length + 2, rfl, auto_le h⟩

set_option maxHeartbeats 4000000 in
theorem law_any (s : ByteArray) (w : World) (hL : LaidP w) (hs : s.size ≤ maxLen) :
    Calls Tryz.prog 6 #[.string s] w fun e w' => e = .returned (.bool true) ∧ Below w.heap.size w w' := by
  unfold maxLen at hs
  have HA := Lib.hid (frm_awake hL)
  have hb0 := Below.refl w.heap.size w
  by_cases hbig : 1500 < s.size
  · have hb' : (1500 : Int) < (s.size : Int) := by omega
    clear hL
    go_enter Tryz.func6, Tryz.ntmps6
    go_wp2_with fail
    refine (HA.out _ hb0).mono ?_
    rintro e w1 ⟨rfl, hb1⟩
    go_wp2
    go_ret
    exact ⟨rfl, hb1⟩
  · have hb' : (s.size : Int) ≤ 1500 := by omega
    have hz : s.size ≤ 100000 := by omega
    obtain ⟨b, c, m, h2, hm⟩ := auto_at s.data.toList
    rw [sz] at hm
    obtain ⟨k, hk⟩ : ∃ k, rawP s.data.toList = k := ⟨_, rfl⟩
    have hkl := raw_le s.data.toList
    rw [hk, sz] at hkl
    have F2 := Lib.hid (frm_auto hL hz h2)
    have F3 := Lib.hid (frm_raw hL hz hk)
    have m1 : (m : Int) ≤ (s.size : Int) := by omega
    have m2 : ¬ (m : Int) < 0 := by omega
    have k1 : (k : Int) ≤ (s.size : Int) := by omega
    have k2 : ¬ (k : Int) < 0 := by omega
    clear h2 hk hbig
    cases hc : codeP s.data.toList with
    | none =>
      have F1 := Lib.hid (frm_code hL (b := ⟨#[]⟩) (n := 0) hz (by rw [hc]; rfl))
      clear hL hc
      go_enter Tryz.func6, Tryz.ntmps6
      go_wp2_with fail
      refine (HA.out _ hb0).mono ?_
      rintro e w1 ⟨rfl, hb1⟩
      go_wp2_with fail
      refine (F1.out _ hb1).mono ?_
      rintro e w2 ⟨rfl, hb2⟩
      go_wp2_with fail
      refine (F2.out _ hb2).mono ?_
      rintro e w3 ⟨rfl, hb3⟩
      go_wp2_with fail
      refine (F3.out _ hb3).mono ?_
      rintro e w4 ⟨rfl, hb4⟩
      go_wp2
      go_ret
      exact ⟨rfl, hb4⟩
    | some p =>
      obtain ⟨x, n⟩ := p
      obtain ⟨g1, g2, g3, g4, g5, g6⟩ := code_short hc
      rw [sz] at g1 g6
      have F1 := Lib.hid (frm_code hL (b := ⟨x.toArray⟩) (n := (n : Int)) hz (by rw [hc]; rfl))
      obtain ⟨r, hr⟩ : ∃ r, runP s.data.toList = r := ⟨_, rfl⟩
      have F4 := Lib.hid (frm_run hL hz hr)
      rw [hr] at g2 g3 g4 g5
      have n1 : (n : Int) ≤ (s.size : Int) := by omega
      have n2 : ¬ (n : Int) < 0 := by omega
      have n3 : ((n : Int) == 0) = false := by simp; omega
      have HG4 : Hid (∀ i, i < r → ∃ h : n - 1 - i < s.size, s[n - 1 - i] = 96) := Lib.hid (fun i hi => at_of (g4 i hi))
      obtain ⟨c5, h5, h5c⟩ := g5
      obtain ⟨z5, hz5⟩ := at_of h5
      obtain ⟨q, hq⟩ : ∃ q, n - 1 - r = q := ⟨_, rfl⟩
      have hqz : ∃ h : q < s.size, s[q] = c5 := by subst hq; exact ⟨z5, hz5⟩
      obtain ⟨z6, hz6⟩ := hqz
      have e5 : ((c5.toNat : Int) != 96) = true := u8_neq (n := 96) (by decide) h5c
      have HG6 : Hid (n = s.size ∨ ((n : Int) < (s.size : Int) ∧ ((n : Int) == (s.size : Int)) = false ∧ ∃ c : UInt8, (∃ h : n < s.size, s[n] = c) ∧ ((c.toNat : Int) != 96) = true)) := Lib.hid (by
        rcases g6 with h | ⟨c, h1, h2⟩
        · exact .inl h
        · right
          obtain ⟨z, hz⟩ := at_of h1
          exact ⟨by omega, by simp; omega, c, ⟨z, hz⟩, u8_neq (n := 96) (by decide) h2⟩)
      have q1 : (n : Int) - 1 - (r : Int) = (q : Int) := by omega
      have q2 : (q : Int) < (s.size : Int) := by omega
      have r1 : 2 * (r : Int) + 1 ≤ (n : Int) := by omega
      have r2 : (r : Int) ≤ 1500 := by omega
      have HNR : Hid (2 * r + 1 ≤ n ∧ n ≤ s.size) := Lib.hid ⟨g2, g1⟩
      clear hL hc g4 h5 hz5 z5 h5c g6 hr hq
      go_enter Tryz.func6, Tryz.ntmps6
      go_wp2_with fail
      refine (HA.out _ hb0).mono ?_
      rintro e w1 ⟨rfl, hb1⟩
      go_wp2_with fail
      refine (F1.out _ hb1).mono ?_
      rintro e w2 ⟨rfl, hb2⟩
      go_wp2_with fail
      refine (F2.out _ hb2).mono ?_
      rintro e w3 ⟨rfl, hb3⟩
      go_wp2_with fail
      refine (F3.out _ hb3).mono ?_
      rintro e w4 ⟨rfl, hb4⟩
      go_wp2_with fail
      refine (F4.out _ hb4).mono ?_
      rintro e w5 ⟨rfl, hb5⟩
      have HB5 := Lib.hid hb5
      clear hb1 hb2 hb3 hb4 hb5
      go_wp2_with fail
      go_loopg [11] r (fun g v wr => ∃ i : Nat, i + g = r ∧ v = .int .i64 (i : Int) ∧ Hid (Below w.heap.size w wr))
      case atStart => exact ⟨0, by omega, rfl, HB5⟩
      case round =>
        obtain ⟨i, hig, rfl, HB⟩ := hrel
        by_cases hlt : i < r
        · have hlt' : (i : Int) < (r : Int) := by omega
          obtain ⟨z7, hz7⟩ := HG4.out i hlt
          obtain ⟨y, hy⟩ : ∃ y, n - 1 - i = y := ⟨_, rfl⟩
          have hyz : ∃ h : y < s.size, s[y] = 96 := by subst hy; exact ⟨z7, hz7⟩
          obtain ⟨z8, hz8⟩ := hyz
          have y1 : (n : Int) - 1 - (i : Int) = (y : Int) := by omega
          have y2 : (y : Int) < (s.size : Int) := by omega
          clear hz7 z7 hy
          go_wp2
          go_roundg (gk - 1)
          case rel => exact ⟨i + 1, by omega, by go_num, HB⟩
          case measure => omega
        · have hlt' : ¬ (i : Int) < (r : Int) := by omega
          rcases HG6.out with hn | ⟨s1, s2, c, ⟨s3, s4⟩, s5⟩
          · have hn2 : ((n : Int) == (s.size : Int)) = true := by simp; omega
            clear hn
            go_wp2
            go_ret
            exact ⟨rfl, HB.out⟩
          · go_wp2
            go_ret
            exact ⟨rfl, HB.out⟩
end SpanShort
end Go.Proofs.YtapibalcekedfaaGreatDoor
