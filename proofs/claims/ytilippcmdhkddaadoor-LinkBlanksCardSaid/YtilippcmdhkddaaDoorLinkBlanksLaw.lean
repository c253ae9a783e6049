/- LinkBlanks: the law's walk. -/
import Derived.Test.YtilippcmdhkddaaDoorLkL
namespace Go.Proofs.YtilippcmdhkddaaDoor
open Go Go.RowKit
namespace LinkBlanks
open Lk
set_option maxRecDepth 100000
set_option linter.unusedVariables false
set_option linter.unusedSimpArgs false

theorem head_at {s : ByteArray} {k : Nat} {d : UInt8} (h : (s.data.toList.drop k).head? = some d) : ∃ hk : k < s.size, s[k] = d := by
  rcases Nat.lt_or_ge k s.size with hk | hk
  · obtain ⟨c, t, hd, hck, _⟩ := consAt hk
    rw [hd] at h
    exact ⟨hk, by rw [hck]; exact Option.some.inj h⟩
  · rw [List.drop_eq_nil_of_le (by rw [szL]; exact hk)] at h; cases h

set_option maxHeartbeats 4000000 in
theorem law_any (s : ByteArray) (w : World) (hL : LaidL w) (hs : s.size ≤ maxLen) :
    Calls Tryd.prog 6 #[.string s] w fun e w' => e = .returned (.bool true) ∧ Below w.heap.size w w' := by
  unfold maxLen at hs
  have HA := Lib.hid (frm_awake hL)
  have hb0 := Below.refl w.heap.size w
  by_cases hbig : 1000 < s.size
  · have hb' : (1000 : Int) < (s.size : Int) := by omega
    clear hL
    go_enter Tryd.func6, Tryd.ntmps6
    go_wp2_with fail
    refine (HA.out _ hb0).mono ?_
    rintro e w1 ⟨rfl, hb1⟩
    go_wp2
    go_ret
    exact ⟨rfl, hb1⟩
  · have hb' : (s.size : Int) ≤ 1000 := by omega
    have hz : s.size ≤ 100000 := by omega
    obtain ⟨x, n, b, hd⟩ := dst_ex s.data.toList
    have F1 := Lib.hid (frm_dest hL hz hd)
    cases b with
    | false =>
      have h0 := dest_false hd
      subst h0
      clear hL hd hbig
      go_enter Tryd.func6, Tryd.ntmps6
      go_wp2_with fail
      refine (HA.out _ hb0).mono ?_
      rintro e w1 ⟨rfl, hb1⟩
      go_wp2_with fail
      refine (F1.out _ hb1).mono ?_
      rintro e w2 ⟨rfl, hb2⟩
      go_wp2
      go_ret
      exact ⟨rfl, hb2⟩
    | true =>
      obtain ⟨h1, h2, h3⟩ := dest_true hd
      rw [szL] at h2
      have h1' : (1 : Int) ≤ (n : Int) := by omega
      have h2' : (n : Int) ≤ (s.size : Int) := by omega
      have hd1 : decide ((n : Int) < 1) = false := decide_eq_false (by omega)
      have hd2 : decide ((s.size : Int) < (n : Int)) = false := decide_eq_false (by omega)
      have hd4 : decide (s.size < n) = false := decide_eq_false (by omega)
      have hd3 : decide ((1000 : Int) < (s.size : Int)) = false := decide_eq_false (by omega)
      rcases h3 with ⟨g1, g2⟩ | ⟨g1, g2, g3⟩
      · obtain ⟨m, hm⟩ : ∃ m, m + 1 = n := ⟨n - 1, by omega⟩
        have hmn : (n : Int) - 1 = (m : Int) := by omega
        obtain ⟨k0, e0⟩ := head_at (s := s) (k := 0) (by rw [List.drop_zero]; exact g1)
        obtain ⟨k1, e1⟩ := head_at (s := s) (k := m) (by rw [show m = n - 1 by omega]; exact g2)
        have i0 : (0 : Int) < (s.size : Int) := by omega
        have i1 : (m : Int) < (s.size : Int) := by omega
        clear hL hd hbig g1 g2 hm
        go_enter Tryd.func6, Tryd.ntmps6
        go_wp2_with fail
        refine (HA.out _ hb0).mono ?_
        rintro e w1 ⟨rfl, hb1⟩
        go_wp2_with fail
        refine (F1.out _ hb1).mono ?_
        rintro e w2 ⟨rfl, hb2⟩
        go_wp2
        go_ret
        exact ⟨rfl, hb2⟩
      · have h0s : 0 < s.size := by omega
        obtain ⟨c, t, hc, hck, _⟩ := consAt h0s
        rw [List.drop_zero] at hc
        have i0 : (0 : Int) < (s.size : Int) := by omega
        have hc60 : ((c.toNat : Int) == 60) = false := (eqU c 60 (by decide)).trans (beq_eq_false_iff_ne.2 fun e => g1 (by rw [hc, e]; rfl))
        have HG2 : Hid (∀ i, i < n → ∃ hi : i < s.size, 32 < (s[i]).toNat ∧ s[i] ≠ 127) := Lib.hid (fun i hi => by
          have his : i < s.size := by omega
          obtain ⟨d, u, hd2, hdk, _⟩ := consAt his
          have hmem : d ∈ s.data.toList.take n := by
            rw [← List.take_append_drop i (s.data.toList.take n), List.drop_take, hd2, show n - i = (n - i - 1) + 1 by omega, List.take_succ_cons]
            exact List.mem_append_right _ List.mem_cons_self
          exact ⟨his, by rw [hdk]; exact g2 d hmem⟩)
        have HG3 : Hid (n < s.size → ∃ hi : n < s.size, (s[n]).toNat ≤ 32 ∨ s[n] = 127 ∨ s[n] = 41) := Lib.hid (fun hi => by
          obtain ⟨d, u, hd2, hdk, _⟩ := consAt hi
          exact ⟨hi, by rw [hdk]; exact g3 d (by rw [hd2]; rfl)⟩)
        clear hL hd hbig g1 g2 g3
        go_enter Tryd.func6, Tryd.ntmps6
        go_wp2_with fail
        refine (HA.out _ hb0).mono ?_
        rintro e w1 ⟨rfl, hb1⟩
        go_wp2_with fail
        refine (F1.out _ hb1).mono ?_
        rintro e w2 ⟨rfl, hb2⟩
        have HB2 := Lib.hid hb2
        clear hb1 hb2
        go_wp2_with fail
        go_loopg [7] n (fun g v7 wr => ∃ i : Nat, i + g = n ∧ v7 = .int .i64 (i : Int) ∧ w2 = wr)
        case atStart => exact ⟨0, by omega, rfl, rfl⟩
        case round =>
          obtain ⟨i, hig, rfl, rfl⟩ := hrel
          cases gk with
          | zero =>
            have hlt : ¬ (i : Int) < (n : Int) := by omega
            by_cases hn : n < s.size
            · obtain ⟨hi, hx⟩ := HG3.out hn
              have hn' : (n : Int) < (s.size : Int) := by omega
              have hne : ((n : Int) == (s.size : Int)) = false := by simp; omega
              obtain ⟨d, hdd⟩ : ∃ d, s[n] = d := ⟨_, rfl⟩
              rw [hdd] at hx
              have e127 : ((d.toNat : Int) == 127) = (d == 127) := eqU d 127 (by decide)
              have e41 : ((d.toNat : Int) == 41) = (d == 41) := eqU d 41 (by decide)
              by_cases h32 : d.toNat ≤ 32
              · have h32' : (d.toNat : Int) ≤ 32 := by omega
                clear hx e127 e41 h32
                go_wp2
                go_ret
                exact ⟨rfl, HB2.out⟩
              · have h32' : ¬ (d.toNat : Int) ≤ 32 := by omega
                by_cases h127 : d = 127
                · rw [show (d == 127) = true by simpa using h127] at e127
                  clear hx e41 h32 h127
                  go_wp2
                  go_ret
                  exact ⟨rfl, HB2.out⟩
                · rw [show (d == 127) = false by simpa using h127] at e127
                  rw [show (d == 41) = true by simpa using (hx.resolve_left h32).resolve_left h127] at e41
                  clear hx h32 h127
                  go_wp2
                  go_ret
                  exact ⟨rfl, HB2.out⟩
            · have hne : ((n : Int) == (s.size : Int)) = true := by simp; omega
              go_wp2
              go_ret
              exact ⟨rfl, HB2.out⟩
          | succ g =>
            have hlt : (i : Int) < (n : Int) := by omega
            obtain ⟨hi, hx⟩ := HG2.out i (by omega)
            obtain ⟨d, hdd⟩ : ∃ d, s[i] = d := ⟨_, rfl⟩
            rw [hdd] at hx
            have his : (i : Int) < (s.size : Int) := by omega
            have h32' : ¬ (d.toNat : Int) ≤ 32 := by omega
            have e127 : ((d.toNat : Int) == 127) = false := (eqU d 127 (by decide)).trans (beq_eq_false_iff_ne.2 hx.2)
            clear hx
            go_wp2
            go_roundg g
            case rel => exact ⟨i + 1, by omega, by go_num, rfl⟩
            case measure => omega
end LinkBlanks
end Go.Proofs.YtilippcmdhkddaaDoor
