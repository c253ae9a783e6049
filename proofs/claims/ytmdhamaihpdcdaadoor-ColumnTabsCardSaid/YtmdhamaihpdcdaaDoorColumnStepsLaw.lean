/- ColumnSteps: the law's walk. -/
import Derived.Test.YtmdhamaihpdcdaaDoorColC
namespace Go.Proofs.YtmdhamaihpdcdaaDoor
open Go Go.RowKit
namespace ColumnSteps
open Cl
set_option maxRecDepth 100000
set_option linter.unusedVariables false
set_option linter.unusedSimpArgs false

/-- Skip at a text that is known as bytes. -/
theorem skip_at (l : List UInt8) (col n : Nat) (r : List UInt8) (c : Nat) (W : World) (h : skp l col n = (r, c)) (hl : l.length ≤ 1099511627776) (hc : col ≤ 1073741824) (hn : n ≤ 1073741824) :
    Calls Tryd.prog 17 #[str l, .int .i64 (col : Int), .int .i64 (n : Int)] W fun e w' => e = .returned (.tuple #[str r, .int .i64 (c : Int)]) ∧ Below W.heap.size W w' := by
  have := skip_any ⟨l.toArray⟩ col n W hl hc hn
  rw [show skS (⟨l.toArray⟩ : ByteArray).data.toList col n = .tuple #[str r, .int .i64 (c : Int)] from by unfold skS; rw [show (⟨l.toArray⟩ : ByteArray).data.toList = l from rfl, h]] at this
  exact this
theorem spaces_at (l : List UInt8) (col : Nat) (r : List UInt8) (W : World) (h : norm l col = r) (hl : l.length ≤ 1099511627776) (hc : col ≤ 1073741824) :
    Calls Tryd.prog 18 #[str l, .int .i64 (col : Int)] W fun e w' => e = .returned (str r) ∧ Below W.heap.size W w' := by
  subst h
  exact spaces_any ⟨l.toArray⟩ col W hl hc

set_option maxHeartbeats 1000000 in
theorem law_any (s : ByteArray) (col n m : Int) (w : World) (hs : s.size ≤ maxLen) :
    Calls Tryd.prog 5 #[.string s, .int .i64 col, .int .i64 n, .int .i64 m] w fun e w' => e = .returned (.bool true) ∧ Below w.heap.size w w' := by
  unfold maxLen at hs
  have HA := Lib.hid (awake_any w)
  by_cases hbig : 1000 < s.size
  · have hb' : (1000 : Int) < (s.size : Int) := by omega
    go_enter Tryd.func5, Tryd.ntmps5
    go_wp2_with (go_at_call 9; refine HA.out.mono ?_; rintro e w1 ⟨rfl, hb1⟩)
    go_ret
    exact ⟨rfl, hb1⟩
  · have hb' : (s.size : Int) ≤ 1000 := by omega
    have hs2 : s.data.toList.length ≤ 1000 := by rw [sz]; omega
    have SC := Lib.hid (fun W => small_any col W)
    have SN := Lib.hid (fun W => small_any n W)
    have SM := Lib.hid (fun W => small_any m W)
    have hc := msk_le col 1023 (by decide)
    have hn := msk_le n 1023 (by decide)
    have hm := msk_le m 1023 (by decide)
    generalize msk col 1023 = at_ at *
    generalize msk n 1023 = i at *
    generalize msk m 1023 = j at *
    have h1 := skp_len s.data.toList at_ i
    have h2 := skp_col s.data.toList at_ i
    have h3 := skp_len s.data.toList at_ (i + j)
    have h4 := skp_col s.data.toList at_ (i + j)
    have h5 := skp_len (skp s.data.toList at_ i).1 (skp s.data.toList at_ i).2 j
    have h6 := skp_col (skp s.data.toList at_ i).1 (skp s.data.toList at_ i).2 j
    obtain ⟨h7, h8⟩ := skp_skp s.data.toList at_ i j
    obtain ⟨t, c, htc⟩ : ∃ t c, skp s.data.toList at_ i = (t, c) := ⟨_, _, rfl⟩
    rw [htc] at h1 h2 h5 h6 h7 h8
    obtain ⟨u, d, hud⟩ : ∃ u d, skp t c j = (u, d) := ⟨_, _, rfl⟩
    rw [show (t, c).1 = t from rfl, show (t, c).2 = c from rfl] at *
    rw [hud] at h5 h6 h7 h8
    obtain ⟨v, e2, hve⟩ : ∃ v e2, skp s.data.toList at_ (i + j) = (v, e2) := ⟨_, _, rfl⟩
    rw [hve] at h3 h4 h7 h8
    dsimp only at h1 h2 h3 h4 h5 h6 h7 h8
    subst h7
    have K1 := Lib.hid (fun W => skip_at s.data.toList at_ i t c W htc (by omega) (by omega) (by omega))
    have K2 := Lib.hid (fun W => skip_at t c j u d W hud (by omega) (by omega) (by omega))
    have K3 := Lib.hid (fun W => skip_at s.data.toList at_ (i + j) v d W hve (by omega) (by omega) (by omega))
    have P1 := Lib.hid (fun W => spaces_at u d _ W rfl (by omega) (by omega))
    have P2 := Lib.hid (fun W => spaces_at v d _ W h8.symm (by omega) (by omega))
    have hij : ((i + j : Nat) : Int) = (i : Int) + (j : Int) := by omega
    rw [hij] at K3
    rw [show str s.data.toList = .string s from rfl] at K1 K3
    clear hij htc hud hve h8 hbig
    generalize norm u d = z at *
    unfold str at *
    go_enter Tryd.func5, Tryd.ntmps5
    go_wp2_with (go_at_call 9; refine HA.out.mono ?_; rintro e w1 ⟨rfl, hb1⟩)
    refine (SC.out _).mono ?_
    rintro e w' ⟨rfl, rfl⟩
    go_wp2_with fail
    refine (SN.out _).mono ?_
    rintro e w' ⟨rfl, rfl⟩
    go_wp2_with fail
    refine (from_below (K1.out _) hb1).mono ?_
    rintro e w2 ⟨rfl, hb2⟩
    go_wp2_with fail
    refine (SM.out _).mono ?_
    rintro e w' ⟨rfl, rfl⟩
    go_wp2_with fail
    refine (from_below (K2.out _) hb2).mono ?_
    rintro e w3 ⟨rfl, hb3⟩
    go_wp2_with fail
    refine (SN.out _).mono ?_
    rintro e w' ⟨rfl, rfl⟩
    go_wp2_with fail
    refine (SM.out _).mono ?_
    rintro e w' ⟨rfl, rfl⟩
    go_wp2_with fail
    refine (from_below (K3.out _) hb3).mono ?_
    rintro e w4 ⟨rfl, hb4⟩
    go_wp2_with fail
    refine (from_below (P1.out _) hb4).mono ?_
    rintro e w5 ⟨rfl, hb5⟩
    go_wp2_with fail
    refine (from_below (P2.out _) hb5).mono ?_
    rintro e w6 ⟨rfl, hb6⟩
    go_wp2
    go_ret
    exact ⟨rfl, hb6⟩
end ColumnSteps
end Go.Proofs.YtmdhamaihpdcdaaDoor
