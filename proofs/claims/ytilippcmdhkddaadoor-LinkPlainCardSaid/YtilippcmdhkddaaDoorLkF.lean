/- Walks of layer 9, the sixth part: Tail. -/
import Derived.Test.YtilippcmdhkddaaDoorLkE
namespace Go.Proofs.YtilippcmdhkddaaDoor
open Go Go.RowKit
namespace Lk
open Es
set_option maxRecDepth 100000
set_option linter.unusedVariables false
set_option linter.unusedSimpArgs false

theorem tit_le (l : List UInt8) : (titP l).2 ≤ l.length := by
  obtain ⟨x, n, h⟩ : ∃ x n, titP l = (x, n) := ⟨_, _, rfl⟩
  rw [h]
  rcases Nat.eq_zero_or_pos n with h0 | h0
  · subst h0; exact Nat.zero_le _
  · exact (tit_take [] h h0).2.2.2
theorem dest_le (l : List UInt8) : (destP l).2.1 ≤ l.length ∧ ((destP l).2.2 = true → 0 < (destP l).2.1) ∧ ((destP l).2.2 = false → (destP l).2.1 = 0 ∧ (destP l).1 = []) := by
  obtain ⟨x, n, b, h⟩ : ∃ x n b, destP l = (x, n, b) := ⟨_, _, _, rfl⟩
  rw [h]
  cases b with
  | true => obtain ⟨h1, h2, _⟩ := dest_true h; exact ⟨h2, fun _ => h1, fun e => (by cases e)⟩
  | false =>
    have h0 := dest_false h
    subst h0
    refine ⟨Nat.zero_le _, fun e => (by cases e), fun _ => ⟨rfl, ?_⟩⟩
    cases l with
    | nil => cases h; rfl
    | cons c t =>
      unfold destP at h
      simp only at h
      split at h
      · split at h
        · cases h; rfl
        · cases h
      · split at h
        · cases h; rfl
        · split at h
          · cases h; rfl
          · cases h
/-- The title that stands behind an address, and how long it is with the white ahead of it. -/
def tbP (l : List UInt8) : List UInt8 × Nat := if whN l = 0 then ([], 0) else if (titP (l.drop (whN l))).2 = 0 then ([], 0) else ((titP (l.drop (whN l))).1, whN l + (titP (l.drop (whN l))).2)
theorem tb_behind (l : List UInt8) {n : Nat} (p : Nat) (h : 0 < n) : behind l n p = ((tbP (l.drop p)).1, p + (tbP (l.drop p)).2) := by
  unfold behind tbP
  simp only
  rw [List.drop_drop]
  by_cases h1 : whN (l.drop p) = 0
  · rw [if_pos h1, if_neg (by omega)]; rfl
  · rw [if_neg h1]
    by_cases h2 : (titP (l.drop (p + whN (l.drop p)))).2 = 0
    · rw [if_pos h2, if_neg (by omega)]; rfl
    · rw [if_neg h2, if_pos ⟨h, by omega, by omega⟩]
      simp only [Prod.mk.injEq, true_and]; omega
theorem behind_none (l : List UInt8) (p : Nat) : behind l 0 p = ([], p) := by
  unfold behind
  simp
theorem tb_le (l : List UInt8) : (tbP l).2 ≤ l.length := by
  unfold tbP
  split
  · exact Nat.zero_le _
  · split
    · exact Nat.zero_le _
    · have := tit_le (l.drop (whN l))
      have h2 := whN_le l
      rw [List.length_drop] at this
      simp only
      omega
def tbV (l : List UInt8) : Value := .tuple #[str (tbP l).1, .int .i64 ((tbP l).2 : Nat)]

set_option maxHeartbeats 2000000 in
theorem tb_any (s : ByteArray) (w : World) (hz : s.size ≤ 1000000) (hL : LaidL w) :
    Calls Tryd.prog 31 #[.string s] w fun e w' => e = .returned (tbV s.data.toList) ∧ Below w.heap.size w w' := by
  have HLw := Lib.hid hL
  have HW := Lib.hid (white_any s w hz)
  have hwl := whN_le s.data.toList
  rw [szL] at hwl
  have HE : Hid (tbP s.data.toList = if whN s.data.toList = 0 then ([], 0) else if (titP (s.data.toList.drop (whN s.data.toList))).2 = 0 then ([], 0) else ((titP (s.data.toList.drop (whN s.data.toList))).1, whN s.data.toList + (titP (s.data.toList.drop (whN s.data.toList))).2)) := Lib.hid rfl
  have HT := Lib.hid (fun W (h : LaidL W) => title_any (s.extract (whN s.data.toList) s.size) W (by simp; omega) h)
  rw [ext_restL] at HT
  have hle := tit_le (s.data.toList.drop (whN s.data.toList))
  rw [List.length_drop, szL] at hle
  unfold titV at HT
  unfold tbV
  clear hL
  generalize tbP s.data.toList = r at *
  generalize titP (s.data.toList.drop (whN s.data.toList)) = q at *
  generalize whN s.data.toList = g at *
  obtain ⟨x, n⟩ := q
  simp only at HT HE hle
  unfold str at HT
  by_cases h0 : g = 0
  · have HV : Hid (r = ([], 0)) := Lib.hid (by rw [HE.out, if_pos h0])
    subst h0
    rw [HV.out]
    clear HE HV
    go_enter Tryd.func31, Tryd.ntmps31
    go_wp2_with fail
    refine HW.out.mono ?_
    rintro e w1 ⟨rfl, hb1⟩
    go_wp2
    go_ret2
    exact ⟨rfl, hb1⟩
  · have hg0 : ((g : Int) == 0) = false := by simp; omega
    have hg1 : (g : Int) ≤ (s.size : Int) := by omega
    by_cases hn : n = 0
    · have HV : Hid (r = ([], 0)) := Lib.hid (by rw [HE.out, if_neg h0, if_pos hn])
      subst hn
      rw [HV.out]
      clear HE HV h0
      go_enter Tryd.func31, Tryd.ntmps31
      go_wp2_with fail
      refine HW.out.mono ?_
      rintro e w1 ⟨rfl, hb1⟩
      go_wp2_with fail
      refine (HT.out _ (HLw.out.below hb1)).mono ?_
      rintro e w2 ⟨rfl, hb2⟩
      go_wp2
      go_ret2
      exact ⟨rfl, hb1.trans (hb2.mono hb1.size)⟩
    · have HV : Hid (r = (x, g + n)) := Lib.hid (by rw [HE.out, if_neg h0, if_neg hn])
      have hn0 : ((n : Int) == 0) = false := by simp; omega
      rw [HV.out]
      clear HE HV h0 hn
      go_enter Tryd.func31, Tryd.ntmps31
      go_wp2_with fail
      refine HW.out.mono ?_
      rintro e w1 ⟨rfl, hb1⟩
      go_wp2_with fail
      refine (HT.out _ (HLw.out.below hb1)).mono ?_
      rintro e w2 ⟨rfl, hb2⟩
      go_wp2
      go_ret2
      exact ⟨ret2 rfl (by first | rfl | omega), hb1.trans (hb2.mono hb1.size)⟩

def tailV (l : List UInt8) : Value := .tuple #[str (tailP l).1, str (tailP l).2.1, .int .i64 ((tailP l).2.2 : Nat)]
theorem ret3s {a b c d : ByteArray} {m n : Int} (h1 : a = b) (h2 : c = d) (h3 : m = n) : Ending.returned (.tuple #[.string a, .string c, .int .i64 m]) = .returned (.tuple #[.string b, .string d, .int .i64 n]) := by rw [h1, h2, h3]

set_option maxHeartbeats 4000000 in
theorem tail_any (s : ByteArray) (w : World) (hz : s.size ≤ 1000000) (hL : LaidL w) :
    Calls Tryd.prog 16 #[.string s] w fun e w' => e = .returned (tailV s.data.toList) ∧ Below w.heap.size w w' := by
  have HLw := Lib.hid hL
  have HP := Lib.hid (fun (c : UInt8) (S : ByteArray) W => has_any S c W)
  unfold tailV
  by_cases hh : s.data.toList.head? = some 40
  · obtain ⟨t, ht⟩ := head_cons hh
    have HP0 := Lib.hid (HP.out 40 s w)
    rw [hh] at HP0
    rw [show decide (some (40 : UInt8) = some 40) = true by decide] at HP0
    have hts : t.length + 1 = s.size := by rw [← szL s, ht]; rfl
    have hx : ∀ k, (s.extract (1 + k) s.size).data.toList = t.drop k := fun k => by rw [ext_restL, ht, Nat.add_comm, List.drop_succ_cons]
    -- white
    obtain ⟨a, ha⟩ : ∃ a, a = whN t := ⟨_, rfl⟩
    have hat : a ≤ t.length := by rw [ha]; exact whN_le t
    have HW1 := Lib.hid (fun W => white_any (s.extract 1 s.size) W (by simp; omega))
    rw [show (s.extract 1 s.size).data.toList = t by have := hx 0; rw [List.drop_zero] at this; exact this, ← ha] at HW1
    -- the address
    obtain ⟨p1, hp1⟩ : ∃ p1, p1 = 1 + a := ⟨_, rfl⟩
    have HD := Lib.hid (fun W (h : LaidL W) => dest_any (s.extract p1 s.size) W (by simp; omega) h)
    rw [hp1, hx a, ← hp1] at HD
    obtain ⟨hdl, hd1, hd2⟩ := dest_le (t.drop a)
    rw [List.length_drop] at hdl
    have HT : Hid (tailP s.data.toList = if (t.drop ((behind t (destP (t.drop a)).2.1 (a + (destP (t.drop a)).2.1)).2 + whN (t.drop (behind t (destP (t.drop a)).2.1 (a + (destP (t.drop a)).2.1)).2))).head? = some 41 then ((destP (t.drop a)).1, (behind t (destP (t.drop a)).2.1 (a + (destP (t.drop a)).2.1)).1, (behind t (destP (t.drop a)).2.1 (a + (destP (t.drop a)).2.1)).2 + whN (t.drop (behind t (destP (t.drop a)).2.1 (a + (destP (t.drop a)).2.1)).2) + 2) else ([], [], 0)) := Lib.hid (by rw [ht, ha]; rfl)
    unfold dstV at HD
    obtain ⟨D, n, ok, hD⟩ : ∃ D n ok, destP (t.drop a) = (D, n, ok) := ⟨_, _, _, rfl⟩
    rw [hD] at HD HT hdl hd1 hd2
    simp only at HD HT hdl hd1 hd2
    unfold str at HD
    obtain ⟨p2, hp2⟩ : ∃ p2, p2 = p1 + n := ⟨_, rfl⟩
    have i1 : (1 : Int) + (a : Int) = (p1 : Int) := by omega
    have i2 : (p1 : Int) + (n : Int) = (p2 : Int) := by omega
    have b1 : (p1 : Int) ≤ (s.size : Int) := by omega
    have b2 : (p2 : Int) ≤ (s.size : Int) := by omega
    have b0 : (1 : Int) ≤ (s.size : Int) := by omega
    cases ok with
    | false =>
      obtain ⟨rfl, rfl⟩ := hd2 rfl
      obtain rfl : p2 = p1 := by omega
      rw [behind_none] at HT
      simp only [Nat.add_zero] at HT
      obtain ⟨g, hg⟩ : ∃ g, g = whN (t.drop a) := ⟨_, rfl⟩
      have hgl := whN_le (t.drop a)
      rw [List.length_drop, ← hg] at hgl
      have HW2 := Lib.hid (fun W => white_any (s.extract p2 s.size) W (by simp; omega))
      rw [show p2 = 1 + a by omega, hx a, ← hg, show 1 + a = p2 by omega] at HW2
      rw [← hg] at HT
      obtain ⟨p4, hp4⟩ : ∃ p4, p4 = p2 + g := ⟨_, rfl⟩
      have i4 : (p2 : Int) + (g : Int) = (p4 : Int) := by omega
      have b4 : (p4 : Int) ≤ (s.size : Int) := by omega
      have HP4 := Lib.hid (HP.out 41 (s.extract p4 s.size))
      rw [show p4 = 1 + (a + g) by omega, hx (a + g), show 1 + (a + g) = p4 by omega] at HP4
      clear hdl hd1 hd2 hD hg ha hx ht hh hL
      by_cases h41 : (t.drop (a + g)).head? = some 41
      · rw [if_pos h41] at HT
        rw [decide_eq_true h41] at HP4
        rw [HT.out]
        have HQ : Hid ((p4 : Int) + 1 = ((a + g + 2 : Nat) : Int)) := Lib.hid (by omega)
        clear h41 HT hp1 hp2 hp4 hts
        go_enter Tryd.func16, Tryd.ntmps16
        go_wp2_with fail
        refine HP0.out.mono ?_
        rintro e w1 ⟨rfl, rfl⟩
        go_wp2_with fail
        refine (HW1.out _).mono ?_
        rintro e w2 ⟨rfl, hb2⟩
        go_wp2_with fail
        refine (HD.out _ (HLw.out.below hb2)).mono ?_
        rintro e w3 ⟨rfl, hb3⟩
        have hb23 := hb2.trans (hb3.mono hb2.size)
        clear hb2 hb3
        go_wp2_with fail
        refine (HW2.out _).mono ?_
        rintro e w4 ⟨rfl, hb4⟩
        have hb24 := hb23.trans (hb4.mono hb23.size)
        clear hb23 hb4
        go_wp2_with fail
        refine (HP4.out _).mono ?_
        rintro e w5 ⟨rfl, rfl⟩
        go_wp2
        go_ret3
        exact ⟨ret3s rfl rfl HQ.out, hb24⟩
      · rw [if_neg h41] at HT
        rw [decide_eq_false h41] at HP4
        rw [HT.out]
        clear h41 HT hp1 hp2 hp4 hts
        go_enter Tryd.func16, Tryd.ntmps16
        go_wp2_with fail
        refine HP0.out.mono ?_
        rintro e w1 ⟨rfl, rfl⟩
        go_wp2_with fail
        refine (HW1.out _).mono ?_
        rintro e w2 ⟨rfl, hb2⟩
        go_wp2_with fail
        refine (HD.out _ (HLw.out.below hb2)).mono ?_
        rintro e w3 ⟨rfl, hb3⟩
        have hb23 := hb2.trans (hb3.mono hb2.size)
        clear hb2 hb3
        go_wp2_with fail
        refine (HW2.out _).mono ?_
        rintro e w4 ⟨rfl, hb4⟩
        have hb24 := hb23.trans (hb4.mono hb23.size)
        clear hb23 hb4
        go_wp2_with fail
        refine (HP4.out _).mono ?_
        rintro e w5 ⟨rfl, rfl⟩
        go_wp2
        go_ret3
        exact ⟨rfl, hb24⟩
    | true =>
      have hn := hd1 rfl
      rw [tb_behind t (a + n) hn] at HT
      simp only at HT
      have HB := Lib.hid (fun W (h : LaidL W) => tb_any (s.extract p2 s.size) W (by simp; omega) h)
      rw [show p2 = 1 + (a + n) by omega, hx (a + n), show 1 + (a + n) = p2 by omega] at HB
      have hml := tb_le (t.drop (a + n))
      rw [List.length_drop] at hml
      unfold tbV at HB
      obtain ⟨X, m, hX⟩ : ∃ X m, tbP (t.drop (a + n)) = (X, m) := ⟨_, _, rfl⟩
      rw [hX] at HB HT hml
      simp only at HB HT hml
      unfold str at HB
      obtain ⟨p3, hp3⟩ : ∃ p3, p3 = p2 + m := ⟨_, rfl⟩
      have i3 : (p2 : Int) + (m : Int) = (p3 : Int) := by omega
      have b3 : (p3 : Int) ≤ (s.size : Int) := by omega
      obtain ⟨g, hg⟩ : ∃ g, g = whN (t.drop (a + n + m)) := ⟨_, rfl⟩
      have hgl := whN_le (t.drop (a + n + m))
      rw [List.length_drop, ← hg] at hgl
      have HW2 := Lib.hid (fun W => white_any (s.extract p3 s.size) W (by simp; omega))
      rw [show p3 = 1 + (a + n + m) by omega, hx (a + n + m), ← hg, show 1 + (a + n + m) = p3 by omega] at HW2
      rw [← hg] at HT
      obtain ⟨p4, hp4⟩ : ∃ p4, p4 = p3 + g := ⟨_, rfl⟩
      have i4 : (p3 : Int) + (g : Int) = (p4 : Int) := by omega
      have b4 : (p4 : Int) ≤ (s.size : Int) := by omega
      have HP4 := Lib.hid (HP.out 41 (s.extract p4 s.size))
      rw [show p4 = 1 + (a + n + m + g) by omega, hx (a + n + m + g), show 1 + (a + n + m + g) = p4 by omega] at HP4
      clear hdl hd1 hd2 hD hg ha hx ht hh hL hX hml
      by_cases h41 : (t.drop (a + n + m + g)).head? = some 41
      · rw [if_pos h41] at HT
        rw [decide_eq_true h41] at HP4
        rw [HT.out]
        have HQ : Hid ((p4 : Int) + 1 = ((a + n + m + g + 2 : Nat) : Int)) := Lib.hid (by omega)
        clear h41 HT hp1 hp2 hp3 hp4 hts
        go_enter Tryd.func16, Tryd.ntmps16
        go_wp2_with fail
        refine HP0.out.mono ?_
        rintro e w1 ⟨rfl, rfl⟩
        go_wp2_with fail
        refine (HW1.out _).mono ?_
        rintro e w2 ⟨rfl, hb2⟩
        go_wp2_with fail
        refine (HD.out _ (HLw.out.below hb2)).mono ?_
        rintro e w3 ⟨rfl, hb3⟩
        have hb23 := hb2.trans (hb3.mono hb2.size)
        clear hb2 hb3
        go_wp2_with fail
        refine (HB.out _ (HLw.out.below hb23)).mono ?_
        rintro e w4 ⟨rfl, hb4⟩
        have hb24 := hb23.trans (hb4.mono hb23.size)
        clear hb23 hb4
        go_wp2_with fail
        refine (HW2.out _).mono ?_
        rintro e w5 ⟨rfl, hb5⟩
        have hb25 := hb24.trans (hb5.mono hb24.size)
        clear hb24 hb5
        go_wp2_with fail
        refine (HP4.out _).mono ?_
        rintro e w6 ⟨rfl, rfl⟩
        go_wp2
        go_ret3
        exact ⟨ret3s rfl rfl HQ.out, hb25⟩
      · rw [if_neg h41] at HT
        rw [decide_eq_false h41] at HP4
        rw [HT.out]
        clear h41 HT hp1 hp2 hp3 hp4 hts
        go_enter Tryd.func16, Tryd.ntmps16
        go_wp2_with fail
        refine HP0.out.mono ?_
        rintro e w1 ⟨rfl, rfl⟩
        go_wp2_with fail
        refine (HW1.out _).mono ?_
        rintro e w2 ⟨rfl, hb2⟩
        go_wp2_with fail
        refine (HD.out _ (HLw.out.below hb2)).mono ?_
        rintro e w3 ⟨rfl, hb3⟩
        have hb23 := hb2.trans (hb3.mono hb2.size)
        clear hb2 hb3
        go_wp2_with fail
        refine (HB.out _ (HLw.out.below hb23)).mono ?_
        rintro e w4 ⟨rfl, hb4⟩
        have hb24 := hb23.trans (hb4.mono hb23.size)
        clear hb23 hb4
        go_wp2_with fail
        refine (HW2.out _).mono ?_
        rintro e w5 ⟨rfl, hb5⟩
        have hb25 := hb24.trans (hb5.mono hb24.size)
        clear hb24 hb5
        go_wp2_with fail
        refine (HP4.out _).mono ?_
        rintro e w6 ⟨rfl, rfl⟩
        go_wp2
        go_ret3
        exact ⟨rfl, hb25⟩
  · have HP0 := Lib.hid (HP.out 40 s w)
    rw [decide_eq_false hh] at HP0
    have HV : Hid (tailP s.data.toList = ([], [], 0)) := Lib.hid (by
      cases hl : s.data.toList with
      | nil => rfl
      | cons c t => exact tail_none t (fun e => hh (by rw [hl, e]; rfl)))
    rw [HV.out]
    clear hh hL
    go_enter Tryd.func16, Tryd.ntmps16
    go_wp2_with fail
    refine HP0.out.mono ?_
    rintro e w1 ⟨rfl, rfl⟩
    go_wp2
    go_ret3
    exact ⟨rfl, Below.refl _ _⟩
end Lk
end Go.Proofs.YtilippcmdhkddaaDoor
