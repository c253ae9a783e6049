/- Texts of one part, one behind the other (RfP, RfQ, RfS, RfT, RfRange, RfU, RfProg). -/
import Derived.Test.YtfabiidohdkkcaaGreatDoorLkE
import Derived.Test.YtfabiidohdkkcaaGreatDoorRfXa
import Derived.Test.YtfabiidohdkkcaaGreatDoorRfXc
import Derived.Test.YtfabiidohdkkcaaGreatDoorClassDr
import Derived.Deep.RegionHeld3
import Derived.Deep.DrawnRows
import Derived.RangeFuncNested
import Derived.RangeFuncBound
import Derived.RangeFuncCalls
import Derived.RangeFuncLeaves
import Derived.WalkKit
import Derived.Shelf.Abstract
import Derived.Shelf.RegionOpen
import Derived.OwnWalkIn
import Derived.TacticsInMore
import Derived.LoopNIn
import Derived.LoopIn
import Derived.Maps.AppendAt
import Derived.RangeFuncBox
/- Walks of layer 10: the program's gap, lineEnd, titleBehind, ending. -/
namespace Go.Proofs.YtfabiidohdkkcaaGreatDoor
open Go Go.RowKit
namespace Rf
open Lk Es
set_option maxRecDepth 100000
set_option linter.unusedVariables false
set_option linter.unusedSimpArgs false

theorem zlf_le (l : List UInt8) : lfN l ≤ l.length := List.count_le_length
set_option maxHeartbeats 2000000 in
theorem zgap_any (s : ByteArray) (w : World) (hz : s.size ≤ 1000000) :
    Calls Tryz.prog 21 #[.string s] w fun e w' => e = .returned (.int .i64 (gapZ s.data.toList : Nat)) ∧ Below w.heap.size w w' := by
  have hw := whN_le s.data.toList
  rw [szL] at hw
  have HW := Lib.hid (white_any s w hz)
  obtain ⟨T, hT⟩ : ∃ T, T = s.extract 0 (whN s.data.toList) := ⟨_, rfl⟩
  have hTl : T.data.toList = s.data.toList.take (whN s.data.toList) := by rw [hT, ext_toL]
  have HC := Lib.hid (fun W => Tryz.strings_Count_one T 10 W)
  rw [hTl, count_lf] at HC
  have HP : Hid (gapZ s.data.toList = if 1 < lfN (s.data.toList.take (whN s.data.toList)) then 0 else whN s.data.toList) := Lib.hid (by
    split
    · rename_i h; exact gapZ_two h
    · rename_i h; exact gapZ_one h)
  have HT := Lib.hid hT
  clear hTl hT
  generalize lfN (s.data.toList.take (whN s.data.toList)) = m at *
  generalize whN s.data.toList = k at *
  generalize gapZ s.data.toList = z at *
  have b1 : (k : Int) ≤ (s.size : Int) := by omega
  by_cases hm : 1 < m
  · rw [if_pos hm] at HP
    have hm2 : (1 : Int) < (m : Int) := by omega
    clear hm
    go_enter Tryz.func21, Tryz.ntmps21
    go_wp2_with fail
    refine HW.out.mono ?_
    rintro e w1 ⟨rfl, hb⟩
    go_wp2_with fail
    rw [← HT.out]
    refine (HC.out _).mono ?_
    rintro e w2 ⟨rfl, rfl⟩
    go_wp2
    go_ret
    exact ⟨retI (by rw [HP.out]; rfl), hb⟩
  · rw [if_neg hm] at HP
    have hm2 : ¬ (1 : Int) < (m : Int) := by omega
    clear hm
    go_enter Tryz.func21, Tryz.ntmps21
    go_wp2_with fail
    refine HW.out.mono ?_
    rintro e w1 ⟨rfl, hb⟩
    go_wp2_with fail
    rw [← HT.out]
    refine (HC.out _).mono ?_
    rintro e w2 ⟨rfl, rfl⟩
    go_wp2
    go_ret
    exact ⟨retI (by rw [HP.out]), hb⟩

/-- What lineEnd tells. -/
def EndIs (l : List UInt8) (n : Nat) (ok : Bool) : Prop := (endP l = none ∧ n = 0 ∧ ok = false) ∨ (endP l = some n ∧ ok = true)
theorem end_is (l : List UInt8) : ∃ n ok, EndIs l n ok := by
  cases h : endP l with
  | none => exact ⟨0, false, .inl ⟨h, rfl, rfl⟩⟩
  | some n => exact ⟨n, true, .inr ⟨h, rfl⟩⟩
theorem EndIs.no {l : List UInt8} {n : Nat} {ok : Bool} (h : EndIs l n ok) (h2 : endP l = none) : n = 0 ∧ ok = false := by
  rcases h with ⟨_, h⟩ | ⟨h, _⟩
  · exact h
  · rw [h2] at h; cases h
theorem EndIs.yes {l : List UInt8} {n k : Nat} {ok : Bool} (h : EndIs l n ok) (h2 : endP l = some k) : n = k ∧ ok = true := by
  rcases h with ⟨h, _⟩ | ⟨h, h3⟩
  · rw [h2] at h; cases h
  · rw [h2] at h; injection h with h; exact ⟨h.symm, h3⟩
theorem EndIs.le {l : List UInt8} {n : Nat} {ok : Bool} (h : EndIs l n ok) : n ≤ l.length := by
  rcases h with ⟨_, rfl, _⟩ | ⟨h, _⟩
  · exact Nat.zero_le _
  · exact end_le _ _ h
theorem retIB {m n : Int} {x y : Bool} (h2 : m = n) (h3 : x = y) : Ending.returned (.tuple #[.int .i64 m, .bool x]) = .returned (.tuple #[.int .i64 n, .bool y]) := by rw [h2, h3]

set_option maxHeartbeats 2000000 in
theorem zend_any (s : ByteArray) (w : World) (hz : s.size ≤ 1000000) (n : Nat) (ok : Bool) (h : EndIs s.data.toList n ok) :
    Calls Tryz.prog 42 #[.string s] w fun e w' => e = .returned (.tuple #[.int .i64 (n : Int), .bool ok]) ∧ Below w.heap.size w w' := by
  obtain ⟨B, hB⟩ := ba_mkL (s.data.toList.dropWhile bl)
  have HT : Hid (Calls Tryz.prog 60 #[.string s, .string ⟨#[32, 9]⟩] w fun e w' => e = .returned (.string B) ∧ Below w.heap.size w w') := Lib.hid (by
    have := Tryz.strings_TrimLeft_ascii s ⟨#[32, 9]⟩ w (by decide) (ascii_of (by decide))
    rw [show (⟨#[32, 9]⟩ : ByteArray).data.toList = [32, 9] from rfl, trim_bl2, ← hB, ba_selfL] at this
    exact this)
  have hl := drop_len s.data.toList
  rw [← hB, szL, szL] at hl
  obtain ⟨j, hj⟩ : ∃ j : Nat, j + B.size = s.size := ⟨s.size - B.size, by omega⟩
  have hd : (s.size : Int) - (B.size : Int) = (j : Int) := by omega
  have hB1 : (B.size : Int) ≤ 1000000 := by omega
  have hs1 : (s.size : Int) ≤ 1000000 := by omega
  have hj1 : (j : Int) ≤ 1000000 := by omega
  rcases end_trim s.data.toList with ⟨h1, h2⟩ | ⟨t, h1, h2, h3⟩ | ⟨c, t, h1, h2, h3⟩
  · have hB0 : B = empB := bytes_ext (by rw [hB, h1]; rfl)
    have hem : B.toList.isEmpty = true := by rw [emp_list, decide_eq_true hB0]
    have hz0 : B.size = 0 := by rw [hB0]; rfl
    rw [szL] at h2
    obtain ⟨rfl, rfl⟩ := h.yes h2
    have HV : Hid ((j : Int) = (s.size : Int)) := Lib.hid (by omega)
    clear h h1 h2 hB hB0 hl hj hz0
    go_enter Tryz.func42, Tryz.ntmps42
    go_wp2_with fail
    refine HT.out.mono ?_
    rintro e w1 ⟨rfl, hb⟩
    go_wp2
    go_ret2
    exact ⟨retIB HV.out rfl, hb⟩
  · rw [h1] at hB
    have hBz : B.size = t.length + 1 := by rw [← szL, hB]; rfl
    have hB0 : B ≠ empB := fun e => by rw [e] at hBz; cases hBz
    have hem : B.toList.isEmpty = false := by rw [emp_list, decide_eq_false hB0]
    have hpos : 0 < B.size := by omega
    obtain ⟨c, u, hdr, hck, _⟩ := consAt hpos
    have hc : c = 10 := by rw [List.drop_zero, hB] at hdr; injection hdr with h _; exact h.symm
    have e1 : ((c.toNat : Int) == 10) = true := by rw [hc]; rfl
    rw [szL] at h2
    obtain ⟨hn, rfl⟩ := h.yes h2
    have hpi : (0 : Int) < (B.size : Int) := by omega
    have HV : Hid ((j : Int) + 1 = (n : Int)) := Lib.hid (by omega)
    clear h h1 h2 hB hB0 hl hj hdr hc hn hBz h3
    go_enter Tryz.func42, Tryz.ntmps42
    go_wp2_with fail
    refine HT.out.mono ?_
    rintro e w1 ⟨rfl, hb⟩
    go_wp2
    go_ret2
    exact ⟨retIB HV.out rfl, hb⟩
  · rw [h1] at hB
    have hBz : B.size = t.length + 1 := by rw [← szL, hB]; rfl
    have hB0 : B ≠ empB := fun e => by rw [e] at hBz; cases hBz
    have hem : B.toList.isEmpty = false := by rw [emp_list, decide_eq_false hB0]
    have hpos : 0 < B.size := by omega
    obtain ⟨c', u, hdr, hck, _⟩ := consAt hpos
    have hc : c' = c := by rw [List.drop_zero, hB] at hdr; injection hdr with h _; exact h.symm
    have e1 : ((c'.toNat : Int) == 10) = false := by
      have := eqU c' 10 (by decide)
      rw [show ((10 : Nat) : Int) = 10 from rfl] at this
      rw [this, hc]
      exact beq_eq_false_iff_ne.2 h2
    obtain ⟨rfl, rfl⟩ := h.no h3
    have hpi : (0 : Int) < (B.size : Int) := by omega
    clear h h1 h2 hB hB0 hl hj hdr hc hBz h3
    go_enter Tryz.func42, Tryz.ntmps42
    go_wp2_with fail
    refine HT.out.mono ?_
    rintro e w1 ⟨rfl, hb⟩
    go_wp2
    go_ret2
    exact ⟨rfl, hb⟩

/-- What titleBehind tells. -/
def TitIs (l : List UInt8) (x : ByteArray) (n : Nat) : Prop := (titledP l = none ∧ x = empB ∧ n = 0) ∨ (titledP l = some (x.data.toList, n) ∧ 0 < n)
theorem tit_is (l : List UInt8) : ∃ x n, TitIs l x n := by
  cases h : titledP l with
  | none => exact ⟨empB, 0, .inl ⟨h, rfl, rfl⟩⟩
  | some q =>
    obtain ⟨t, m⟩ := q
    obtain ⟨x, hx⟩ := ba_mkL t
    obtain ⟨g, p, e, _, h1, _, h2, _, rfl⟩ := titled_some h
    exact ⟨x, g + p + e, .inr ⟨by rw [h, hx], by omega⟩⟩
theorem TitIs.no {l : List UInt8} {x : ByteArray} {n : Nat} (h : TitIs l x n) (h2 : titledP l = none) : x = empB ∧ n = 0 := by
  rcases h with ⟨_, h⟩ | ⟨h, _⟩
  · exact h
  · rw [h2] at h; cases h
theorem TitIs.yes {l : List UInt8} {x y : ByteArray} {n k : Nat} (h : TitIs l x n) (h2 : titledP l = some (y.data.toList, k)) : x = y ∧ n = k := by
  rcases h with ⟨h, _⟩ | ⟨h, _⟩
  · rw [h2] at h; cases h
  · rw [h2] at h
    injection h with h
    injection h with h1 h3
    exact ⟨bytes_ext h1.symm, h3.symm⟩
theorem ret2' {a b : ByteArray} {m n : Int} (h1 : a = b) (h2 : m = n) : Ending.returned (.tuple #[.string a, .int .i64 m]) = .returned (.tuple #[.string b, .int .i64 n]) := by rw [h1, h2]
theorem retE {n : Int} : Ending.returned (.tuple #[.string ⟨#[]⟩, .int .i64 n]) = .returned (.tuple #[.string empB, .int .i64 n]) := rfl

set_option maxHeartbeats 4000000 in
theorem ztitle_any (s : ByteArray) (w : World) (hz : s.size ≤ 100000) (hL : LaidL w) (x : ByteArray) (n : Nat) (h : TitIs s.data.toList x n) :
    Calls Tryz.prog 41 #[.string s] w fun e w' => e = .returned (.tuple #[.string x, .int .i64 (n : Int)]) ∧ Below w.heap.size w w' := by
  have HG := Lib.hid (zgap_any s w (by omega))
  have hgl := gapZ_le s.data.toList
  rw [szL] at hgl
  obtain ⟨g, hg⟩ : ∃ g, gapZ s.data.toList = g := ⟨_, rfl⟩
  rw [hg] at HG hgl
  rcases Nat.eq_zero_or_pos g with rfl | hg0
  · obtain ⟨rfl, rfl⟩ := h.no (titledZ hg)
    clear h hg
    go_enter Tryz.func41, Tryz.ntmps41
    go_wp2_with fail
    refine HG.out.mono ?_
    rintro e w1 ⟨rfl, hb⟩
    go_wp2
    go_ret2
    exact ⟨rfl, hb⟩
  have hG := gapZ_pos hg hg0
  have hg1 : ((g : Int) == 0) = false := by simp; omega
  have hgb : (g : Int) ≤ (s.size : Int) := by omega
  have hg0' : (0 : Int) ≤ (g : Int) := by omega
  obtain ⟨S1, hS1⟩ : ∃ S1, S1 = s.extract g s.size := ⟨_, rfl⟩
  have hS1l : S1.data.toList = s.data.toList.drop g := by rw [hS1, ext_restL]
  have hS1z : S1.size + g = s.size := by rw [← szL, hS1l, List.length_drop, szL]; omega
  obtain ⟨y, p, hT⟩ : ∃ (y : ByteArray) (p : Nat), titP (s.data.toList.drop g) = (y.data.toList, p) := by
    obtain ⟨y, hy⟩ := ba_mkL (titP (s.data.toList.drop g)).1
    exact ⟨y, (titP (s.data.toList.drop g)).2, by rw [hy]⟩
  have HT : Hid (∀ W, Below w.heap.size w W → Calls Tryz.prog 69 #[.string S1] W fun e w' => e = .returned (.tuple #[.string y, .int .i64 (p : Int)]) ∧ Below W.heap.size W w') := Lib.hid (fun W hW => by
    have := title_any S1 W (by omega) (hL.below hW)
    rw [hS1l] at this
    unfold titV at this
    rw [hT] at this
    simp only at this
    unfold str at this
    rw [ba_selfL] at this
    exact this)
  have hpl := tit_le hT
  rw [List.length_drop, szL] at hpl
  have HS1 := Lib.hid hS1
  rcases Nat.eq_zero_or_pos p with rfl | hp0
  · obtain ⟨rfl, rfl⟩ := h.no (titled_no3 hG (by rw [hT]))
    clear h hg hG hS1 hS1l hS1z hT hpl hg0
    go_enter Tryz.func41, Tryz.ntmps41
    go_wp2_with fail
    refine HG.out.mono ?_
    rintro e w1 ⟨rfl, hb⟩
    go_wp2_with fail
    rw [← HS1.out]
    refine (HT.out _ hb).mono ?_
    rintro e w2 ⟨rfl, hb2⟩
    go_wp2
    go_ret2
    exact ⟨rfl, below_later hb hb2⟩
  have hp1 : ((p : Int) == 0) = false := by simp; omega
  obtain ⟨S2, hS2⟩ : ∃ S2, S2 = s.extract (g + p) s.size := ⟨_, rfl⟩
  have hS2l : S2.data.toList = s.data.toList.drop (g + p) := by rw [hS2, ext_restL]
  have hS2z : S2.size ≤ 100000 := by rw [← szL, hS2l, List.length_drop, szL]; omega
  obtain ⟨k, ok, hE⟩ := end_is (s.data.toList.drop (g + p))
  have HE := Lib.hid (fun W => zend_any S2 W (by omega) k ok (by rw [hS2l]; exact hE))
  have hkl := hE.le
  rw [List.length_drop, szL] at hkl
  have hgpb : (g : Int) + (p : Int) ≤ (s.size : Int) := by omega
  have hgp0 : (0 : Int) ≤ (g : Int) + (p : Int) := by omega
  have hs1 : (s.size : Int) ≤ 100000 := by omega
  have HS2 := Lib.hid hS2
  rcases hE with ⟨he, rfl, rfl⟩ | ⟨he, rfl⟩
  · obtain ⟨rfl, rfl⟩ := h.no (titled_no4 hG (by rw [hT]; exact he))
    clear h hg hG hS1 hS1l hS1z hT hpl hS2 hS2l hS2z he hg0 hp0 hkl
    go_enter Tryz.func41, Tryz.ntmps41
    go_wp2_with fail
    refine HG.out.mono ?_
    rintro e w1 ⟨rfl, hb⟩
    go_wp2_with fail
    rw [← HS1.out]
    refine (HT.out _ hb).mono ?_
    rintro e w2 ⟨rfl, hb2⟩
    go_wp2_with fail
    rw [← HS2.out]
    refine (HE.out _).mono ?_
    rintro e w3 ⟨rfl, hb3⟩
    go_wp2
    go_ret2
    exact ⟨rfl, below_later (below_later hb hb2) hb3⟩
  · obtain ⟨rfl, rfl⟩ := h.yes (titled_make hG hg0 hT hp0 he)
    have hsb : (g : Int) + (p : Int) + (k : Int) ≤ 100000 := by omega
    clear h hg hG hS1 hS1l hS1z hT hpl hS2 hS2l hS2z he hg0 hp0 hkl
    go_enter Tryz.func41, Tryz.ntmps41
    go_wp2_with fail
    refine HG.out.mono ?_
    rintro e w1 ⟨rfl, hb⟩
    go_wp2_with fail
    rw [← HS1.out]
    refine (HT.out _ hb).mono ?_
    rintro e w2 ⟨rfl, hb2⟩
    go_wp2_with fail
    rw [← HS2.out]
    refine (HE.out _).mono ?_
    rintro e w3 ⟨rfl, hb3⟩
    go_wp2
    go_ret2
    exact ⟨ret2' rfl (by omega), below_later (below_later hb hb2) hb3⟩

/-- What ending tells. -/
def BackIs (l : List UInt8) (x : ByteArray) (n : Nat) (ok : Bool) : Prop := (backP l = none ∧ x = empB ∧ n = 0 ∧ ok = false) ∨ (backP l = some (x.data.toList, n) ∧ ok = true)
theorem back_is (l : List UInt8) : ∃ x n ok, BackIs l x n ok := by
  cases h : backP l with
  | none => exact ⟨empB, 0, false, .inl ⟨h, rfl, rfl, rfl⟩⟩
  | some q =>
    obtain ⟨t, m⟩ := q
    obtain ⟨x, hx⟩ := ba_mkL t
    exact ⟨x, m, true, .inr ⟨by rw [h, hx], rfl⟩⟩
theorem BackIs.no {l : List UInt8} {x : ByteArray} {n : Nat} {ok : Bool} (h : BackIs l x n ok) (h2 : backP l = none) : x = empB ∧ n = 0 ∧ ok = false := by
  rcases h with ⟨_, h⟩ | ⟨h, _⟩
  · exact h
  · rw [h2] at h; cases h
theorem BackIs.yes {l : List UInt8} {x y : ByteArray} {n k : Nat} {ok : Bool} (h : BackIs l x n ok) (h2 : backP l = some (y.data.toList, k)) : x = y ∧ n = k ∧ ok = true := by
  rcases h with ⟨h, _⟩ | ⟨h, h4⟩
  · rw [h2] at h; cases h
  · rw [h2] at h
    injection h with h
    injection h with h1 h3
    exact ⟨bytes_ext h1.symm, h3.symm, h4⟩
theorem ret3' {a b : ByteArray} {m n : Int} {x y : Bool} (h1 : a = b) (h2 : m = n) (h3 : x = y) : Ending.returned (.tuple #[.string a, .int .i64 m, .bool x]) = .returned (.tuple #[.string b, .int .i64 n, .bool y]) := by rw [h1, h2, h3]
set_option maxHeartbeats 4000000 in
theorem zback_any (s : ByteArray) (w : World) (hz : s.size ≤ 100000) (hL : LaidL w) (x : ByteArray) (n : Nat) (ok : Bool) (h : BackIs s.data.toList x n ok) :
    Calls Tryz.prog 23 #[.string s] w fun e w' => e = .returned (.tuple #[.string x, .int .i64 (n : Int), .bool ok]) ∧ Below w.heap.size w w' := by
  obtain ⟨y, m, hT⟩ := tit_is s.data.toList
  have HT := Lib.hid (ztitle_any s w hz hL y m hT)
  obtain ⟨k, ok', hE⟩ := end_is s.data.toList
  have HE := Lib.hid (fun W => zend_any s W (by omega) k ok' hE)
  rcases hT with ⟨ht, rfl, rfl⟩ | ⟨ht, hm0⟩
  · have HV : Hid (x = empB ∧ n = k ∧ ok = ok') := Lib.hid (by
      rcases hE with ⟨he, rfl, rfl⟩ | ⟨he, rfl⟩
      · exact h.no (back_none ht he)
      · exact h.yes (y := empB) (back_end ht he))
    clear h hE ht
    go_enter Tryz.func23, Tryz.ntmps23
    go_wp2_with fail
    refine HT.out.mono ?_
    rintro e w1 ⟨rfl, hb⟩
    go_wp2_with fail
    refine (HE.out _).mono ?_
    rintro e w2 ⟨rfl, hb2⟩
    go_wp2
    go_ret3
    obtain ⟨rfl, rfl, rfl⟩ := HV.out
    exact ⟨rfl, below_later hb hb2⟩
  · obtain ⟨rfl, rfl, rfl⟩ := h.yes (back_some ht)
    have hm1 : (0 : Int) < (n : Int) := by omega
    clear h hE ht hm0
    go_enter Tryz.func23, Tryz.ntmps23
    go_wp2_with fail
    refine HT.out.mono ?_
    rintro e w1 ⟨rfl, hb⟩
    go_wp2
    go_ret3
    exact ⟨rfl, hb⟩
end Rf
end Go.Proofs.YtfabiidohdkkcaaGreatDoor

/- Walks of layer 10: the program's Take. -/
namespace Go.Proofs.YtfabiidohdkkcaaGreatDoor
open Go Go.RowKit
namespace Rf
open Lk Es
set_option maxRecDepth 100000
set_option linter.unusedVariables false
set_option linter.unusedSimpArgs false

set_option maxHeartbeats 16000000 in
theorem ztake_any (s : ByteArray) (w : World) (hz : s.size ≤ 100000) (hL : LaidR w) (b : Rb) (n : Nat) (h : takeP s.data.toList = (b.r, n)) :
    Calls Tryz.prog 9 #[.string s] w fun e w' => e = .returned (.tuple #[refV b, .int .i64 (n : Int)]) ∧ Below w.heap.size w w' := by
  obtain ⟨x, a, hLb⟩ : ∃ (x : ByteArray) (a : Nat), labP s.data.toList = (x.data.toList, a) := by
    obtain ⟨x, hx⟩ := ba_mkL (labP s.data.toList).1
    exact ⟨x, (labP s.data.toList).2, by rw [hx]⟩
  have HL : Hid (∀ W, Below w.heap.size w W → Calls Tryz.prog 19 #[.string s] W fun e w' => e = .returned (.tuple #[.string x, .int .i64 (a : Int)]) ∧ Below W.heap.size W w') := Lib.hid (fun W hW => by
    have := Lk.label_any s W (by omega) (hL.below hW).link
    unfold labV at this
    rw [hLb] at this
    simp only at this
    unfold str at this
    rw [ba_selfL] at this
    exact this)
  have hal := lab_le hLb
  rw [szL, szL] at hal
  have HLab := Lib.hid hLb
  have Hok := Lib.hid h
  have Hnil := Lib.hid (fun h2 => nil_of h h2)
  have HLd := Lib.hid hL
  have HB0 : Hid (Blk (w.alloc (.cells (refC nilB) 24)) w.heap.size (refC nilB) 24) := Lib.hid (Blk.new w (refC nilB) 24)
  have HW0 : Hid (Below w.heap.size w (w.alloc (.cells (refC nilB) 24))) := Lib.hid ((Below.refl _ w).alloc (Nat.le_refl _) _)
  unfold refC nilB at HW0 HB0
  clear h hLb hL
  go_enter Tryz.func9, Tryz.ntmps9
  go_wp2_with fail
  refine (HL.out _ HW0.out).mono ?_
  rintro e w1 ⟨rfl, hb1⟩
  have K1 : Hid (Blk w1 w.heap.size (refC nilB) 24) := Lib.hid (HB0.out.below hb1)
  have W1 := Lib.hid (below_later HW0.out hb1)
  clear hb1 HB0 HW0 HL
  rcases Nat.eq_zero_or_pos a with rfl | ha0
  · obtain ⟨rfl, rfl⟩ := Hnil.out (take_no1 HLab.out)
    have c0 : w1.cell? ⟨w.heap.size, 0, none⟩ = some (.string ⟨#[]⟩) := K1.out.cell 0 rfl
    have c1 : w1.cell? ⟨w.heap.size, 1, none⟩ = some (.string ⟨#[]⟩) := K1.out.cell 1 rfl
    have c2 : w1.cell? ⟨w.heap.size, 2, none⟩ = some (.string ⟨#[]⟩) := K1.out.cell 2 rfl
    have cf := fun k => K1.out.fr k
    clear Hnil Hok
    go_wp2
    refine bodyPost_ret (v := .tuple #[refV nilB, .int .i64 0]) (results_ref rfl _ _ w.heap.size nilB _ rfl rfl (K1.out.reref nilB)) rfl ⟨rfl, ?_⟩
    iterate 3 (refine Below.setCell ?_ (by exact Nat.le_refl _) _)
    exact W1.out
  have ea : ((a : Int) == 0) = false := by simp; omega
  have hab : (a : Int) ≤ (s.size : Int) := by omega
  have ha0' : (0 : Int) ≤ (a : Int) := by omega
  obtain ⟨S0, hS0⟩ : ∃ S0, S0 = s.extract a s.size := ⟨_, rfl⟩
  have hS0l : S0.data.toList = s.data.toList.drop a := by rw [hS0, ext_restL]
  have HPre := Lib.hid (fun W => has_any S0 58 W)
  rw [hS0l] at HPre
  have HS0 := Lib.hid hS0
  clear hS0 hS0l
  by_cases hh : (s.data.toList.drop a).head? = some 58
  case neg =>
    rw [decide_eq_false hh] at HPre
    have hnil : takeP s.data.toList = (nilR, 0) := by
      cases hd : s.data.toList.drop a with
      | nil => exact take_no2 HLab.out ha0 hd
      | cons c t =>
        refine take_no3 HLab.out ha0 hd ?_
        rintro rfl
        rw [hd] at hh; exact hh rfl
    obtain ⟨rfl, rfl⟩ := Hnil.out hnil
    clear Hnil Hok hh hnil
    go_wp2_with fail
    rw [← HS0.out]
    refine (HPre.out _).mono ?_
    rintro e w2 ⟨rfl, rfl⟩
    have c0 : w1.cell? ⟨w.heap.size, 0, none⟩ = some (.string ⟨#[]⟩) := K1.out.cell 0 rfl
    have c1 : w1.cell? ⟨w.heap.size, 1, none⟩ = some (.string ⟨#[]⟩) := K1.out.cell 1 rfl
    have c2 : w1.cell? ⟨w.heap.size, 2, none⟩ = some (.string ⟨#[]⟩) := K1.out.cell 2 rfl
    have cf := fun k => K1.out.fr k
    go_wp2
    refine bodyPost_ret (v := .tuple #[refV nilB, .int .i64 0]) (results_ref rfl _ _ w.heap.size nilB _ rfl rfl (K1.out.reref nilB)) rfl ⟨rfl, ?_⟩
    iterate 3 (refine Below.setCell ?_ (by exact Nat.le_refl _) _)
    exact W1.out
  rw [decide_eq_true hh] at HPre
  obtain ⟨t, hd⟩ := head_cons hh
  have HD := Lib.hid hd
  have has : a < s.size := by
    have := congrArg List.length hd
    rw [List.length_drop, szL, List.length_cons] at this
    omega
  have ht : s.data.toList.drop (a + 1) = t := by
    have : (s.data.toList.drop a).drop 1 = t := by rw [hd]; rfl
    rw [List.drop_drop] at this
    exact this
  obtain ⟨S1, hS1⟩ : ∃ S1, S1 = s.extract (a + 1) s.size := ⟨_, rfl⟩
  have hS1l : S1.data.toList = t := by rw [hS1, ext_restL, ht]
  have hS1z : S1.size ≤ 100000 := by rw [← szL, hS1l, ← ht, List.length_drop, szL]; omega
  have HG := Lib.hid (fun W => zgap_any S1 W (by omega))
  rw [hS1l] at HG
  have htl : t.length + (a + 1) = s.size := by rw [← ht, List.length_drop, szL]; omega
  have HS1 := Lib.hid hS1
  have hp1b : (a : Int) + 1 ≤ (s.size : Int) := by omega
  have hs1 : (s.size : Int) ≤ 100000 := by omega
  have hgl := gapZ_le t
  obtain ⟨g, hg⟩ : ∃ g, gapZ t = g := ⟨_, rfl⟩
  rw [hg] at HG hgl
  obtain ⟨S2, hS2⟩ : ∃ S2, S2 = s.extract (a + 1 + g) s.size := ⟨_, rfl⟩
  have hS2l : S2.data.toList = t.drop g := by rw [hS2, ext_restL, ← List.drop_drop, ht]
  have hS2z : S2.size ≤ 100000 := by rw [← szL, hS2l, List.length_drop]; omega
  obtain ⟨d, k, bb, hD⟩ : ∃ (d : ByteArray) (k : Nat) (bb : Bool), destP (t.drop g) = (d.data.toList, k, bb) := by
    obtain ⟨d, hd⟩ := ba_mkL (destP (t.drop g)).1
    exact ⟨d, (destP (t.drop g)).2.1, (destP (t.drop g)).2.2, by rw [hd]⟩
  have HDs : Hid (∀ W, Below w.heap.size w W → Calls Tryz.prog 22 #[.string S2] W fun e w' => e = .returned (.tuple #[.string d, .int .i64 (k : Int), .bool bb]) ∧ Below W.heap.size W w') := Lib.hid (fun W hW => by
    have := dest_any S2 W (by omega) (HLd.out.below hW).link
    rw [hS2l] at this
    unfold dstV at this
    rw [hD] at this
    simp only at this
    unfold str at this
    rw [ba_selfL] at this
    exact this)
  have HDe : Hid (destP (t.drop (gapZ t)) = (d.data.toList, k, bb)) := Lib.hid (by rw [hg]; exact hD)
  have HS2 := Lib.hid hS2
  have hp2b : (a : Int) + 1 + (g : Int) ≤ (s.size : Int) := by omega
  have hp2c : (0 : Int) ≤ (a : Int) + 1 + (g : Int) := by omega
  clear hh hd hS1 hS1l hS1z hS2 hS2l hS2z
  go_wp2_with fail
  rw [← HS0.out]
  refine (HPre.out _).mono ?_
  rintro e w2 ⟨rfl, rfl⟩
  go_wp2_with fail
  rw [← HS1.out]
  refine (HG.out _).mono ?_
  rintro e w2 ⟨rfl, hb2⟩
  have K2 : Hid (Blk w2 w.heap.size (refC nilB) 24) := Lib.hid (K1.out.below hb2)
  have W2 := Lib.hid (below_later W1.out hb2)
  clear hb2 K1 W1 HG
  go_wp2_with fail
  rw [← HS2.out]
  refine (HDs.out _ W2.out).mono ?_
  rintro e w3 ⟨rfl, hb3⟩
  have K3 : Hid (Blk w3 w.heap.size (refC nilB) 24) := Lib.hid (K2.out.below hb3)
  have W3 := Lib.hid (below_later W2.out hb3)
  clear hb3 K2 W2 HDs
  cases bb with
  | false =>
    clear hD ht htl hgl hg
    obtain ⟨rfl, rfl⟩ := Hnil.out (take_noD HLab.out ha0 HD.out HDe.out)
    have c0 : w3.cell? ⟨w.heap.size, 0, none⟩ = some (.string ⟨#[]⟩) := K3.out.cell 0 rfl
    have c1 : w3.cell? ⟨w.heap.size, 1, none⟩ = some (.string ⟨#[]⟩) := K3.out.cell 1 rfl
    have c2 : w3.cell? ⟨w.heap.size, 2, none⟩ = some (.string ⟨#[]⟩) := K3.out.cell 2 rfl
    have cf := fun k => K3.out.fr k
    clear Hnil Hok
    go_wp2
    refine bodyPost_ret (v := .tuple #[refV nilB, .int .i64 0]) (results_ref rfl _ _ w.heap.size nilB _ rfl rfl (K3.out.reref nilB)) rfl ⟨rfl, ?_⟩
    iterate 3 (refine Below.setCell ?_ (by exact Nat.le_refl _) _)
    exact W3.out
  | true =>
    have Hg : Hid (gapP t = some g) := Lib.hid (by rw [← hg]; exact dest_gap HDe.out)
    have HDf := Lib.hid hD
    have hkl := dest_le hD
    rw [List.length_drop] at hkl
    obtain ⟨y, hy⟩ := ba_mkL (Ks.lab x.data.toList)
    have HKL : Hid (∀ W, Below w.heap.size w W → Calls Tryz.prog 24 #[.string x] W fun e w' => e = .returned (.string y) ∧ Below W.heap.size W w') := Lib.hid (fun W hW => by
      have := Ks.label_any x W (by omega) (HLd.out.below hW).tabs
      rw [← hy] at this
      unfold Tx.str at this
      rw [ba_selfL] at this
      exact this)
    obtain ⟨S3, hS3⟩ : ∃ S3, S3 = s.extract (a + 1 + g + k) s.size := ⟨_, rfl⟩
    have hS3l : S3.data.toList = t.drop (g + k) := by rw [hS3, ext_restL, ← ht, List.drop_drop]; congr 1; omega
    have hS3z : S3.size ≤ 100000 := by rw [← szL, hS3l, List.length_drop]; omega
    obtain ⟨z, m, ok, hB⟩ := back_is (t.drop (g + k))
    have HBk := Lib.hid (fun W (hW : Below w.heap.size w W) => zback_any S3 W hS3z (HLd.out.below hW).link z m ok (by rw [hS3l]; exact hB))
    have HS3 := Lib.hid hS3
    have Hy := Lib.hid hy
    have hp3b : (a : Int) + 1 + (g : Int) + (k : Int) ≤ (s.size : Int) := by omega
    have hp3c : (0 : Int) ≤ (a : Int) + 1 + (g : Int) + (k : Int) := by omega
    clear hD hS3 hS3l hS3z hy hg
    go_wp2_with fail
    rw [← HS3.out]
    refine (HBk.out _ W3.out).mono ?_
    rintro e w4 ⟨rfl, hb4⟩
    have K4 : Hid (Blk w4 w.heap.size (refC nilB) 24) := Lib.hid (K3.out.below hb4)
    have W4 := Lib.hid (below_later W3.out hb4)
    clear hb4 K3 W3 HBk
    rcases hB with ⟨hb, rfl, rfl, rfl⟩ | ⟨hb, rfl⟩
    · obtain ⟨rfl, rfl⟩ := Hnil.out (take_no6 HLab.out ha0 HD.out Hg.out HDf.out hb)
      have c0 : w4.cell? ⟨w.heap.size, 0, none⟩ = some (.string ⟨#[]⟩) := K4.out.cell 0 rfl
      have c1 : w4.cell? ⟨w.heap.size, 1, none⟩ = some (.string ⟨#[]⟩) := K4.out.cell 1 rfl
      have c2 : w4.cell? ⟨w.heap.size, 2, none⟩ = some (.string ⟨#[]⟩) := K4.out.cell 2 rfl
      have cf := fun k => K4.out.fr k
      clear Hnil Hok hb ht htl hgl hkl
      go_wp2
      refine bodyPost_ret (v := .tuple #[refV nilB, .int .i64 0]) (results_ref rfl _ _ w.heap.size nilB _ rfl rfl (K4.out.reref nilB)) rfl ⟨rfl, ?_⟩
      iterate 3 (refine Below.setCell ?_ (by exact Nat.le_refl _) _)
      exact W4.out
    · have hml := back_le hb
      rw [List.length_drop] at hml
      have hm := take_make HLab.out ha0 HD.out Hg.out HDf.out hb
      obtain ⟨hbr, rfl⟩ := ok_of Hok.out hm
      have hbe : b = ⟨y, d, z⟩ := Rb.inj (by rw [hbr]; unfold Rb.r; rw [Hy.out])
      subst hbe
      have hs5 : Hid ((a : Int) + 1 + (g : Int) + (k : Int) + (m : Int) = ((a + 1 + g + k + m : Nat) : Int)) := Lib.hid (by omega)
      have hs6 : (a : Int) + 1 + (g : Int) + (k : Int) + (m : Int) ≤ 100000 := by omega
      have hs7 : (0 : Int) ≤ (m : Int) := by omega
      clear Hnil Hok hb ht htl hgl hkl hm hbr hml
      go_wp2_with fail
      refine (HKL.out _ W4.out).mono ?_
      rintro e w5 ⟨rfl, hb5⟩
      have K5 : Hid (Blk w5 w.heap.size (refC nilB) 24) := Lib.hid (K4.out.below hb5)
      have W5 := Lib.hid (below_later W4.out hb5)
      clear hb5 K4 W4 HKL
      have c0 : w5.cell? ⟨w.heap.size, 0, none⟩ = some (.string ⟨#[]⟩) := K5.out.cell 0 rfl
      have c1 : w5.cell? ⟨w.heap.size, 1, none⟩ = some (.string ⟨#[]⟩) := K5.out.cell 1 rfl
      have c2 : w5.cell? ⟨w.heap.size, 2, none⟩ = some (.string ⟨#[]⟩) := K5.out.cell 2 rfl
      have cf := fun k => K5.out.fr k
      go_wp2
      refine bodyPost_ret (v := .tuple #[refV ⟨y, d, z⟩, .int .i64 ((a : Int) + 1 + (g : Int) + (k : Int) + (m : Int))]) (results_ref rfl _ _ w.heap.size ⟨y, d, z⟩ _ rfl rfl (K5.out.reref ⟨y, d, z⟩)) rfl ⟨by rw [hs5.out], ?_⟩
      iterate 3 (refine Below.setCell ?_ (by exact Nat.le_refl _) _)
      exact W5.out
end Rf
end Go.Proofs.YtfabiidohdkkcaaGreatDoor

/- Walks of layer 10: the program's clone, Find. -/
namespace Go.Proofs.YtfabiidohdkkcaaGreatDoor
open Go Go.RowKit
namespace Rf
open Lk Es
set_option maxRecDepth 100000
set_option linter.unusedVariables false
set_option linter.unusedSimpArgs false
attribute [local go_sem ↓] Go.wp_at_zero Go.wp_at_succ

/-- The result of a call that tells a definition alone. -/
theorem results_refs {fn : Func} {p : Tmp} (h : fn.results = #[.cell p 24]) (tmps : Array Value) (w : World) (g : Nat) (b : Rb) (hp : tmps.getD p undef = .pointer (some ⟨g, 0, none⟩))
    (hg : Blk w g (refC b) 24) : (results fn tmps).run Tryz.prog w = .ok (refV b) w :=
  results_cell_row h _ _ g _ (refC b) (0, 0) _ hp hg Tryz.underlying24 rfl infoRef
/-- A definition whose texts have room. -/
def Room (b : Rb) : Prop := b.lab.size ≤ 281474976710656 ∧ b.dst.size ≤ 281474976710656 ∧ b.tit.size ≤ 281474976710656
theorem RefZ.room {b : Rb} (h : RefZ b) : Room b := ⟨by have := h.1; omega, by have := h.2.1; omega, by have := h.2.2; omega⟩

set_option maxHeartbeats 8000000 in
theorem zclone_any (b : Rb) (hz : Room b) (w : World) :
    Calls Tryz.prog 33 #[refV b] w fun e w' => e = .returned (refV b) ∧ Below w.heap.size w w' := by
  obtain ⟨z0, z1, z2⟩ := hz
  obtain ⟨x, y, z⟩ := b
  dsimp only at z0 z1 z2
  obtain ⟨W0, hW0⟩ : ∃ W0, W0 = (w.alloc (.cells (refC ⟨x, y, z⟩) 24)).alloc (.cells (refC nilB) 24) := ⟨_, rfl⟩
  have KA : Hid (Blk W0 w.heap.size (refC ⟨x, y, z⟩) 24) := Lib.hid (by rw [hW0]; exact (Blk.new _ _ _).alloc _)
  have KR : Hid (Blk W0 (w.heap.size + 1) (refC nilB) 24) := Lib.hid (by
    rw [hW0]
    have := Blk.new (w.alloc (.cells (refC ⟨x, y, z⟩) 24)) (refC nilB) 24
    rwa [World.size_alloc] at this)
  have HB : Hid (Below w.heap.size w W0) := Lib.hid (by rw [hW0]; exact ((Below.refl _ w).alloc (Nat.le_refl _) _).alloc (by simp) _)
  have HC : Hid (∀ (s : ByteArray) (W : World), s.size ≤ 281474976710656 → Below W0.heap.size W0 W → Calls Tryz.prog 32 #[.string s] W fun e w' => e = .returned (.string s) ∧ Below W0.heap.size W0 w') :=
    Lib.hid (fun s W hs hW => (Lk.clone_any s W hs).mono fun e w' h => ⟨h.1, below_later hW h.2⟩)
  have HS : Hid (∀ W, Below W0.heap.size W0 W → W.cell? ⟨w.heap.size, 0, none⟩ = some (.string x) ∧ W.cell? ⟨w.heap.size, 1, none⟩ = some (.string y) ∧ W.cell? ⟨w.heap.size, 2, none⟩ = some (.string z)) := Lib.hid (fun W hW => by
    have h1 := KA.out.below hW
    exact ⟨h1.cell 0 rfl, h1.cell 1 rfl, h1.cell 2 rfl⟩)
  have HSt : Hid (∀ W u v t, Below W0.heap.size W0 W → (((W.setCell ⟨w.heap.size + 1, 0, none⟩ u).setCell ⟨w.heap.size + 1, 1, none⟩ v).setCell ⟨w.heap.size + 1, 2, none⟩ t).cell? ⟨w.heap.size, 0, none⟩ = some (.string x) ∧ (((W.setCell ⟨w.heap.size + 1, 0, none⟩ u).setCell ⟨w.heap.size + 1, 1, none⟩ v).setCell ⟨w.heap.size + 1, 2, none⟩ t).cell? ⟨w.heap.size, 1, none⟩ = some (.string y) ∧ (((W.setCell ⟨w.heap.size + 1, 0, none⟩ u).setCell ⟨w.heap.size + 1, 1, none⟩ v).setCell ⟨w.heap.size + 1, 2, none⟩ t).cell? ⟨w.heap.size, 2, none⟩ = some (.string z)) := Lib.hid (fun W u v t hW => by
    have h1 := (((KA.out.below hW).other (p := ⟨w.heap.size + 1, 0, none⟩) u (by simp)).other (p := ⟨w.heap.size + 1, 1, none⟩) v (by simp)).other (p := ⟨w.heap.size + 1, 2, none⟩) t (by simp)
    exact ⟨h1.cell 0 rfl, h1.cell 1 rfl, h1.cell 2 rfl⟩)
  have HB0 := Lib.hid (Below.refl W0.heap.size W0)
  have HR : Hid (∀ W, Below W0.heap.size W0 W → Blk W (w.heap.size + 1) (refC nilB) 24 ∧ Below w.heap.size w W) := Lib.hid (fun W hW => ⟨KR.out.below hW, below_later HB.out hW⟩)
  have HW := Lib.hid hW0.symm
  unfold refC nilB at HW
  clear hW0
  unfold refV refC
  go_enter Tryz.func33, Tryz.ntmps33
  go_wp2_with fail
  rw [HW.out]
  go_region_held3 (fun W => W.cell? ⟨w.heap.size, 0, none⟩ = some (.string x) ∧ W.cell? ⟨w.heap.size, 1, none⟩ = some (.string y) ∧ W.cell? ⟨w.heap.size, 2, none⟩ = some (.string z)) (first | exact HS.out _ HB0.out.drew | exact HS.out _ (by assumption) | exact HSt.out _ _ _ _ (by assumption)) (first | (go_at_call 32; refine (HC.out _ _ (by assumption) (by first | assumption | exact HB0.out.drew)).mono ?_; rintro e w' ⟨rfl, hb'⟩; have kr := (HR.out _ hb').1; have r0 := kr.cell 0 rfl; have r1 := kr.cell 1 rfl; have r2 := kr.cell 2 rfl; have f0 := kr.fr 0; have f1 := kr.fr 1; have f2 := kr.fr 2; clear kr))
  go_wp2
  obtain ⟨hR1, hR2⟩ := HR.out _ hb'
  refine bodyPost_ret (v := refV ⟨x, y, z⟩) (results_refs rfl _ _ (w.heap.size + 1) ⟨x, y, z⟩ rfl (hR1.reref ⟨x, y, z⟩)) rfl ⟨rfl, ?_⟩
  iterate 3 (refine Below.setCell ?_ (by exact Nat.le_succ _) _)
  exact hR2
end Rf
end Go.Proofs.YtfabiidohdkkcaaGreatDoor

/- Walks of layer 10: the program's Find. -/
namespace Go.Proofs.YtfabiidohdkkcaaGreatDoor
open Go Go.RowKit
namespace Rf
open Lk Es
set_option maxRecDepth 100000
set_option linter.unusedVariables false
set_option linter.unusedSimpArgs false

set_option maxHeartbeats 8000000 in
theorem zfind_any (l : List Rb) (v : Value) (x y : ByteArray) (w : World) (hL : LaidR w) (hxz : x.size ≤ 1000000) (hy : y.data.toList = Ks.lab x.data.toList) (hlm : l.length ≤ 1000000) (hzl : ∀ r ∈ l, RefZ r) (h : Refs w v l) (b : Rb) (ok : Bool) (hF : FindIs l y b ok) :
    Calls Tryz.prog 15 #[v, .string x] w fun e w' => e = .returned (.tuple #[refV b, .bool ok]) ∧ Below w.heap.size w w' := by
  have HL : Hid (∀ W, Below w.heap.size w W → Calls Tryz.prog 24 #[.string x] W fun e w' => e = .returned (.string y) ∧ Below W.heap.size W w') := Lib.hid (fun W hW => by
    have := Ks.label_any x W (by omega) (hL.below hW).tabs
    rw [← hy] at this
    unfold Tx.str at this
    rw [ba_selfL] at this
    exact this)
  obtain ⟨a, cap, rfl, _, hk⟩ := h
  have HK := Lib.hid hk
  have HF := Lib.hid hF
  have HZ := Lib.hid hzl
  clear hk hF hy hzl hL
  obtain ⟨n, hn⟩ : ∃ n, l.length = n := ⟨_, rfl⟩
  rw [hn] at hlm ⊢
  have HN := Lib.hid hn
  have HB0 : Hid (Blk (w.alloc (.cells (refC nilB) 24)) w.heap.size (refC nilB) 24) := Lib.hid (Blk.new w (refC nilB) 24)
  have HW0 : Hid (Below w.heap.size w (w.alloc (.cells (refC nilB) 24))) := Lib.hid ((Below.refl _ w).alloc (Nat.le_refl _) _)
  unfold refC nilB at HW0 HB0
  have hem : y.toList.isEmpty = decide (y = empB) := emp_list
  clear hn
  go_enter Tryz.func15, Tryz.ntmps15
  go_wp2_with fail
  refine (HL.out _ HW0.out).mono ?_
  rintro e w1 ⟨rfl, hb1⟩
  have K1 : Hid (Blk w1 w.heap.size (refC nilB) 24) := Lib.hid (HB0.out.below hb1)
  have W1 := Lib.hid (below_later HW0.out hb1)
  clear hb1 HB0 HW0 HL
  by_cases hye : y = empB
  · rw [decide_eq_true hye] at hem
    have HV : Hid (b = nilB ∧ ok = false) := Lib.hid (by
      have hno : findB l y = none := by unfold findB; rw [if_pos hye]
      rcases HF.out with ⟨_, h1, h2⟩ | ⟨h1, _⟩
      · exact ⟨h1, h2⟩
      · rw [hno] at h1; cases h1)
    have c0 : w1.cell? ⟨w.heap.size, 0, none⟩ = some (.string ⟨#[]⟩) := K1.out.cell 0 rfl
    have c1 : w1.cell? ⟨w.heap.size, 1, none⟩ = some (.string ⟨#[]⟩) := K1.out.cell 1 rfl
    have c2 : w1.cell? ⟨w.heap.size, 2, none⟩ = some (.string ⟨#[]⟩) := K1.out.cell 2 rfl
    have cf := fun k => K1.out.fr k
    obtain ⟨rfl, rfl⟩ := HV.out
    clear HF HV hye
    go_wp2
    refine bodyPost_ret (v := .tuple #[refV nilB, .bool false]) (results_ref rfl _ _ w.heap.size nilB _ rfl rfl (K1.out.reref nilB)) rfl ⟨rfl, ?_⟩
    iterate 3 (refine Below.setCell ?_ (by exact Nat.le_refl _) _)
    exact W1.out
  rw [decide_eq_false hye] at hem
  have HI0 : Hid (findB l y = (l.drop 0).find? (fun r => decide (r.lab = y))) := Lib.hid (by rw [List.drop_zero]; unfold findB; rw [if_neg hye])
  have HCl := Lib.hid (fun (c : Rb) (W : World) (hc : Room c) => zclone_any c hc W)
  unfold refV refC at HCl
  clear hye
  go_wp2_with fail
  go_loopg [15] n (fun G s15 wr => ∃ i : Nat, i + G = n ∧ s15 = .int .i64 (i : Int) ∧ Hid (Blk wr w.heap.size (refC nilB) 24) ∧ Hid (Below w.heap.size w wr) ∧ Hid (findB l y = (l.drop i).find? (fun r => decide (r.lab = y))))
  case atStart => exact ⟨0, by omega, rfl, K1, W1, HI0⟩
  case round =>
    obtain ⟨i, hig, rfl, K2, W2, HI⟩ := hrel
    clear K1 W1 HI0
    cases gk with
    | zero =>
      have hlt : ¬ (i : Int) < (n : Int) := by omega
      have HV : Hid (b = nilB ∧ ok = false) := Lib.hid (by
        have hno : findB l y = none := by rw [HI.out, List.drop_eq_nil_of_le (by rw [HN.out]; omega)]; rfl
        rcases HF.out with ⟨_, h1, h2⟩ | ⟨h1, _⟩
        · exact ⟨h1, h2⟩
        · rw [hno] at h1; cases h1)
      have c0 : wr.cell? ⟨w.heap.size, 0, none⟩ = some (.string ⟨#[]⟩) := K2.out.cell 0 rfl
      have c1 : wr.cell? ⟨w.heap.size, 1, none⟩ = some (.string ⟨#[]⟩) := K2.out.cell 1 rfl
      have c2 : wr.cell? ⟨w.heap.size, 2, none⟩ = some (.string ⟨#[]⟩) := K2.out.cell 2 rfl
      have cf := fun k => K2.out.fr k
      obtain ⟨rfl, rfl⟩ := HV.out
      clear HF HI HV
      go_wp2
      refine bodyPost_ret (v := .tuple #[refV nilB, .bool false]) (results_ref rfl _ _ w.heap.size nilB _ rfl rfl (K2.out.reref nilB)) rfl ⟨rfl, ?_⟩
      iterate 3 (refine Below.setCell ?_ (by exact Nat.le_refl _) _)
      exact W2.out
    | succ G =>
      have hlt : (i : Int) < (n : Int) := by omega
      obtain ⟨c, hc⟩ : ∃ c, l[i]? = some c := ⟨_, List.getElem?_eq_getElem (by have := HN.out; omega)⟩
      rcases HK.out with rfl | ⟨bb, off, rfl, hcell⟩
      · simp at hc
      have q := ((hcell i c hc).keep (show Below w.heap.size w wr from W2.out))
      have q0 := q.c0
      have q1 := q.c1
      have q2 := q.c2
      have HRm := Lib.hid (HZ.out c (List.mem_of_getElem? hc)).room
      have hdr : l.drop i = c :: l.drop (i + 1) := by
        obtain ⟨h1, h2⟩ := List.getElem?_eq_some_iff.1 hc
        rw [← h2]; exact List.drop_eq_getElem_cons h1
      have KN : Hid (Blk (wr.alloc (.cells (refC c) 24)) wr.heap.size (refC c) 24) := Lib.hid (Blk.new _ _ _)
      have K3 : Hid (Blk (wr.alloc (.cells (refC c) 24)) w.heap.size (refC nilB) 24) := Lib.hid (K2.out.alloc _)
      have W3 : Hid (Below w.heap.size w (wr.alloc (.cells (refC c) 24))) := Lib.hid (W2.out.alloc W2.out.size _)
      have d0 : (wr.alloc (.cells (refC c) 24)).cell? ⟨wr.heap.size, 0, none⟩ = some (.string c.lab) := KN.out.cell 0 rfl
      have d1 : (wr.alloc (.cells (refC c) 24)).cell? ⟨wr.heap.size, 1, none⟩ = some (.string c.dst) := KN.out.cell 1 rfl
      have d2 : (wr.alloc (.cells (refC c) 24)).cell? ⟨wr.heap.size, 2, none⟩ = some (.string c.tit) := KN.out.cell 2 rfl
      have HNx : Hid (c.lab ≠ y → findB l y = (l.drop (i + 1)).find? (fun r => decide (r.lab = y))) := Lib.hid (fun hh => by
        rw [HI.out, hdr, List.find?_cons_of_neg (by simpa using hh)])
      have HYs : Hid (c.lab = y → b = c ∧ ok = true) := Lib.hid (fun h2 => by
        have hs : findB l y = some c := by rw [HI.out, hdr, List.find?_cons_of_pos (by simpa using h2)]
        rcases HF.out with ⟨h3, _⟩ | ⟨h3, h4⟩
        · rw [hs] at h3; cases h3
        · rw [hs] at h3; injection h3 with h3; exact ⟨h3.symm, h4⟩)
      unfold refC at d0 d1 d2 W3 K3 KN
      clear hcell hc q hdr HI K2 W2
      by_cases hcy : c.lab = y
      · have e1 : (c.lab.toList == y.toList) = true := eq_list hcy
        obtain ⟨hb', hok'⟩ := HYs.out hcy
        subst hb' hok'
        clear HNx HYs hcy HF
        go_wp2_with fail
        refine (HCl.out b _ HRm.out).mono ?_
        rintro e w4 ⟨rfl, hb4⟩
        have K4 := Lib.hid (K3.out.below hb4)
        have W4 := Lib.hid (below_later W3.out hb4)
        have c0 : w4.cell? ⟨w.heap.size, 0, none⟩ = some (.string ⟨#[]⟩) := K4.out.cell 0 rfl
        have c1 : w4.cell? ⟨w.heap.size, 1, none⟩ = some (.string ⟨#[]⟩) := K4.out.cell 1 rfl
        have c2 : w4.cell? ⟨w.heap.size, 2, none⟩ = some (.string ⟨#[]⟩) := K4.out.cell 2 rfl
        have cf := fun k => K4.out.fr k
        clear hb4 K3 W3 KN d0 d1 d2 q0 q1 q2
        go_wp2
        refine bodyPost_ret (v := .tuple #[refV b, .bool true]) (results_ref rfl _ _ w.heap.size b _ rfl rfl (Blk.reref (o0 := nilB) K4.out b)) rfl ⟨rfl, ?_⟩
        iterate 3 (refine Below.setCell ?_ (by exact Nat.le_refl _) _)
        exact W4.out
      · have e1 : (c.lab.toList == y.toList) = false := ne_list hcy
        have HV := Lib.hid (HNx.out hcy)
        clear HNx HYs hcy
        go_wp2
        go_roundg G
        case rel => exact ⟨i + 1, by omega, by go_num, K3, W3, HV⟩
        case measure => omega
end Rf
end Go.Proofs.YtfabiidohdkkcaaGreatDoor

/- A range over a function whose iterator keeps a state of its own in memory: a law for loops that are never left early. No function of the program is named. -/
namespace Go.Proofs.YtfabiidohdkkcaaGreatDoor
open Go Go.RowKit
namespace Rf
set_option maxRecDepth 100000
set_option linter.unusedVariables false

/-- The loop's record in a given state. -/
def recOf (fn : FuncId) (tmps : Array Value) (ps : Array Tmp) (assign body : Code) (D : Nat) (st : LoopState) : Loop := { state := st, pending := none, fn, tmps, params := ps, assign, body, defers := D }
/-- What the loop itself keeps: its record, and the block for deferred calls. -/
def Kept (fn : FuncId) (tmps : Array Value) (ps : Array Tmp) (assign body : Code) (D : Nat) (st : LoopState) (W : World) : Prop :=
  W.heap[D + 1]? = some (.loop (recOf fn tmps ps assign body D st)) ∧ W.heap[D]? = some (.deferred (some []))
section
variable {fn : FuncId} {tmps : Array Value} {ps : Array Tmp} {assign body : Code} {D : Nat} {st st' : LoopState}
theorem Kept.over {A B : World} (h : Kept fn tmps ps assign body D st A) (hk : KeepsFrom D A B) : Kept fn tmps ps assign body D st B :=
  ⟨hk.same _ _ (by omega) h.1 rfl, hk.same _ _ (Nat.le_refl _) h.2 rfl⟩
theorem Kept.lt {A : World} (h : Kept fn tmps ps assign body D st A) : D + 1 < A.heap.size := (Array.getElem?_eq_some_iff.1 h.1).1
theorem Kept.turn {A : World} (h : Kept fn tmps ps assign body D st A) : Kept fn tmps ps assign body D st' (A.putObj (D + 1) (.loop (recOf fn tmps ps assign body D st'))) :=
  ⟨World.putObj_heap_same h.lt, (World.putObj_heap_other (by omega)).trans h.2⟩
end
theorem wpIn_mono' {F : Fence} {n : Nat} {P : Program} {c : Code} {Q Q' : Exit → Act → World → Prop} {a : Act} {w : World} (h : c.wpIn F n P Q a w) (hq : ∀ e a w, Q e a w → Q' e a w) : c.wpIn F n P Q' a w := wpIn_mono h hq

theorem range_state {σ : Type} {P : Program} {w : World} {n : Nat} {g : Operand} {ps : Array Tmp} {assign body : Code} {Q : Exit → Act → World → Prop} {a : Act}
    {gf : Nat} {lb : Array Value} (hg : a.eval g = .func (.func gf) #[] lb) (eg : ∀ args w, (callFunc gf args).run P w = .ok (.enter gf args) w)
    (I : σ → World → Prop) (hI : OwnFrom w.heap.size I) (Step : σ → Array Value → σ → Prop) (hps : ∀ s v s', Step s v s' → v.size = ps.size) (s0 : σ) (h0 : I s0 w) (Fin : σ → Prop)
    (hbody : ∀ (l : Nat) (s : σ) (v : Array Value) (s' : σ) (W : World), Step s v s' → I s W → w.heap.size ≤ l →
      assign.wpIn (Fence.wide.inRound l) (n - 1 - 1) P (Exit.then (fun a' Wa => KeepsFrom w.heap.size W Wa ∧ ∀ (o o' : Obj), Wa.heap[l]? = some o → o.isCells = false →
          body.wpIn (Fence.wide.inRound l) (n - 1 - 1) P (fun e _ W3 => e = .normal ∧ KeepsFrom w.heap.size (Wa.putObj l o') W3 ∧ I s' W3) a' (Wa.putObj l o')) (fun _ _ _ => False))
        { tmps := (ps.zip v).foldl (fun t (p, v) => t.setIfInBounds p v) a.tmps, defers := [] } W)
    (hiter : ∀ (l : Nat) (Bk : World → Prop), (∀ A B, KeepsFrom w.heap.size A B → Bk A → Bk B) →
      (∀ (s : σ) (v : Array Value) (s' : σ) (W : World), Step s v s' → I s W → Bk W → YieldAt Fence.wide (n - 1 - 1) P l v W (fun e W' => e = .returned (.bool true) ∧ I s' W' ∧ Bk W')) →
      ∀ W, I s0 W → Bk W → w.heap.size ≤ W.heap.size → CallsIn Fence.wide (n - 1) P gf (#[.func (.yield l) #[] #[]] ++ lb) W fun e W' => (∃ u, e = .returned u) ∧ ∃ s, Fin s ∧ I s W' ∧ Bk W')
    (hdone : ∀ (s : σ) (W : World), Fin s → I s W → W.heap[w.heap.size]? = some (.deferred (some [])) → Q .normal { a with defers := { target := .collected w.heap.size, args := #[] } :: a.defers } W) :
    (Code.rangeFunc g ps assign body).wpIn Fence.wide n P Q a w := by
  refine wpIn_rangeFunc ?_
  intro fn hfn
  obtain ⟨W1, hW1⟩ : ∃ W1, (w.alloc (.deferred (some []))).alloc (.loop (recOf fn a.tmps ps assign body w.heap.size .ready)) = W1 := ⟨_, rfl⟩
  have hK1 : Kept fn a.tmps ps assign body w.heap.size .ready W1 := by
    rw [← hW1]
    refine ⟨?_, (Below.heap_alloc _ _ _ (by simp)).trans (World.alloc_heap_new w _)⟩
    have := World.alloc_heap_new (w.alloc (.deferred (some []))) (.loop (recOf fn a.tmps ps assign body w.heap.size .ready))
    rwa [World.size_alloc] at this
  have hI1 : I s0 W1 := by rw [← hW1]; exact hI.alloc _ (hI.alloc _ h0)
  refine ⟨w.heap.size + 1, [{ target := .collected w.heap.size, args := #[] }], W1, { target := .fn (.func gf) lb, args := #[.func (.yield (w.heap.size + 1)) #[] #[]] }, W1, gf,
    #[.func (.yield (w.heap.size + 1)) #[] #[]] ++ lb, W1, ?_, ?_, ?_, ?_, ?_, ?_⟩
  · rw [← hW1]; exact run_enterLoop_outer fn a.tmps ps assign body
  · simp only [resolve, hg]
    simp [go_sem]
  · intro f' _; trivial
  · simp [invoke, go_sem, eg]
  · intro h; cases h
  · refine (hiter (w.heap.size + 1) (Kept fn a.tmps ps assign body w.heap.size .ready) (fun A B hk h => h.over hk) ?_ W1 hI1 hK1 (by rw [← hW1]; simp; omega)).mono ?_
    · intro s v s' W hs hi hk
      have hy := run_yield (P := P) (args := v) hk.1 (hps s v s' hs)
      refine ⟨fn, _, assign, body, hy, roundIn_of_wpIn hfn (wpIn_mono' (hbody (w.heap.size + 1) s v s' W hs hi (by omega)) ?_)⟩
      intro e a' Wa hq
      cases e with
      | normal =>
        obtain ⟨hkw, hb⟩ := hq
        have hka := hk.over hkw
        refine ⟨_, run_beginRound hka.1 rfl, ?_⟩
        refine wpIn_mono' (hb _ (.loop (recOf fn a.tmps ps assign body w.heap.size .busy)) hka.1 rfl) ?_
        rintro e3 a3 W3 ⟨rfl, hk3, hi3⟩
        have hkb : Kept fn a.tmps ps assign body w.heap.size .busy (Wa.putObj (w.heap.size + 1) (.loop (recOf fn a.tmps ps assign body w.heap.size .busy))) := hka.turn
        have hkc := hkb.over hk3
        exact ⟨_, _, run_endRound (P := P) none hkc.1, rfl, hI.putObj _ hi3 (by omega) hkc.1 rfl, hkc.turn⟩
      | _ => exact hq
    · rintro e W2 ⟨⟨u, rfl⟩, s, hf, hi, hk⟩
      exact ⟨none, _, run_endLoop (P := P) hk.1 (by intro h; cases h), hdone s _ hf (hI.putObj _ hi (by omega) hk.1 rfl) ((World.putObj_heap_other (by omega)).trans hk.2)⟩
end Rf
end Go.Proofs.YtfabiidohdkkcaaGreatDoor

/- Layer 10: the program's definitions, told by a range over a function whose iterator keeps what is left in a variable of its own; All. -/
namespace Go.Proofs.YtfabiidohdkkcaaGreatDoor
open Go Go.RowKit Go.Shelf
namespace Rf
set_option maxRecDepth 100000
set_option linter.unusedVariables false
set_option linter.unusedSimpArgs false
attribute [local go_sem] Oper.semAt_some

theorem defs_any (s : ByteArray) (w : World) :
    Calls Tryz.prog 31 #[.string s] w fun e w' => e = .returned (.func (.func 54) #[] #[.pointer (some ⟨w.heap.size, 0, none⟩)]) ∧ w' = w.alloc (.cells #[.string s] 9) := by
  go_enter Tryz.func31, Tryz.ntmps31
  go_wp2
  go_ret
  exact ⟨rfl, rfl⟩

/-- Between two rounds: what has come, the text that is left, the definition that is being told. -/
structure Sg where
  don : List Rb
  left : ByteArray
  pend : Option Rb
def It (w : World) (bO bR bS : Nat) (s0 : ByteArray) (q : Sg) (W : World) : Prop :=
  (∃ v, Boxed W bO 27 v ∧ Own W w.heap.size v q.don) ∧ (∃ R, Boxed W bR 9 (.string R) ∧ (q.pend = none → R = q.left)) ∧ Boxed W bS 9 (.string s0) ∧ Below w.heap.size w W
theorem keeps_below {D : Nat} {A B : World} (h : Below A.heap.size A B) : KeepsFrom D A B := ⟨h.size, fun k o _ hk _ => (h.block k (Array.getElem?_eq_some_iff.1 hk).1).trans hk⟩
theorem Boxed.below {W W' : World} {B : Nat} {t : TypeId} {v : Value} (h : Boxed W B t v) (hb : Below W.heap.size W W') : Boxed W' B t v := (hb.block B h.lt).trans h
theorem It.below {w W W' : World} {bO bR bS : Nat} {s0 : ByteArray} {q : Sg} (h : It w bO bR bS s0 q W) (hb : Below W.heap.size W W') : It w bO bR bS s0 q W' := by
  obtain ⟨⟨v, h1, h2⟩, ⟨R, h3, h4⟩, h5, h6⟩ := h
  exact ⟨⟨v, Boxed.below h1 hb, h2.keep hb⟩, ⟨R, Boxed.below h3 hb, h4⟩, Boxed.below h5 hb, below_later h6 hb⟩
theorem It.own {w : World} {bO bR bS D : Nat} {s0 : ByteArray} (hD : w.heap.size ≤ D) : OwnFrom D (It w bO bR bS s0) := by
  rintro q X Y row ⟨⟨v, h1, h2⟩, ⟨R, h3, h4⟩, h5, h6⟩ hg hr
  have hn : ∀ r, row = some r → ∃ o : Obj, X.heap[r]? = some o ∧ o.isCells = false := fun r e => (hr r e).2
  have box : ∀ {B : Nat} {t : TypeId} {v : Value}, Boxed X B t v → Boxed Y B t v := fun h => (grownBy_keeps_cells hg hn h rfl).trans h
  refine ⟨⟨v, box h1, ?_⟩, ⟨R, box h3, h4⟩, box h5, h6.grown hg h6.size (fun k e => Nat.le_trans hD (hr k e).1)⟩
  unfold Own at h2 ⊢
  refine owns_block h2 (fun k hk => ?_)
  rcases h2.2 with ⟨rfl, _⟩ | ⟨g, cap, cur, rfl, _, hgb, _⟩
  · simp [Value.ownBlock] at hk
  · obtain rfl : g = k := by simpa [Value.ownBlock] using hk
    exact grownBy_keeps_cells hg hn hgb rfl
/-- The iterator has moved its text on. -/
theorem It.move {w W : World} {bO bR bS : Nat} {s0 : ByteArray} {q : Sg} (S2 : ByteArray) (b : Rb) (h : It w bO bR bS s0 q W) : It w bO bR bS s0 ⟨q.don, S2, some b⟩ W := by
  obtain ⟨k1, ⟨R, k3, k4⟩, k5, k6⟩ := h
  exact ⟨k1, ⟨R, k3, fun e => (by cases e)⟩, k5, k6⟩
/-- One round. -/
def Rnd (q : Sg) (v : Array Value) (q' : Sg) : Prop := ∃ b, q.pend = some b ∧ v = #[refV b, .string q.left] ∧ q' = ⟨q.don ++ [b], q.left, none⟩ ∧ q.don.length ≤ 100000
def strN (v : Value) : Nat := match v with
  | .string s => s.size
  | _ => 0

set_option maxHeartbeats 4000000 in
theorem iter_any {w : World} {n l D bO bR bS : Nat} {L : List Rb} {S' s : ByteArray} (hz : s.size ≤ 100000) (hall : allP s.data.toList = (L.map Rb.r, S'.data.toList))
    (HT : ∀ W, Below w.heap.size w W → ∀ (s : ByteArray) (b : Rb) (n : Nat), s.size ≤ 100000 → takeP s.data.toList = (b.r, n) → Calls Tryz.prog 9 #[.string s] W fun e w' => e = .returned (.tuple #[refV b, .int .i64 (n : Int)]) ∧ Below W.heap.size W w')
    (Bk : World → Prop) (hBk : ∀ A B, KeepsFrom D A B → Bk A → Bk B)
    (hY : ∀ (q : Sg) (v : Array Value) (q' : Sg) (W : World), Rnd q v q' → It w bO bR bS s q W → Bk W → YieldAt Fence.wide (n - 1) Tryz.prog l v W (fun e W' => e = .returned (.bool true) ∧ It w bO bR bS s q' W' ∧ Bk W'))
    (W : World) (hI : It w bO bR bS s ⟨[], s, none⟩ W) (hb : Bk W) :
    CallsIn Fence.wide n Tryz.prog 54 (#[.func (.yield l) #[] #[]] ++ #[.pointer (some ⟨bS, 0, none⟩)]) W fun e W' => (∃ u, e = .returned u) ∧ ∃ q, (q.don = L ∧ q.left = S' ∧ q.pend = none) ∧ It w bO bR bS s q W' ∧ Bk W' := by
  refine callsIn_of_wp Tryz.func54 rfl trivial ?_ rfl
  simp only [Tryz.ntmps54, List.size_toArray, List.length_cons, List.length_nil, Nat.reduceAdd, Nat.reduceSub, Array.replicate_succ, Array.replicate_zero, List.push_toArray, List.append_toArray, List.nil_append, List.cons_append]
  have hbox := hI.2.2.1
  have hc := hbox.cell
  gi_wp2
  gi_loopw [3] (fun s3 wr => ∃ (q : Sg) (T : List Rb), s3 = .string q.left ∧ q.pend = none ∧ It w bO bR bS s q wr ∧ Bk wr ∧ L = q.don ++ T ∧ q.don.length + q.left.size ≤ s.size ∧ allP q.left.data.toList = (T.map Rb.r, S'.data.toList)) (fun s3 _ => strN s3)
  case atStart => exact ⟨⟨[], s, none⟩, L, rfl, rfl, hI, hb, rfl, by simp, hall⟩
  case round =>
    obtain ⟨⟨don, S, pend⟩, T, rfl, hp, hIt, hbk, hL, hSz, hA⟩ := hrel
    obtain rfl : pend = none := hp
    dsimp only at hL hSz hA
    obtain ⟨b, hb'⟩ := Rb.of (takeP S.data.toList).1
    obtain ⟨k, hk⟩ : ∃ k, (takeP S.data.toList).2 = k := ⟨_, rfl⟩
    have ht : takeP S.data.toList = (b.r, k) := by rw [hb', ← hk]
    have hkl := take_le ht
    rw [szR] at hkl
    have HTk := Lib.hid (HT wr hIt.2.2.2 S b k (by omega) ht)
    unfold refV refC at HTk
    have hkb : (k : Int) ≤ (S.size : Int) := by omega
    rcases Nat.eq_zero_or_pos k with hk0 | hk0
    · have hal := all_end (show (takeP S.data.toList).2 = 0 by rw [hk]; exact hk0)
      have HV : Hid (T = [] ∧ S = S') := Lib.hid (by
        rw [hal] at hA
        injection hA with h1 h2
        exact ⟨List.map_eq_nil_iff.1 h1.symm, bytes_ext h2⟩)
      have HIt := Lib.hid hIt
      have HBk := Lib.hid hbk
      have HL := Lib.hid hL
      subst hk0
      clear hal ht hk hA hIt hbk hL hI hb hall hbox hc
      gi_wp2
      refine ⟨trivial, fun h => (by cases h), (callsIn_wide.2 HTk.out).mono ?_⟩
      rintro e w2 ⟨rfl, hb2⟩
      gi_wp2
      refine ⟨fun _ h => (by cases h), ?_⟩
      gi_wp2
      refine bodyPost_ret (results_none rfl _ _ _) rfl ?_
      refine ⟨⟨_, rfl⟩, ⟨don, S, none⟩, ⟨by rw [HL.out, HV.out.1, List.append_nil], HV.out.2, rfl⟩, ?_, ?_⟩
      · exact HIt.out.below (below_later hb2 ((Below.refl _ w2).alloc (Nat.le_refl _) _))
      · exact hBk _ _ (keeps_below (below_later hb2 ((Below.refl _ w2).alloc (Nat.le_refl _) _))) HBk.out
    · have hal := all_more ht hk0
      obtain ⟨T2, hT2⟩ := Rb.list (allP (S.data.toList.drop k)).1
      have HTl : Hid (T = b :: T2) := Lib.hid (by
        rw [hal] at hA
        injection hA with h1 _
        exact map_inj (by rw [← h1, List.map_cons, hT2]))
      obtain ⟨S2, hS2⟩ : ∃ S2, S2 = S.extract k S.size := ⟨_, rfl⟩
      have hS2l : S2.data.toList = S.data.toList.drop k := by rw [hS2, restR]
      have hS2z : S2.size + k = S.size := by rw [← szR, hS2l, List.length_drop, szR]; omega
      have HA2 : Hid (allP S2.data.toList = (T2.map Rb.r, S'.data.toList)) := Lib.hid (by
        rw [hal] at hA
        injection hA with _ h2
        rw [hS2l, hT2, ← h2])
      have HL2 : Hid (L = (don ++ [b]) ++ T2) := Lib.hid (by rw [hL, HTl.out]; simp)
      have HS2 := Lib.hid hS2
      have HIt := Lib.hid hIt
      have HBk := Lib.hid hbk
      have hkn : ((k : Int) == 0) = false := by simp; omega
      clear hal ht hk hA hIt hbk hL hI hb hall hbox hT2 hS2 hS2l hc
      gi_wp2
      refine ⟨trivial, fun h => (by cases h), (callsIn_wide.2 HTk.out).mono ?_⟩
      rintro e w2 ⟨rfl, hb2⟩
      have hb3 : Below wr.heap.size wr (w2.alloc (.cells #[.string b.lab, .string b.dst, .string b.tit] 24)) := hb2.alloc hb2.size _
      have It4 := Lib.hid ((HIt.out.below hb3).move S2 b)
      have Bk4 := Lib.hid (hBk _ _ (keeps_below hb3) HBk.out)
      have KN := Blk.new w2 (refC b) 24
      have d0 := KN.cell 0 rfl
      have d1 := KN.cell 1 rfl
      have d2 := KN.cell 2 rfl
      unfold refC at d0 d1 d2
      obtain ⟨fn, tmps, assign, body, hy, hR⟩ := hY ⟨don, S2, some b⟩ #[refV b, .string S2] ⟨don ++ [b], S2, none⟩ _ ⟨b, rfl, rfl, rfl, by dsimp only; omega⟩ It4.out Bk4.out
      unfold refV refC at hy
      clear hb2 hb3 KN
      obtain rfl := HS2.out
      gi_wp2
      refine ⟨fun h => (by cases h), hR.mono ?_⟩
      rintro e W5 ⟨rfl, hI5, hB5⟩
      clear hR hy
      gi_wp2
      go_roundw
      case rel => exact ⟨⟨don ++ [b], S.extract k S.size, none⟩, T2, rfl, rfl, hI5, hB5, HL2.out, by dsimp only; rw [List.length_append]; simp; omega, HA2.out⟩
      case measure =>
        unfold strN
        dsimp only
        omega

set_option maxHeartbeats 8000000 in
theorem zall_any (dn : Nat) (s : ByteArray) (w : World) (hz : s.size ≤ 100000) (L : List Rb) (S' : ByteArray) (hall : allP s.data.toList = (L.map Rb.r, S'.data.toList))
    (HT : ∀ W, Below w.heap.size w W → ∀ (s : ByteArray) (b : Rb) (n : Nat), s.size ≤ 100000 → takeP s.data.toList = (b.r, n) → Calls Tryz.prog 9 #[.string s] W fun e w' => e = .returned (.tuple #[refV b, .int .i64 (n : Int)]) ∧ Below W.heap.size W w') :
    Calls Tryz.prog 11 #[.string s] w fun e w' => ∃ v, e = .returned (.tuple #[v, .string S']) ∧ Refs w' v L ∧ Below w.heap.size w w' := by
  obtain ⟨i0, hi, hz0, hz1, hz2⟩ := info_parts refInfo
  have hSz : S'.size ≤ 100000 := by
    obtain ⟨k, hk, h2, _⟩ := all_rest s.data.toList.length s.data.toList (Nat.le_refl _)
    rw [hall] at h2
    have := congrArg List.length h2
    dsimp only at this
    rw [szR, List.length_drop, szR] at this
    omega
  have HC := Lib.hid (fun W => Lk.clone_any S' W (by omega))
  clear hSz
  refine (callsIn_wide (n := dn)).1 ?_
  refine callsIn_of_wp_marks Tryz.func11 rfl trivial ?_ rfl
  simp only [Tryz.ntmps11, List.size_toArray, List.length_cons, List.length_nil, Nat.reduceAdd, Nat.reduceSub, Array.replicate_succ, Array.replicate_zero, List.push_toArray, List.append_toArray, List.nil_append, List.cons_append]
  gi_wp2
  refine ⟨trivial, fun h => (by cases h), (callsIn_wide.2 (defs_any s _)).mono ?_⟩
  rintro e w' ⟨rfl, rfl⟩
  gi_wp2
  have bR := Boxed.new w 9 (.string s)
  have bO := Boxed.new (w.alloc (.cells #[.string s] 9)) 27 (.slice none 0 0)
  have bS := Boxed.new ((w.alloc (.cells #[.string s] 9)).alloc (.cells #[.slice none 0 0] 27)) 9 (.string s)
  rw [World.size_alloc] at bO bS
  rw [World.size_alloc] at bS
  have hB0 : Below w.heap.size w (((w.alloc (.cells #[.string s] 9)).alloc (.cells #[.slice none 0 0] 27)).alloc (.cells #[.string s] 9)) := (((Below.refl _ w).alloc (Nat.le_refl _) _).alloc (by simp) _).alloc (by simp; omega) _
  have h0 : It w (w.heap.size + 1) w.heap.size (w.heap.size + 1 + 1) s ⟨[], s, none⟩ (((w.alloc (.cells #[.string s] 9)).alloc (.cells #[.slice none 0 0] 27)).alloc (.cells #[.string s] 9)) :=
    ⟨⟨_, bO.alloc _, World.ownsRow_nil _ _ _ _⟩, ⟨s, (bR.alloc _).alloc _, fun _ => rfl⟩, bS, hB0⟩
  refine range_state (gf := 54) (lb := #[.pointer (some ⟨w.heap.size + 1 + 1, 0, none⟩)]) rfl (enters_of Tryz.func54 (by kernel_rfl) rfl)
    (It w (w.heap.size + 1) w.heap.size (w.heap.size + 1 + 1) s) (It.own (by simp; omega)) Rnd (by rintro q v q' ⟨b, _, rfl, _, _⟩; rfl) ⟨[], s, none⟩ h0 (fun q => q.don = L ∧ q.left = S' ∧ q.pend = none) ?body ?iter ?done
  case iter =>
    intro l Bk hBk hY W hI hb hsz
    exact iter_any hz hall HT Bk hBk hY W hI hb
  case body =>
    rintro l ⟨don, B, pend⟩ v q' W ⟨b, hp, rfl, rfl, hdl⟩ hI hl
    obtain rfl : pend = some b := hp
    dsimp only at hdl ⊢
    unfold refV refC
    gi_wp2
    refine ⟨(KeepsOthers.alloc _ _).from _, fun o o' ho hoc => ?_⟩
    have hb2 : Below W.heap.size W (W.alloc (.cells #[.string b.lab, .string b.dst, .string b.tit] 24)) := (Below.refl _ W).alloc (Nat.le_refl _) _
    have hln : W.heap.size ≠ l := by
      intro e
      have hx := heap_alloc_new W (.cells #[.string b.lab, .string b.dst, .string b.tit] 24)
      rw [e, ho] at hx
      injection hx with hx
      subst hx
      cases hoc
    have hKN : Blk ((W.alloc (.cells #[.string b.lab, .string b.dst, .string b.tit] 24)).putObj l o') W.heap.size (refC b) 24 :=
      (World.putObj_heap_other hln).trans (Blk.new W (refC b) 24)
    have hI2 := (It.own (bO := w.heap.size + 1) (bR := w.heap.size) (bS := w.heap.size + 1 + 1) (s0 := s) (Nat.le_refl w.heap.size)).putObj o' (hI.below hb2) (by simp at hl; omega) ho hoc
    obtain ⟨W3, hW3⟩ : ∃ W3, (W.alloc (.cells #[.string b.lab, .string b.dst, .string b.tit] 24)).putObj l o' = W3 := ⟨_, rfl⟩
    rw [hW3] at hKN hI2 ⊢
    generalize W.heap.size = N at *
    clear hW3 hb2 ho hI hln h0 hB0 bO bR bS hall HT HC
    obtain ⟨⟨vo, k1, k2⟩, ⟨R, k3, _⟩, k5, k6⟩ := hI2
    obtain ⟨ao, co, rfl⟩ := k2.form
    dsimp only at k1 k2 k5
    have hw3 := k6.size
    have c0 := k1.cell
    have d0 : W3.cell? ⟨N, 0, none⟩ = some (.string b.lab) := hKN.cell 0 rfl
    have d1 : W3.cell? ⟨N, 1, none⟩ = some (.string b.dst) := hKN.cell 1 rfl
    have d2 : W3.cell? ⟨N, 2, none⟩ = some (.string b.tit) := hKN.cell 2 rfl
    gi_wp2_with (gi_at_builtin; refine wpListIn_append_own _ rfl _ _ 27 rfl w.heap.size 24 i0 (.agg (refC nilB)) 3 48 Tryz.underlying27 hi hz0 hz1 hz2 rfl (by decide) _ _ _ rfl (owns_keep k2 ((Below.refl _ _).alloc (Nat.le_refl _) _)) ⟨W3.heap.size, 0, none⟩ 1 1 (refC b).toList rfl rfl ?a1 ?a2 ?a3 ?a4 ?a5 ?_)
    case a1 =>
      intro j u hu
      first
        | (rw [add_off, Nat.zero_add, World.cell?_alloc_new]; simpa [refC] using hu)
        | (simpa [refC] using hu)
    case a2 => first | exact refC_one b | (intro u hu; exact refC_one b u (by simpa using hu))
    case a3 => unfold maxLen; omega
    case a4 => omega
    case a5 => first | (simp; omega) | omega
    intro v' w1 hown' hgrow _
    obtain ⟨g', cap', rfl⟩ := ownsRow_succ hown'
    obtain ⟨hv1, hv2, hr2, hk2, hb2⟩ := k1.appended (by decide) k2 hw3 (by first | exact Nat.le_succ _ | omega) hown' hgrow
    have hc1 := hv1.cell
    have hf1 := hv1.frozen
    have q3 := ((k3.alloc (.cells #[.string b.lab, .string b.dst, .string b.tit] 24)).kept hgrow (k3.not_row (by decide) k2)).other (B' := w.heap.size + 1) (by omega) (.slice (some ⟨g', 0, none⟩) (don.length + 1) cap')
    have q5 := ((k5.alloc (.cells #[.string b.lab, .string b.dst, .string b.tit] 24)).kept hgrow (k5.not_row (by decide) k2)).other (B' := w.heap.size + 1) (by omega) (.slice (some ⟨g', 0, none⟩) (don.length + 1) cap')
    have hc3 := q3.cell
    have hf3 := q3.frozen
    gi_wp2
    have hr3 := hr2.kept (grownBy_setCell' _ w.heap.size (.string B)) (.inr (fun e => q3.not_row (by decide) hr2 e.symm))
    refine ⟨(hk2.from _).trans ((KeepsOthers.setCell _ _ _).from _), ⟨⟨_, hv2.other (by omega) (.string B), ?_⟩, ⟨B, q3.set (.string B), fun _ => rfl⟩, q5.other (by omega) (.string B), (k6.trans hb2).setCell (by exact Nat.le_refl _) _⟩⟩
    unfold Own
    rw [rowC_snoc]
    simpa using hr3
  case done =>
    rintro ⟨don, B, pend⟩ W ⟨rfl, rfl, hp⟩ hI hK
    obtain rfl : pend = none := hp
    obtain ⟨⟨vo, k1, k2⟩, ⟨R, k3, hRB⟩, k5, k6⟩ := hI
    obtain rfl := hRB rfl
    obtain ⟨ao, co, rfl⟩ := k2.form
    have c0 := k1.cell
    have c1 := k3.cell
    dsimp only at c0 c1
    have hmix : Tryz.prog.follows .mixedOrders = true := by kernel_rfl
    have hc0 := Lib.hid (fun w2 (h : Below W.heap.size W.drew w2) => (Boxed.below (W := W.drew) k1 h).cell)
    gi_wp2
    refine wpIn_mono' (Q := NoPanic _) ?_ NoPanic.imp
    gi_region_with_o (
      refine ⟨trivial, fun h => (by cases h), (callsIn_wide.2 (HC.out _)).mono ?_⟩
      rintro e w2 ⟨rfl, hb2⟩
      have c02 := hc0.out w2 hb2)
    all_goals (refine NoPanic.normal ?_)
    all_goals gi_wp2
    all_goals
      have hD0 : W.heap[w.heap.size + 1 + 1 + 1]? = some (.deferred (some [])) := by simpa using hK
      have hK2 : w2.heap[w.heap.size + 1 + 1 + 1]? = some (.deferred (some [])) := (hb2.block _ (Array.getElem?_eq_some_iff.1 hD0).1).trans hD0
      refine ⟨by simp, .inl ⟨_, _, rfl, run_takeDeferred (w := w2) hK2, ?_⟩⟩
      refine ⟨_, results_tmp2 rfl _ _ _, _, rfl, Refs.of_owns (base := w.heap.size) (ownsRow_putObj (W := w2) (owns_keep (w := W.drew) k2 hb2) _ hK2 rfl), ?_⟩
      have k7 : Below w.heap.size w w2 := below_later (w := w) k6.drew hb2
      exact (k7.trans (belowK_b (w := w) (Nat.le_refl _) w2 (w.heap.size + 1 + 1 + 1) _ (.deferred none) (by omega) hK2 rfl rfl))
end Rf
end Go.Proofs.YtfabiidohdkkcaaGreatDoor

/- Layer 10: the program's Take, All, Find keep the laws' contracts. -/
namespace Go.Proofs.YtfabiidohdkkcaaGreatDoor
open Go Go.RowKit
namespace Rf
set_option maxRecDepth 100000

theorem prog_of {w : World} (hL : LaidR w) : Prog10 w :=
  ⟨fun W hW s b n hz h => ztake_any s W hz (hL.below hW) b n h,
   fun W hW s L S' hz h => zall_any 0 s W hz L S' h (fun W2 hW2 s2 b2 n2 hz2 h2 => ztake_any s2 W2 hz2 (hL.below (below_later hW hW2)) b2 n2 h2),
   fun W hW l v x y b ok hx hy hl hz hr hF => zfind_any l v x y W (hL.below hW) hx hy hl hz hr b ok hF⟩
end Rf
end Go.Proofs.YtfabiidohdkkcaaGreatDoor
