import Derived.Test.YtkiipaaaakhhfaaGreatDoorCBk8
import Derived.Test.YtkiipaaaakhhfaaGreatDoorCCol1
import Derived.OwnWalk
import Derived.Deep.WholeRow
section
namespace Go.Proofs.YtkiipaaaakhhfaaGreatDoor
open Go Go.RowKit
namespace Bk
set_option maxRecDepth 100000
set_option linter.unusedVariables false
set_option linter.unusedSimpArgs false
set_option maxHeartbeats 8000000 in
theorem idx_err_any (s : ByteArray) (w : World) : Calls Tryz.prog 45 #[.string s, .int .i32 65533] w fun e w' => (∃ n : Int, e = .returned (.int .i64 n)) ∧ Below w.heap.size w w' := by
 go_enter Tryz.func45, Tryz.ntmps45
 go_wp2_with fail
 go_loopg [5, 6] s.size (fun g _ _ wx => ∃ i : Nat, s.size - i = g ∧ i ≤ s.size ∧ wx = w.iter s i)
 case atStart => exact ⟨0, by omega, Nat.zero_le _, rfl⟩
 case round =>
  obtain ⟨i, hig, hin, rfl⟩ := hrel
  cases gk with
  | zero =>
   obtain rfl : i = s.size := by omega
   have hnx := fun t => run_next_end (P := Tryz.prog) w s s.size t (Nat.lt_irrefl _)
   go_wp2
   go_ret
   exact ⟨⟨_, rfl⟩, iter_below _ _ _⟩
  | succ g =>
   have hi : i < s.size := by omega
   have hk : (w.iter s i).heap[w.heap.size]? = some (.stringIter s i) := World.iter_heap w s i
   have hnx := fun ty => Lib.run_next_any_at (P := Tryz.prog) (w.iter s i) w.heap.size s i ty hk hi
   have hset : ∀ p, (w.iter s i).iterAt w.heap.size s p = w.iter s p := fun p => World.iter_set w s i p
   have hst : 1 ≤ (Utf8.decode s i).2 ∧ i + (Utf8.decode s i).2 ≤ s.size := by
    rcases dec_facts s i hi with ⟨_, hd⟩ | ⟨_, _, d3, d4, _⟩
    ·rw [hd]; exact ⟨Nat.le_refl _, by show i + 1 ≤ s.size; omega⟩
    ·exact ⟨d3, d4⟩
   obtain ⟨r, hr⟩ : ∃ r, (Utf8.decode s i).1 = r := ⟨_, rfl⟩
   obtain ⟨k, hkk⟩ : ∃ k, (Utf8.decode s i).2 = k := ⟨_, rfl⟩
   rw [hr, hkk, hset] at hnx
   rw [hkk] at hst
   clear hk hset hr hkk
   by_cases he : (r : Int) = 65533
   ·have e1 : ((r : Int) == 65533) = true := beq_iff_eq.2 he
    clear he
    go_wp2
    go_ret
    exact ⟨⟨_, rfl⟩, iter_below _ _ _⟩
   ·have e1 : ((r : Int) == 65533) = false := beq_eq_false_iff_ne.2 he
    go_wp2
    go_roundg (s.size - (i + k))
    case measure => omega
    case rel => exact ⟨i + k, rfl, hst.2, rfl⟩
set_option maxHeartbeats 8000000 in
theorem idx_bad (s : ByteArray) (w : World) (r : Int) (h : 128 ≤ r) (h2 : r ≠ 65533) (hv : Lib.validRune r = false) : Calls Tryz.prog 45 #[.string s, .int .i32 r] w fun e w' => e = .returned (.int .i64 (-1)) ∧ Below w.heap.size w w' := by
 have HV := Lib.hid (fun W : World => Tryz.utf8_ValidRune r W)
 rw [hv] at HV
 have t1 : ¬ r < 128 := by omega
 have t2 : (r == 65533) = false := beq_eq_false_iff_ne.2 h2
 have t3 : (0 : Int) ≤ r := by omega
 clear hv
 go_enter Tryz.func45, Tryz.ntmps45
 go_wp2_with fail
 refine (HV.out _).mono ?_
 rintro e wa ⟨rfl, rfl⟩
 go_wp2
 go_ret
 exact ⟨rfl, Below.refl _ _⟩
structure Cut3 (S : ByteArray) (c : UInt8) : Prop where
 size : S.size = 3
 s1 : ∃ h : 1 < S.size, S[1]'h = 9
 s2 : ∃ h : 2 < S.size, S[2]'h = c
theorem idx3_any {S : ByteArray} {c : UInt8} (hS : Cut3 S c) (w : World) (r : Nat) : Calls Tryz.prog 45 #[.string S, .int .i32 (r : Nat)] w fun e w' => (∃ n : Int, e = .returned (.int .i64 n)) ∧ Below w.heap.size w w' := by
 by_cases h1 : r < 128
 ·refine (Tryz.strings_IndexRune_ascii S (r : Int) w (by omega) (by omega)).mono ?_
  rintro e w' ⟨rfl, rfl⟩
  exact ⟨⟨_, rfl⟩, Below.refl _ _⟩
 by_cases h2 : (r : Int) = 65533
 ·rw [h2]; exact idx_err_any S w
 have h3 : (128 : Int) ≤ (r : Int) := by omega
 have hw : ∀ {p : Ending → World → Prop}, (∀ e w', p e w' → e = .returned (.int .i64 (-1)) ∧ Below w.heap.size w w') → ∀ e w', p e w' → (∃ n : Int, e = .returned (.int .i64 n)) ∧ Below w.heap.size w w' := fun h e w' k => ⟨⟨-1, (h e w' k).1⟩, (h e w' k).2⟩
 cases hv : Lib.validRune (r : Int) with
 | false => exact (idx_bad S w r h3 h2 hv).mono (hw fun _ _ k => k)
 | true =>
  obtain ⟨e1, e2, e3⟩ := enc_hi (r : Int) h3
  rcases (by omega : (Utf8.encode (r : Int)).size = 2 ∨ (Utf8.encode (r : Int)).size = 3 ∨ (Utf8.encode (r : Int)).size = 4) with hL | hL | hL
  ·exact (idx3_2 w hS.size hS.s1 hS.s2 h3 h2 hv rfl hL e3).mono (hw fun _ _ k => k)
  ·exact (idx3_3 w hS.size hS.s1 hS.s2 h3 h2 hv rfl hL e3).mono (hw fun _ _ k => k)
  ·exact (idx3_4 w hS.size h3 h2 hv rfl hL).mono (hw fun _ _ k => k)
set_option maxHeartbeats 8000000 in
theorem con3_any {S : ByteArray} {c : UInt8} (hS : Cut3 S c) (w : World) (r : Nat) : Calls Tryz.prog 122 #[.string S, .int .i32 (r : Nat)] w fun e w' => (∃ q : Bool, e = .returned (.bool q)) ∧ Below w.heap.size w w' := by
 have HI := Lib.hid (idx3_any hS w r)
 clear hS
 go_enter Tryz.func122, Tryz.ntmps122
 go_wp2_with fail
 refine HI.out.mono ?_
 rintro e w2 ⟨⟨n, rfl⟩, hb2⟩
 go_wp2
 go_ret
 exact ⟨⟨_, rfl⟩, hb2⟩
set_option maxHeartbeats 8000000 in
theorem tru_any {S : ByteArray} {c : UInt8} (hS : Cut3 S c) (s : ByteArray) (w : World) (hs : s.size ≤ 4000) (hT : Lib.Utf8Tabs 1 2 w) : Calls Tryz.prog 91 #[.string s, .string S] w fun e w' => (∃ r, e = .returned (.string r) ∧ r.size ≤ s.size) ∧ Below w.heap.size w w' := by
 have HC := Lib.hid (fun (r : Nat) (W : World) => con3_any hS W r)
 have HD := Lib.hid (fun (t : ByteArray) (W : World) (ht : t.size ≤ 4000) (hW : Below w.heap.size w W) => Tryz.utf8_DecodeLastRuneInString t W (by omega) (Utf8Tabs_below hT hW))
 clear hS hT
 go_enter Tryz.func91, Tryz.ntmps91
 go_wp2
 go_loopg [0, 5, 6] s.size (fun g s0 _ _ wr => ∃ t : ByteArray, s0 = .string t ∧ t.size = g ∧ t.size ≤ s.size ∧ Hid (Below w.heap.size w wr))
 case atStart => exact ⟨s, rfl, rfl, Nat.le_refl _, Lib.hid (Below.refl _ _)⟩
 case round =>
  obtain ⟨t, rfl, htg, htl, HB⟩ := hrel
  cases gk with
  | zero =>
   have h0 : ¬ (0 : Int) < (t.size : Int) := by omega
   have htl2 := htl
   clear htg
   go_wp2
   go_ret
   exact ⟨⟨_, rfl, htl2⟩, HB.out⟩
  | succ G =>
   have h0 : (0 : Int) < (t.size : Int) := by omega
   obtain ⟨k, hk⟩ : ∃ k, k + 1 = t.size := ⟨t.size - 1, by omega⟩
   have s1 : IntKind.i64.wrap ((t.size : Int) - 1) = (k : Int) := by rw [IntWalk.i64_in _ (by omega)]; omega
   have s2 : (0 : Int) ≤ (k : Int) := by omega
   have s3 : (k : Int) < (t.size : Int) := by omega
   have s4 : (k : Int) ≤ (t.size : Int) := by omega
   have hkt : k < t.size := by omega
   obtain ⟨b, hb⟩ : ∃ b, t[k] = b := ⟨_, rfl⟩
   have HTL := Lib.hid htl
   have HTG := Lib.hid htg
   have HK := Lib.hid hk
   have hx : ∀ n, n ≤ t.size → (t.extract 0 n).size = n := fun n hn => by
    have h1 : (t.extract 0 n).size = (t.data.extract 0 n).size := by rw [← ByteArray.data_extract]; rfl
    rw [h1, Array.size_extract]
    have : t.data.size = t.size := rfl
    omega
   have HX := Lib.hid hx
   by_cases hb8 : b.toNat < 128
   ·have u1 : ¬ (128 : Int) ≤ (b.toNat : Int) := by omega
    have HCb := Lib.hid (fun W => HC.out b.toNat W)
    clear hk htg htl hx hb8
    go_wp2_with fail
    refine (HCb.out _).mono ?_
    rintro e w2 ⟨⟨q, rfl⟩, hb2⟩
    have HB2 : Hid (Below w.heap.size w w2) := Lib.hid (HB.out.trans (hb2.mono HB.out.size))
    clear hb2
    cases q with
    | false =>
     go_wp2
     go_ret
     exact ⟨⟨_, rfl, HTL.out⟩, HB2.out⟩
    | true =>
     go_wp2
     go_roundg k
     case measure => have := HK.out; have := HTG.out; omega
     case rel => exact ⟨_, rfl, HX.out k (by have := HK.out; omega), by rw [HX.out k (by have := HK.out; omega)]; have := HK.out; have := HTL.out; omega, HB2⟩
   ·have u1 : (128 : Int) ≤ (b.toNat : Int) := by omega
    have u2 : (b.toNat : Int) < 256 := by have := UInt8.toNat_lt b; omega
    have HDt := Lib.hid (HD.out t wr (by omega) HB.out)
    have hw := Lib.decodeLastL_width t.data.toList (by rw [Array.length_toList]; show 0 < t.size; omega)
    rw [Array.length_toList] at hw
    obtain ⟨R, hR⟩ : ∃ R, (Lib.decodeLastL t.data.toList).1 = R := ⟨_, rfl⟩
    obtain ⟨n, hn⟩ : ∃ n, (Lib.decodeLastL t.data.toList).2 = n := ⟨_, rfl⟩
    rw [hn] at hw
    have hw2 : n ≤ t.size := hw.2
    rw [hR, hn] at HDt
    obtain ⟨m, hm⟩ : ∃ m, m + n = t.size := ⟨t.size - n, by omega⟩
    have s5 : IntKind.i64.wrap ((t.size : Int) - (n : Int)) = (m : Int) := by rw [IntWalk.i64_in _ (by omega)]; omega
    have s6 : (0 : Int) ≤ (m : Int) := by omega
    have s7 : (m : Int) ≤ (t.size : Int) := by omega
    have HM := Lib.hid (show m < t.size by omega)
    have HCb := Lib.hid (fun W => HC.out R W)
    clear hk htg htl hx hb8 hw hw2 hm hR hn
    go_wp2_with fail
    refine HDt.out.mono ?_
    rintro e w2 ⟨rfl, hb2⟩
    have HB2 : Hid (Below w.heap.size w w2) := Lib.hid (HB.out.trans (hb2.mono HB.out.size))
    clear hb2
    go_wp2_with fail
    refine (HCb.out _).mono ?_
    rintro e w3 ⟨⟨q, rfl⟩, hb3⟩
    have HB3 : Hid (Below w.heap.size w w3) := Lib.hid (HB2.out.trans (hb3.mono HB2.out.size))
    clear hb3
    cases q with
    | false =>
     go_wp2
     go_ret
     exact ⟨⟨_, rfl, HTL.out⟩, HB3.out⟩
    | true =>
     go_wp2
     go_roundg m
     case measure => have := HM.out; have := HTG.out; omega
     case rel => exact ⟨_, rfl, HX.out m (Nat.le_of_lt HM.out), by rw [HX.out m (Nat.le_of_lt HM.out)]; have := HM.out; have := HTL.out; omega, HB3⟩
end Bk
end Go.Proofs.YtkiipaaaakhhfaaGreatDoor
end
section
namespace Go.Proofs.YtkiipaaaakhhfaaGreatDoor
open Go Go.RowKit
namespace Bk
set_option maxRecDepth 100000
set_option linter.unusedVariables false
set_option linter.unusedSimpArgs false
theorem any_any (s : ByteArray) (w : World) (hs : s.size ≤ 4000) : Calls Tryz.prog 29 #[.string s, .string ⟨#[32, 9, 10, 91, 93]⟩] w fun e w' => e = .returned (.int .i64 (idxN s.data.toList)) ∧ Below w.heap.size w w' := by
 by_cases h8 : 8 < s.size
 ·have h := Tryz.strings_IndexAny_long (zero_of_info (P := Tryz.prog) (t := 88) (v := .agg (Array.replicate 256 (.bool false))) (n := 256) (by kernel_rfl)).1 s ⟨#[32, 9, 10, 91, 93]⟩ w (by decide) h8 (by omega) (by decide) (fun j b hb => by
   rcases j with _ | _ | _ | _ | _ | j
   all_goals first
    | (cases hb; decide)
    | (simp at hb))
  refine h.mono ?_
  rintro e w' ⟨rfl, rfl⟩
  refine ⟨?_, ((Below.refl _ w).alloc (Nat.le_refl _) _).alloc (by simp) _⟩
  rw [← idx_any]
 ·exact any_short s w (by omega)
theorem label_no {s : Str} (h : ∀ t, s ≠ 91 :: 94 :: t) : labelP s = ([], 0) := by
 unfold labelP
 split
 ·exact absurd rfl (h _)
 ·rfl
theorem label_at (t : Str) : labelP (91 :: 94 :: t) = match t.drop (t.takeWhile nlab).length with
  | 93 :: 58 :: _ => if t.takeWhile nlab = [] then ([], 0) else (t.takeWhile nlab, (t.takeWhile nlab).length + 4)
  | _ => ([], 0) := by
 rw [labelP.eq_def]
 rfl
theorem label_low {t : Str} (h : idxN t < 1) : labelP (91 :: 94 :: t) = ([], 0) := by
 rw [label_at]
 unfold idxN at h
 by_cases hl : (t.takeWhile nlab).length < t.length
 ·rw [if_pos hl] at h
  have h0 : t.takeWhile nlab = [] := List.length_eq_zero_iff.1 (by omega)
  rw [h0]
  split <;> rfl
 ·rw [List.drop_of_length_le (by omega)]
theorem label_high {t : Str} {n : Nat} (h : idxN t = (n : Nat)) (h1 : 1 ≤ n) : n < t.length ∧ labelP (91 :: 94 :: t) = if Lib.hasPrefix (t.drop n) [93, 58] = true then (t.take n, n + 4) else ([], 0) := by
 rw [label_at]
 unfold idxN at h
 by_cases hl : (t.takeWhile nlab).length < t.length
 ·rw [if_pos hl] at h
  have hn : (t.takeWhile nlab).length = n := by omega
  have ht : t.take n = t.takeWhile nlab := by
   have := List.takeWhile_append_dropWhile (p := nlab) (l := t)
   conv => lhs; rw [← this]
   rw [← hn, List.take_left]
  have hne : t.takeWhile nlab ≠ [] := fun e => by rw [e] at hn; simp at hn; omega
  refine ⟨by omega, ?_⟩
  rw [hn, ht]
  generalize t.takeWhile nlab = tw at *
  cases t.drop n with
  | nil => rfl
  | cons a l =>
   cases l with
   | nil =>
    have : Lib.hasPrefix [a] [93, 58] = false := by unfold Lib.hasPrefix; simp [List.isPrefixOf]
    rw [this]
    split
    ·rename_i h; cases h
    ·rfl
   | cons b l =>
    by_cases hab : a = 93 ∧ b = 58
    ·obtain ⟨rfl, rfl⟩ := hab
     rw [if_neg hne]
     rfl
    ·have : Lib.hasPrefix (a :: b :: l) [93, 58] = false := by
      unfold Lib.hasPrefix
      simp only [List.isPrefixOf, Bool.and_true]
      rw [Bool.and_eq_false_iff]
      by_cases ha : a = 93
      ·right; rw [beq_eq_false_iff_ne]; intro e; exact hab ⟨ha, e.symm⟩
      ·left; rw [beq_eq_false_iff_ne]; intro e; exact ha e.symm
     rw [this]
     split
     ·rename_i h; injection h with h1 h2; injection h2 with h2 _; exact absurd ⟨h1, h2⟩ hab
     ·rfl
 ·rw [if_neg hl] at h; omega
set_option maxHeartbeats 8000000 in
theorem label_any (s : Str) (w : World) (hs : s.length ≤ 4000) : Calls Tryz.prog 14 #[str s] w fun e w' => e = .returned (.tuple #[str (labelP s).1, .int .i64 ((labelP s).2 : Nat)]) ∧ Below w.heap.size w w' := by
 have HC := Lib.hid (fun W : World => Tryz.strings_CutPrefix ⟨s.toArray⟩ ⟨#[91, 94]⟩ W)
 by_cases hp : ∃ t, s = 91 :: 94 :: t
 ·obtain ⟨t, rfl⟩ := hp
  have e1 : Lib.hasPrefix (91 :: 94 :: t) [91, 94] = true := rfl
  have e2 : Lib.trimPrefix (91 :: 94 :: t) [91, 94] = t := rfl
  change Hid (∀ W : World, Calls _ _ _ W fun e w' => e = .returned (.tuple #[.string ⟨(Lib.trimPrefix (91 :: 94 :: t) [91, 94]).toArray⟩, .bool (Lib.hasPrefix (91 :: 94 :: t) [91, 94])]) ∧ w' = W) at HC
  rw [e1, e2] at HC
  clear e1 e2
  have htl : t.length ≤ 3998 := by simp at hs; omega
  obtain ⟨S, hS⟩ : ∃ S : ByteArray, ⟨(91 :: 94 :: t).toArray⟩ = S := ⟨_, rfl⟩
  obtain ⟨T, hT⟩ : ∃ T : ByteArray, ⟨t.toArray⟩ = T := ⟨_, rfl⟩
  rw [hS, hT] at HC
  have hTd : T.data.toList = t := by rw [← hT]
  have hTs : T.size = t.length := by rw [← hT]; rfl
  have HI := Lib.hid (fun W : World => any_any T W (by omega))
  rw [hTd] at HI
  show Calls _ _ #[.string ⟨(91 :: 94 :: t).toArray⟩] w _
  rw [hS]
  obtain ⟨z, hz⟩ : ∃ z, idxN t = z := ⟨_, rfl⟩
  rw [hz] at HI
  by_cases hz1 : z < 1
  ·rw [label_low (by rw [hz]; exact hz1)]
   clear hz hTd hTs hS hT htl hs
   show Calls _ _ _ _ fun e w' => e = .returned (.tuple #[.string ⟨#[]⟩, .int .i64 0]) ∧ Below w.heap.size w w'
   go_enter Tryz.func14, Tryz.ntmps14
   go_wp2_with fail
   refine (HC.out _).mono ?_
   rintro e w1 ⟨rfl, rfl⟩
   go_wp2_with fail
   refine (HI.out _).mono ?_
   rintro e w2 ⟨rfl, hb2⟩
   go_wp2
   go_ret2
   exact ⟨rfl, hb2⟩
  ·obtain ⟨n, rfl⟩ : ∃ n : Nat, z = (n : Int) := ⟨z.toNat, by omega⟩
   obtain ⟨hn, hl⟩ := label_high hz (by omega)
   rw [hl]
   have HPf := Lib.hid (fun W : World => Tryz.strings_HasPrefix (T.extract n T.size) ⟨#[93, 58]⟩ W)
   have hx : (T.extract n T.size).data.toList = t.drop n := by
    rw [ByteArray.data_extract, Array.toList_extract, ← hT]
    show (t.drop n).take (t.length - n) = _
    rw [List.take_of_length_le (by rw [List.length_drop]; exact Nat.le_refl _)]
   rw [hx] at HPf
   have hx2 : T.extract 0 n = ⟨(t.take n).toArray⟩ := by
    refine bytes_ext ?_
    rw [ByteArray.data_extract, Array.toList_extract, ← hT]
    show (t.drop 0).take (n - 0) = _
    rw [List.drop_zero, Nat.sub_zero]
   have HCl := Lib.hid (fun W : World => Cl.clone_any ⟨(t.take n).toArray⟩ W (by show (t.take n).length ≤ _; rw [List.length_take]; omega))
   change Hid (∀ W : World, Calls _ _ _ W fun e w' => e = .returned (.bool (Lib.hasPrefix (t.drop n) [93, 58])) ∧ w' = W) at HPf
   obtain ⟨q, hq⟩ : ∃ q, Lib.hasPrefix (t.drop n) [93, 58] = q := ⟨_, rfl⟩
   rw [hq] at HPf ⊢
   have b1 : (n : Int) ≤ (T.size : Int) := by omega
   have b2 : (0 : Int) ≤ (n : Int) := by omega
   have b3 : IntKind.i64.wrap (2 + (n : Int)) = 2 + (n : Int) := by rw [IntWalk.i64_in _ (by omega)]
   have b4 : IntKind.i64.wrap (2 + (n : Int) + 2) = ((n + 4 : Nat) : Int) := by rw [IntWalk.i64_in _ (by omega)]; omega
   obtain ⟨TK, hTK⟩ : ∃ x, t.take n = x := ⟨_, rfl⟩
   rw [hTK] at hx2 HCl ⊢
   obtain ⟨n4, hn4⟩ : ∃ x, n + 4 = x := ⟨_, rfl⟩
   rw [hn4] at b4 ⊢
   clear hz hTd hTs hS hT htl hs hx hn hl hTK hn4 hq
   cases q with
   | true =>
    rw [if_pos rfl]
    show Calls _ _ _ _ fun e w' => e = .returned (.tuple #[.string ⟨TK.toArray⟩, .int .i64 (n4 : Nat)]) ∧ Below w.heap.size w w'
    go_enter Tryz.func14, Tryz.ntmps14
    go_wp2_with fail
    refine (HC.out _).mono ?_
    rintro e w1 ⟨rfl, rfl⟩
    go_wp2_with fail
    refine (HI.out _).mono ?_
    rintro e w2 ⟨rfl, hb2⟩
    have HB2 := Lib.hid hb2
    clear hb2
    go_wp2_with fail
    refine (HPf.out _).mono ?_
    rintro e w3 ⟨rfl, rfl⟩
    go_wp2_with fail
    refine (HCl.out _).mono ?_
    rintro e w4 ⟨rfl, hb4⟩
    have HB4 := Lib.hid (below_later HB2.out hb4)
    clear hb4
    go_wp2
    go_ret2
    exact ⟨rfl, HB4.out⟩
   | false =>
    rw [if_neg Bool.false_ne_true]
    show Calls _ _ _ _ fun e w' => e = .returned (.tuple #[.string ⟨#[]⟩, .int .i64 0]) ∧ Below w.heap.size w w'
    go_enter Tryz.func14, Tryz.ntmps14
    go_wp2_with fail
    refine (HC.out _).mono ?_
    rintro e w1 ⟨rfl, rfl⟩
    go_wp2_with fail
    refine (HI.out _).mono ?_
    rintro e w2 ⟨rfl, hb2⟩
    have HB2 := Lib.hid hb2
    clear hb2
    go_wp2_with fail
    refine (HPf.out _).mono ?_
    rintro e w3 ⟨rfl, rfl⟩
    go_wp2
    go_ret2
    exact ⟨rfl, HB2.out⟩
 ·rw [label_no (fun t e => hp ⟨t, e⟩)]
  have e1 : Lib.hasPrefix s [91, 94] = false := by
   unfold Lib.hasPrefix
   cases s with
   | nil => rfl
   | cons a l =>
    cases l with
    | nil => simp [List.isPrefixOf]
    | cons b l =>
     simp only [List.isPrefixOf, Bool.and_true]
     rw [Bool.and_eq_false_iff]
     by_cases ha : a = 91
     ·right; rw [beq_eq_false_iff_ne]; intro e; exact hp ⟨l, by rw [ha, ← e]⟩
     ·left; rw [beq_eq_false_iff_ne]; intro e; exact ha e.symm
  change Hid (∀ W : World, Calls _ _ _ W fun e w' => e = .returned (.tuple #[.string ⟨(Lib.trimPrefix s [91, 94]).toArray⟩, .bool (Lib.hasPrefix s [91, 94])]) ∧ w' = W) at HC
  rw [e1] at HC
  obtain ⟨S, hS⟩ : ∃ S : ByteArray, ⟨s.toArray⟩ = S := ⟨_, rfl⟩
  obtain ⟨T, hT⟩ : ∃ T : ByteArray, ⟨(Lib.trimPrefix s [91, 94]).toArray⟩ = T := ⟨_, rfl⟩
  rw [hS, hT] at HC
  show Calls _ _ #[.string ⟨s.toArray⟩] w fun e w' => e = .returned (.tuple #[.string ⟨#[]⟩, .int .i64 0]) ∧ Below w.heap.size w w'
  rw [hS]
  clear hS hT e1 hp hs
  go_enter Tryz.func14, Tryz.ntmps14
  go_wp2_with fail
  refine (HC.out _).mono ?_
  rintro e w1 ⟨rfl, rfl⟩
  go_wp2
  go_ret2
  exact ⟨rfl, Below.refl _ _⟩
end Bk
end Go.Proofs.YtkiipaaaakhhfaaGreatDoor
end
section
namespace Go.Proofs.YtkiipaaaakhhfaaGreatDoor
open Go Go.RowKit
namespace Bk
set_option maxRecDepth 100000
set_option linter.unusedVariables false
set_option linter.unusedSimpArgs false
theorem rule_chars {u : Str} (h : Sc.ruleP u = true) : ∃ d t, u = d :: t ∧ (d = 42 ∨ d = 45 ∨ d = 95) ∧ ∀ x ∈ u, x = d ∨ x = 32 ∨ x = 9 := by
 cases u with
 | nil => cases h
 | cons d t =>
  unfold Sc.ruleP at h
  rw [Bool.and_eq_true, Bool.and_eq_true] at h
  obtain ⟨⟨h1, h2⟩, _⟩ := h
  refine ⟨d, t, rfl, ?_, fun x hx => ?_⟩
  ·simpa using h1
  ·have := List.all_eq_true.1 h2 x hx
   rw [Bool.or_eq_true] at this
   rcases this with h | h
   ·exact .inl (beq_iff_eq.1 h)
   ·right
    simpa [Sc.blk] using h
theorem suffix_last {u p r : Str} (h : u <:+ p ++ r) (hl : r.length < u.length) : p ≠ [] ∧ ∀ e, p.getLast? = some e → e ∈ u := by
 obtain ⟨v, hv⟩ := h
 rcases List.append_eq_append_iff.1 hv with ⟨a, h1, h2⟩ | ⟨a, h1, h2⟩
 ·subst h1 h2
  have ha : a ≠ [] := fun e => by subst e; simp at hl
  refine ⟨fun e => ha (List.append_eq_nil_iff.1 e).2, fun e he => ?_⟩
  rw [List.getLast?_append] at he
  cases h : a.getLast? with
  | none => rw [List.getLast?_eq_none_iff] at h; exact absurd h ha
  | some x =>
   rw [h] at he
   have he : some x = some e := he
   injection he with he
   subst he
   exact List.mem_append.2 (.inl (List.mem_of_getLast? h))
 ·exfalso
  subst h2
  rw [List.length_append] at hl
  omega
theorem trim_split (l cs : Str) : ∃ r, l = Lib.trimRightS l cs ++ r ∧ (∀ x ∈ r, cs.contains x = true) ∧ ∀ e, (Lib.trimRightS l cs).getLast? = some e → cs.contains e = false := by
 refine ⟨(l.reverse.takeWhile (cs.contains ·)).reverse, ?_, fun x hx => ?_, fun e he => ?_⟩
 ·unfold Lib.trimRightS
  rw [← List.reverse_append, List.takeWhile_append_dropWhile, List.reverse_reverse]
 ·rw [List.mem_reverse] at hx
  exact List.all_eq_true.1 (List.all_takeWhile (p := fun x => cs.contains x) (l := l.reverse)) x hx
 ·unfold Lib.trimRightS at he
  rw [List.getLast?_reverse] at he
  cases h : l.reverse.dropWhile (cs.contains ·) with
  | nil => rw [h] at he; cases he
  | cons a t =>
   rw [h] at he
   injection he with he
   subst he
   have := List.head?_dropWhile_not (fun x => cs.contains x) l.reverse
   rw [h] at this
   simpa using this
theorem rule_last {s u : Str} (hu : u <:+ s) (hr : Sc.ruleP u = true) : ∃ c, (Lib.trimRightS s [32, 9]).getLast? = some c ∧ c ∈ u ∧ c ≠ 32 ∧ c ≠ 9 := by
 obtain ⟨r, h1, h2, h3⟩ := trim_split s [32, 9]
 obtain ⟨d, t, rfl, hd, hall⟩ := rule_chars hr
 generalize Lib.trimRightS s [32, 9] = p at *
 subst h1
 have hl : r.length < (d :: t).length := by
  rcases Nat.lt_or_ge r.length (d :: t).length with h | h
  ·exact h
  ·exfalso
   have hs : (d :: t) <:+ r := List.suffix_of_suffix_length_le hu (List.suffix_append p r) h
   have := h2 d (hs.subset (List.mem_cons_self ..))
   rcases hd with rfl | rfl | rfl <;> exact absurd this (by decide)
 obtain ⟨k1, k2⟩ := suffix_last hu hl
 obtain ⟨c, hc⟩ : ∃ c, p.getLast? = some c := by
  cases h : p.getLast? with
  | none => rw [List.getLast?_eq_none_iff] at h; exact absurd h k1
  | some c => exact ⟨c, rfl⟩
 have h5 := h3 c hc
 refine ⟨c, hc, k2 c hc, fun e => ?_, fun e => ?_⟩
 ·subst e; exact absurd h5 (by decide)
 ·subst e; exact absurd h5 (by decide)
theorem rule_low {s u : Str} {c : UInt8} (hc : (Lib.trimRightS s [32, 9]).getLast? = some c) (hu : u <:+ s) (hr : Sc.ruleP u = true) : u.length ≤ s.length - (Lib.trimRightS (Lib.trimRightS s [32, 9]) [32, 9, c]).length := by
 obtain ⟨c', hc', hm, hn1, hn2⟩ := rule_last hu hr
 rw [hc] at hc'
 injection hc' with hc'
 subst hc'
 obtain ⟨r, h1, h2, h3⟩ := trim_split s [32, 9]
 obtain ⟨r2, h4, h5, h6⟩ := trim_split (Lib.trimRightS s [32, 9]) [32, 9, c]
 obtain ⟨d, t, rfl, hd, hall⟩ := rule_chars hr
 generalize Lib.trimRightS (Lib.trimRightS s [32, 9]) [32, 9, c] = p' at *
 rw [h4] at h1
 rw [List.append_assoc] at h1
 have hlen := congrArg List.length h1
 rw [List.length_append] at hlen
 rcases Nat.lt_or_ge (r2 ++ r).length (d :: t).length with h | h
 ·exfalso
  rw [h1] at hu
  obtain ⟨k1, k2⟩ := suffix_last hu h
  obtain ⟨e, he⟩ : ∃ e, p'.getLast? = some e := by
   cases h : p'.getLast? with
   | none => rw [List.getLast?_eq_none_iff] at h; exact absurd h k1
   | some c => exact ⟨c, rfl⟩
  have hcd : c = d := by
   rcases hall c hm with h | h | h
   ·exact h
   ·exact absurd h hn1
   ·exact absurd h hn2
  have h7 := h6 e he
  rcases hall e (k2 e he) with h | h | h
  ·rw [h, ← hcd] at h7; simp at h7
  ·rw [h] at h7; simp at h7
  ·rw [h] at h7; simp at h7
 ·omega
theorem rule_hi {s u : Str} {c : UInt8} (hc : (Lib.trimRightS s [32, 9]).getLast? = some c) (h8 : 128 ≤ c.toNat) (hu : u <:+ s) (hr : Sc.ruleP u = true) : False := by
 obtain ⟨c', hc', hm, hn1, hn2⟩ := rule_last hu hr
 rw [hc] at hc'
 injection hc' with hc'
 subst hc'
 obtain ⟨d, t, rfl, hd, hall⟩ := rule_chars hr
 rcases hall c hm with h | h | h
 ·subst h
  rcases hd with rfl | rfl | rfl <;> exact absurd h8 (by decide)
 ·exact hn1 h
 ·exact hn2 h
theorem asciiSetInfo : (Tryz.prog.info? 88).map (fun i => (i.zero, i.size)) = some (some (.agg (Array.replicate 256 (.bool false))), 256) := by kernel_rfl
theorem trim2_any {s : Str} (hs : s.length ≤ 1000) {c : UInt8} (hc : (Lib.trimRightS s [32, 9]).getLast? = some c) {T C : ByteArray} (hT : T.data.toList = Lib.trimRightS s [32, 9]) (hC : C.data.toList = [32, 9, c]) (w : World) (hU : Lib.Utf8Tabs 1 2 w) :
  Calls Tryz.prog 53 #[.string T, .string C] w fun e w' => (∃ r, e = .returned (.string r) ∧ (r.size ≤ T.size ∧ ∀ u, u <:+ s → Sc.ruleP u = true → u.length ≤ s.length - r.size)) ∧ Below w.heap.size w w' := by
 obtain ⟨r0, h1, _, _⟩ := trim_split s [32, 9]
 have hTs : T.size = (Lib.trimRightS s [32, 9]).length := by rw [← hT, Array.length_toList]; rfl
 have hCs : C.size = 3 := by
  have : C.data.toList.length = 3 := by rw [hC]; rfl
  rw [Array.length_toList] at this
  exact this
 have hlen := congrArg List.length h1
 rw [List.length_append] at hlen
 have hT0 : 0 < T.size := by
  rw [hTs]
  cases h : Lib.trimRightS s [32, 9] with
  | nil => rw [h] at hc; cases hc
  | cons _ _ => simp
 by_cases h8 : c.toNat < 128
 ·refine (Tryz.strings_TrimRight_ascii T C w (by omega) (by omega) (fun j b hb => ?_)).mono ?_
  ·rw [hC] at hb
   rcases j with _ | _ | _ | j
   ·cases hb; decide
   ·cases hb; decide
   ·cases hb; exact h8
   ·simp at hb
  ·rintro e w' ⟨rfl, hb⟩
   rw [hT, hC]
   obtain ⟨r2, h4, _, _⟩ := trim_split (Lib.trimRightS s [32, 9]) [32, 9, c]
   have hl2 := congrArg List.length h4
   rw [List.length_append] at hl2
   refine ⟨⟨_, rfl, ?_, fun u hu hr => rule_low hc hu hr⟩, hb⟩
   show (Lib.trimRightS (Lib.trimRightS s [32, 9]) [32, 9, c]).length ≤ _
   omega
 ·have e1 : C[1]'(by omega) = 9 := by
   have := Lib.data_getElem? C 1 (by omega)
   rw [hC] at this
   injection this with this
   exact this.symm
  have e2 : C[2]'(by omega) = c := by
   have := Lib.data_getElem? C 2 (by omega)
   rw [hC] at this
   injection this with this
   exact this.symm
  have hcut : Cut3 C c := ⟨hCs, ⟨by omega, e1⟩, ⟨by omega, e2⟩⟩
  refine trimRight_u Tryz.lays162 (zero_of_info asciiSetInfo).1 (zero_of_info asciiSetInfo).2 T C w (by omega) hT0 (by omega) (by omega) 2 (by omega) (fun j b hj hb => ?_) (by rw [e2]; omega) (fun r => r.size ≤ T.size ∧ ∀ u, u <:+ s → Sc.ruleP u = true → u.length ≤ s.length - r.size) (fun W hW => ?_)
  ·rw [hC] at hb
   rcases j with _ | _ | j
   ·cases hb; decide
   ·cases hb; decide
   ·omega
  ·refine (tru_any hcut T W (by omega) (Utf8Tabs_below hU hW)).mono ?_
   rintro e w' ⟨⟨r, rfl, hr⟩, hb⟩
   exact ⟨⟨r, rfl, hr, fun u hu hru => (rule_hi hc (by omega) hu hru).elim⟩, hb⟩
set_option maxHeartbeats 8000000 in
theorem sgn_any (s : Str) (hs : s.length ≤ 1000) (w : World) (hU : Lib.Utf8Tabs 1 2 w) :
  Calls Tryz.prog 35 #[str s] w fun e w' => ∃ n : Nat, e = .returned (.int .i64 (n : Nat)) ∧ n ≤ 1000 ∧ (∀ u, u <:+ s → Sc.ruleP u = true → u.length ≤ n) ∧ Below w.heap.size w w' := by
 have H1 := Lib.hid (Tryz.strings_TrimRight_ascii ⟨s.toArray⟩ ⟨#[32, 9]⟩ w (by show s.length ≤ _; omega) (by decide) (fun j b hb => by
  rcases j with _ | _ | j
  ·cases hb; decide
  ·cases hb; decide
  ·simp at hb))
 obtain ⟨r0, h1, _, _⟩ := trim_split s [32, 9]
 have hlen := congrArg List.length h1
 rw [List.length_append] at hlen
 change Hid (Calls _ _ _ _ fun e w' => e = .returned (.string ⟨(Lib.trimRightS s [32, 9]).toArray⟩) ∧ Below w.heap.size w w') at H1
 obtain ⟨S, hS⟩ : ∃ S : ByteArray, ⟨s.toArray⟩ = S := ⟨_, rfl⟩
 have hSs : S.size = s.length := by rw [← hS]; rfl
 show Calls _ _ #[.string ⟨s.toArray⟩] w _
 rw [hS] at H1 ⊢
 by_cases ht : Lib.trimRightS s [32, 9] = []
 ·have HV : Hid (∀ u, u <:+ s → Sc.ruleP u = true → u.length ≤ 0) := Lib.hid (fun u hu hr => by
   obtain ⟨c, hc, _⟩ := rule_last hu hr
   rw [ht] at hc; cases hc)
  rw [ht] at H1
  clear hS hSs hlen h1 ht hs hU
  go_enter Tryz.func35, Tryz.ntmps35
  go_wp2_with fail
  refine H1.out.mono ?_
  rintro e w1 ⟨rfl, hb1⟩
  go_wp2
  go_ret
  exact ⟨0, rfl, Nat.zero_le _, HV.out, hb1⟩
 ·obtain ⟨c, hc⟩ : ∃ c, (Lib.trimRightS s [32, 9]).getLast? = some c := by
   cases h : (Lib.trimRightS s [32, 9]).getLast? with
   | none => rw [List.getLast?_eq_none_iff] at h; exact absurd h ht
   | some c => exact ⟨c, rfl⟩
  obtain ⟨T, hT⟩ : ∃ T : ByteArray, ⟨(Lib.trimRightS s [32, 9]).toArray⟩ = T := ⟨_, rfl⟩
  have hTd : T.data.toList = Lib.trimRightS s [32, 9] := by rw [← hT]
  have hTs : T.size = (Lib.trimRightS s [32, 9]).length := by rw [← hT]; rfl
  have hT0 : 0 < T.size := by rw [hTs]; exact List.length_pos_iff.2 ht
  obtain ⟨k, hk⟩ : ∃ k, k + 1 = T.size := ⟨T.size - 1, by omega⟩
  obtain ⟨D, hD⟩ : ∃ D, T.extract k T.size = D := ⟨_, rfl⟩
  have hDl : D.data.toList = [c] := by
   rw [← hD, ByteArray.data_extract, Array.toList_extract, hTd]
   have hgl := hc
   rw [List.getLast?_eq_getElem?] at hgl
   have hkl : (Lib.trimRightS s [32, 9]).length - 1 = k := by omega
   rw [hkl] at hgl
   have hklt : k < (Lib.trimRightS s [32, 9]).length := by omega
   show ((Lib.trimRightS s [32, 9]).drop k).take (T.size - k) = [c]
   rw [List.drop_eq_getElem_cons hklt, List.drop_of_length_le (by omega)]
   rw [List.getElem?_eq_getElem hklt] at hgl
   injection hgl with hgl
   rw [hgl, show T.size - k = 1 by omega]; rfl
  have hDs : D.size = 1 := by
   have : D.data.toList.length = 1 := by rw [hDl]; rfl
   rw [Array.length_toList] at this
   exact this
  obtain ⟨C, hC⟩ : ∃ C, (⟨#[32, 9]⟩ : ByteArray) ++ D = C := ⟨_, rfl⟩
  have hCl : C.data.toList = [32, 9, c] := by
   rw [← hC, ByteArray.data_append, Array.toList_append, hDl]
   rfl
  have hCs : C.size = 3 := by
   have : C.data.toList.length = 3 := by rw [hCl]; rfl
   rw [Array.length_toList] at this
   exact this
  have H2 := Lib.hid (fun (W : World) (hW : Below w.heap.size w W) => trim2_any hs hc hTd hCl W (Utf8Tabs_below hU hW))
  have he1 : T.toList.isEmpty = false := by
   rw [Lib.toList_data, hTd]
   cases h : Lib.trimRightS s [32, 9] with
   | nil => exact absurd h ht
   | cons _ _ => rfl
  have hsz2 : (⟨#[32, 9]⟩ : ByteArray).size = 2 := rfl
  have s1 : IntKind.i64.wrap ((T.size : Int) - 1) = (k : Int) := by rw [IntWalk.i64_in _ (by omega)]; omega
  have s2 : (0 : Int) ≤ (k : Int) := by omega
  have s3 : (k : Int) ≤ (T.size : Int) := by omega
  rw [hT] at H1
  have HSS := Lib.hid hSs
  have HTT := Lib.hid (show T.size ≤ s.length by omega)
  have HS1 := Lib.hid hs
  clear hS hSs hlen h1 ht hs hU hc hT hTd hTs hT0 hk hDl hCl
  go_enter Tryz.func35, Tryz.ntmps35
  go_wp2_with fail
  refine H1.out.mono ?_
  rintro e w1 ⟨rfl, hb1⟩
  have H3 := Lib.hid (H2.out w1 hb1)
  have HB1 := Lib.hid hb1
  clear hb1 H2 H1
  go_wp2_with fail
  refine H3.out.mono ?_
  rintro e w2 ⟨⟨r, rfl, hr1, hr2⟩, hb2⟩
  have HR2 := Lib.hid hr2
  have HB2 := Lib.hid (below_later HB1.out hb2)
  obtain ⟨n, hn⟩ : ∃ n, n + r.size = S.size := ⟨S.size - r.size, by have := HSS.out; have := HTT.out; omega⟩
  have s4 : IntKind.i64.wrap ((S.size : Int) - (r.size : Int)) = (n : Int) := by have := HSS.out; have := HS1.out; rw [IntWalk.i64_in _ (by omega)]; omega
  have HN := Lib.hid hn
  clear hn hr1 hr2 hb2 H3
  go_wp2
  go_ret
  exact ⟨n, rfl, by have := HN.out; have := HSS.out; have := HS1.out; omega, fun u hu hr => by have := HR2.out u hu hr; have := HN.out; have := HSS.out; omega, HB2.out⟩
end Bk
end Go.Proofs.YtkiipaaaakhhfaaGreatDoor
end
section
namespace Go.Proofs.YtkiipaaaakhhfaaGreatDoor
open Go Go.RowKit
namespace Bk
set_option maxRecDepth 100000
set_option linter.unusedVariables false
set_option linter.unusedSimpArgs false
theorem infoBlk : (Tryz.prog.info? 41).map (·.size) = some 9 := by kernel_rfl
def lsC (n m : Int) : Array Value := #[.int .i64 3, .string ⟨#[]⟩, .string ⟨#[]⟩, .int .i64 n, .int .i64 m, .bool false, .int .i64 0, .int .i64 0, .slice none 0 0]
def zeC : Array Value := #[.int .i64 0, .string ⟨#[]⟩, .string ⟨#[]⟩, .int .i64 0, .int .i64 0, .bool false, .int .i64 0, .int .i64 0, .slice none 0 0]
theorem results_blk {fn : Func} {p u : Tmp} (h : fn.results = #[.cell p 41, .tmp u]) (tmps : Array Value) (w : World) (g : Nat) (n m : Int) (v : Value) (hp : tmps.getD p undef = .pointer (some ⟨g, 0, none⟩)) (hv : tmps.getD u undef = v)
  (hg : Hb w g (lsC n m) 41) : (results fn tmps).run Tryz.prog w = .ok (.tuple #[.agg (lsC n m), v]) w := by
 rw [results_cell_tmp h, hp, hv]
 simp only [asAddr, Sem.run_pure, Result.andThen_ok]
 rw [run_loadVar_row w g _ _ _ _ _ hg Tryz.underlying41 rfl infoBlk]
 rfl
theorem Hb.rels {W : World} {B : Nat} {t : TypeId} (h : Hb W B zeC t) (n m : Int) :
  Hb (((((((((W.setCell ⟨B, 0, none⟩ (.int .i64 3)).setCell ⟨B, 1, none⟩ (.string ⟨#[]⟩)).setCell ⟨B, 2, none⟩ (.string ⟨#[]⟩)).setCell ⟨B, 3, none⟩ (.int .i64 n)).setCell ⟨B, 4, none⟩ (.int .i64 m)).setCell ⟨B, 5, none⟩ (.bool false)).setCell ⟨B, 6, none⟩ (.int .i64 0)).setCell ⟨B, 7, none⟩ (.int .i64 0)).setCell ⟨B, 8, none⟩ (.slice none 0 0)) B (lsC n m) t := by
 have h0 := h.set (cs' := #[.int .i64 3, .string ⟨#[]⟩, .string ⟨#[]⟩, .int .i64 0, .int .i64 0, .bool false, .int .i64 0, .int .i64 0, .slice none 0 0]) 0 (.int .i64 3) rfl
 have h1 := h0.set (cs' := #[.int .i64 3, .string ⟨#[]⟩, .string ⟨#[]⟩, .int .i64 0, .int .i64 0, .bool false, .int .i64 0, .int .i64 0, .slice none 0 0]) 1 (.string ⟨#[]⟩) rfl
 have h2 := h1.set (cs' := #[.int .i64 3, .string ⟨#[]⟩, .string ⟨#[]⟩, .int .i64 0, .int .i64 0, .bool false, .int .i64 0, .int .i64 0, .slice none 0 0]) 2 (.string ⟨#[]⟩) rfl
 have h3 := h2.set (cs' := #[.int .i64 3, .string ⟨#[]⟩, .string ⟨#[]⟩, .int .i64 n, .int .i64 0, .bool false, .int .i64 0, .int .i64 0, .slice none 0 0]) 3 (.int .i64 n) rfl
 have h4 := h3.set (cs' := lsC n m) 4 (.int .i64 m) rfl
 have h5 := h4.set (cs' := lsC n m) 5 (.bool false) rfl
 have h6 := h5.set (cs' := lsC n m) 6 (.int .i64 0) rfl
 have h7 := h6.set (cs' := lsC n m) 7 (.int .i64 0) rfl
 exact h7.set (cs' := lsC n m) 8 (.slice none 0 0) rfl
theorem below_set9 {W w : World} {B F : Nat} (h : Below B w W) (hF : B ≤ F) (x0 x1 x2 x3 x4 x5 x6 x7 x8 : Value) :
  Below B w (((((((((W.setCell ⟨F, 0, none⟩ x0).setCell ⟨F, 1, none⟩ x1).setCell ⟨F, 2, none⟩ x2).setCell ⟨F, 3, none⟩ x3).setCell ⟨F, 4, none⟩ x4).setCell ⟨F, 5, none⟩ x5).setCell ⟨F, 6, none⟩ x6).setCell ⟨F, 7, none⟩ x7).setCell ⟨F, 8, none⟩ x8) :=
 ((((((((h.setCell (p := ⟨F, 0, none⟩) hF x0).setCell (p := ⟨F, 1, none⟩) hF x1).setCell (p := ⟨F, 2, none⟩) hF x2).setCell (p := ⟨F, 3, none⟩) hF x3).setCell (p := ⟨F, 4, none⟩) hF x4).setCell (p := ⟨F, 5, none⟩) hF x5).setCell (p := ⟨F, 6, none⟩) hF x6).setCell (p := ⟨F, 7, none⟩) hF x7).setCell (p := ⟨F, 8, none⟩) hF x8
section
variable {w0 w w' : World} {P a b hi num sgn N : Nat} {mask : Int} {tag tag' : Tag} {S : PS} {p pb q q' : Pt} {L : Ln} {X : Scan Rf.Rb} {v : Value}
set_option maxHeartbeats 8000000 in
theorem listOf_any (HL : LowB w0 X) (hw : Below w0.heap.size w0 w) (t : Str) (ht : t.length ≤ 1000) :
  Calls Tryz.prog 109 #[str t] w fun e w' => e = .returned (.tuple #[agg 3 [] [] ((sign X t).1 : Nat) ((sign X t).2.1.toNat : Nat), .int .i64 ((sign X t).2.2 : Nat)]) ∧ Below w.heap.size w w' := by
 obtain ⟨b1, b2, b3, hbu⟩ := HL.bul t (by omega)
 obtain ⟨o1, o2, hor⟩ := HL.ord t (by omega)
 have hsg : sign X t = if 0 < X.bul t then (0, t.headD 0, X.bul t) else X.ord t := rfl
 have HBU := Lib.hid (fun W (hW : Below w.heap.size w W) => hbu W (below_later hw hW))
 have HOR := Lib.hid (fun W (hW : Below w.heap.size w W) => hor W (below_later hw hW))
 have HB1 : Hid (Below w.heap.size w (w.alloc (.cells #[.int .i64 0, .string ⟨#[]⟩, .string ⟨#[]⟩, .int .i64 0, .int .i64 0, .bool false, .int .i64 0, .int .i64 0, .slice none 0 0] 41))) := Lib.hid ((Below.refl _ w).alloc (Nat.le_refl _) _)
 by_cases h0 : 0 < X.bul t
 ·obtain ⟨c, u, e, -⟩ := b3 h0
  rw [if_pos h0] at hsg
  rw [hsg]
  have hbe : X.bul t = 1 := by omega
  rw [hbe] at HBU ⊢
  subst e
  clear hbu hor hsg h0 hbe b1 b2 b3 o1 o2 HOR HL
  unfold str agg at *
  go_enter Tryz.func109, Tryz.ntmps109
  go_upto_region 1 with fail
  have HX := Lib.hid (Hb.new w #[.int .i64 0, .string ⟨#[]⟩, .string ⟨#[]⟩, .int .i64 0, .int .i64 0, .bool false, .int .i64 0, .int .i64 0, .slice none 0 0] 41)
  generalize w.alloc (.cells #[.int .i64 0, .string ⟨#[]⟩, .string ⟨#[]⟩, .int .i64 0, .int .i64 0, .bool false, .int .i64 0, .int .i64 0, .slice none 0 0] 41) = W1 at *
  obtain ⟨F, hF⟩ : ∃ F, w.heap.size = F := ⟨_, rfl⟩
  rw [hF] at HX HB1 HBU ⊢
  have HF := Lib.hid hF
  clear hF
  go_wp2_with fail
  refine (HBU.out _ HB1.out).mono ?_
  rintro e w2 ⟨rfl, hb2⟩
  have h2 := HX.out.below hb2
  have HB2 := Lib.hid (HB1.out.trans (hb2.mono (by have := HB1.out.size; have := HF.out; omega)))
  have x0 := h2.cell 0 rfl
  have x1 := h2.cell 1 rfl
  have x2 := h2.cell 2 rfl
  have x3 := h2.cell 3 rfl
  have x4 := h2.cell 4 rfl
  have x5 := h2.cell 5 rfl
  have x6 := h2.cell 6 rfl
  have x7 := h2.cell 7 rfl
  have x8 := h2.cell 8 rfl
  have xf : ∀ k, w2.frozen? ⟨F, k, none⟩ = false := fun k => h2.fr k
  have HH2 := Lib.hid h2
  clear h2 hb2
  go_wp2
  have hm : wrap64 ((({ data := (c :: u).toArray } : ByteArray)[0]'(by show 0 < (c :: u).length; simp)).toNat : Int) = (c.toNat : Int) := by
   show wrap64 ((c.toNat : Nat) : Int) = _
   have := c.toNat_lt
   exact IntWalk.wrap64_in _ (by omega)
  rw [hm]
  refine bodyPost_ret (results_blk rfl _ _ F 0 (c.toNat : Nat) (.int .i64 1) rfl rfl (Hb.rels HH2.out 0 _)) rfl ⟨rfl, ?_⟩
  rw [HF.out]
  exact below_set9 HB2.out (Nat.le_refl _) _ _ _ _ _ _ _ _ _
 ·rw [if_neg h0] at hsg
  have hbe : X.bul t = 0 := by omega
  rw [hbe] at HBU
  rw [hsg]
  clear hbu hor hsg h0 hbe b1 b2 b3 o2 HL
  generalize (X.ord t).1 = on at *
  generalize (X.ord t).2.1 = oc at *
  generalize (X.ord t).2.2 = ol at *
  unfold str agg at *
  go_enter Tryz.func109, Tryz.ntmps109
  go_upto_region 1 with fail
  have HX := Lib.hid (Hb.new w #[.int .i64 0, .string ⟨#[]⟩, .string ⟨#[]⟩, .int .i64 0, .int .i64 0, .bool false, .int .i64 0, .int .i64 0, .slice none 0 0] 41)
  generalize w.alloc (.cells #[.int .i64 0, .string ⟨#[]⟩, .string ⟨#[]⟩, .int .i64 0, .int .i64 0, .bool false, .int .i64 0, .int .i64 0, .slice none 0 0] 41) = W1 at *
  obtain ⟨F, hF⟩ : ∃ F, w.heap.size = F := ⟨_, rfl⟩
  rw [hF] at HX HB1 HBU HOR ⊢
  have HF := Lib.hid hF
  clear hF
  go_wp2_with fail
  refine (HBU.out _ HB1.out).mono ?_
  rintro e w2 ⟨rfl, hb2⟩
  have HX2 := Lib.hid (HX.out.below hb2)
  have HB2 := Lib.hid (HB1.out.trans (hb2.mono (by have := HB1.out.size; have := HF.out; omega)))
  clear hb2
  go_wp2_with fail
  refine (HOR.out _ HB2.out).mono ?_
  rintro e w3 ⟨rfl, hb3⟩
  have h2 := HX2.out.below hb3
  have HB3 := Lib.hid (HB2.out.trans (hb3.mono (by have := HB2.out.size; have := HF.out; omega)))
  have x0 := h2.cell 0 rfl
  have x1 := h2.cell 1 rfl
  have x2 := h2.cell 2 rfl
  have x3 := h2.cell 3 rfl
  have x4 := h2.cell 4 rfl
  have x5 := h2.cell 5 rfl
  have x6 := h2.cell 6 rfl
  have x7 := h2.cell 7 rfl
  have x8 := h2.cell 8 rfl
  have xf : ∀ k, w3.frozen? ⟨F, k, none⟩ = false := fun k => h2.fr k
  have HH2 := Lib.hid h2
  clear h2 hb3
  go_wp2
  have hm : wrap64 ((oc.toNat : Nat) : Int) = (oc.toNat : Int) := by
   have := oc.toNat_lt
   exact IntWalk.wrap64_in _ (by omega)
  rw [hm]
  refine bodyPost_ret (results_blk rfl _ _ F (on : Nat) (oc.toNat : Nat) (.int .i64 (ol : Nat)) rfl rfl (Hb.rels HH2.out _ _)) rfl ⟨rfl, ?_⟩
  rw [HF.out]
  exact below_set9 HB3.out (Nat.le_refl _) _ _ _ _ _ _ _ _ _
def staysB (L : Ln) (n m : Nat) (bh : Str) : Bool := L.goes && L.us.isEmpty && (blank bh || ((decide (m = 46) || decide (m = 41)) && !decide (n = 1)))
set_option maxHeartbeats 8000000 in
theorem stays_any (HL : LowB w0 X) (h : PL X w0 w P mask num sgn N L tag S hi) (n m : Nat) (hm : m ≤ 255) (hn : n ≤ 1000000000) (bh : Str) (hbh : bh.length ≤ 4000) :
  Calls Tryz.prog 110 #[ptr P, .agg (lsC n m), str bh] w fun e w' => e = .returned (.bool (staysB L n m bh)) ∧ Below w.heap.size w w' := by
 have hBX : Below w.heap.size w (w.alloc (.cells (lsC n m) 41)) := (Below.refl _ w).alloc (Nat.le_refl _) _
 have hHX := Hb.new w (lsC n m) 41
 have HPA := Lib.hid (fun W (hW : Below w.heap.size w W) => (para_any (h.pm.below hW) h.abs).below)
 have HAM := Lib.hid (fun W (hW : Below w.heap.size w W) => (allMet_any (h.pm.below hW) h.abs).below)
 have HBL := Lib.hid (fun W (hW : Below w.heap.size w W) => HL.blank bh (by omega) W (below_later h.pm.low hW))
 have hst : staysB L n m bh = (L.goes && L.us.isEmpty && (blank bh || ((decide (m = 46) || decide (m = 41)) && !decide (n = 1)))) := rfl
 obtain ⟨gq, hgq⟩ : ∃ gq, L.goes = gq := ⟨_, rfl⟩
 obtain ⟨uq, huq⟩ : ∃ uq, L.us.isEmpty = uq := ⟨_, rfl⟩
 obtain ⟨bq, hbq⟩ : ∃ bq, blank bh = bq := ⟨_, rfl⟩
 rw [hgq] at HPA hst
 rw [huq] at HAM hst
 rw [hbq] at HBL hst
 rw [hst]
 obtain ⟨F, hF⟩ : ∃ F, w.heap.size = F := ⟨_, rfl⟩
 clear hst hgq huq hbq h HL
 have HF := Lib.hid hF
 unfold lsC at *
 cases gq with
 | false =>
  rw [if_neg Bool.false_ne_true] at HPA
  show Calls Tryz.prog 110 _ w fun e w' => e = .returned (.bool false) ∧ Below w.heap.size w w'
  unfold ptr str at *
  go_enter Tryz.func110, Tryz.ntmps110
  go_upto_region 1 with fail
  generalize w.alloc (.cells #[.int .i64 3, .string ⟨#[]⟩, .string ⟨#[]⟩, .int .i64 (n : Nat), .int .i64 (m : Nat), .bool false, .int .i64 0, .int .i64 0, .slice none 0 0] 41) = W1 at *
  have HB1 := Lib.hid hBX
  clear hF hHX
  go_wp2_with fail
  refine (HPA.out _ HB1.out).mono ?_
  rintro e w2 ⟨rfl, hb2⟩
  have HB2 := Lib.hid (HB1.out.trans (hb2.mono HB1.out.size))
  clear hb2 hBX
  go_wp2
  go_ret
  exact ⟨rfl, HB2.out⟩
 | true =>
  rw [if_pos rfl] at HPA
  cases uq with
  | false =>
   show Calls Tryz.prog 110 _ w fun e w' => e = .returned (.bool false) ∧ Below w.heap.size w w'
   unfold ptr str at *
   go_enter Tryz.func110, Tryz.ntmps110
   go_upto_region 1 with fail
   generalize w.alloc (.cells #[.int .i64 3, .string ⟨#[]⟩, .string ⟨#[]⟩, .int .i64 (n : Nat), .int .i64 (m : Nat), .bool false, .int .i64 0, .int .i64 0, .slice none 0 0] 41) = W1 at *
   have HB1 := Lib.hid hBX
   clear hF hHX
   go_wp2_with fail
   refine (HPA.out _ HB1.out).mono ?_
   rintro e w2 ⟨rfl, hb2⟩
   have HB2 := Lib.hid (HB1.out.trans (hb2.mono HB1.out.size))
   clear hb2 hBX
   go_wp2_with fail
   refine (HAM.out _ HB2.out).mono ?_
   rintro e w3 ⟨rfl, hb3⟩
   have HB3 := Lib.hid (HB2.out.trans (hb3.mono HB2.out.size))
   clear hb3
   go_wp2
   go_ret
   exact ⟨rfl, HB3.out⟩
  | true =>
   obtain ⟨nq, hnq⟩ : ∃ nq, (decide (m = 46) || decide (m = 41)) = nq := ⟨_, rfl⟩
   obtain ⟨oq, hoq⟩ : ∃ oq, decide (n = 1) = oq := ⟨_, rfl⟩
   rw [hnq, hoq]
   have HNQ := Lib.hid hnq
   have HOQ := Lib.hid hoq
   show Calls Tryz.prog 110 _ w fun e w' => e = .returned (.bool (bq || (nq && !oq))) ∧ Below w.heap.size w w'
   obtain ⟨rq, hrq⟩ : ∃ rq, (bq || (nq && !oq)) = rq := ⟨_, rfl⟩
   have HRQ := Lib.hid hrq
   rw [hrq]
   clear hrq hnq hoq
   unfold ptr str at *
   go_enter Tryz.func110, Tryz.ntmps110
   go_upto_region 1 with fail
   generalize w.alloc (.cells #[.int .i64 3, .string ⟨#[]⟩, .string ⟨#[]⟩, .int .i64 (n : Nat), .int .i64 (m : Nat), .bool false, .int .i64 0, .int .i64 0, .slice none 0 0] 41) = W1 at *
   have HB1 := Lib.hid hBX
   rw [hF] at hHX
   have HHX := Lib.hid hHX
   clear hF hHX
   go_wp2_with fail
   refine (HPA.out _ HB1.out).mono ?_
   rintro e w2 ⟨rfl, hb2⟩
   have HB2 := Lib.hid (HB1.out.trans (hb2.mono HB1.out.size))
   have HX2 := Lib.hid (HHX.out.below hb2)
   clear hb2 hBX
   go_wp2_with fail
   refine (HAM.out _ HB2.out).mono ?_
   rintro e w3 ⟨rfl, hb3⟩
   have HB3 := Lib.hid (HB2.out.trans (hb3.mono HB2.out.size))
   have HX3 := Lib.hid (HX2.out.below hb3)
   clear hb3
   have c4 := HX3.out.cell 4 rfl
   go_upto_region 3 with fail
   go_cut [7] (fun v7 wx => v7 = .bool nq ∧ wx = w3)
   case first =>
    have hnq := HNQ.out
    by_cases h46 : m = 46
    ·subst h46
     have e : nq = true := hnq.symm
     subst e
     clear hnq
     go_wp2
     go_meet
     exact ⟨rfl, rfl⟩
    ·by_cases h41 : m = 41
     ·subst h41
      have e : nq = true := hnq.symm
      subst e
      clear hnq
      go_wp2
      go_meet
      exact ⟨rfl, rfl⟩
     ·rw [decide_eq_false h46, decide_eq_false h41] at hnq
      have e : nq = false := hnq.symm
      subst e
      have b1 : ¬ (m : Int) = 46 := by omega
      have b2 : ¬ (m : Int) = 41 := by omega
      have b3 : ((m : Int) == 46) = false := by rw [beq_eq_false_iff_ne]; exact b1
      have b4 : ((m : Int) == 41) = false := by rw [beq_eq_false_iff_ne]; exact b2
      clear hnq
      go_wp2
      go_meet
      exact ⟨rfl, rfl⟩
   obtain ⟨rfl, rfl⟩ := hcut
   go_wp2_with fail
   refine (HBL.out _ HB3.out).mono ?_
   rintro e w4 ⟨rfl, hb4⟩
   have HB4 := Lib.hid (HB3.out.trans (hb4.mono HB3.out.size))
   have x3 := HX3.out.below hb4 |>.cell 3 rfl
   clear hb4 c4
   cases bq with
   | true =>
    have e : rq = true := HRQ.out.symm
    subst e
    go_wp2
    go_ret
    exact ⟨rfl, HB4.out⟩
   | false =>
    cases nq with
    | false =>
     have e : rq = false := HRQ.out.symm
     subst e
     go_wp2
     go_ret
     exact ⟨rfl, HB4.out⟩
    | true =>
     have hoq := HOQ.out
     have hrq := HRQ.out
     by_cases h1 : n = 1
     ·subst h1
      have e1 : oq = true := hoq.symm
      subst e1
      have e : rq = false := hrq.symm
      subst e
      clear hoq hrq
      go_wp2
      go_ret
      exact ⟨rfl, HB4.out⟩
     ·rw [decide_eq_false h1] at hoq
      subst hoq
      have e : rq = true := hrq.symm
      subst e
      have b1 : ¬ (n : Int) = 1 := by omega
      have b3 : ((n : Int) == 1) = false := by rw [beq_eq_false_iff_ne]; exact b1
      have b4 : ((n : Int) != 1) = true := by rw [bne, b3]; rfl
      have b5 : decide ((n : Int) = 1) = false := decide_eq_false b1
      clear hrq
      go_wp2
      go_ret
      exact ⟨rfl, HB4.out⟩
end
end Bk
end Go.Proofs.YtkiipaaaakhhfaaGreatDoor
end
