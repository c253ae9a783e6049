/- Walks of layer 1, the sixth part: Blank, Same, awake. -/
import Derived.Test.YtopaohficfdhhaaDoorTextE
namespace Go.Proofs.YtopaohficfdhhaaDoor
open Go Go.RowKit
namespace Tx
set_option maxRecDepth 100000
set_option linter.unusedVariables false
set_option linter.unusedSimpArgs false

set_option maxHeartbeats 1000000 in
theorem blank_any (s : ByteArray) (w : World) (hs : s.size ≤ 9223372036854775807) :
    Calls Tryd.prog 20 #[.string s] w fun e w' => e = .returned (.bool (blank s.data.toList)) ∧ Below w.heap.size w w' := by
  have HT := Lib.hid (Tryd.strings_Trim_ascii s ⟨#[32, 9]⟩ w hs (by decide) (ascii_of_all (by decide)))
  go_enter Tryd.func20, Tryd.ntmps20
  have hb := trim_nil s.data.toList
  have HB := Lib.hid hb
  clear hb
  generalize hx : Lib.trimS s.data.toList [32, 9] = x at *
  have Hx := Lib.hid hx
  clear hx
  go_wp2_with (go_at_call 32; refine HT.out.mono ?_; rintro e w1 ⟨rfl, hb⟩)
  go_ret
  refine ⟨ret_bool ?_, hb⟩
  have h1 := HB.out
  rw [Bool.eq_iff_iff, ← h1, List.isEmpty_iff]

set_option maxHeartbeats 1000000 in
theorem same0_any (A B : List (List UInt8)) (v u : Value) (w : World) (hv : SSl w v A) (hu : SSl w u B) :
    Calls Tryd.prog 28 #[v, u] w fun e w' => e = .returned (.bool (decide (A = B))) ∧ ∃ n, w' = w.drewN n := by
  obtain ⟨ao, cap, rfl, hlA, hrA⟩ := hv
  obtain ⟨bo, cap2, rfl, hlB, hrB⟩ := hu
  have HrA := Lib.hid hrA
  have HrB := Lib.hid hrB
  clear hrA hrB
  by_cases hne : A.length = B.length
  · have hne0 : (((A.length : Int) != (B.length : Int))) = false := by simp; omega
    have Hne := Lib.hid hne
    clear hne
    go_enter Tryd.func28, Tryd.ntmps28
    go_wp2
    go_loopg [5] A.length (fun g s5 wx => ∃ (k n : Nat), k + g = A.length ∧ s5 = .int .i64 k ∧ Hid (A.take k = B.take k) ∧ wx = w.drewN n)
    case atStart => exact ⟨0, 0, by omega, rfl, Lib.hid rfl, rfl⟩
    case round =>
      obtain ⟨k, n, hkg, rfl, HT, rfl⟩ := hrel
      cases gk with
      | zero =>
        have hkl : ¬ ((k : Int) < (A.length : Int)) := by omega
        go_wp2
        go_ret
        refine ⟨ret_bool ?_, n, rfl⟩
        have := HT.out
        rw [List.take_of_length_le (by omega), List.take_of_length_le (by have := Hne.out; omega)] at this
        simp [this]
      | succ g =>
        have hkl : (k : Int) < (A.length : Int) := by omega
        have hk2 : k < A.length := by omega
        have hk3 : k < B.length := by have := Hne.out; omega
        have hkl2 : (k : Int) < (B.length : Int) := by omega
        obtain ⟨b, off, rfl, hr⟩ := HrA.out (by intro e; subst e; simp at hk2)
        obtain ⟨b2, off2, rfl, hr2⟩ := HrB.out (by intro e; subst e; simp at hk3)
        have hc := hr k hk2
        have hc2 := hr2 k hk3
        unfold str at hc hc2
        clear hr hr2
        have HA : Hid (A.take (k + 1) = A.take k ++ [A[k]]) := Lib.hid (List.take_succ_eq_append_getElem hk2)
        have HB : Hid (B.take (k + 1) = B.take k ++ [B[k]]) := Lib.hid (List.take_succ_eq_append_getElem hk3)
        have HAk : Hid (A[k]? = some A[k]) := Lib.hid (List.getElem?_eq_getElem hk2)
        have HBk : Hid (B[k]? = some B[k]) := Lib.hid (List.getElem?_eq_getElem hk3)
        generalize A[k] = x at *
        generalize B[k] = y at *
        by_cases hxy : x = y
        · subst hxy
          go_wp2
          go_quiet (fail)
          go_wp2
          go_roundg g
          case rel => exact ⟨k + 1, _, by omega, by go_num, Lib.hid (by rw [HA.out, HB.out, HT.out]), rfl⟩
          case measure => omega
        · have Hxy := Lib.hid hxy
          have hxb : (x == y) = false := by simpa using hxy
          go_wp2
          go_quiet (fail)
          go_wp2
          go_ret
          refine ⟨ret_bool ?_, n + nq, by rw [World.drewN_drewN]⟩
          symm
          rw [decide_eq_false_iff_not]
          intro e
          subst e
          exact Hxy.out (Option.some.inj (HAk.out.symm.trans HBk.out))
  · have hne1 : (((A.length : Int) != (B.length : Int))) = true := by simp; omega
    have Hne := Lib.hid hne
    clear hne
    go_enter Tryd.func28, Tryd.ntmps28
    go_wp2
    go_ret
    refine ⟨ret_bool ?_, 0, rfl⟩
    simp
    intro e; exact Hne.out (by rw [e])

theorem same_any (A B : List (List UInt8)) (v u : Value) (w : World) (hv : SSl w v A) (hu : SSl w u B) :
    Calls Tryd.prog 15 #[v, u] w fun e w' => e = .returned (.bool (decide (A = B))) ∧ ∃ n, w' = w.drewN n := by
  have HS := Lib.hid (same0_any A B v u w hv hu)
  clear hv hu
  go_enter Tryd.func15, Tryd.ntmps15
  go_wp2_with (go_at_call 28; refine HS.out.mono ?_; rintro e w1 ⟨rfl, n, rfl⟩)
  go_ret
  exact ⟨rfl, n, rfl⟩

theorem clean_ex : clean [65, 255, 0] = [65, 239, 191, 189, 239, 191, 189] := by
  unfold clean
  rw [chars_ok _ _ (by decide) (by decide), show good [65, 255, 0] = 1 from by decide]
  simp only [List.take, List.drop]
  rw [chars_bad _ _ (Or.inl (by decide)), chars_bad _ _ (Or.inr rfl), chars_nil]
  rfl
theorem lines_ex : lines [97, 13, 10, 10, 98] = [[97], [], [98]] := by
  rw [lines_cons, show restOf [97, 13, 10, 10, 98] = [10, 98] from by decide, show lineOf [97, 13, 10, 10, 98] = [97] from by decide]
  rw [lines_cons, show restOf [10, 98] = [98] from by decide, show lineOf [10, 98] = [] from by decide]
  rw [lines_cons, show restOf [98] = [] from by decide, show lineOf [98] = [98] from by decide, lines_nil]

theorem sl_new (w : World) (l : List UInt8) (hl : l.length ≤ 1000) : Sl (w.alloc (.cells (Lib.byteCells l).toArray 5)) (.slice (some ⟨w.heap.size, 0, none⟩) l.length l.length) l := by
  refine ⟨_, _, rfl, Nat.le_refl _, by unfold maxLen; omega, fun _ => ⟨w.heap.size, 0, rfl, ?_⟩⟩
  intro i hi
  rw [World.cell?_alloc_new]
  simp [Lib.byteCells, List.getElem?_eq_getElem hi, at', List.getD]
theorem ssl_new (w : World) (L : List (List UInt8)) (hl : L.length ≤ 1000) : SSl (w.alloc (.cells (L.map str).toArray 9)) (.slice (some ⟨w.heap.size, 0, none⟩) L.length L.length) L := by
  refine ⟨_, _, rfl, by omega, fun _ => ⟨w.heap.size, 0, rfl, fun i hi => ?_⟩⟩
  rw [World.cell?_alloc_new]
  simp [List.getElem?_eq_getElem hi]

set_option maxHeartbeats 2000000 in
theorem awake_any (w : World) :
    Calls Tryd.prog 10 #[] w fun e w' => e = .returned (.bool true) ∧ Below w.heap.size w w' := by
  go_enter Tryd.func10, Tryd.ntmps10
  go_wp2_with fail
  refine (clean_any [65, 255, 0] _ _ (sl_new w [65, 255, 0] (by decide)) (by decide)).mono ?_
  rintro e w1 ⟨rfl, hb1⟩
  rw [clean_ex]
  have hbw1 : Below w.heap.size w w1 := ((Below.refl _ w).alloc (Nat.le_refl _) _).trans (hb1.mono (by simp))
  clear hb1
  have hsz1 := hbw1.size
  have HL := Lib.hid (lines_any ⟨#[97, 13, 10, 10, 98]⟩ w1 (by decide))
  go_wp2_with fail
  refine HL.out.mono ?_
  rintro e w2 ⟨v2, rfl, ho2, hb2⟩
  have hls : lines (⟨#[97, 13, 10, 10, 98]⟩ : ByteArray).data.toList = [[97], [], [98]] := lines_ex
  rw [hls] at ho2
  have hs2 := ho2.ssl (by decide)
  have hs2' := hs2.below ((Below.refl _ w2).alloc (Nat.le_refl _) (.cells (([[97], [], [98]] : List (List UInt8)).map str).toArray 9))
  have HS := Lib.hid (same_any _ _ _ _ _ hs2' (ssl_new w2 [[97], [], [98]] (by decide)))
  have hbw2 : Below w.heap.size w w2 := hbw1.trans (hb2.mono hsz1)
  have hsz2 := hbw2.size
  clear hls ho2 hs2 hs2' HL hb2 hbw1 hsz1
  go_wp2_with fail
  refine HS.out.mono ?_
  rintro e w3 ⟨rfl, n, hw3⟩
  rw [decide_eq_true trivial]
  have hbw3 : Below w.heap.size w w3 := by rw [hw3]; exact below_drewN (hbw2.alloc (by omega) _) n
  have hsz3 := hbw3.size
  clear hw3 HS hbw2 hsz2
  have HB := Lib.hid (blank_any ⟨#[32, 9]⟩ w3 (by decide))
  go_wp2_with fail
  refine HB.out.mono ?_
  rintro e w4 ⟨rfl, hb4⟩
  rw [show blank (⟨#[32, 9]⟩ : ByteArray).data.toList = true from by decide]
  have hbw4 : Below w.heap.size w w4 := hbw3.trans (hb4.mono hsz3)
  have hsz4 := hbw4.size
  clear HB hbw3 hsz3 hb4
  have HJ := Lib.hid (join_any [[97]] _ _ (ssl_new w4 [[97]] (by decide)) (by decide))
  go_wp2_with fail
  refine HJ.out.mono ?_
  rintro e w5 ⟨rfl, hb5⟩
  rw [show str (join [[97]]) = .string ⟨#[97, 10]⟩ from rfl]
  have hbw5 : Below w.heap.size w w5 := (hbw4.alloc (by omega) _).trans (hb5.mono (by simp; omega))
  clear HJ hbw4 hsz4 hb5
  go_wp2
  go_ret
  exact ⟨rfl, hbw5⟩

/-- A call's own frame, put behind another one. -/
theorem from_below {P : Program} {f : FuncId} {args : Array Value} {w0 W : World} {Q : Ending → World → Prop} (h : Calls P f args W fun e w' => Q e w' ∧ Below W.heap.size W w') (hb : Below w0.heap.size w0 W) :
    Calls P f args W fun e w' => Q e w' ∧ Below w0.heap.size w0 w' :=
  h.mono fun e w' ⟨h1, h2⟩ => ⟨h1, hb.trans (h2.mono hb.size)⟩
theorem blank_from {w0 W : World} {s : ByteArray} {r : Bool} (hr : Tx.blank s.data.toList = r) (hs : s.size ≤ 9223372036854775807) (hb : Below w0.heap.size w0 W) :
    Calls Tryd.prog 20 #[.string s] W fun e w' => e = .returned (.bool r) ∧ Below w0.heap.size w0 w' := by
  subst hr; exact from_below (blank_any s W hs) hb
theorem lines_from {w0 W : World} {s : ByteArray} (hs : s.size ≤ 1099511627776) (hb : Below w0.heap.size w0 W) :
    Calls Tryd.prog 16 #[.string s] W fun e w' => ∃ v, e = .returned v ∧ SSl w' v (lines s.data.toList) ∧ Below w0.heap.size w0 w' :=
  (lines_any s W hs).mono fun e w' ⟨v, h1, h2, h3⟩ => ⟨v, h1, h2.ssl (by
    have hz : s.data.toList.length = s.size := by rw [Array.length_toList]; rfl
    have := lines_length s.data.toList; omega), hb.trans (h3.mono hb.size)⟩
end Tx
end Go.Proofs.YtopaohficfdhhaaDoor
