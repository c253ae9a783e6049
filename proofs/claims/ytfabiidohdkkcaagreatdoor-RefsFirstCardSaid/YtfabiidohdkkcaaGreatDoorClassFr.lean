/- Walks of layer 3, the sixth part: the reference's Label. -/
import Derived.Test.YtfabiidohdkkcaaGreatDoorClassEr
namespace Go.Proofs.YtfabiidohdkkcaaGreatDoor
open Go Go.RowKit
namespace Ks
open Tx
set_option maxRecDepth 100000
set_option linter.unusedVariables false
set_option linter.unusedSimpArgs false

theorem lab_step {w wr w1 : World} {acc : List UInt8} {x : UInt8} {u v' : Value} {o : Obj} (hown : wr.ownsRow w.heap.size 5 1 u acc.length (Lib.byteCells acc)) (hbw : Below w.heap.size w wr)
    (hown' : w1.ownsRow w.heap.size 5 1 v' (acc.length + 1) (Lib.byteCells acc ++ [.int .u8 (x.toNat : Nat)])) (hgrow : (wr.alloc o).grownBy w1 u.ownBlock) :
    w1.ownsRow w.heap.size 5 1 v' (acc ++ [x]).length (Lib.byteCells (acc ++ [x])) ∧ Below w.heap.size w w1 := by
  have hsz := hbw.size
  refine ⟨by simpa [Lib.byteCells] using hown', (hbw.alloc (by omega) _).grown hgrow (by simp; omega) (fun k hk => (hown.lt k hk).1)⟩

theorem gapB_int (c : UInt8) : gapB c = (((c.toNat : Int) == 32) || (decide (9 ≤ (c.toNat : Int)) && decide ((c.toNat : Int) ≤ 13))) := by
  unfold gapB
  rw [Bool.eq_iff_iff, gapN_iff]; simp; omega

theorem own_slice {w : World} {B : Nat} {v : Value} {acc : List UInt8} (h : w.ownsRow B 5 1 v acc.length (Lib.byteCells acc)) : ∃ a cap, v = .slice a acc.length cap := by
  rcases h.2 with ⟨rfl, h0⟩ | ⟨g, cap, cur, rfl, _⟩
  · exact ⟨none, 0, by rw [h0]⟩
  · exact ⟨_, _, rfl⟩

theorem cons_at {s : ByteArray} {k : Nat} (h : k < s.size) : ∃ c t, s.data.toList.drop k = c :: t ∧ s[k] = c ∧ s.data.toList.drop (k + 1) = t := by
  cases hd : s.data.toList.drop k with
  | nil => have := congrArg List.length hd; rw [List.length_drop, Array.length_toList] at this; simp at this; have : s.size = s.data.size := rfl; omega
  | cons x t =>
    refine ⟨x, t, rfl, ?_, ?_⟩
    · have := congrArg (fun l => l[0]?) hd
      simp at this
      rw [Array.getElem?_eq_getElem (show k < s.data.size from h)] at this
      exact Option.some.inj this
    · rw [← List.drop_drop, hd]; rfl

set_option maxHeartbeats 4000000 in
theorem rLabel_any (s : ByteArray) (w : World) (hs : s.size ≤ 10000000) :
    Calls Tryz.prog 28 #[.string s] w fun e w' => e = .returned (str (lab s.data.toList)) ∧ Below w.heap.size w w' := by
  obtain ⟨i0, hi, hz0, hz1, hz2⟩ := info_parts info5
  have hdl : s.data.toList.length = s.size := by rw [Array.length_toList]; rfl
  have HLAB := Lib.hid (lab_ref s.data.toList)
  have HALL := Lib.hid (stp_all s.data.toList)
  have hjl := jn_fl_len gapB 32 s.data.toList
  rw [hdl] at hjl
  have HFOLD := Lib.hid (fun W => rFold_any ⟨(jn 32 (fl gapB s.data.toList)).toArray⟩ W (by rw [size_mk]; omega))
  rw [show fold (⟨(jn 32 (fl gapB s.data.toList)).toArray⟩ : ByteArray).data.toList = fold (jn 32 (fl gapB s.data.toList)) from rfl, HLAB.out] at HFOLD
  generalize jn 32 (fl gapB s.data.toList) = J at *
  clear hjl
  go_enter Tryz.func28, Tryz.ntmps28
  go_wp2
  go_loopg [3, 4, 5] s.size (fun g s3 s4 s5 wr => ∃ (k : Nat) (acc : List UInt8) (gp : Bool), k + g = s.size ∧ s5 = .int .i64 k ∧ s4 = .bool gp ∧ wr.ownsRow w.heap.size 5 1 s3 acc.length (Lib.byteCells acc) ∧ acc.length ≤ 2 * k ∧
    Hid (((s.data.toList.drop k).foldl stp (acc, gp)).1 = J) ∧ Below w.heap.size w wr)
  case atStart => exact ⟨0, [], false, by omega, rfl, rfl, ⟨rfl, Or.inl ⟨rfl, rfl⟩⟩, by simp, HALL, Below.refl _ _⟩
  case round =>
    obtain ⟨k, acc, gp, hkg, rfl, rfl, hown, hal, HI, hbw⟩ := hrel
    have hsz := hbw.size
    cases gk with
    | zero =>
      have hkl : ¬ ((k : Int) < (s.size : Int)) := by omega
      have hJ : acc = J := by
        have := HI.out
        rw [List.drop_eq_nil_of_le (by omega)] at this
        exact this
      subst hJ
      have hcv := conv_own hown
      clear hown
      go_wp2_with (go_at_call 52; refine (HFOLD.out _).mono ?_; rintro e w3 ⟨rfl, hb3⟩)
      go_ret
      exact ⟨rfl, hbw.trans (hb3.mono hsz)⟩
    | succ g =>
      have hkl : (k : Int) < (s.size : Int) := by omega
      have hk2 : k < s.size := by omega
      obtain ⟨c, t, hd, hck, ht⟩ := cons_at hk2
      have hst : ((s.data.toList.drop (k + 1)).foldl stp (stp (acc, gp) c)).1 = J := by
        have := HI.out
        rw [hd, List.foldl_cons] at this
        rw [ht]; exact this
      have HST := Lib.hid hst
      have hgi := gapB_int c
      have h0 : 0 ≤ (c.toNat : Int) := by omega
      have h255 : (c.toNat : Int) ≤ 255 := by have := UInt8.toNat_lt c; omega
      clear HI hd ht hst
      cases hgc : gapB c with
      | true =>
        have HS : Hid (stp (acc, gp) c = (acc, decide (0 < acc.length))) := Lib.hid (by simp [stp, hgc])
        rw [hgc] at hgi
        obtain ⟨a, cap, rfl⟩ := own_slice hown
        have hca : Hid (decide ((0 : Int) < (acc.length : Int)) = decide (0 < acc.length)) := Lib.hid (by rw [decide_eq_decide]; omega)
        by_cases h32 : (c.toNat : Int) = 32
        · have e1 : ((c.toNat : Int) == 32) = true := by simpa using h32
          clear hgi hgc h32
          go_wp2
          go_roundg g
          case rel => exact ⟨k + 1, acc, decide (0 < acc.length), by omega, by go_num, by first | rfl | rw [hca.out], hown, by omega, Lib.hid (by rw [← HST.out, HS.out]), hbw⟩
          case measure => omega
        · have e1 : ((c.toNat : Int) == 32) = false := by simpa using h32
          rw [e1] at hgi
          have h9 : 9 ≤ (c.toNat : Int) ∧ (c.toNat : Int) ≤ 13 := by simpa using hgi.symm
          obtain ⟨h9, h13⟩ := h9
          clear hgi hgc h32
          go_wp2
          go_roundg g
          case rel => exact ⟨k + 1, acc, decide (0 < acc.length), by omega, by go_num, by first | rfl | rw [hca.out], hown, by omega, Lib.hid (by rw [← HST.out, HS.out]), hbw⟩
          case measure => omega
      | false =>
        have HS : Hid (stp (acc, gp) c = ((if gp then acc ++ [32] else acc) ++ [c], false)) := Lib.hid (by simp [stp, hgc])
        rw [hgc] at hgi
        have hn : ¬ (c.toNat : Int) = 32 ∧ ((c.toNat : Int) < 9 ∨ (9 ≤ (c.toNat : Int) ∧ 13 < (c.toNat : Int))) := by
          have := hgi.symm
          simp at this
          omega
        obtain ⟨h32, h9⟩ := hn
        have e1 : ((c.toNat : Int) == 32) = false := by simpa using h32
        have hmax : acc.length ≤ 20000000 := by omega
        clear hgi hgc h32
        cases gp with
        | false =>
          rcases h9 with h9 | ⟨h9, h13⟩
          · go_wp2_with (at_builtin; refine wpList_append_own _ rfl _ _ 65 rfl w.heap.size 5 i0 (.int .u8 0) 1 1 Tryz.underlying65 hi hz0 hz1 hz2 rfl (by decide) _ _ _ rfl (hown.alloc _) ⟨wr.heap.size, 0, none⟩ 1 1 [.int .u8 (c.toNat : Nat)] rfl rfl ?a1 ?a2 ?a3 ?a4 ?a5 ?_)
            try (case a1 => intro j u hu; rw [add_eq, World.cell?_alloc_new]; simpa using hu)
            try (case a2 => first | rfl | (intro u hu; simp at hu; subst hu; rfl))
            case a3 => unfold maxLen; first | omega | (simp; omega)
            case a4 => first | omega | (simp; omega)
            case a5 => first | omega | (simp; omega)
            intro v' w1 hown' hgrow _
            obtain ⟨ho2, hb2⟩ := lab_step hown hbw hown' hgrow
            clear hown' hgrow
            go_wp2
            go_roundg g
            case rel => exact ⟨k + 1, acc ++ [c], false, by omega, by go_num, rfl, ho2, by simp; omega, Lib.hid (by rw [← HST.out, HS.out]; rfl), hb2⟩
            case measure => omega
          · go_wp2_with (at_builtin; refine wpList_append_own _ rfl _ _ 65 rfl w.heap.size 5 i0 (.int .u8 0) 1 1 Tryz.underlying65 hi hz0 hz1 hz2 rfl (by decide) _ _ _ rfl (hown.alloc _) ⟨wr.heap.size, 0, none⟩ 1 1 [.int .u8 (c.toNat : Nat)] rfl rfl ?b1 ?b2 ?b3 ?b4 ?b5 ?_)
            try (case b1 => intro j u hu; rw [add_eq, World.cell?_alloc_new]; simpa using hu)
            try (case b2 => first | rfl | (intro u hu; simp at hu; subst hu; rfl))
            case b3 => unfold maxLen; first | omega | (simp; omega)
            case b4 => first | omega | (simp; omega)
            case b5 => first | omega | (simp; omega)
            intro v' w1 hown' hgrow _
            obtain ⟨ho2, hb2⟩ := lab_step hown hbw hown' hgrow
            clear hown' hgrow
            go_wp2
            go_roundg g
            case rel => exact ⟨k + 1, acc ++ [c], false, by omega, by go_num, rfl, ho2, by simp; omega, Lib.hid (by rw [← HST.out, HS.out]; rfl), hb2⟩
            case measure => omega
        | true =>
          rcases h9 with h9 | ⟨h9, h13⟩
          · go_wp2_with (at_builtin; refine wpList_append_own _ rfl _ _ 65 rfl w.heap.size 5 i0 (.int .u8 0) 1 1 Tryz.underlying65 hi hz0 hz1 hz2 rfl (by decide) _ _ _ rfl (hown.alloc _) ⟨wr.heap.size, 0, none⟩ 1 1 [.int .u8 ((32 : UInt8).toNat : Nat)] rfl rfl ?c1 ?c2 ?c3 ?c4 ?c5 ?_)
            try (case c1 => intro j u hu; rw [add_eq, World.cell?_alloc_new]; simpa using hu)
            try (case c2 => first | rfl | (intro u hu; simp at hu; subst hu; rfl))
            case c3 => unfold maxLen; first | omega | (simp; omega)
            case c4 => first | omega | (simp; omega)
            case c5 => first | omega | (simp; omega)
            intro v1 w1 hown' hgrow _
            obtain ⟨ho1, hb1⟩ := lab_step (x := 32) hown hbw hown' hgrow
            have hsz1 := hb1.size
            have hl1 : (acc ++ [32]).length = acc.length + 1 := by simp
            clear hown' hgrow hown
            go_wp2_with (at_builtin; refine wpList_append_own _ rfl _ _ 65 rfl w.heap.size 5 i0 (.int .u8 0) 1 1 Tryz.underlying65 hi hz0 hz1 hz2 rfl (by decide) _ _ _ rfl (ho1.alloc _) ⟨w1.heap.size, 0, none⟩ 1 1 [.int .u8 (c.toNat : Nat)] rfl rfl ?d1 ?d2 ?d3 ?d4 ?d5 ?_)
            try (case d1 => intro j u hu; rw [add_eq, World.cell?_alloc_new]; simpa using hu)
            try (case d2 => first | rfl | (intro u hu; simp at hu; subst hu; rfl))
            case d3 => unfold maxLen; first | omega | (simp; omega)
            case d4 => first | omega | (simp; omega)
            case d5 => first | omega | (simp; omega)
            intro v2 w2 hown' hgrow _
            rw [← hl1] at hown'
            obtain ⟨ho2, hb2⟩ := lab_step ho1 hb1 hown' hgrow
            clear hown' hgrow
            go_wp2
            go_roundg g
            case rel => exact ⟨k + 1, acc ++ [32] ++ [c], false, by omega, by go_num, rfl, ho2, by simp; omega, Lib.hid (by rw [← HST.out, HS.out]; rfl), hb2⟩
            case measure => omega
          · go_wp2_with (at_builtin; refine wpList_append_own _ rfl _ _ 65 rfl w.heap.size 5 i0 (.int .u8 0) 1 1 Tryz.underlying65 hi hz0 hz1 hz2 rfl (by decide) _ _ _ rfl (hown.alloc _) ⟨wr.heap.size, 0, none⟩ 1 1 [.int .u8 ((32 : UInt8).toNat : Nat)] rfl rfl ?e1 ?e2 ?e3 ?e4 ?e5 ?_)
            try (case e1 => intro j u hu; rw [add_eq, World.cell?_alloc_new]; simpa using hu)
            try (case e2 => first | rfl | (intro u hu; simp at hu; subst hu; rfl))
            case e3 => unfold maxLen; first | omega | (simp; omega)
            case e4 => first | omega | (simp; omega)
            case e5 => first | omega | (simp; omega)
            intro v1 w1 hown' hgrow _
            obtain ⟨ho1, hb1⟩ := lab_step (x := 32) hown hbw hown' hgrow
            have hsz1 := hb1.size
            have hl1 : (acc ++ [32]).length = acc.length + 1 := by simp
            clear hown' hgrow hown
            go_wp2_with (at_builtin; refine wpList_append_own _ rfl _ _ 65 rfl w.heap.size 5 i0 (.int .u8 0) 1 1 Tryz.underlying65 hi hz0 hz1 hz2 rfl (by decide) _ _ _ rfl (ho1.alloc _) ⟨w1.heap.size, 0, none⟩ 1 1 [.int .u8 (c.toNat : Nat)] rfl rfl ?f1 ?f2 ?f3 ?f4 ?f5 ?_)
            try (case f1 => intro j u hu; rw [add_eq, World.cell?_alloc_new]; simpa using hu)
            try (case f2 => first | rfl | (intro u hu; simp at hu; subst hu; rfl))
            case f3 => unfold maxLen; first | omega | (simp; omega)
            case f4 => first | omega | (simp; omega)
            case f5 => first | omega | (simp; omega)
            intro v2 w2 hown' hgrow _
            rw [← hl1] at hown'
            obtain ⟨ho2, hb2⟩ := lab_step ho1 hb1 hown' hgrow
            clear hown' hgrow
            go_wp2
            go_roundg g
            case rel => exact ⟨k + 1, acc ++ [32] ++ [c], false, by omega, by go_num, rfl, ho2, by simp; omega, Lib.hid (by rw [← HST.out, HS.out]; rfl), hb2⟩
            case measure => omega
end Ks
end Go.Proofs.YtfabiidohdkkcaaGreatDoor
