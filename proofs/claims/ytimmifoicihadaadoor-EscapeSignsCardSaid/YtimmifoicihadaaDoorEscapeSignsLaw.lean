/- EscapeSigns: the law's walk. -/
import Derived.Test.YtimmifoicihadaaDoorEscI
namespace Go.Proofs.YtimmifoicihadaaDoor
open Go Go.RowKit
namespace EscapeSigns
open En Es
set_option maxRecDepth 100000
set_option linter.unusedVariables false
set_option linter.unusedSimpArgs false

theorem bk_true {c : UInt8} (h : sgI (c.toNat : Int) = true) : bkB c = [92] ++ [c] := by unfold bkB sg; rw [h]; rfl
theorem bk_false {c : UInt8} (h : sgI (c.toNat : Int) = false) : bkB c = [c] := by unfold bkB sg; rw [h]; rfl

set_option maxHeartbeats 4000000 in
theorem law_any (s : ByteArray) (w : World) (hL : LaidK w) (hs : s.size ≤ maxLen) :
    Calls Tryd.prog 6 #[.string s] w fun e w' => e = .returned (.bool true) ∧ Below w.heap.size w w' := by
  unfold maxLen at hs
  obtain ⟨i0, hi, hz0, hz1, hz2⟩ := info_parts info5
  have HA := Lib.hid (Es.frm_awake hL)
  have hb0 := Below.refl w.heap.size w
  by_cases hbig : 2000 < s.size
  · have hb' : (2000 : Int) < (s.size : Int) := by omega
    clear hL
    go_enter Tryd.func6, Tryd.ntmps6
    go_wp2_with fail
    refine (HA.out _ hb0).mono ?_
    rintro e w1 ⟨rfl, hb1⟩
    go_wp2
    go_ret
    exact ⟨rfl, hb1⟩
  · have hb' : (s.size : Int) ≤ 2000 := by omega
    have hb2' : s.size ≤ 2000 := by omega
    have hl : s.data.toList.length ≤ 2000 := by rw [sz]; omega
    have hl2 := (back_len s.data.toList).2
    have F1 := Lib.hid (frm_str (s := s) (frm_une hL (s := ⟨(back s.data.toList).toArray⟩) rfl (une_back _) (by show (back s.data.toList).length ≤ _; omega)) (mk_self s))
    have HS := Lib.hid (fun (c : UInt8) W (h : LaidK W) => sign_any (c.toNat : Int) W (by omega) (by have := c.toNat_lt; omega) h)
    have HL := Lib.hid hL
    have hdl := Lib.hid (sz s)
    clear hL hbig hl hl2 hs
    go_enter Tryd.func6, Tryd.ntmps6
    go_wp2_with fail
    refine (HA.out _ hb0).mono ?_
    rintro e w1 ⟨rfl, hb1⟩
    clear hb0 HA
    go_wp2
    go_loopg [4, 5] s.size (fun g v4 v5 wr => ∃ (k : Nat) (acc : List UInt8), k + g = s.size ∧ v5 = .int .i64 (k : Int) ∧ Hid (acc = back (s.data.toList.take k)) ∧ wr.ownsRow w.heap.size 5 1 v4 acc.length (Lib.byteCells acc) ∧ acc.length ≤ 2 * k ∧ Below w.heap.size w wr)
    case atStart => exact ⟨0, [], by omega, rfl, Lib.hid rfl, ⟨rfl, Or.inl ⟨rfl, rfl⟩⟩, by simp, hb1⟩
    case round =>
      obtain ⟨k, acc, hkg, rfl, HAC, hown, hal, hbw⟩ := hrel
      have hsz := hbw.size
      clear hb1
      cases gk with
      | zero =>
        have hkl : ¬ ((k : Int) < (s.size : Int)) := by omega
        have hJ : acc = back s.data.toList := by rw [HAC.out, List.take_of_length_le (by rw [hdl.out]; omega)]
        have hcv := conv_own hown
        rw [hJ] at hcv
        clear hown HAC hJ
        go_wp2_with fail
        refine (F1.out _ hbw).mono ?_
        rintro e w2 ⟨rfl, hb2⟩
        go_wp2
        go_ret
        exact ⟨rfl, hb2⟩
      | succ g =>
        have hkl : (k : Int) < (s.size : Int) := by omega
        have hk2 : k < s.size := by omega
        obtain ⟨c, t, hd, hck, ht⟩ := cons_at hk2
        have HT : Hid (back (s.data.toList.take (k + 1)) = back (s.data.toList.take k) ++ bkB c) := Lib.hid (by
          rw [take_back _ _ (by rw [hdl.out]; exact hk2)]
          congr 2)
        have HSc := Lib.hid (HS.out c wr (HL.out.below hbw))
        have hmax : acc.length ≤ 20000000 := by omega
        clear hd ht
        cases hsg : sgI (c.toNat : Int) with
        | true =>
          have HN := Lib.hid (bk_true hsg)
          rw [hsg] at HSc
          clear hsg
          go_wp2_with fail
          refine HSc.out.mono ?_
          rintro e w2 ⟨rfl, rfl⟩
          go_wp2_with (at_builtin; refine wpList_append_own _ rfl _ _ 27 rfl w.heap.size 5 i0 (.int .u8 0) 1 1 Tryd.underlying27 hi hz0 hz1 hz2 rfl (by decide) _ _ _ rfl (hown.alloc _) ⟨wr.heap.size, 0, none⟩ 1 1 [.int .u8 ((92 : UInt8).toNat : Nat)] rfl rfl ?a1 ?a2 ?a3 ?a4 ?a5 ?_)
          try (case a1 => intro j u hu; rw [add_eq, World.cell?_alloc_new]; simpa using hu)
          try (case a2 => first | rfl | (intro u hu; simp at hu; subst hu; rfl))
          case a3 => unfold maxLen; first | omega | (simp; omega)
          case a4 => first | omega | (simp; omega)
          case a5 => first | omega | (simp; omega)
          intro v1 w1 hown' hgrow _
          obtain ⟨ho1, hb1⟩ := own_step (x := 92) hown hbw hown' hgrow
          have hsz1 := hb1.size
          have hl1 : (acc ++ [92]).length = acc.length + 1 := by simp
          clear hown' hgrow hown
          go_wp2_with (at_builtin; refine wpList_append_own _ rfl _ _ 27 rfl w.heap.size 5 i0 (.int .u8 0) 1 1 Tryd.underlying27 hi hz0 hz1 hz2 rfl (by decide) _ _ _ rfl (ho1.alloc _) ⟨w1.heap.size, 0, none⟩ 1 1 [.int .u8 (c.toNat : Nat)] rfl rfl ?d1 ?d2 ?d3 ?d4 ?d5 ?_)
          try (case d1 => intro j u hu; rw [add_eq, World.cell?_alloc_new]; simpa using hu)
          try (case d2 => first | rfl | (intro u hu; simp at hu; subst hu; rfl))
          case d3 => unfold maxLen; first | omega | (simp; omega)
          case d4 => first | omega | (simp; omega)
          case d5 => first | omega | (simp; omega)
          intro v2 w2 hown' hgrow _
          rw [← hl1] at hown'
          obtain ⟨ho2, hb2⟩ := own_step ho1 hb1 hown' hgrow
          clear hown' hgrow
          go_wp2
          go_roundg g
          case rel => exact ⟨k + 1, acc ++ [92] ++ [c], by omega, by go_num, Lib.hid (by rw [HT.out, HN.out, HAC.out]; simp), ho2, by simp; omega, hb2⟩
          case measure => omega
        | false =>
          have HN := Lib.hid (bk_false hsg)
          rw [hsg] at HSc
          clear hsg
          go_wp2_with fail
          refine HSc.out.mono ?_
          rintro e w2 ⟨rfl, rfl⟩
          go_wp2_with (at_builtin; refine wpList_append_own _ rfl _ _ 27 rfl w.heap.size 5 i0 (.int .u8 0) 1 1 Tryd.underlying27 hi hz0 hz1 hz2 rfl (by decide) _ _ _ rfl (hown.alloc _) ⟨wr.heap.size, 0, none⟩ 1 1 [.int .u8 (c.toNat : Nat)] rfl rfl ?e1 ?e2 ?e3 ?e4 ?e5 ?_)
          try (case e1 => intro j u hu; rw [add_eq, World.cell?_alloc_new]; simpa using hu)
          try (case e2 => first | rfl | (intro u hu; simp at hu; subst hu; rfl))
          case e3 => unfold maxLen; first | omega | (simp; omega)
          case e4 => first | omega | (simp; omega)
          case e5 => first | omega | (simp; omega)
          intro v2 w2 hown' hgrow _
          obtain ⟨ho2, hb2⟩ := own_step hown hbw hown' hgrow
          clear hown' hgrow
          go_wp2
          go_roundg g
          case rel => exact ⟨k + 1, acc ++ [c], by omega, by go_num, Lib.hid (by rw [HT.out, HN.out, HAC.out]), ho2, by simp; omega, hb2⟩
          case measure => omega
end EscapeSigns
end Go.Proofs.YtimmifoicihadaaDoor
