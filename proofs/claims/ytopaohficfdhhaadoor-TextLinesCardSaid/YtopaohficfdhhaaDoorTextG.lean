/- Walks of layer 1, the seventh part: the reference's Lines, Join, Blank. -/
import Derived.Test.YtopaohficfdhhaaDoorTextF
namespace Go.Proofs.YtopaohficfdhhaaDoor
open Go Go.RowKit
namespace Tx
set_option maxRecDepth 100000
set_option linter.unusedVariables false
set_option linter.unusedSimpArgs false

theorem dlen (s : ByteArray) : s.data.toList.length = s.size := by rw [Array.length_toList]; rfl

theorem byte_at (s : ByteArray) (k : Nat) (hlt : k < s.size) : ∃ t, s.data.toList.drop k = s[k] :: t ∧ t.length + 1 + k = s.size := by
  have hd : s.data.toList.drop k = s.data.toList[k]'(by rw [dlen]; exact hlt) :: s.data.toList.drop (k + 1) := List.drop_eq_getElem_cons _
  refine ⟨_, hd, ?_⟩
  rw [List.length_drop, dlen]; omega

theorem noEnd_snoc {l : List UInt8} {k : Nat} {c : UInt8} {t : List UInt8} (hn : NoEnd (l.take k)) (hd : l.drop k = c :: t) (hc : isEnd c = false) : NoEnd (l.take (k + 1)) := by
  intro x hx
  rw [List.take_add_one] at hx
  rcases List.mem_append.1 hx with hx | hx
  · exact hn x hx
  · have h0 := congrArg (fun l => l[0]?) hd
    simp at h0
    simp [h0] at hx
    subst hx; exact hc

theorem isEnd_int (c : UInt8) : isEnd c = ((c.toNat : Int) == 10 || (c.toNat : Int) == 13) := by
  have h : ∀ n : Nat, n < 256 → ((c == UInt8.ofNat n) = ((c.toNat : Int) == (n : Int))) := by
    intro n hn
    rw [Bool.eq_iff_iff]
    simp only [beq_iff_eq]
    constructor
    · intro e; subst e; simp; omega
    · intro e; rw [← UInt8.toNat_inj]; simp; omega
  unfold isEnd
  have h10 := h 10 (by decide)
  have h13 := h 13 (by decide)
  exact congr (congrArg or h10) h13

def RL (s s' : ByteArray) (m : Nat) : Prop := s'.data.toList = restOf s.data.toList ∧ s'.size < m

theorem rl_mk {s : ByteArray} {j k : Nat} (hne : 0 < s.size) (hj : (s.data.toList.drop j) = restOf s.data.toList) : RL s (s.extract j s.size) s.size := by
  refine ⟨by rw [Lib.extract_to_end, hj], ?_⟩
  have h1 : (s.extract j s.size).data.toList.length = (s.extract j s.size).size := dlen _
  rw [Lib.extract_to_end, hj] at h1
  have := restOf_le s.data.toList
  rw [dlen] at this
  omega

theorem rlines_rel {w wr w1 : World} {s s' : ByteArray} {l : List UInt8} {A : List (List UInt8)} {o : Obj} {s4 v' : Value} {x : ByteArray} (hr : s.data.toList ≠ []) (hown : wr.ownsRow w.heap.size 9 1 s4 A.length (A.map str)) (hacc : A ++ lines s.data.toList = lines l) (hal : A.length + s.size ≤ l.length)
    (hbw : Below w.heap.size w wr) (hx : x.data.toList = lineOf s.data.toList) (hs' : RL s s' s.size) (hown' : w1.ownsRow w.heap.size 9 1 v' (A.length + 1) (A.map str ++ [.string x])) (hgrow : (wr.alloc o).grownBy w1 s4.ownBlock) :
    ∃ (t : ByteArray) (A' : List (List UInt8)), t.size = s'.size ∧ Value.string s' = .string t ∧ w1.ownsRow w.heap.size 9 1 v' A'.length (A'.map str) ∧ A' ++ lines t.data.toList = lines l ∧ Below w.heap.size w w1 ∧ A'.length + t.size ≤ l.length := by
  have hsz := hbw.size
  have hxs : Value.string x = str (lineOf s.data.toList) := by rw [← hx]; rfl
  rw [hxs] at hown'
  refine ⟨s', A ++ [lineOf s.data.toList], rfl, rfl, by simpa using hown', ?_, (hbw.alloc (by omega) _).grown hgrow (by simp; omega) (fun k hk => (hown.lt k hk).1), ?_⟩
  · rw [← hacc, lines_ne _ hr, hs'.1]; simp
  · have := hs'.2; simp; omega

set_option maxHeartbeats 2000000 in
theorem rlines_any (s0 : ByteArray) (w : World) (hs : s0.size ≤ 1099511627776) :
    Calls Tryd.prog 17 #[.string s0] w fun e w' => ∃ v, e = .returned v ∧ OwnL w' w.heap.size v (lines s0.data.toList) ∧ Below w.heap.size w w' := by
  obtain ⟨i0, hi, hz0, hz1, hz2⟩ := info_parts info9
  have hl0 := dlen s0
  obtain ⟨l, hl⟩ : ∃ l, s0.data.toList = l := ⟨_, rfl⟩
  rw [hl] at hl0 ⊢
  have Hl := Lib.hid hl
  clear hl
  go_enter Tryd.func17, Tryd.ntmps17
  go_wp2
  go_loopg [0, 3] s0.size (fun g s0 s3 wr => ∃ (s : ByteArray) (A : List (List UInt8)), s.size = g ∧ s0 = .string s ∧ wr.ownsRow w.heap.size 9 1 s3 A.length (A.map str) ∧ A ++ lines s.data.toList = lines l ∧ Below w.heap.size w wr ∧ A.length + s.size ≤ l.length)
  case atStart => exact ⟨s0, [], rfl, rfl, ⟨rfl, Or.inl ⟨rfl, rfl⟩⟩, by rw [Hl.out]; rfl, Below.refl _ _, by simp; omega⟩
  case round =>
    obtain ⟨s, A, rfl, rfl, hown, hacc, hbw, hal⟩ := hrel
    have hsz := hbw.size
    have hdl := dlen s
    by_cases hr : s.size = 0
    · have hnil : s.data.toList = [] := List.length_eq_zero_iff.1 (by omega)
      rw [hnil, lines_nil, List.append_nil] at hacc
      have hr2 : ¬ ((0 : Int) < (s.size : Int)) := by omega
      have Hacc := Lib.hid hacc
      clear hr hnil hacc
      go_wp2
      go_ret
      exact ⟨_, rfl, by rw [← Hacc.out]; exact hown, hbw⟩
    · have hpos : 0 < s.size := by omega
      have hr2 : ((0 : Int) < (s.size : Int)) := by omega
      have Hacc := Lib.hid hacc
      clear hacc hr
      go_wp2
      obtain ⟨wo, rfl⟩ : ∃ wo : World, wo = wr := ⟨_, rfl⟩
      go_loopg [4] s.size (fun g s4 wx => ∃ k : Nat, k + g = s.size ∧ s4 = .int .i64 k ∧ Hid (NoEnd (s.data.toList.take k)) ∧ wx = wo)
      case atStart => exact ⟨0, by omega, rfl, Lib.hid (by intro c hc; simp at hc), rfl⟩
      case round =>
        obtain ⟨k, hkg, rfl, HN, rfl⟩ := hrel
        obtain ⟨wx, rfl⟩ : ∃ wx : World, wx = wr := ⟨_, rfl⟩
        have Hr : Hid (s.data.toList ≠ []) := Lib.hid (by intro e; rw [e] at hdl; simp at hdl; omega)
        have hk : k ≤ s.size := by omega
        have Hx : Hid (lineOf s.data.toList = s.data.toList.take k → (s.extract 0 k).data.toList = lineOf s.data.toList) := Lib.hid (by intro e; rw [e, Lib.extract_data]; simp)
        by_cases hlt : k < s.size
        · obtain ⟨t, hd, htl⟩ := byte_at s k hlt
          have HD := Lib.hid hd
          clear hd
          by_cases he : isEnd s[k] = true
          · have HL := Lib.hid (line_at HN.out HD.out he)
            have HDk : Hid (s.data.toList.drop (k + 1) = t) := Lib.hid (by rw [← List.drop_drop, HD.out]; rfl)
            have he2 : ((s[k].toNat : Int) == 10 || (s[k].toNat : Int) == 13) = true := by rw [← isEnd_int]; exact he
            by_cases hk1 : k + 1 < s.size
            · obtain ⟨t2, hd2, htl2⟩ := byte_at s (k + 1) hk1
              rw [HDk.out] at hd2
              by_cases h13 : (s[k].toNat : Int) = 13
              · have hs13 : s[k] = 13 := UInt8.toNat_inj.1 (by simp; omega)
                by_cases h10 : (s[k + 1].toNat : Int) = 10
                · have hs10 : s[k + 1] = 10 := UInt8.toNat_inj.1 (by simp; omega)
                  have HJ : Hid (RL s (s.extract (min (((k : Int) + 1) + 1) (s.size : Int)).toNat s.size) s.size) := Lib.hid (by
                    rw [show (min (((k : Int) + 1) + 1) (s.size : Int)).toNat = k + 2 from by omega]
                    refine rl_mk (k := k) hpos ?_
                    rw [HL.out.2, hd2, hs13, hs10, show k + 2 = (k + 1) + 1 from rfl, ← List.drop_drop, HDk.out, hd2]; rfl)
                  have hk1' : (k : Int) + 1 < (s.size : Int) := by omega
                  clear he he2 hd2 hs13 hs10
                  go_wp2_with (at_builtin; refine wpList_append_own _ rfl _ _ 28 rfl w.heap.size 9 i0 (.string ByteArray.empty) 1 16 Tryd.underlying28 hi hz0 hz1 hz2 rfl (by decide) _ _ _ rfl (hown.alloc _) ⟨wx.heap.size, 0, none⟩ 1 1 [.string (s.extract 0 k)] rfl rfl ?qe1 ?qe2 ?qe3 ?qe4 ?qe5 ?_)
                  try (case qe1 => intro j u hu; rw [add_eq, World.cell?_alloc_new]; simpa using hu)
                  try (case qe2 => first | rfl | (intro u hu; simp at hu; subst hu; rfl))
                  try (case qe3 => unfold maxLen; omega)
                  try (case qe4 => omega)
                  try (case qe5 => first | omega | (simp; omega))
                  intro v' w1 hown' hgrow _
                  go_wp2
                  go_roundg (s.extract (min (((k : Int) + 1) + 1) (s.size : Int)).toNat s.size).size
                  case rel => exact rlines_rel Hr.out hown Hacc.out hal hbw (Hx.out HL.out.1) HJ.out hown' hgrow
                  case measure => exact HJ.out.2
                · have HJ : Hid (RL s (s.extract (min ((k : Int) + 1) (s.size : Int)).toNat s.size) s.size) := Lib.hid (by
                    rw [show (min ((k : Int) + 1) (s.size : Int)).toNat = k + 1 from by omega]
                    refine rl_mk (k := k) hpos ?_
                    rw [HL.out.2, HDk.out, hs13, hd2]
                    unfold cutEnd; split
                    · simp at *
                    · rename_i heq; simp at heq; exact absurd (by rw [heq.1]; rfl) h10
                    · rename_i heq; simp at heq; exact heq.2)
                  have hk1' : (k : Int) + 1 < (s.size : Int) := by omega
                  have b10 : ((s[k + 1].toNat : Int) == 10) = false := by simpa using h10
                  clear he he2 hd2 hs13
                  go_wp2_with (at_builtin; refine wpList_append_own _ rfl _ _ 28 rfl w.heap.size 9 i0 (.string ByteArray.empty) 1 16 Tryd.underlying28 hi hz0 hz1 hz2 rfl (by decide) _ _ _ rfl (hown.alloc _) ⟨wx.heap.size, 0, none⟩ 1 1 [.string (s.extract 0 k)] rfl rfl ?qd1 ?qd2 ?qd3 ?qd4 ?qd5 ?_)
                  try (case qd1 => intro j u hu; rw [add_eq, World.cell?_alloc_new]; simpa using hu)
                  try (case qd2 => first | rfl | (intro u hu; simp at hu; subst hu; rfl))
                  try (case qd3 => unfold maxLen; omega)
                  try (case qd4 => omega)
                  try (case qd5 => first | omega | (simp; omega))
                  intro v' w1 hown' hgrow _
                  go_wp2
                  go_roundg (s.extract (min ((k : Int) + 1) (s.size : Int)).toNat s.size).size
                  case rel => exact rlines_rel Hr.out hown Hacc.out hal hbw (Hx.out HL.out.1) HJ.out hown' hgrow
                  case measure => exact HJ.out.2
              · have hs10 : (s[k].toNat : Int) = 10 := by simp only [Bool.or_eq_true, beq_iff_eq] at he2; omega
                have hs13 : s[k] ≠ 13 := fun e => h13 (by rw [e]; rfl)
                have HJ : Hid (RL s (s.extract (min ((k : Int) + 1) (s.size : Int)).toNat s.size) s.size) := Lib.hid (by
                    rw [show (min ((k : Int) + 1) (s.size : Int)).toNat = k + 1 from by omega]
                    refine rl_mk (k := k) hpos ?_
                    rw [HL.out.2, HDk.out]
                    unfold cutEnd; split
                    · simp at *
                    · rename_i heq; simp at heq; exact absurd heq.1 hs13
                    · rename_i heq; simp at heq; exact heq.2)
                have hk1' : (k : Int) + 1 < (s.size : Int) := by omega
                clear he he2 hd2 hs13 h13
                go_wp2_with (at_builtin; refine wpList_append_own _ rfl _ _ 28 rfl w.heap.size 9 i0 (.string ByteArray.empty) 1 16 Tryd.underlying28 hi hz0 hz1 hz2 rfl (by decide) _ _ _ rfl (hown.alloc _) ⟨wx.heap.size, 0, none⟩ 1 1 [.string (s.extract 0 k)] rfl rfl ?qc1 ?qc2 ?qc3 ?qc4 ?qc5 ?_)
                try (case qc1 => intro j u hu; rw [add_eq, World.cell?_alloc_new]; simpa using hu)
                try (case qc2 => first | rfl | (intro u hu; simp at hu; subst hu; rfl))
                try (case qc3 => unfold maxLen; omega)
                try (case qc4 => omega)
                try (case qc5 => first | omega | (simp; omega))
                intro v' w1 hown' hgrow _
                go_wp2
                go_roundg (s.extract (min ((k : Int) + 1) (s.size : Int)).toNat s.size).size
                case rel => exact rlines_rel Hr.out hown Hacc.out hal hbw (Hx.out HL.out.1) HJ.out hown' hgrow
                case measure => exact HJ.out.2
            · have HJ : Hid (RL s (s.extract (min ((k : Int) + 1) (s.size : Int)).toNat s.size) s.size) := Lib.hid (by
                    rw [show (min ((k : Int) + 1) (s.size : Int)).toNat = k + 1 from by omega]
                    refine rl_mk (k := k) hpos ?_
                    have ht : t = [] := List.length_eq_zero_iff.1 (by omega)
                    rw [HL.out.2, HDk.out, ht]
                    unfold cutEnd; split <;> simp_all)
              have hk1' : ¬ ((k : Int) + 1 < (s.size : Int)) := by omega
              have hor : (s[k].toNat : Int) = 10 ∨ (s[k].toNat : Int) = 13 := by simp only [Bool.or_eq_true, beq_iff_eq] at he2; exact he2
              clear he he2
              rcases hor with hv | hv
              · skip
                go_wp2_with (at_builtin; refine wpList_append_own _ rfl _ _ 28 rfl w.heap.size 9 i0 (.string ByteArray.empty) 1 16 Tryd.underlying28 hi hz0 hz1 hz2 rfl (by decide) _ _ _ rfl (hown.alloc _) ⟨wx.heap.size, 0, none⟩ 1 1 [.string (s.extract 0 k)] rfl rfl ?qb1 ?qb2 ?qb3 ?qb4 ?qb5 ?_)
                try (case qb1 => intro j u hu; rw [add_eq, World.cell?_alloc_new]; simpa using hu)
                try (case qb2 => first | rfl | (intro u hu; simp at hu; subst hu; rfl))
                try (case qb3 => unfold maxLen; omega)
                try (case qb4 => omega)
                try (case qb5 => first | omega | (simp; omega))
                intro v' w1 hown' hgrow _
                go_wp2
                go_roundg (s.extract (min ((k : Int) + 1) (s.size : Int)).toNat s.size).size
                case rel => exact rlines_rel Hr.out hown Hacc.out hal hbw (Hx.out HL.out.1) HJ.out hown' hgrow
                case measure => exact HJ.out.2
              · skip
                go_wp2_with (at_builtin; refine wpList_append_own _ rfl _ _ 28 rfl w.heap.size 9 i0 (.string ByteArray.empty) 1 16 Tryd.underlying28 hi hz0 hz1 hz2 rfl (by decide) _ _ _ rfl (hown.alloc _) ⟨wx.heap.size, 0, none⟩ 1 1 [.string (s.extract 0 k)] rfl rfl ?qf1 ?qf2 ?qf3 ?qf4 ?qf5 ?_)
                try (case qf1 => intro j u hu; rw [add_eq, World.cell?_alloc_new]; simpa using hu)
                try (case qf2 => first | rfl | (intro u hu; simp at hu; subst hu; rfl))
                try (case qf3 => unfold maxLen; omega)
                try (case qf4 => omega)
                try (case qf5 => first | omega | (simp; omega))
                intro v' w1 hown' hgrow _
                go_wp2
                go_roundg (s.extract (min ((k : Int) + 1) (s.size : Int)).toNat s.size).size
                case rel => exact rlines_rel Hr.out hown Hacc.out hal hbw (Hx.out HL.out.1) HJ.out hown' hgrow
                case measure => exact HJ.out.2
          · have he2 : ((s[k].toNat : Int) == 10 || (s[k].toNat : Int) == 13) = false := by rw [← isEnd_int]; simpa using he
            have h10 : ((s[k].toNat : Int) == 10) = false := by simp only [Bool.or_eq_false_iff] at he2; exact he2.1
            have h13 : ((s[k].toNat : Int) == 13) = false := by simp only [Bool.or_eq_false_iff] at he2; exact he2.2
            have b10 : ((s[k].toNat : Int) != 10) = true := by simpa using h10
            have b13 : ((s[k].toNat : Int) != 13) = true := by simpa using h13
            have n10 : ¬ (s[k].toNat : Int) = 10 := by simpa using h10
            have n13 : ¬ (s[k].toNat : Int) = 13 := by simpa using h13
            have HS := Lib.hid (noEnd_snoc HN.out HD.out (by simpa using he))
            clear he he2
            go_wp2
            go_roundg (s.size - (k + 1))
            case rel => exact ⟨k + 1, by omega, by go_num, HS, rfl⟩
            case measure => omega
        · have hke : k = s.size := by omega
          have HL : Hid (lineOf s.data.toList = s.data.toList.take k ∧ restOf s.data.toList = []) := Lib.hid (by
            have hn := HN.out
            rw [List.take_of_length_le (by omega)] at hn ⊢
            have htw := tw_all (fun c => !isEnd c) s.data.toList (noEnd_p hn)
            exact ⟨by unfold lineOf; rw [htw.1], by unfold restOf; rw [htw.2]; rfl⟩)
          have HJ : Hid (RL s (s.extract (min ((k : Int) + 1) (s.size : Int)).toNat s.size) s.size) := Lib.hid (by
            refine rl_mk (k := k) hpos ?_
            rw [HL.out.2]; exact List.drop_eq_nil_of_le (by omega))
          have hk1 : ¬ ((k : Int) + 1 < (s.size : Int)) := by omega
          clear hke
          go_wp2_with (at_builtin; refine wpList_append_own _ rfl _ _ 28 rfl w.heap.size 9 i0 (.string ByteArray.empty) 1 16 Tryd.underlying28 hi hz0 hz1 hz2 rfl (by decide) _ _ _ rfl (hown.alloc _) ⟨wx.heap.size, 0, none⟩ 1 1 [.string (s.extract 0 k)] rfl rfl ?qa1 ?qa2 ?qa3 ?qa4 ?qa5 ?_)
          try (case qa1 => intro j u hu; rw [add_eq, World.cell?_alloc_new]; simpa using hu)
          try (case qa2 => first | rfl | (intro u hu; simp at hu; subst hu; rfl))
          try (case qa3 => unfold maxLen; omega)
          try (case qa4 => omega)
          try (case qa5 => first | omega | (simp; omega))
          intro v' w1 hown' hgrow _
          go_wp2
          go_roundg (s.extract (min ((k : Int) + 1) (s.size : Int)).toNat s.size).size
          case rel => exact rlines_rel Hr.out hown Hacc.out hal hbw (Hx.out HL.out.1) HJ.out hown' hgrow
          case measure => exact HJ.out.2
end Tx
end Go.Proofs.YtopaohficfdhhaaDoor
