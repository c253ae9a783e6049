/- Walks of layer 5, the third part: Href. -/
import Derived.Test.YtimmifoicihadaaDoorEscB
import Derived.Laws.BitsAllLaws
import Derived.Laws.BitsLemmas
namespace Go.Proofs.YtimmifoicihadaaDoor
open Go Go.RowKit
namespace Es
open En
set_option maxRecDepth 100000
set_option linter.unusedVariables false
set_option linter.unusedSimpArgs false

theorem idx_cons (b : UInt8) (t : List UInt8) (c : UInt8) : Lib.indexByte (b :: t) c = if b == c then 0 else if Lib.indexByte t c == -1 then -1 else Lib.indexByte t c + 1 := rfl
theorem idx_mem (l : List UInt8) (c : UInt8) : l.contains c = decide (0 ≤ Lib.indexByte l c) := by
  induction l with
  | nil => rfl
  | cons b t ih =>
    rw [List.contains_cons, ih, idx_cons]
    have hge := Lib.indexByte_ge t c
    generalize Lib.indexByte t c = z at *
    by_cases h : b = c
    · subst h; simp
    · have h1 : (b == c) = false := by simpa using h
      have h2 : (c == b) = false := by simpa using (fun e => h e.symm)
      rw [h1, h2, Bool.false_or, if_neg (by simp)]
      by_cases h3 : z = -1
      · subst h3; rfl
      · rw [if_neg (by simpa using h3), decide_eq_decide]
        omega
theorem and15N : ∀ n : Nat, n < 256 → bits .and .u8 (n : Int) 15 = ((n % 16 : Nat) : Int) := by decide +kernel
def hexS : ByteArray := ⟨#[48, 49, 50, 51, 52, 53, 54, 55, 56, 57, 65, 66, 67, 68, 69, 70]⟩
theorem hex_at : ∀ (n : Nat) (h : n < hexS.size), hexS[n] = hxD n := by decide +kernel

theorem hrB_ok {c : UInt8} (h : okB c = true) : hrB c = [c] := by unfold hrB; rw [if_pos h]
theorem okB_letter {c : UInt8} (h : lett (c.toNat : Int) = true) : okB c = true := by unfold okB isAl; rw [h]; rfl
theorem okB_digit {c : UInt8} (h : digi (c.toNat : Int) = true) : okB c = true := by unfold okB isAl; rw [h, Bool.or_true, Bool.true_or]
theorem okB_idx {c : UInt8} (h1 : lett (c.toNat : Int) = false) (h2 : digi (c.toNat : Int) = false) : okB c = decide (0 ≤ Lib.indexByte asIs c) := by unfold okB isAl; rw [h1, h2, ← idx_mem]; rfl
theorem hrB_amp : hrB 38 = ampB := by decide +kernel
theorem hrB_apos : hrB 39 = aposB := by decide +kernel
theorem hrB_pct {c : UInt8} (h : okB c = false) (h1 : c ≠ 38) (h2 : c ≠ 39) : hrB c = pctB c := by
  unfold hrB
  rw [h, if_neg (by simp), if_neg h1, if_neg h2]

set_option maxHeartbeats 2000000 in
theorem href_any (s : ByteArray) (w : World) (hs : s.size ≤ 1000000) :
    Calls Tryd.prog 13 #[.string s] w fun e w' => e = .returned (str (href s.data.toList)) ∧ Below w.heap.size w w' := by
  have hdl := Lib.hid (sz s)
  have HX : Hid (∀ (c : UInt8) (w : World), Calls Tryd.prog 25 #[.string ⟨#[33, 35, 36, 37, 40, 41, 42, 43, 44, 45, 46, 47, 58, 59, 61, 63, 64, 95, 126]⟩, .int .u8 (c.toNat : Int)] w fun e w' => e = .returned (.int .i64 (Lib.indexByte asIs c)) ∧ w' = w) := Lib.hid (fun c w => by
    have := Tryd.strings_IndexByte ⟨#[33, 35, 36, 37, 40, 41, 42, 43, 44, 45, 46, 47, 58, 59, 61, 63, 64, 95, 126]⟩ (c.toNat : Int) w
    rw [show ((c.toNat : Int).toNat.toUInt8) = c by rw [Int.toNat_natCast]; exact UInt8.ofNat_toNat] at this
    exact this)
  go_enter Tryd.func13, Tryd.ntmps13
  go_wp2_with (go_at_call 19; refine (Tryd.Builder_Grow_fresh w.heap.size w.heap.size s.size _ (Nat.le_refl _) ?g1 ?g2 ?g3).mono ?_)
  case g1 => simp only [World.alloc, Array.getElem?_push_size]
  case g2 => simp
  case g3 => omega
  rintro e w1 ⟨rfl, hb1, hbw1⟩
  have hbw0 : Below w.heap.size w w1 := ((Below.refl _ w).alloc (Nat.le_refl _) _).trans hbw1
  have hB1 : BF w.heap.size [] w1 := Lib.IsBuilderF.of (Or.inr hb1)
  clear hbw1 hb1
  go_wp2
  go_loopg [11] s.size (fun g s11 wr => ∃ k : Nat, k + g = s.size ∧ s11 = .int .i64 k ∧ BF w.heap.size (href (s.data.toList.take k)) wr ∧ Below w.heap.size w wr)
  case atStart => exact ⟨0, by omega, rfl, hB1, hbw0⟩
  case round =>
    obtain ⟨k, hkg, rfl, hB, hbw⟩ := hrel
    have hsz := hbw.size
    clear hB1 hbw0
    cases gk with
    | zero =>
      have hkl : ¬ ((k : Int) < (s.size : Int)) := by omega
      have hk2 : s.data.toList.length ≤ k := by rw [hdl.out]; omega
      go_wp2_with (go_at_call 22; refine (Tryd.Builder_String_any_f w.heap.size w.heap.size _ _ hB hsz).mono ?_; rintro e w3 ⟨rfl, _, hb3⟩)
      go_ret
      rw [List.take_of_length_le hk2]
      exact ⟨rfl, hbw.trans hb3⟩
    | succ g =>
      have hkl : (k : Int) < (s.size : Int) := by omega
      have hk2 : k < s.size := by omega
      obtain ⟨c, t, hd, hck, _⟩ := cons_at hk2
      have HT : Hid (href (s.data.toList.take (k + 1)) = href (s.data.toList.take k) ++ hrB c) := Lib.hid (by
        rw [take_href _ _ (by rw [hdl.out]; exact hk2)]
        congr 2)
      have hlen : (href (s.data.toList.take k)).length ≤ 5000000 := by
        have := (href_len (s.data.toList.take k)).2
        rw [List.length_take, hdl.out] at this
        omega
      have HL := Lib.hid (letter_any (c.toNat : Int))
      have HD := Lib.hid (digit_any (c.toNat : Int))
      clear hd
      cases hl : lett (c.toNat : Int) with
      | true =>
        have HN := Lib.hid (hrB_ok (okB_letter hl))
        rw [hl] at HL
        clear hl
        go_wp2_with fail
        refine (HL.out _).mono ?_
        rintro e w' ⟨rfl, rfl⟩
        go_wp2_with (go_at_call 21; refine (Tryd.Builder_WriteByte_k w.heap.size w.heap.size _ _ _ hB ?a1 hsz).mono ?_)
        case a1 => rw [Lib.byteCells_length]; omega
        rintro e w3 ⟨rfl, hb3, hbw3, _⟩
        go_wp2
        go_roundg g
        case rel => exact ⟨k + 1, by omega, by go_num, bf_byte hb3 rfl (by rw [HT.out, HN.out]), hbw.trans hbw3⟩
        case measure => omega
      | false =>
      rw [hl] at HL
      cases hdg : digi (c.toNat : Int) with
      | true =>
        have HN := Lib.hid (hrB_ok (okB_digit hdg))
        rw [hdg] at HD
        clear hl hdg
        go_wp2_with fail
        refine (HL.out _).mono ?_
        rintro e w' ⟨rfl, rfl⟩
        go_wp2_with fail
        refine (HD.out _).mono ?_
        rintro e w' ⟨rfl, rfl⟩
        go_wp2_with (go_at_call 21; refine (Tryd.Builder_WriteByte_k w.heap.size w.heap.size _ _ _ hB ?a2 hsz).mono ?_)
        case a2 => rw [Lib.byteCells_length]; omega
        rintro e w3 ⟨rfl, hb3, hbw3, _⟩
        go_wp2
        go_roundg g
        case rel => exact ⟨k + 1, by omega, by go_num, bf_byte hb3 rfl (by rw [HT.out, HN.out]), hbw.trans hbw3⟩
        case measure => omega
      | false =>
      rw [hdg] at HD
      have hok := okB_idx hl hdg
      have HI := Lib.hid (HX.out c)
      generalize Lib.indexByte asIs c = z at *
      by_cases hz : 0 ≤ z
      · have HN := Lib.hid (hrB_ok (c := c) (by rw [hok, decide_eq_true hz]))
        clear hl hdg hok
        go_wp2_with fail
        refine (HL.out _).mono ?_
        rintro e w' ⟨rfl, rfl⟩
        go_wp2_with fail
        refine (HD.out _).mono ?_
        rintro e w' ⟨rfl, rfl⟩
        go_wp2_with fail
        refine (HI.out _).mono ?_
        rintro e w' ⟨rfl, rfl⟩
        go_wp2_with (go_at_call 21; refine (Tryd.Builder_WriteByte_k w.heap.size w.heap.size _ _ _ hB ?a3 hsz).mono ?_)
        case a3 => rw [Lib.byteCells_length]; omega
        rintro e w3 ⟨rfl, hb3, hbw3, _⟩
        go_wp2
        go_roundg g
        case rel => exact ⟨k + 1, by omega, by go_num, bf_byte hb3 rfl (by rw [HT.out, HN.out]), hbw.trans hbw3⟩
        case measure => omega
      have hokf : okB c = false := by rw [hok, decide_eq_false hz]
      clear hl hdg hok
      by_cases h1 : c = 38
      · subst h1
        clear hokf
        go_wp2_with fail
        refine (HL.out _).mono ?_
        rintro e w' ⟨rfl, rfl⟩
        go_wp2_with fail
        refine (HD.out _).mono ?_
        rintro e w' ⟨rfl, rfl⟩
        go_wp2_with fail
        refine (HI.out _).mono ?_
        rintro e w' ⟨rfl, rfl⟩
        go_wp2_with (go_at_call 20; refine (Tryd.Builder_WriteString_k w.heap.size w.heap.size _ _ _ hB ?a4 hsz).mono ?_)
        case a4 => rw [Lib.byteCells_length, size_mk [38, 97, 109, 112, 59]]; simp; omega
        rintro e w3 ⟨rfl, hb3, hbw3, _⟩
        go_wp2
        go_roundg g
        case rel => exact ⟨k + 1, by omega, by go_num, bf_str hb3 rfl (by rw [HT.out, hrB_amp]; rfl), hbw.trans hbw3⟩
        case measure => omega
      have e1 : ((c.toNat : Int) == 38) = false := u8_ne (n := 38) (by decide) h1
      by_cases h2 : c = 39
      · subst h2
        clear hokf h1 e1
        go_wp2_with fail
        refine (HL.out _).mono ?_
        rintro e w' ⟨rfl, rfl⟩
        go_wp2_with fail
        refine (HD.out _).mono ?_
        rintro e w' ⟨rfl, rfl⟩
        go_wp2_with fail
        refine (HI.out _).mono ?_
        rintro e w' ⟨rfl, rfl⟩
        go_wp2_with (go_at_call 20; refine (Tryd.Builder_WriteString_k w.heap.size w.heap.size _ _ _ hB ?a5 hsz).mono ?_)
        case a5 => rw [Lib.byteCells_length, size_mk [38, 35, 51, 57, 59]]; simp; omega
        rintro e w3 ⟨rfl, hb3, hbw3, _⟩
        go_wp2
        go_roundg g
        case rel => exact ⟨k + 1, by omega, by go_num, bf_str hb3 rfl (by rw [HT.out, hrB_apos]; rfl), hbw.trans hbw3⟩
        case measure => omega
      have e2 : ((c.toNat : Int) == 39) = false := u8_ne (n := 39) (by decide) h2
      have HN := Lib.hid (hrB_pct hokf h1 h2)
      clear hokf h1 h2
      have hc256 := c.toNat_lt
      have hd16 : (c.toNat : Int) / 16 = ((c.toNat / 16 : Nat) : Int) := by omega
      have hm16 := and15N c.toNat hc256
      have hj : c.toNat / 16 < 16 := by omega
      have hj2 : c.toNat % 16 < 16 := by omega
      have X1 := hex_at (c.toNat / 16) hj
      have X2 := hex_at (c.toNat % 16) hj2
      unfold hexS at X1 X2
      have HP : Hid (pctB c = [37] ++ [hxD (c.toNat / 16)] ++ [hxD (c.toNat % 16)]) := Lib.hid rfl
      generalize hxD (c.toNat / 16) = x1 at *
      generalize hxD (c.toNat % 16) = x2 at *
      generalize c.toNat / 16 = j1 at *
      generalize c.toNat % 16 = j2 at *
      go_wp2_with fail
      refine (HL.out _).mono ?_
      rintro e w' ⟨rfl, rfl⟩
      go_wp2_with fail
      refine (HD.out _).mono ?_
      rintro e w' ⟨rfl, rfl⟩
      go_wp2_with fail
      refine (HI.out _).mono ?_
      rintro e w' ⟨rfl, rfl⟩
      go_wp2_with (go_at_call 21; refine (Tryd.Builder_WriteByte_k w.heap.size w.heap.size _ _ _ hB ?a6 hsz).mono ?_)
      case a6 => rw [Lib.byteCells_length]; omega
      rintro e w3 ⟨rfl, hb3, hbw3, _⟩
      have hB3 : BF w.heap.size (href (s.data.toList.take k) ++ [37]) w3 := bf_byte (c := 37) hb3 rfl rfl
      have hsz3 := (hbw.trans hbw3).size
      go_wp2_with (go_at_call 21; refine (Tryd.Builder_WriteByte_k w.heap.size w.heap.size _ _ _ hB3 ?a7 hsz3).mono ?_)
      case a7 => rw [Lib.byteCells_length, List.length_append]; simp; omega
      rintro e w4 ⟨rfl, hb4, hbw4, _⟩
      have hB4 : BF w.heap.size (href (s.data.toList.take k) ++ [37] ++ [x1]) w4 := bf_byte hb4 rfl rfl
      have hsz4 := ((hbw.trans hbw3).trans hbw4).size
      go_wp2_with (go_at_call 21; refine (Tryd.Builder_WriteByte_k w.heap.size w.heap.size _ _ _ hB4 ?a8 hsz4).mono ?_)
      case a8 => rw [Lib.byteCells_length, List.length_append, List.length_append]; simp; omega
      rintro e w5 ⟨rfl, hb5, hbw5, _⟩
      go_wp2
      go_roundg g
      case rel => exact ⟨k + 1, by omega, by go_num, bf_byte hb5 rfl (by rw [HT.out, HN.out, HP.out]; simp), ((hbw.trans hbw3).trans hbw4).trans hbw5⟩
      case measure => omega
end Es
end Go.Proofs.YtimmifoicihadaaDoor
