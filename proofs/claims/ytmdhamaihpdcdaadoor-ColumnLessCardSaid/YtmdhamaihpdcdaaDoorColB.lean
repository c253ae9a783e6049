/- Walks of layer 2, the second part: the reference's ends, the law's own helpers, awake. -/
import Derived.Test.YtmdhamaihpdcdaaDoorColA
namespace Go.Proofs.YtmdhamaihpdcdaaDoor
open Go Go.RowKit
namespace Cl
set_option maxRecDepth 100000
set_option linter.unusedVariables false
set_option linter.unusedSimpArgs false

theorem ret_bool {a b : Bool} (h : a = b) : Ending.returned (.bool a) = .returned (.bool b) := by rw [h]
theorem wht_int (c : UInt8) : wht c = (((c.toNat : Int) == 32) || (decide (9 ≤ (c.toNat : Int)) && decide ((c.toNat : Int) ≤ 13))) := by
  have h32 : (c == 32) = ((c.toNat : Int) == 32) := by
    rw [Bool.eq_iff_iff, beq_iff_eq, beq_iff_eq]
    constructor
    · rintro rfl; rfl
    · intro h; exact UInt8.toNat_inj.1 (by simpa using (by omega : c.toNat = 32))
  unfold wht
  rw [h32]
  congr 2 <;> rw [decide_eq_decide] <;> omega

theorem white_any (c : UInt8) (w : World) :
    Calls Tryd.prog 23 #[.int .u8 (c.toNat : Int)] w fun e w' => e = .returned (.bool (wht c)) ∧ w = w' := by
  have Hw := Lib.hid (wht_int c)
  have h0 : 0 ≤ (c.toNat : Int) := by omega
  generalize (c.toNat : Int) = x at *
  go_enter Tryd.func23, Tryd.ntmps23
  go_wp2
  all_goals (go_ret; refine ⟨ret_bool ?_, rfl⟩; rw [Hw.out]; simp [*] <;> omega)

theorem str_of {s : ByteArray} {l : List UInt8} (h : s.data.toList = l) : (.string s : Value) = str l := by subst h; rfl
theorem ret_str {s : ByteArray} {l : List UInt8} (h : s.data.toList = l) : Ending.returned (.string s) = .returned (str l) := by rw [str_of h]

set_option maxHeartbeats 1000000 in
theorem rleft_any (s : ByteArray) (w : World) (hs : s.size ≤ 1099511627776) :
    Calls Tryd.prog 13 #[.string s] w fun e w' => e = .returned (str (lft s.data.toList)) ∧ w = w' := by
  go_enter Tryd.func13, Tryd.ntmps13
  go_wp2
  go_loop [0] (fun v0 => ∃ r : ByteArray, v0 = .string r ∧ r.size ≤ 1099511627776 ∧ Hid (lft r.data.toList = lft s.data.toList)) (fun v0 => match v0 with | .string r => r.size | _ => 0)
  case atStart => exact ⟨s, rfl, hs, Lib.hid rfl⟩
  case round =>
    obtain ⟨r, rfl, hrs, HL⟩ := hrel
    by_cases h0 : 0 < r.size
    · obtain ⟨c, t, hd, hck, ht⟩ := cons_at h0
      rw [List.drop_zero] at hd
      have HD := Lib.hid hd
      have HT : Hid ((r.extract 1 r.size).data.toList = t) := Lib.hid (by rw [Lib.extract_to_end]; exact ht)
      have h0' : (0 : Int) < (r.size : Int) := by omega
      have hz : (r.extract 1 r.size).size = r.size - 1 := by simp
      have Hz := Lib.hid hz
      clear hd ht hz
      cases hw : wht c
      · have HW := Lib.hid (white_any c w)
        rw [hw] at HW
        have Hw := Lib.hid hw
        clear hw
        go_wp2_with (go_at_call 23; refine HW.out.mono ?_; rintro e w' ⟨rfl, rfl⟩)
        go_ret
        exact ⟨ret_str (by rw [← HL.out, HD.out, lft_cons, Hw.out]; rfl), rfl⟩
      · have HW := Lib.hid (white_any c w)
        rw [hw] at HW
        have Hw := Lib.hid hw
        clear hw
        go_wp2_with (go_at_call 23; refine HW.out.mono ?_; rintro e w' ⟨rfl, rfl⟩)
        go_round
        case rel => exact ⟨_, rfl, by rw [Hz.out]; omega, Lib.hid (by rw [← HL.out, HD.out, lft_cons, Hw.out, HT.out]; rfl)⟩
        case measure => simp only [Hz.out]; omega
    · have hr0 : r.data.toList = [] := List.length_eq_zero_iff.1 (by rw [sz]; omega)
      have HR := Lib.hid hr0
      have hz : r.size = 0 := by omega
      clear hr0 h0
      go_wp2
      go_ret
      exact ⟨ret_str (by rw [← HL.out, HR.out]; rfl), rfl⟩

set_option maxHeartbeats 1000000 in
theorem rright_any (s : ByteArray) (w : World) (hs : s.size ≤ 1099511627776) :
    Calls Tryd.prog 14 #[.string s] w fun e w' => e = .returned (str (rgt s.data.toList)) ∧ w = w' := by
  go_enter Tryd.func14, Tryd.ntmps14
  go_wp2
  go_loop [0] (fun v0 => ∃ r : ByteArray, v0 = .string r ∧ r.size ≤ 1099511627776 ∧ Hid (rgt r.data.toList = rgt s.data.toList)) (fun v0 => match v0 with | .string r => r.size | _ => 0)
  case atStart => exact ⟨s, rfl, hs, Lib.hid rfl⟩
  case round =>
    obtain ⟨r, rfl, hrs, HL⟩ := hrel
    by_cases h0 : 0 < r.size
    · obtain ⟨k, hk⟩ : ∃ k, r.size = k + 1 := ⟨r.size - 1, by omega⟩
      have hkl : k < r.size := by omega
      obtain ⟨c, t, hd, hck, ht⟩ := cons_at hkl
      have hte : t = [] := by rw [← ht]; exact List.drop_eq_nil_of_le (by rw [sz]; omega)
      subst hte
      have HD : Hid (r.data.toList = (r.extract 0 k).data.toList ++ [c]) := Lib.hid (by
        rw [← hd, Lib.extract_data, Nat.sub_zero, List.drop_zero, List.take_append_drop])
      have hz : (r.extract 0 k).size = k := by simp; omega
      have Hz := Lib.hid hz
      have Hk := Lib.hid hk
      have hi : (r.size : Int) - 1 = (k : Int) := by omega
      clear hd ht hz hk
      cases hw : wht c
      · have HW := Lib.hid (white_any c w)
        rw [hw] at HW
        have Hw := Lib.hid hw
        clear hw
        go_wp2_with (go_at_call 23; refine HW.out.mono ?_; rintro e w' ⟨rfl, rfl⟩)
        go_ret
        exact ⟨ret_str (by rw [← HL.out, HD.out, rgt_snoc, Hw.out]; rfl), rfl⟩
      · have HW := Lib.hid (white_any c w)
        rw [hw] at HW
        have Hw := Lib.hid hw
        clear hw
        go_wp2_with (go_at_call 23; refine HW.out.mono ?_; rintro e w' ⟨rfl, rfl⟩)
        go_round
        case rel => exact ⟨_, rfl, by rw [Hz.out]; omega, Lib.hid (by rw [← HL.out, HD.out, rgt_snoc, Hw.out]; rfl)⟩
        case measure => simp only [Hz.out]; omega
    · have hr0 : r.data.toList = [] := List.length_eq_zero_iff.1 (by rw [sz]; omega)
      have HR := Lib.hid hr0
      have hz : r.size = 0 := by omega
      clear hr0 h0
      go_wp2
      go_ret
      exact ⟨ret_str (by rw [← HL.out, HR.out]; rfl), rfl⟩

/-- A call's own frame, put behind another one. -/
theorem from_below {P : Program} {f : FuncId} {args : Array Value} {w0 W : World} {Q : Ending → Prop} (h : Calls P f args W fun e w' => Q e ∧ Below W.heap.size W w') (hb : Below w0.heap.size w0 W) :
    Calls P f args W fun e w' => Q e ∧ Below w0.heap.size w0 w' :=
  h.mono fun e w' ⟨h1, h2⟩ => ⟨h1, hb.trans (h2.mono hb.size)⟩

theorem awake_any (w : World) :
    Calls Tryd.prog 9 #[] w fun e w' => e = .returned (.bool true) ∧ Below w.heap.size w w' := by
  have H1 := Lib.hid (fun W => indent_any ⟨#[32, 9, 97]⟩ 0 W (by decide) (by decide))
  rw [show indC (⟨#[32, 9, 97]⟩ : ByteArray).data.toList 0 = 4 from rfl, show indB (⟨#[32, 9, 97]⟩ : ByteArray).data.toList 0 = 2 from rfl] at H1
  have H2 := Lib.hid (fun W => skip_any ⟨#[9, 97]⟩ 0 2 W (by decide) (by decide) (by decide))
  rw [show skS (⟨#[9, 97]⟩ : ByteArray).data.toList 0 2 = .tuple #[.string ⟨#[32, 32, 97]⟩, .int .i64 2] from rfl] at H2
  have H3 := Lib.hid (fun W => spaces_any ⟨#[9, 97]⟩ 1 W (by decide) (by decide))
  rw [show str (norm (⟨#[9, 97]⟩ : ByteArray).data.toList 1) = .string ⟨#[32, 32, 32, 97]⟩ from rfl] at H3
  have H4 := Lib.hid (fun W => trim_any ⟨#[32, 97, 10]⟩ W (by decide))
  rw [show str (trm (⟨#[32, 97, 10]⟩ : ByteArray).data.toList) = .string ⟨#[97]⟩ from rfl] at H4
  go_enter Tryd.func9, Tryd.ntmps9
  go_wp2_with fail
  refine (H1.out _).mono ?_
  rintro e w1 ⟨rfl, hb1⟩
  go_wp2_with fail
  refine (from_below (H2.out _) hb1).mono ?_
  rintro e w2 ⟨rfl, hb2⟩
  go_wp2_with fail
  refine (from_below (H3.out _) hb2).mono ?_
  rintro e w3 ⟨rfl, hb3⟩
  go_wp2_with fail
  refine (from_below (H4.out _) hb3).mono ?_
  rintro e w4 ⟨rfl, hb4⟩
  go_wp2
  go_ret
  exact ⟨rfl, hb4⟩
end Cl
end Go.Proofs.YtmdhamaihpdcdaaDoor
