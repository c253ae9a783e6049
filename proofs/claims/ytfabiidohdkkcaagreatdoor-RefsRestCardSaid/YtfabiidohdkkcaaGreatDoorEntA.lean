/- Walks of layer 4, the first part: what stands alone. -/
import Derived.Test.YtfabiidohdkkcaaGreatDoorShelf
import Derived.Test.YtfabiidohdkkcaaGreatDoorEntSort
import Derived.WalkKit
import Derived.BigCall
import Derived.BigQuiet
import Derived.Deep.QuietTactic
import Derived.Lib.Hide
import Derived.Deep.DeepCutAuto
import Derived.OneCell
import Derived.RegionTactic
import Derived.Below
namespace Go.Proofs.YtfabiidohdkkcaaGreatDoor
open Go Go.RowKit
namespace En
set_option maxRecDepth 100000
set_option linter.unusedVariables false
set_option linter.unusedSimpArgs false

theorem ret_bool' {a b : Bool} (h : a = b) : Ending.returned (.bool a) = .returned (.bool b) := by rw [h]
theorem ret_int' {k : IntKind} {a b : Int} (h : a = b) : Ending.returned (.int k a) = .returned (.int k b) := by rw [h]

theorem letter_any (b : Int) (w : World) :
    Calls Tryz.prog 126 #[.int .u8 b] w fun e w' => e = .returned (.bool (lett b)) ∧ w = w' := by
  go_enter Tryz.func126, Tryz.ntmps126
  go_wp2
  all_goals (go_ret; refine ⟨ret_bool' ?_, rfl⟩; unfold lett; simp [*] <;> omega)
theorem digit_any (b : Int) (w : World) :
    Calls Tryz.prog 127 #[.int .u8 b] w fun e w' => e = .returned (.bool (digi b)) ∧ w = w' := by
  go_enter Tryz.func127, Tryz.ntmps127
  go_wp2
  all_goals (go_ret; refine ⟨ret_bool' ?_, rfl⟩; unfold digi; simp [*] <;> omega)

theorem dgt_any (b : Int) (w : World) (h0 : 0 ≤ b) (h1 : b ≤ 255) :
    Calls Tryz.prog 123 #[.int .u8 b] w fun e w' => e = .returned (.int .i32 (dgt b)) ∧ w = w' := by
  have HD := Lib.hid (digit_any b w)
  by_cases hd : digi b = true
  · have hb : 48 ≤ b ∧ b ≤ 57 := by unfold digi at hd; simpa using hd
    have HV : Hid (dgt b = b - 48) := Lib.hid (by unfold dgt; rw [if_pos hd])
    rw [hd] at HD
    obtain ⟨hb1, hb2⟩ := hb
    clear hd
    go_enter Tryz.func123, Tryz.ntmps123
    go_wp2_with (go_at_call 127; refine HD.out.mono ?_; rintro e w' ⟨rfl, rfl⟩)
    go_ret
    exact ⟨ret_int' HV.out.symm, rfl⟩
  · have hdf : digi b = false := by simpa using hd
    have hb : ¬ (48 ≤ b ∧ b ≤ 57) := by unfold digi at hd; simpa using hd
    rw [hdf] at HD
    by_cases h2 : 97 ≤ b ∧ b ≤ 102
    · have HV : Hid (dgt b = b - 97 + 10) := Lib.hid (by unfold dgt; rw [if_neg hd, if_pos h2]; omega)
      obtain ⟨ha1, ha2⟩ := h2
      clear hd hdf hb
      go_enter Tryz.func123, Tryz.ntmps123
      go_wp2_with (go_at_call 127; refine HD.out.mono ?_; rintro e w' ⟨rfl, rfl⟩)
      go_ret
      exact ⟨ret_int' HV.out.symm, rfl⟩
    · by_cases h3 : 65 ≤ b ∧ b ≤ 70
      · have HV : Hid (dgt b = b - 65 + 10) := Lib.hid (by unfold dgt; rw [if_neg hd, if_neg h2, if_pos h3]; omega)
        obtain ⟨ha1, ha2⟩ := h3
        have hn : ¬ 97 ≤ b := by omega
        clear hd hdf hb h2
        go_enter Tryz.func123, Tryz.ntmps123
        go_wp2_with (go_at_call 127; refine HD.out.mono ?_; rintro e w' ⟨rfl, rfl⟩)
        go_ret
        exact ⟨ret_int' HV.out.symm, rfl⟩
      · have HV : Hid (dgt b = 16) := Lib.hid (by unfold dgt; rw [if_neg hd, if_neg h2, if_neg h3])
        clear hd hdf hb
        go_enter Tryz.func123, Tryz.ntmps123
        go_wp2_with (go_at_call 127; refine HD.out.mono ?_; rintro e w' ⟨rfl, rfl⟩)
        all_goals first | (exfalso; omega) | (go_ret; exact ⟨ret_int' HV.out.symm, rfl⟩)

theorem chr_none {v : Int} (hp : 0 ≤ v) (h : Lib.validRune v = false) : chr v = 65533 := by
  unfold Lib.validRune at h
  unfold chr
  rw [if_pos]
  simp at h
  omega
theorem chr_some {v : Int} (h0 : v ≠ 0) (h : Lib.validRune v = true) : chr v = v := by
  unfold Lib.validRune at h
  unfold chr
  rw [if_neg]
  simp at h
  omega
theorem enc_mark : Utf8.encode 65533 = ⟨#[239, 191, 189]⟩ := by decide +kernel
theorem ret_str {a b : ByteArray} (h : a = b) : Ending.returned (.string a) = .returned (.string b) := by rw [h]
theorem char_any (v : Int) (w : World) (hp : 0 ≤ v) :
    Calls Tryz.prog 125 #[.int .i32 v] w fun e w' => e = .returned (.string (Utf8.encode (chr v))) ∧ w = w' := by
  by_cases h0 : v = 0
  · subst h0
    have HV : Hid (Utf8.encode (chr 0) = ⟨#[239, 191, 189]⟩) := Lib.hid (by rw [show chr 0 = 65533 from rfl, enc_mark])
    go_enter Tryz.func125, Tryz.ntmps125
    go_wp2
    go_ret
    exact ⟨ret_str HV.out.symm, rfl⟩
  · have hv0 : (v == 0) = false := by simpa using h0
    have HU := Lib.hid (Tryz.utf8_ValidRune v w)
    cases hv : Lib.validRune v with
    | false =>
      have HV : Hid (Utf8.encode (chr v) = ⟨#[239, 191, 189]⟩) := Lib.hid (by rw [chr_none hp hv, enc_mark])
      rw [hv] at HU
      clear h0 hv
      go_enter Tryz.func125, Tryz.ntmps125
      go_wp2_with (go_at_call 133; refine HU.out.mono ?_; rintro e w' ⟨rfl, rfl⟩)
      go_ret
      exact ⟨ret_str HV.out.symm, rfl⟩
    | true =>
      have HV : Hid (chr v = v) := Lib.hid (chr_some h0 hv)
      rw [hv] at HU
      clear h0 hv
      go_enter Tryz.func125, Tryz.ntmps125
      go_wp2_with (go_at_call 133; refine HU.out.mono ?_; rintro e w' ⟨rfl, rfl⟩)
      go_ret
      exact ⟨ret_str (by rw [HV.out]), rfl⟩

theorem sz (s : ByteArray) : s.data.toList.length = s.size := by rw [Array.length_toList]; rfl
theorem cons_at {s : ByteArray} {k : Nat} (h : k < s.size) : ∃ c t, s.data.toList.drop k = c :: t ∧ s[k] = c ∧ s.data.toList.drop (k + 1) = t := by
  cases hd : s.data.toList.drop k with
  | nil => have := congrArg List.length hd; rw [List.length_drop, sz] at this; simp at this; omega
  | cons x t =>
    refine ⟨x, t, rfl, ?_, ?_⟩
    · have := congrArg (fun l => l[0]?) hd
      simp at this
      rw [Array.getElem?_eq_getElem (show k < s.data.size from h)] at this
      exact Option.some.inj this
    · rw [← List.drop_drop, hd]; rfl
theorem get_at {s : ByteArray} {k : Nat} (h : k < s.size) : s.data.toList[k]? = some s[k] := by
  rw [List.getElem?_eq_getElem (by rw [sz]; exact h)]
  rfl

/-- Does a semicolon stand there? -/
def semiB (l : List UInt8) (k : Nat) : Bool := decide (l[k]? = some 59)
theorem closed_any (s : ByteArray) (k : Nat) (w : World) (hs : s.size ≤ 1099511627776) (hk : k ≤ 1099511627776) :
    Calls Tryz.prog 124 #[.string s, .int .i64 (k : Int)] w fun e w' => e = .returned (.bool (semiB s.data.toList k)) ∧ w = w' := by
  by_cases h : k < s.size
  · have HV : Hid (semiB s.data.toList k = ((s[k].toNat : Int) == 59)) := Lib.hid (by
      unfold semiB
      rw [get_at h]
      rw [Bool.eq_iff_iff]
      simp only [Option.some.injEq, decide_eq_true_eq, beq_iff_eq]
      constructor
      · intro e; rw [e]; rfl
      · intro e; exact UInt8.toNat_inj.1 (by simpa using Int.ofNat.inj e))
    go_enter Tryz.func124, Tryz.ntmps124
    go_wp2
    go_ret
    exact ⟨ret_bool' HV.out.symm, rfl⟩
  · have HV : Hid (semiB s.data.toList k = false) := Lib.hid (by
      unfold semiB
      rw [List.getElem?_eq_none (by rw [sz]; omega)]
      rfl)
    go_enter Tryz.func124, Tryz.ntmps124
    go_wp2
    go_ret
    exact ⟨ret_bool' HV.out.symm, rfl⟩
end En
end Go.Proofs.YtfabiidohdkkcaaGreatDoor
