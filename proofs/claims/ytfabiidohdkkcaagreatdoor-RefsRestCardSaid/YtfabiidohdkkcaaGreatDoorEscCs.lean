/- Walks of layer 5, the third part: Href. -/
import Derived.Test.YtfabiidohdkkcaaGreatDoorEscBs
import Derived.Laws.BitsAllLaws
import Derived.Laws.BitsLemmas
namespace Go.Proofs.YtfabiidohdkkcaaGreatDoor
open Go Go.RowKit
namespace Es
open En
set_option maxRecDepth 100000
set_option linter.unusedVariables false
set_option linter.unusedSimpArgs false

theorem idx_cons (b : UInt8) (t : List UInt8) (c : UInt8) : Lib.indexByte (b :: t) c = if b == c then 0 else if Lib.indexByte t c == -1 then -1 else Lib.indexByte t c + 1 := rfl
theorem idx_mem (l : List UInt8) (c : UInt8) : l.contains c = decide (0 ≤ Lib.indexByte l c) := by
  induction l with
  | nil => rfl
  | cons b t ih =>
    rw [List.contains_cons, ih, idx_cons]
    have hge := Lib.indexByte_ge t c
    generalize Lib.indexByte t c = z at *
    by_cases h : b = c
    · subst h; simp
    · have h1 : (b == c) = false := by simpa using h
      have h2 : (c == b) = false := by simpa using (fun e => h e.symm)
      rw [h1, h2, Bool.false_or, if_neg (by simp)]
      by_cases h3 : z = -1
      · subst h3; rfl
      · rw [if_neg (by simpa using h3), decide_eq_decide]
        omega
theorem hrB_ok {c : UInt8} (h : okB c = true) : hrB c = [c] := by unfold hrB; rw [if_pos h]
theorem okB_letter {c : UInt8} (h : lett (c.toNat : Int) = true) : okB c = true := by unfold okB isAl; rw [h]; rfl
theorem okB_digit {c : UInt8} (h : digi (c.toNat : Int) = true) : okB c = true := by unfold okB isAl; rw [h, Bool.or_true, Bool.true_or]
theorem okB_idx {c : UInt8} (h1 : lett (c.toNat : Int) = false) (h2 : digi (c.toNat : Int) = false) : okB c = decide (0 ≤ Lib.indexByte asIs c) := by unfold okB isAl; rw [h1, h2, ← idx_mem]; rfl
theorem hrB_amp : hrB 38 = ampB := by decide +kernel
theorem hrB_apos : hrB 39 = aposB := by decide +kernel
end Es
end Go.Proofs.YtfabiidohdkkcaaGreatDoor
