/- TextBlanks: the law's walk, its row and its tied card. -/
import Derived.Test.YtopaohficfdhhaaDoorTextF
import Derived.Test.YtopaohficfdhhaaDoorKit
import Derived.Test.YtopaohficfdhhaaDoorCards
import Derived.Test.YtopaohficfdhhaaDoorTie
namespace Go.Proofs.YtopaohficfdhhaaDoor
open Go Go.ChangeShapes Go.WideShapes Go.ChangeAt Go.RowKit
namespace TextBlanks
open Tx
set_option maxRecDepth 100000
set_option linter.unusedVariables false
set_option linter.unusedSimpArgs false

set_option maxHeartbeats 1000000 in
theorem law_any (a b : ByteArray) (w : World) (ha : a.size ≤ maxLen) (hb : b.size ≤ maxLen) :
    Calls Tryd.prog 9 #[.string a, .string b] w fun e w' => e = .returned (.bool true) ∧ Below w.heap.size w w' := by
  unfold maxLen at ha hb
  have HA := Lib.hid (awake_any w)
  by_cases hbig : a.size > 1000 ∨ b.size > 1000
  · by_cases h1 : a.size > 1000
    · clear hbig
      go_enter Tryd.func9, Tryd.ntmps9
      go_wp2_with (go_at_call 10; refine HA.out.mono ?_; rintro e w1 ⟨rfl, hb1⟩)
      go_ret
      exact ⟨rfl, hb1⟩
    · have h2 : b.size > 1000 := by omega
      clear hbig
      go_enter Tryd.func9, Tryd.ntmps9
      go_wp2_with (go_at_call 10; refine HA.out.mono ?_; rintro e w1 ⟨rfl, hb1⟩)
      go_ret
      exact ⟨rfl, hb1⟩
  · have h1 : a.size ≤ 1000 := by omega
    have h2 : b.size ≤ 1000 := by omega
    clear hbig
    have hap : (a ++ b).data.toList = a.data.toList ++ b.data.toList := by simp
    have hbl : Tx.blank (a ++ b).data.toList = (Tx.blank a.data.toList && Tx.blank b.data.toList) := by rw [hap, blank_append]
    have hsz : (a ++ b).size ≤ 9223372036854775807 := by rw [ByteArray.size_append]; omega
    have Hsz := Lib.hid hsz
    have has : a.size ≤ 9223372036854775807 := by omega
    have hbs : b.size ≤ 9223372036854775807 := by omega
    clear hap hsz
    cases hba : Tx.blank a.data.toList with
    | false =>
      rw [hba, Bool.false_and] at hbl
      have Hba := Lib.hid hba
      have Hbl := Lib.hid hbl
      clear hbl hba
      go_enter Tryd.func9, Tryd.ntmps9
      go_wp2_with (go_at_call 10; refine HA.out.mono ?_; rintro e w1 ⟨rfl, hb1⟩)
      refine (blank_from Hbl.out Hsz.out hb1).mono ?_
      rintro e w2 ⟨rfl, hb2⟩
      go_wp2_with fail
      refine (blank_from Hba.out has hb2).mono ?_
      rintro e w3 ⟨rfl, hb3⟩
      go_wp2_with fail
      refine (lines_from (by omega) hb3).mono ?_
      rintro e w4 ⟨v, rfl, ho, hb4⟩
      clear ho
      go_wp2_with fail
      refine (blank_from Hba.out has hb4).mono ?_
      rintro e w5 ⟨rfl, hb5⟩
      go_wp2
      go_ret
      exact ⟨rfl, hb5⟩
    | true =>
      rw [hba, Bool.true_and] at hbl
      have Hba := Lib.hid hba
      have Hbl := Lib.hid hbl
      clear hbl hba
      by_cases hae : a.data.toList = []
      · have hlines : lines a.data.toList = [] := by rw [hae, lines_nil]
        obtain rfl : a = ⟨#[]⟩ := by
          cases a with
          | mk d => cases d with
            | mk l => simp at hae; rw [hae]
        have Hl := Lib.hid hlines
        clear hlines hae
        go_enter Tryd.func9, Tryd.ntmps9
        go_wp2_with (go_at_call 10; refine HA.out.mono ?_; rintro e w1 ⟨rfl, hb1⟩)
        refine (blank_from Hbl.out Hsz.out hb1).mono ?_
        rintro e w2 ⟨rfl, hb2⟩
        go_wp2_with fail
        refine (blank_from Hba.out has hb2).mono ?_
        rintro e w3 ⟨rfl, hb3⟩
        go_wp2_with fail
        refine (blank_from rfl hbs hb3).mono ?_
        rintro e w4 ⟨rfl, hb4⟩
        generalize Tx.blank b.data.toList = bb at *
        cases bb
        all_goals
          go_wp2_with fail
          refine (lines_from (by omega) hb4).mono ?_
          rintro e w5 ⟨v, rfl, hs5, hb5⟩
          rw [Hl.out] at hs5
          obtain ⟨ao, cap, rfl, _, _⟩ := hs5
          go_wp2_with fail
          refine (blank_from Hba.out has hb5).mono ?_
          rintro e w6 ⟨rfl, hb6⟩
          go_wp2
          go_ret
          exact ⟨rfl, hb6⟩
      · have Hl := Lib.hid (blank_line _ Hba.out hae)
        clear hae
        go_enter Tryd.func9, Tryd.ntmps9
        go_wp2_with (go_at_call 10; refine HA.out.mono ?_; rintro e w1 ⟨rfl, hb1⟩)
        refine (blank_from Hbl.out Hsz.out hb1).mono ?_
        rintro e w2 ⟨rfl, hb2⟩
        go_wp2_with fail
        refine (blank_from Hba.out has hb2).mono ?_
        rintro e w3 ⟨rfl, hb3⟩
        go_wp2_with fail
        refine (blank_from rfl hbs hb3).mono ?_
        rintro e w4 ⟨rfl, hb4⟩
        generalize Tx.blank b.data.toList = bb at *
        cases bb
        all_goals
          go_wp2_with fail
          refine (lines_from (by omega) hb4).mono ?_
          rintro e w5 ⟨v, rfl, hs5, hb5⟩
          rw [Hl.out] at hs5
          obtain ⟨ao, cap, rfl, _, hr5⟩ := hs5
          obtain ⟨b0, off0, rfl, hc5⟩ := hr5 (by simp)
          have hc := hc5 0 (by simp)
          have hlt := cell_lt hc
          rw [show str ([a.data.toList][0]'(by simp)) = .string a from rfl, Nat.add_zero] at hc
          clear hr5 hc5
          have hsz5 := hb5.size
          go_wp2_with fail
          refine (from_below (w0 := w5) (blank_any a w5 has) (Below.refl _ _)).mono ?_
          rintro e w6 ⟨rfl, hb6⟩
          rw [Hba.out]
          have hc6 : w6.cell? ⟨b0, off0, none⟩ = some (.string a) := by rw [hb6.cell (p := ⟨b0, off0, none⟩) hlt]; exact hc
          have hb7 := hb5.trans (hb6.mono hsz5)
          clear hb6
          go_wp2
          go_ret
          exact ⟨rfl, hb7⟩
end TextBlanks
end Go.Proofs.YtopaohficfdhhaaDoor
