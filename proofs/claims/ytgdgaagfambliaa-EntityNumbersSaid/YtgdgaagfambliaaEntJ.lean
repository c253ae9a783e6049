/- Walks of layer 4, the tenth part: contracts in the form that the laws use, awake. -/
import Derived.Test.YtgdgaagfambliaaEntI
namespace Go.Proofs.Ytgdgaagfambliaa
open Go Go.RowKit
namespace En
set_option maxRecDepth 100000
set_option linter.unusedVariables false
set_option linter.unusedSimpArgs false

/-- What a call returns wherever nothing of what lay in w has turned. -/
def Frm (w : World) (f : FuncId) (args : Array Value) (v : Value) : Prop := ∀ W, Below w.heap.size w W → Calls Try.prog f args W fun e w' => e = .returned v ∧ Below w.heap.size w w'
theorem frm_below {w : World} {f : FuncId} {args : Array Value} {v : Value} (h : ∀ W, Calls Try.prog f args W fun e w' => e = .returned v ∧ Below W.heap.size W w') : Frm w f args v :=
  fun W hb => (h W).mono fun e w' ⟨h1, h2⟩ => ⟨h1, hb.trans (h2.mono hb.size)⟩

theorem frm_read (w : World) {s : ByteArray} {l : List UInt8} {o : Option (Int × Nat)} (hl : s.data.toList = l) (ho : rread l = o) (hs : l.length ≤ 1000000) : Frm w 10 #[.string s] (resV o) :=
  frm_below fun W => by
    have := gread_any s W (by rw [← sz, hl]; exact hs)
    rw [hl, gread_eq, ho] at this
    exact this
theorem frm_rread (w : World) {s : ByteArray} {l : List UInt8} {o : Option (Int × Nat)} (hl : s.data.toList = l) (ho : rread l = o) (hs : l.length ≤ 1000000) : Frm w 11 #[.string s] (resV o) :=
  frm_below fun W => by
    have := rread_any s W (by rw [← sz, hl]; exact hs)
    rw [hl, ho] at this
    exact this
theorem frm_named (w : World) {s : ByteArray} {l : List UInt8} (hl : s.data.toList = l) : Frm w 13 #[.string s] (namedV l) :=
  frm_below fun W => by
    have := named_any s W
    rw [hl] at this
    exact this
theorem frm_rnamed (w : World) {s : ByteArray} {l : List UInt8} (hl : s.data.toList = l) : Frm w 14 #[.string s] (namedV l) :=
  frm_below fun W => by
    have := rnamed_any s W
    rw [hl] at this
    exact this

theorem ex1 : rread [38, 97, 109, 112, 59, 120] = some (38, 5) := by decide +kernel
theorem ex2 : rread [38, 35, 54, 53, 59] = some (65, 5) := by decide +kernel
theorem ex3 : rread [38, 35, 48, 59] = some (65533, 4) := by decide +kernel
theorem ex4 : rread [38, 120, 59] = none := by decide +kernel
theorem enc_amp : Utf8.encode 38 = ⟨#[38]⟩ := by decide +kernel
theorem enc_A : Utf8.encode 65 = ⟨#[65]⟩ := by decide +kernel

set_option maxHeartbeats 2000000 in
theorem awake_any (w : World) :
    Calls Try.prog 9 #[] w fun e w' => e = .returned (.bool true) ∧ Below w.heap.size w w' := by
  have H1 := Lib.hid (frm_read w (s := ⟨#[38, 97, 109, 112, 59, 120]⟩) rfl ex1 (by decide))
  have H2 := Lib.hid (frm_read w (s := ⟨#[38, 35, 54, 53, 59]⟩) rfl ex2 (by decide))
  have H3 := Lib.hid (frm_read w (s := ⟨#[38, 35, 48, 59]⟩) rfl ex3 (by decide))
  have H4 := Lib.hid (frm_read w (s := ⟨#[38, 120, 59]⟩) rfl ex4 (by decide))
  unfold resV at H1 H2 H3 H4
  simp only [enc_amp, enc_A, enc_mark] at H1 H2 H3
  have hb0 := Below.refl w.heap.size w
  go_enter Try.func9, Try.ntmps9
  go_wp2_with fail
  refine (H1.out _ hb0).mono ?_
  rintro e w1 ⟨rfl, hb1⟩
  go_wp2_with fail
  refine (H2.out _ hb1).mono ?_
  rintro e w2 ⟨rfl, hb2⟩
  go_wp2_with fail
  refine (H3.out _ hb2).mono ?_
  rintro e w3 ⟨rfl, hb3⟩
  go_wp2_with fail
  refine (H4.out _ hb3).mono ?_
  rintro e w4 ⟨rfl, hb4⟩
  go_wp2
  go_ret
  exact ⟨rfl, hb4⟩
theorem frm_awake (w : World) : Frm w 9 #[] (.bool true) := frm_below fun W => awake_any W

theorem app_data (a b : ByteArray) : (a ++ b).data.toList = a.data.toList ++ b.data.toList := by rw [ByteArray.data_append, Array.toList_append]
theorem ofBody_amp {b : List UInt8} {c : Int} (h : ofBody b = some c) : ∃ t, b = 38 :: t := by
  cases b with
  | nil => cases h
  | cons x t =>
    by_cases hx : x = 38
    · exact ⟨t, by rw [hx]⟩
    · rw [ofBody_other hx] at h
      cases h
theorem rread_parts {l : List UInt8} {c : Int} {n : Nat} (h : rread l = some (c, n)) : ∃ b m, 59 ∉ b ∧ l = b ++ 59 :: m ∧ ofBody b = some c ∧ n = b.length + 1 := by
  cases hc : cutS l with
  | none => rw [rread_none hc] at h; cases h
  | some b =>
    rw [rread_some hc] at h
    obtain ⟨hn, m, hl⟩ := cutS_some hc
    cases ho : ofBody b with
    | none => rw [ho] at h; cases h
    | some c' =>
      rw [ho] at h
      simp at h
      exact ⟨b, m, hn, hl, by rw [ho, h.1], h.2.symm⟩
theorem rread_le {l : List UInt8} {c : Int} {n : Nat} (h : rread l = some (c, n)) : n ≤ l.length ∧ 38 ∈ l ∧ 59 ∈ l := by
  obtain ⟨b, m, _, rfl, h2, rfl⟩ := rread_parts h
  obtain ⟨t, rfl⟩ := ofBody_amp h2
  refine ⟨by simp, by simp, by simp⟩

end En
end Go.Proofs.Ytgdgaagfambliaa
