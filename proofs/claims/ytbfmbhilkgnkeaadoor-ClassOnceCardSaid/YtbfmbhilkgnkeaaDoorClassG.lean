/- Walks of layer 3, the seventh part: contracts in the form that the laws use, awake. -/
import Derived.Test.YtbfmbhilkgnkeaaDoorClassD
import Derived.Test.YtbfmbhilkgnkeaaDoorClassF
import Derived.Laws.BitsAllLaws
import Derived.Laws.BitsLemmas
namespace Go.Proofs.YtbfmbhilkgnkeaaDoor
open Go Go.RowKit
namespace Ks
open Tx
set_option maxRecDepth 100000
set_option linter.unusedVariables false
set_option linter.unusedSimpArgs false

/-- What a call returns wherever nothing of what lay in w has turned. -/
def Frm (w : World) (f : FuncId) (args : Array Value) (v : Value) : Prop := ∀ W, Below w.heap.size w W → Calls Tryd.prog f args W fun e w' => e = .returned v ∧ Below w.heap.size w w'
theorem frm_eq {w : World} {f : FuncId} {args : Array Value} {v : Value} (hL : Laid w) (h : ∀ W, Laid W → Calls Tryd.prog f args W fun e w' => e = .returned v ∧ W = w') : Frm w f args v :=
  fun W hb => (h W (hL.below hb)).mono fun e w' ⟨h1, h2⟩ => ⟨h1, h2 ▸ hb⟩
theorem frm_below {w : World} {f : FuncId} {args : Array Value} {v : Value} (hL : Laid w) (h : ∀ W, Laid W → Calls Tryd.prog f args W fun e w' => e = .returned v ∧ Below W.heap.size W w') : Frm w f args v :=
  fun W hb => (h W (hL.below hb)).mono fun e w' ⟨h1, h2⟩ => ⟨h1, hb.trans (h2.mono hb.size)⟩

theorem frm_space {w : World} (hL : Laid w) (r : Int) : Frm w 10 #[.int .i32 r] (.bool (amg whites r)) := frm_eq hL fun W h => space_any r W h
theorem frm_punct {w : World} (hL : Laid w) (r : Int) : Frm w 12 #[.int .i32 r] (.bool (amg signs r)) := frm_eq hL fun W h => punct_any r W h
theorem frm_letter {w : World} (hL : Laid w) (b : Int) : Frm w 14 #[.int .u8 b] (.bool (lett b)) := frm_eq hL fun W h => letter_any b W
theorem frm_digit {w : World} (hL : Laid w) (b : Int) : Frm w 15 #[.int .u8 b] (.bool (digi b)) := frm_eq hL fun W h => digit_any b W
theorem frm_rspace {w : World} (hL : Laid w) (r : Int) : Frm w 11 #[.int .i32 r] (.bool (amg whites r)) := frm_below hL fun W h => rspace_any r W
theorem frm_rpunct {w : World} (hL : Laid w) (r : Int) : Frm w 13 #[.int .i32 r] (.bool (amg signs r)) := frm_below hL fun W h => rpunct_any r W
theorem frm_fold {w : World} (hL : Laid w) {s : ByteArray} {l r : List UInt8} (hs : s.data.toList = l) (hr : fold l = r) (hl : l.length ≤ 10000000) : Frm w 16 #[.string s] (.string ⟨r.toArray⟩) :=
  frm_below hL fun W h => by subst hr hs; exact fold_any s W (by rw [Array.length_toList] at hl; have : s.size = s.data.size := rfl; omega) h
theorem frm_label {w : World} (hL : Laid w) {s : ByteArray} {l r : List UInt8} (hs : s.data.toList = l) (hr : lab l = r) (hl : l.length ≤ 10000000) : Frm w 18 #[.string s] (.string ⟨r.toArray⟩) :=
  frm_below hL fun W h => by subst hr hs; exact label_any s W (by rw [Array.length_toList] at hl; have : s.size = s.data.size := rfl; omega) h
theorem frm_rfold {w : World} (hL : Laid w) {s : ByteArray} {l r : List UInt8} (hs : s.data.toList = l) (hr : fold l = r) (hl : l.length ≤ 10000000) : Frm w 17 #[.string s] (.string ⟨r.toArray⟩) :=
  frm_below hL fun W h => by subst hr hs; exact rFold_any s W (by rw [Array.length_toList] at hl; have : s.size = s.data.size := rfl; omega)
theorem frm_rlabel {w : World} (hL : Laid w) {s : ByteArray} {l r : List UInt8} (hs : s.data.toList = l) (hr : lab l = r) (hl : l.length ≤ 10000000) : Frm w 19 #[.string s] (.string ⟨r.toArray⟩) :=
  frm_below hL fun W h => by subst hr hs; exact rLabel_any s W (by rw [Array.length_toList] at hl; have : s.size = s.data.size := rfl; omega)

theorem allV_ex1 : AllV [196, 66, 7838] := by intro n hn; simp at hn; rcases hn with rfl | rfl | rfl <;> (unfold Valid; omega)
theorem allV_ex2 : AllV [32, 65, 10, 32, 98] := by intro n hn; simp at hn; unfold Valid; omega
theorem fold_ex : fold [195, 132, 66, 225, 186, 158] = [195, 164, 98, 115, 115] := by
  have e : ([195, 132, 66, 225, 186, 158] : List UInt8) = enc [196, 66, 7838] := by decide
  unfold fold
  rw [e, runes_enc _ allV_ex1]
  decide
theorem lab_ex : lab [32, 65, 10, 32, 98] = [97, 32, 98] := by
  have e : ([32, 65, 10, 32, 98] : List UInt8) = enc [32, 65, 10, 32, 98] := by decide
  unfold lab
  rw [e, runes_enc _ allV_ex2]
  decide

set_option maxHeartbeats 2000000 in
theorem awake_any (w : World) (hL : Laid w) :
    Calls Tryd.prog 9 #[] w fun e w' => e = .returned (.bool true) ∧ Below w.heap.size w w' := by
  have H1 := Lib.hid (frm_fold hL (s := ⟨#[195, 132, 66, 225, 186, 158]⟩) rfl fold_ex (by decide))
  have H2 := Lib.hid (frm_label hL (s := ⟨#[32, 65, 10, 32, 98]⟩) rfl lab_ex (by decide))
  have H3 := Lib.hid (frm_space hL 160)
  have H4 := Lib.hid (frm_punct hL 33)
  have H5 := Lib.hid (frm_letter hL 122)
  have H6 := Lib.hid (frm_digit hL 48)
  rw [show amg whites 160 = true from by decide] at H3
  rw [show amg signs 33 = true from by decide] at H4
  rw [show lett 122 = true from by decide] at H5
  rw [show digi 48 = true from by decide] at H6
  have hb0 := Below.refl w.heap.size w
  clear hL
  go_enter Tryd.func9, Tryd.ntmps9
  go_wp2_with fail
  refine (H1.out _ hb0).mono ?_
  rintro e w1 ⟨rfl, hb1⟩
  go_wp2_with fail
  refine (H2.out _ hb1).mono ?_
  rintro e w2 ⟨rfl, hb2⟩
  go_wp2_with fail
  refine (H3.out _ hb2).mono ?_
  rintro e w3 ⟨rfl, hb3⟩
  go_wp2_with fail
  refine (H4.out _ hb3).mono ?_
  rintro e w4 ⟨rfl, hb4⟩
  go_wp2_with fail
  refine (H5.out _ hb4).mono ?_
  rintro e w5 ⟨rfl, hb5⟩
  go_wp2_with fail
  refine (H6.out _ hb5).mono ?_
  rintro e w6 ⟨rfl, hb6⟩
  go_wp2
  go_ret
  exact ⟨rfl, hb6⟩
theorem frm_awake {w : World} (hL : Laid w) : Frm w 9 #[] (.bool true) := frm_below hL fun W h => awake_any W h
end Ks
end Go.Proofs.YtbfmbhilkgnkeaaDoor
