/- Walks of layer 5, the eighth part: contracts in the form that the laws use, awake. -/
import Derived.Test.YtimmifoicihadaaDoorEscF
import Derived.Test.YtimmifoicihadaaDoorEscG
namespace Go.Proofs.YtimmifoicihadaaDoor
open Go Go.RowKit
namespace Es
open En
set_option maxRecDepth 100000
set_option linter.unusedVariables false
set_option linter.unusedSimpArgs false

/-- What a call returns wherever nothing of what lay in w has turned. -/
def Frm (w : World) (f : FuncId) (args : Array Value) (v : Value) : Prop := ∀ W, Below w.heap.size w W → Calls Tryd.prog f args W fun e w' => e = .returned v ∧ Below w.heap.size w w'
theorem frm_eq {w : World} {f : FuncId} {args : Array Value} {v : Value} (hL : LaidK w) (h : ∀ W, LaidK W → Calls Tryd.prog f args W fun e w' => e = .returned v ∧ W = w') : Frm w f args v :=
  fun W hb => (h W (hL.below hb)).mono fun e w' ⟨h1, h2⟩ => ⟨h1, h2 ▸ hb⟩
theorem frm_below {w : World} {f : FuncId} {args : Array Value} {v : Value} (hL : LaidK w) (h : ∀ W, LaidK W → Calls Tryd.prog f args W fun e w' => e = .returned v ∧ Below W.heap.size W w') : Frm w f args v :=
  fun W hb => (h W (hL.below hb)).mono fun e w' ⟨h1, h2⟩ => ⟨h1, hb.trans (h2.mono hb.size)⟩
theorem sz_le {s : ByteArray} {l : List UInt8} {n : Nat} (hs : s.data.toList = l) (hl : l.length ≤ n) : s.size ≤ n := by rw [← sz, hs]; exact hl

theorem frm_sign {w : World} (hL : LaidK w) {b : Int} (h0 : 0 ≤ b) (h1 : b ≤ 255) : Frm w 17 #[.int .u8 b] (.bool (sgI b)) := frm_eq hL fun W h => sign_any b W h0 h1 h
theorem frm_html {w : World} (hL : LaidK w) {s : ByteArray} {l r : List UInt8} (hs : s.data.toList = l) (hr : html l = r) (hl : l.length ≤ 100000) : Frm w 11 #[.string s] (.string ⟨r.toArray⟩) :=
  frm_below hL fun W h => by subst hr; have := html_any s W (by have := sz_le hs hl; omega); rw [hs] at this; exact this
theorem frm_href {w : World} (hL : LaidK w) {s : ByteArray} {l r : List UInt8} (hs : s.data.toList = l) (hr : href l = r) (hl : l.length ≤ 100000) : Frm w 13 #[.string s] (.string ⟨r.toArray⟩) :=
  frm_below hL fun W h => by subst hr; have := href_any s W (by have := sz_le hs hl; omega); rw [hs] at this; exact this
theorem frm_une {w : World} (hL : LaidK w) {s : ByteArray} {l r : List UInt8} (hs : s.data.toList = l) (hr : une l = r) (hl : l.length ≤ 100000) : Frm w 15 #[.string s] (.string ⟨r.toArray⟩) :=
  frm_below hL fun W h => by subst hr; have := unescape_any s W (by have := sz_le hs hl; omega) h; rw [hs] at this; exact this

set_option maxHeartbeats 2000000 in
theorem awake_any (w : World) (hL : LaidK w) :
    Calls Tryd.prog 10 #[] w fun e w' => e = .returned (.bool true) ∧ Below w.heap.size w w' := by
  have H1 := Lib.hid (frm_html hL (s := ⟨#[97, 60, 98]⟩) rfl ex_html (by decide))
  have H2 := Lib.hid (frm_href hL (s := ⟨#[32, 195, 169]⟩) rfl ex_href (by decide))
  have H3 := Lib.hid (frm_une hL (s := ⟨#[92, 42, 38, 108, 116, 59]⟩) rfl ex_une (by decide))
  have H4 := Lib.hid (frm_sign hL (b := 42) (by decide) (by decide))
  have H5 := Lib.hid (frm_sign hL (b := 97) (by decide) (by decide))
  rw [show sgI 42 = true from by decide] at H4
  rw [show sgI 97 = false from by decide] at H5
  have hb0 := Below.refl w.heap.size w
  clear hL
  go_enter Tryd.func10, Tryd.ntmps10
  go_wp2_with fail
  refine (H1.out _ hb0).mono ?_
  rintro e w1 ⟨rfl, hb1⟩
  go_wp2_with fail
  refine (H2.out _ hb1).mono ?_
  rintro e w2 ⟨rfl, hb2⟩
  go_wp2_with fail
  refine (H3.out _ hb2).mono ?_
  rintro e w3 ⟨rfl, hb3⟩
  go_wp2_with fail
  refine (H4.out _ hb3).mono ?_
  rintro e w4 ⟨rfl, hb4⟩
  go_wp2_with fail
  refine (H5.out _ hb4).mono ?_
  rintro e w5 ⟨rfl, hb5⟩
  go_wp2
  go_ret
  exact ⟨rfl, hb5⟩
theorem frm_awake {w : World} (hL : LaidK w) : Frm w 10 #[] (.bool true) := frm_below hL fun W h => awake_any W h
end Es
end Go.Proofs.YtimmifoicihadaaDoor
