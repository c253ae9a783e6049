/- EscapeIs: the law's walk. -/
import Derived.Test.YtimmifoicihadaaDoorEscH
namespace Go.Proofs.YtimmifoicihadaaDoor
open Go Go.RowKit
namespace EscapeIs
open En Es
set_option maxRecDepth 100000
set_option linter.unusedVariables false
set_option linter.unusedSimpArgs false

theorem frm_rhtml {w : World} (hL : LaidK w) {s : ByteArray} {l r : List UInt8} (hs : s.data.toList = l) (hr : html l = r) (hl : l.length ≤ 100000) : Es.Frm w 12 #[.string s] (.string ⟨r.toArray⟩) :=
  Es.frm_eq hL fun W h => by subst hr; have := rhtml_any s W (by have := sz_le hs hl; omega); rw [hs] at this; exact this
theorem frm_rhref {w : World} (hL : LaidK w) {s : ByteArray} {l r : List UInt8} (hs : s.data.toList = l) (hr : href l = r) (hl : l.length ≤ 100000) : Es.Frm w 14 #[.string s] (.string ⟨r.toArray⟩) :=
  Es.frm_below hL fun W h => by subst hr; have := rhref_any s W (by have := sz_le hs hl; omega); rw [hs] at this; exact this
theorem frm_rune {w : World} (hL : LaidK w) {s : ByteArray} {l r : List UInt8} (hs : s.data.toList = l) (hr : une l = r) (hl : l.length ≤ 100000) : Es.Frm w 16 #[.string s] (.string ⟨r.toArray⟩) :=
  Es.frm_below hL fun W h => by subst hr; have := runescape_any s W (sz_le hs hl); rw [hs] at this; exact this

set_option maxHeartbeats 2000000 in
theorem law_any (s : ByteArray) (b : Int) (w : World) (hL : LaidK w) (hs : s.size ≤ maxLen) (h0 : 0 ≤ b) (h1 : b ≤ 255) :
    Calls Tryd.prog 3 #[.string s, .int .u8 b] w fun e w' => e = .returned (.bool true) ∧ Below w.heap.size w w' := by
  unfold maxLen at hs
  have HA := Lib.hid (Es.frm_awake hL)
  have hb0 := Below.refl w.heap.size w
  by_cases hbig : 2000 < s.size
  · have hb' : (2000 : Int) < (s.size : Int) := by omega
    clear hL
    go_enter Tryd.func3, Tryd.ntmps3
    go_wp2_with fail
    refine (HA.out _ hb0).mono ?_
    rintro e w1 ⟨rfl, hb1⟩
    go_wp2
    go_ret
    exact ⟨rfl, hb1⟩
  · have hb' : (s.size : Int) ≤ 2000 := by omega
    have hl : s.data.toList.length ≤ 100000 := by rw [sz]; omega
    have F1 := Lib.hid (frm_html hL (s := s) rfl rfl hl)
    have F2 := Lib.hid (frm_href hL (s := s) rfl rfl hl)
    have F3 := Lib.hid (frm_une hL (s := s) rfl rfl hl)
    have F4 := Lib.hid (frm_sign hL h0 h1)
    have G1 := Lib.hid (frm_rhtml hL (s := s) rfl rfl hl)
    have G2 := Lib.hid (frm_rhref hL (s := s) rfl rfl hl)
    have G3 := Lib.hid (frm_rune hL (s := s) rfl rfl hl)
    have G4 : Hid (Es.Frm w 18 #[.int .u8 b] (.bool (sgI b))) := Lib.hid (Es.frm_eq hL fun W h => rsign_any b W)
    clear hL hbig hl
    generalize (⟨(html s.data.toList).toArray⟩ : ByteArray) = x1 at *
    generalize (⟨(href s.data.toList).toArray⟩ : ByteArray) = x2 at *
    generalize (⟨(une s.data.toList).toArray⟩ : ByteArray) = x3 at *
    generalize sgI b = x4 at *
    go_enter Tryd.func3, Tryd.ntmps3
    go_wp2_with fail
    refine (HA.out _ hb0).mono ?_
    rintro e w1 ⟨rfl, hb1⟩
    go_wp2_with fail
    refine (F1.out _ hb1).mono ?_
    rintro e w2 ⟨rfl, hb2⟩
    go_wp2_with fail
    refine (G1.out _ hb2).mono ?_
    rintro e w3 ⟨rfl, hb3⟩
    go_wp2_with fail
    refine (F2.out _ hb3).mono ?_
    rintro e w4 ⟨rfl, hb4⟩
    go_wp2_with fail
    refine (G2.out _ hb4).mono ?_
    rintro e w5 ⟨rfl, hb5⟩
    go_wp2_with fail
    refine (F3.out _ hb5).mono ?_
    rintro e w6 ⟨rfl, hb6⟩
    go_wp2_with fail
    refine (G3.out _ hb6).mono ?_
    rintro e w7 ⟨rfl, hb7⟩
    go_wp2_with fail
    refine (F4.out _ hb7).mono ?_
    rintro e w8 ⟨rfl, hb8⟩
    go_wp2_with fail
    refine (G4.out _ hb8).mono ?_
    rintro e w9 ⟨rfl, hb9⟩
    go_wp2
    go_ret
    exact ⟨rfl, hb9⟩
end EscapeIs
end Go.Proofs.YtimmifoicihadaaDoor
