/- Walks of layer 8, the twentieth part: contracts in the form that the laws use, awake. -/
import Derived.Test.YtnpaagglnfocpaaGreatDoorScU
namespace Go.Proofs.YtnpaagglnfocpaaGreatDoor
open Go Go.RowKit
namespace Sc
set_option maxRecDepth 100000
set_option linter.unusedVariables false
set_option linter.unusedSimpArgs false

/-- What a call returns wherever nothing of what lay in w has turned. -/
def Frm (w : World) (f : FuncId) (args : Array Value) (v : Value) : Prop := ∀ W, Below w.heap.size w W → Calls Tryz.prog f args W fun e w' => e = .returned v ∧ Below w.heap.size w w'
theorem frm_below {w : World} {f : FuncId} {args : Array Value} {v : Value} (hL : LaidS w) (h : ∀ W, LaidS W → Calls Tryz.prog f args W fun e w' => e = .returned v ∧ Below W.heap.size W w') : Frm w f args v :=
  fun W hb => (h W (hL.below hb)).mono fun e w' ⟨h1, h2⟩ => ⟨h1, hb.trans (h2.mono hb.size)⟩
theorem same_below {P : Program} {f : FuncId} {args : Array Value} {W : World} {v : Value} (h : Calls P f args W fun e W' => e = .returned v ∧ W = W') : Calls P f args W fun e W' => e = .returned v ∧ Below W.heap.size W W' :=
  h.mono fun _ _ ⟨a, b⟩ => ⟨a, b ▸ Below.refl _ _⟩
theorem frm_atx {w : World} (hL : LaidS w) {s : ByteArray} {a : Nat} {b : ByteArray} (hs : s.size ≤ 100000) (h2 : atxP s.data.toList = (a, b.data.toList)) : Frm w 11 #[.string s] (.tuple #[.int .i64 (a : Int), .string b]) :=
  frm_below hL fun W h => by
    have hs2 : s.size ≤ 1000000 := by omega
    have := atx_any s W hs2
    rw [h2] at this; unfold atxV at this; simp only at this; rw [ba_self] at this; exact this
theorem frm_ratx {w : World} (hL : LaidS w) {s : ByteArray} {a : Nat} {b : ByteArray} (hs : s.size ≤ 100000) (h2 : atxP s.data.toList = (a, b.data.toList)) : Frm w 12 #[.string s] (.tuple #[.int .i64 (a : Int), .string b]) :=
  frm_below hL fun W h => by
    have hs2 : s.size ≤ 1000000 := by omega
    have := ratx_any s W hs2
    rw [h2] at this; unfold atxV at this; simp only at this; rw [ba_self] at this; exact this
theorem frm_fence {w : World} (hL : LaidS w) {s : ByteArray} {c : UInt8} {a : Nat} {b : ByteArray} (hs : s.size ≤ 100000) (h2 : fenceP s.data.toList = (c, a, b.data.toList)) : Frm w 13 #[.string s] (.tuple #[.int .u8 (c.toNat : Int), .int .i64 (a : Int), .string b]) :=
  frm_below hL fun W h => by
    have hs2 : s.size ≤ 1000000 := by omega
    have := fence_any s W hs2
    rw [h2] at this; unfold fenV at this; simp only at this; rw [ba_self] at this; exact this
theorem frm_rfence {w : World} (hL : LaidS w) {s : ByteArray} {c : UInt8} {a : Nat} {b : ByteArray} (hs : s.size ≤ 100000) (h2 : fenceP s.data.toList = (c, a, b.data.toList)) : Frm w 14 #[.string s] (.tuple #[.int .u8 (c.toNat : Int), .int .i64 (a : Int), .string b]) :=
  frm_below hL fun W h => by
    have hs2 : s.size ≤ 1000000 := by omega
    have := rfence_any s W hs2
    rw [h2] at this; unfold fenV at this; simp only at this; rw [ba_self] at this; exact this
theorem frm_ord {w : World} (hL : LaidS w) {s : ByteArray} {a : Nat} {c : UInt8} {b : Nat} (hs : s.size ≤ 100000) (h2 : ordP s.data.toList = (a, c, b)) : Frm w 15 #[.string s] (.tuple #[.int .i64 (a : Int), .int .u8 (c.toNat : Int), .int .i64 (b : Int)]) :=
  frm_below hL fun W h => by
    have hs2 : s.size ≤ 1000000 := by omega
    have := ordered_any s W hs2
    rw [h2] at this; unfold ordV at this; simp only at this; exact this
theorem frm_rord {w : World} (hL : LaidS w) {s : ByteArray} {a : Nat} {c : UInt8} {b : Nat} (hs : s.size ≤ 100000) (h2 : ordP s.data.toList = (a, c, b)) : Frm w 16 #[.string s] (.tuple #[.int .i64 (a : Int), .int .u8 (c.toNat : Int), .int .i64 (b : Int)]) :=
  frm_below hL fun W h => by
    have hs2 : s.size ≤ 1000000 := by omega
    have := rordered_any s W hs2
    rw [h2] at this; unfold ordV at this; simp only at this; exact this
theorem frm_rule {w : World} (hL : LaidS w) {s : ByteArray} {b : Bool} (hs : s.size ≤ 100000) (h2 : ruleP s.data.toList = b) : Frm w 17 #[.string s] (.bool b) :=
  frm_below hL fun W h => by
    have hs2 : s.size ≤ 1000000 := by omega
    have := rule_any s W hs2
    rw [h2] at this; exact this
theorem frm_rrule {w : World} (hL : LaidS w) {s : ByteArray} {b : Bool} (hs : s.size ≤ 100000) (h2 : ruleP s.data.toList = b) : Frm w 18 #[.string s] (.bool b) :=
  frm_below hL fun W h => by
    have hs2 : s.size ≤ 1000000 := by omega
    have := rrule_any s W hs2
    rw [h2] at this; exact this
theorem frm_set {w : World} (hL : LaidS w) {s : ByteArray} {a : Nat} (hs : s.size ≤ 100000) (h2 : setP s.data.toList = a) : Frm w 19 #[.string s] (.int .i64 (a : Int)) :=
  frm_below hL fun W h => by
    have hs2 : s.size ≤ 1000000 := by omega
    have := setext_any s W hs2
    rw [h2] at this; exact this
theorem frm_rset {w : World} (hL : LaidS w) {s : ByteArray} {a : Nat} (hs : s.size ≤ 100000) (h2 : setP s.data.toList = a) : Frm w 20 #[.string s] (.int .i64 (a : Int)) :=
  frm_below hL fun W h => by
    have hs2 : s.size ≤ 1000000 := by omega
    have := rsetext_any s W hs2
    rw [h2] at this; exact same_below this
theorem frm_bul {w : World} (hL : LaidS w) {s : ByteArray} {a : Nat} (hs : s.size ≤ 100000) (h2 : bulP s.data.toList = a) : Frm w 23 #[.string s] (.int .i64 (a : Int)) :=
  frm_below hL fun W h => by
    have hs2 : s.size ≤ 1000000 := by omega
    have := bullet_any s W hs2
    rw [h2] at this; exact same_below this
theorem frm_rbul {w : World} (hL : LaidS w) {s : ByteArray} {a : Nat} (hs : s.size ≤ 100000) (h2 : bulP s.data.toList = a) : Frm w 24 #[.string s] (.int .i64 (a : Int)) :=
  frm_below hL fun W h => by
    have hs2 : s.size ≤ 1000000 := by omega
    have := rbullet_any s W hs2
    rw [h2] at this; exact same_below this
theorem frm_closes {w : World} (hL : LaidS w) {s : ByteArray} {c : UInt8} {n : Int} {b : Bool} (hs : s.size ≤ 100000) (h2 : closesP s.data.toList c n = b) : Frm w 21 #[.string s, .int .u8 (c.toNat : Int), .int .i64 n] (.bool b) :=
  frm_below hL fun W h => by
    have hs2 : s.size ≤ 1000000 := by omega
    have := closes_any s c n W hs2
    rw [h2] at this; exact this
theorem frm_rcloses {w : World} (hL : LaidS w) {s : ByteArray} {c : UInt8} {n : Int} {b : Bool} (hs : s.size ≤ 100000) (h2 : closesP s.data.toList c n = b) : Frm w 22 #[.string s, .int .u8 (c.toNat : Int), .int .i64 n] (.bool b) :=
  frm_below hL fun W h => by
    have hs2 : s.size ≤ 1000000 := by omega
    have := rcloses_any s c n W hs2
    rw [h2] at this; exact same_below this
theorem frm_tag {w : World} (hL : LaidS w) {s : ByteArray} {a : Nat} (hs : s.size ≤ 100000) (h2 : tagN s.data.toList = a) : Frm w 25 #[.string s] (.int .i64 (a : Int)) :=
  frm_below hL fun W h => by
    have hs2 : s.size ≤ 1000000 := by omega
    have := tag_any s W hs2
    rw [h2] at this; exact this
theorem frm_rtag {w : World} (hL : LaidS w) {s : ByteArray} {a : Nat} (hs : s.size ≤ 100000) (h2 : tagN s.data.toList = a) : Frm w 26 #[.string s] (.int .i64 (a : Int)) :=
  frm_below hL fun W h => by
    have hs2 : s.size ≤ 1000000 := by omega
    have := rtag_any s W hs2
    rw [h2] at this; exact this
theorem frm_html {w : World} (hL : LaidS w) {s : ByteArray} {a : Nat} (hs : s.size ≤ 100000) (h2 : htmlS s.data.toList = a) : Frm w 27 #[.string s] (.int .i64 (a : Int)) :=
  frm_below hL fun W h => by
    have hs2 : s.size ≤ 1000000 := by omega
    have := html_any s W hs2 h.caps
    rw [h2] at this; exact this
theorem frm_rhtml {w : World} (hL : LaidS w) {s : ByteArray} {a : Nat} (hs : s.size ≤ 100000) (h2 : htmlS s.data.toList = a) : Frm w 28 #[.string s] (.int .i64 (a : Int)) :=
  frm_below hL fun W h => by
    have hs2 : s.size ≤ 1000000 := by omega
    have := rhtml_any s W hs2
    rw [h2] at this; exact this
theorem frm_ends {w : World} (hL : LaidS w) {s : ByteArray} {k : Int} {b : Bool} (hs : s.size ≤ 100000) (h2 : endsP s.data.toList k = b) : Frm w 29 #[.string s, .int .i64 k] (.bool b) :=
  frm_below hL fun W h => by
    have hs2 : s.size ≤ 1000000 := by omega
    have := htmlEnds_any s k W hs2 h
    rw [h2] at this; exact this
theorem frm_rends {w : World} (hL : LaidS w) {s : ByteArray} {k : Int} {b : Bool} (hs : s.size ≤ 100000) (h2 : endsP s.data.toList k = b) : Frm w 30 #[.string s, .int .i64 k] (.bool b) :=
  frm_below hL fun W h => by
    have hs2 : s.size ≤ 1000000 := by omega
    have := rhtmlEnds_any s k W hs2
    rw [h2] at this; exact this

set_option maxHeartbeats 2000000 in
theorem awake_any (w : World) (hL : LaidS w) :
    Calls Tryz.prog 10 #[] w fun e w' => e = .returned (.bool true) ∧ Below w.heap.size w w' := by
  have H1 := Lib.hid (frm_atx hL (s := ⟨#[35, 35, 32, 97, 32, 35]⟩) (a := 2) (b := ⟨#[97]⟩) (by decide) (by decide +kernel))
  have H2 := Lib.hid (frm_fence hL (s := ⟨#[126, 126, 126, 32, 120]⟩) (c := 126) (a := 3) (b := ⟨#[120]⟩) (by decide) (by decide +kernel))
  have H3 := Lib.hid (frm_ord hL (s := ⟨#[49, 50, 41, 32, 97]⟩) (a := 12) (c := 41) (b := 3) (by decide) (by decide +kernel))
  have H4 := Lib.hid (frm_rule hL (s := ⟨#[45, 32, 45, 32, 45]⟩) (b := true) (by decide) (by decide +kernel))
  have H5 := Lib.hid (frm_html hL (s := ⟨#[60, 100, 105, 118, 62]⟩) (a := 6) (by decide) (by decide +kernel))
  have H6 := Lib.hid (frm_tag hL (s := ⟨#[60, 97, 32, 98, 61, 99, 62, 120]⟩) (a := 7) (by decide) (by decide +kernel))
  have H7 := Lib.hid (frm_set hL (s := ⟨#[45, 45, 45]⟩) (a := 2) (by decide) (by decide +kernel))
  have hb0 := Below.refl w.heap.size w
  clear hL
  go_enter Tryz.func10, Tryz.ntmps10
  go_wp2_with fail
  refine (H1.out _ hb0).mono ?_
  rintro e w1 ⟨rfl, hb1⟩
  go_wp2_with fail
  refine (H2.out _ hb1).mono ?_
  rintro e w2 ⟨rfl, hb2⟩
  go_wp2_with fail
  refine (H3.out _ hb2).mono ?_
  rintro e w3 ⟨rfl, hb3⟩
  go_wp2_with fail
  refine (H4.out _ hb3).mono ?_
  rintro e w4 ⟨rfl, hb4⟩
  go_wp2_with fail
  refine (H5.out _ hb4).mono ?_
  rintro e w5 ⟨rfl, hb5⟩
  go_wp2_with fail
  refine (H6.out _ hb5).mono ?_
  rintro e w6 ⟨rfl, hb6⟩
  go_wp2_with fail
  refine (H7.out _ hb6).mono ?_
  rintro e w7 ⟨rfl, hb7⟩
  go_wp2
  go_ret
  exact ⟨rfl, hb7⟩
theorem frm_awake {w : World} (hL : LaidS w) : Frm w 10 #[] (.bool true) := frm_below hL fun W h => awake_any W h
end Sc
end Go.Proofs.YtnpaagglnfocpaaGreatDoor
