/- Walks of layer 9, the eleventh part: contracts in the form that the laws use, awake. -/
import Derived.Test.YtilippcmdhkddaaDoorLkJ
namespace Go.Proofs.YtilippcmdhkddaaDoor
open Go Go.RowKit
namespace Lk
open Es
set_option maxRecDepth 100000
set_option linter.unusedVariables false
set_option linter.unusedSimpArgs false

/-- What a call returns wherever nothing of what lay in w has turned. -/
def Frm (w : World) (f : FuncId) (args : Array Value) (v : Value) : Prop := ∀ W, Below w.heap.size w W → Calls Tryd.prog f args W fun e w' => e = .returned v ∧ Below w.heap.size w w'
theorem frm_below {w : World} {f : FuncId} {args : Array Value} {v : Value} (hL : LaidL w) (h : ∀ W, LaidL W → Calls Tryd.prog f args W fun e w' => e = .returned v ∧ Below W.heap.size W w') : Frm w f args v :=
  fun W hb => (h W (hL.below hb)).mono fun e w' ⟨h1, h2⟩ => ⟨h1, hb.trans (h2.mono hb.size)⟩
theorem same_below {P : Program} {f : FuncId} {args : Array Value} {W : World} {v : Value} (h : Calls P f args W fun e W' => e = .returned v ∧ W = W') : Calls P f args W fun e W' => e = .returned v ∧ Below W.heap.size W W' :=
  h.mono fun _ _ ⟨a, b⟩ => ⟨a, b ▸ Below.refl _ _⟩
theorem mk_of (x : ByteArray) : str x.data.toList = .string x := by unfold str; rw [ba_selfL]

theorem labV_of {l : List UInt8} {x : ByteArray} {n : Nat} (h : labP l = (x.data.toList, n)) : labV l = .tuple #[.string x, .int .i64 (n : Int)] := by unfold labV; rw [h]; simp only; rw [mk_of]
theorem titV_of {l : List UInt8} {x : ByteArray} {n : Nat} (h : titP l = (x.data.toList, n)) : titV l = .tuple #[.string x, .int .i64 (n : Int)] := by unfold titV; rw [h]; simp only; rw [mk_of]
theorem dstV_of {l : List UInt8} {x : ByteArray} {n : Nat} {b : Bool} (h : destP l = (x.data.toList, n, b)) : dstV l = .tuple #[.string x, .int .i64 (n : Int), .bool b] := by unfold dstV; rw [h]; simp only; rw [mk_of]
theorem tailV_of {l : List UInt8} {x y : ByteArray} {n : Nat} (h : tailP l = (x.data.toList, y.data.toList, n)) : tailV l = .tuple #[.string x, .string y, .int .i64 (n : Int)] := by unfold tailV; rw [h]; simp only; rw [mk_of, mk_of]

theorem frm_label {w : World} (hL : LaidL w) {s x : ByteArray} {n : Nat} (hz : s.size ≤ 100000) (h : labP s.data.toList = (x.data.toList, n)) : Frm w 10 #[.string s] (.tuple #[.string x, .int .i64 (n : Int)]) :=
  frm_below hL fun W hW => by have := label_any s W (by omega) hW; rw [labV_of h] at this; exact this
theorem frm_title {w : World} (hL : LaidL w) {s x : ByteArray} {n : Nat} (hz : s.size ≤ 100000) (h : titP s.data.toList = (x.data.toList, n)) : Frm w 14 #[.string s] (.tuple #[.string x, .int .i64 (n : Int)]) :=
  frm_below hL fun W hW => by have := title_any s W (by omega) hW; rw [titV_of h] at this; exact this
theorem frm_dest {w : World} (hL : LaidL w) {s x : ByteArray} {n : Nat} {b : Bool} (hz : s.size ≤ 100000) (h : destP s.data.toList = (x.data.toList, n, b)) : Frm w 12 #[.string s] (.tuple #[.string x, .int .i64 (n : Int), .bool b]) :=
  frm_below hL fun W hW => by have := dest_any s W (by omega) hW; rw [dstV_of h] at this; exact this
theorem frm_tail {w : World} (hL : LaidL w) {s x y : ByteArray} {n : Nat} (hz : s.size ≤ 100000) (h : tailP s.data.toList = (x.data.toList, y.data.toList, n)) : Frm w 16 #[.string s] (.tuple #[.string x, .string y, .int .i64 (n : Int)]) :=
  frm_below hL fun W hW => by have := tail_any s W (by omega) hW; rw [tailV_of h] at this; exact this
theorem frm_white {w : World} (hL : LaidL w) {s : ByteArray} {n : Nat} (hz : s.size ≤ 100000) (h : whN s.data.toList = n) : Frm w 18 #[.string s] (.int .i64 (n : Int)) :=
  frm_below hL fun W hW => by have := white_any s W (by omega); rw [h] at this; exact this
theorem frm_rlabel {w : World} (hL : LaidL w) {s x : ByteArray} {n : Nat} (hz : s.size ≤ 100000) (h : labP s.data.toList = (x.data.toList, n)) : Frm w 11 #[.string s] (.tuple #[.string x, .int .i64 (n : Int)]) :=
  frm_below hL fun W hW => by have := rlabel_any s W (by omega); rw [labV_of h] at this; exact this
theorem frm_rtitle {w : World} (hL : LaidL w) {s x : ByteArray} {n : Nat} (hz : s.size ≤ 100000) (h : titP s.data.toList = (x.data.toList, n)) : Frm w 15 #[.string s] (.tuple #[.string x, .int .i64 (n : Int)]) :=
  frm_below hL fun W hW => by have := rtitle_any s W hz; rw [titV_of h] at this; exact this
theorem frm_rdest {w : World} (hL : LaidL w) {s x : ByteArray} {n : Nat} {b : Bool} (hz : s.size ≤ 100000) (h : destP s.data.toList = (x.data.toList, n, b)) : Frm w 13 #[.string s] (.tuple #[.string x, .int .i64 (n : Int), .bool b]) :=
  frm_below hL fun W hW => by have := rdest_any s W hz; rw [dstV_of h] at this; exact this
theorem frm_rtail {w : World} (hL : LaidL w) {s x y : ByteArray} {n : Nat} (hz : s.size ≤ 100000) (h : tailP s.data.toList = (x.data.toList, y.data.toList, n)) : Frm w 17 #[.string s] (.tuple #[.string x, .string y, .int .i64 (n : Int)]) :=
  frm_below hL fun W hW => by have := rtail_any s W hz; rw [tailV_of h] at this; exact this
theorem frm_rwhite {w : World} (hL : LaidL w) {s : ByteArray} {n : Nat} (hz : s.size ≤ 100000) (h : whN s.data.toList = n) : Frm w 19 #[.string s] (.int .i64 (n : Int)) :=
  frm_below hL fun W hW => by have := same_below (rwhite_any s W (by omega)); rw [h] at this; exact this

theorem lab_ex (l : List UInt8) : ∃ (x : ByteArray) (n : Nat), labP l = (x.data.toList, n) := by
  obtain ⟨x, hx⟩ := ba_mkL (labP l).1
  exact ⟨x, (labP l).2, by rw [hx]⟩
theorem tit_ex (l : List UInt8) : ∃ (x : ByteArray) (n : Nat), titP l = (x.data.toList, n) := by
  obtain ⟨x, hx⟩ := ba_mkL (titP l).1
  exact ⟨x, (titP l).2, by rw [hx]⟩
theorem dst_ex (l : List UInt8) : ∃ (x : ByteArray) (n : Nat) (b : Bool), destP l = (x.data.toList, n, b) := by
  obtain ⟨x, hx⟩ := ba_mkL (destP l).1
  exact ⟨x, (destP l).2.1, (destP l).2.2, by rw [hx]⟩
theorem tail_ex (l : List UInt8) : ∃ (x y : ByteArray) (n : Nat), tailP l = (x.data.toList, y.data.toList, n) := by
  obtain ⟨x, hx⟩ := ba_mkL (tailP l).1
  obtain ⟨y, hy⟩ := ba_mkL (tailP l).2.1
  exact ⟨x, y, (tailP l).2.2, by rw [hx, hy]⟩

set_option maxHeartbeats 2000000 in
theorem awake_any (w : World) (hL : LaidL w) :
    Calls Tryd.prog 9 #[] w fun e w' => e = .returned (.bool true) ∧ Below w.heap.size w w' := by
  have H1 := Lib.hid (frm_label hL (s := ⟨#[91, 97, 93, 98]⟩) (x := ⟨#[97]⟩) (by decide) ex_label)
  have H2 := Lib.hid (frm_dest hL (s := ⟨#[60, 97, 32, 98, 62]⟩) (x := ⟨#[97, 32, 98]⟩) (by decide) ex_dest)
  have H3 := Lib.hid (frm_title hL (s := ⟨#[39, 120, 39, 32, 121]⟩) (x := ⟨#[120]⟩) (by decide) ex_title)
  have H4 := Lib.hid (frm_tail hL (s := ⟨#[40, 47, 117, 32, 34, 116, 34, 41]⟩) (x := ⟨#[47, 117]⟩) (y := ⟨#[116]⟩) (by decide) ex_tail)
  have H5 := Lib.hid (frm_white hL (s := ⟨#[32, 10, 120]⟩) (by decide) ex_white)
  have hb0 := Below.refl w.heap.size w
  clear hL
  go_enter Tryd.func9, Tryd.ntmps9
  go_wp2_with fail
  refine (H1.out _ hb0).mono ?_
  rintro e w1 ⟨rfl, hb1⟩
  go_wp2_with fail
  refine (H2.out _ hb1).mono ?_
  rintro e w2 ⟨rfl, hb2⟩
  go_wp2_with fail
  refine (H3.out _ hb2).mono ?_
  rintro e w3 ⟨rfl, hb3⟩
  go_wp2_with fail
  refine (H4.out _ hb3).mono ?_
  rintro e w4 ⟨rfl, hb4⟩
  go_wp2_with fail
  refine (H5.out _ hb4).mono ?_
  rintro e w5 ⟨rfl, hb5⟩
  go_wp2
  go_ret
  exact ⟨rfl, hb5⟩
theorem frm_awake {w : World} (hL : LaidL w) : Frm w 9 #[] (.bool true) := frm_below hL fun W h => awake_any W h
end Lk
end Go.Proofs.YtilippcmdhkddaaDoor
