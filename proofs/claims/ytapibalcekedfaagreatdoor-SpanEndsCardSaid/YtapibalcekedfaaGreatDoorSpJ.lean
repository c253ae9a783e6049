/- Walks of layer 12, the tenth part: contracts in the form that the laws use, awake. -/
import Derived.Test.YtapibalcekedfaaGreatDoorSpI
namespace Go.Proofs.YtapibalcekedfaaGreatDoor
open Go Go.RowKit
namespace Sp
open Sc
set_option maxRecDepth 100000
set_option linter.unusedVariables false
set_option linter.unusedSimpArgs false

/-- What a call returns wherever nothing of what lay in w has turned. -/
def Frm (w : World) (f : FuncId) (args : Array Value) (v : Value) : Prop := ∀ W, Below w.heap.size w W → Calls Tryz.prog f args W fun e w' => e = .returned v ∧ Below w.heap.size w w'
theorem frm_below {w : World} {f : FuncId} {args : Array Value} {v : Value} (hL : LaidP w) (h : ∀ W, LaidP W → Calls Tryz.prog f args W fun e w' => e = .returned v ∧ Below W.heap.size W w') : Frm w f args v :=
  fun W hb => (h W (hL.below hb)).mono fun e w' ⟨h1, h2⟩ => ⟨h1, hb.trans (h2.mono hb.size)⟩
theorem same_below {P : Program} {f : FuncId} {args : Array Value} {W : World} {v : Value} (h : Calls P f args W fun e W' => e = .returned v ∧ W = W') : Calls P f args W fun e W' => e = .returned v ∧ Below W.heap.size W W' :=
  h.mono fun _ _ ⟨a, b⟩ => ⟨a, b ▸ Below.refl _ _⟩
theorem frm_code {w : World} (hL : LaidP w) {s b : ByteArray} {n : Int} (hs : s.size ≤ 100000) (h : codeV (codeP s.data.toList) = .tuple #[.string b, .int .i64 n]) : Frm w 10 #[.string s] (.tuple #[.string b, .int .i64 n]) :=
  frm_below hL fun W hW => by have := code_any s W (by omega) hW; rwa [h] at this
theorem frm_rcode {w : World} (hL : LaidP w) {s b : ByteArray} {n : Int} (hs : s.size ≤ 100000) (h : codeV (codeP s.data.toList) = .tuple #[.string b, .int .i64 n]) : Frm w 11 #[.string s] (.tuple #[.string b, .int .i64 n]) :=
  frm_below hL fun W hW => by have := rcode_any s W (by omega); rwa [h] at this
theorem frm_auto {w : World} (hL : LaidP w) {s b c : ByteArray} {n : Int} (hs : s.size ≤ 100000) (h : autoV (autoP s.data.toList) = .tuple #[.string b, .string c, .int .i64 n]) : Frm w 12 #[.string s] (.tuple #[.string b, .string c, .int .i64 n]) :=
  frm_below hL fun W hW => by have := auto_any s W (by omega) hW; rwa [h] at this
theorem frm_rauto {w : World} (hL : LaidP w) {s b c : ByteArray} {n : Int} (hs : s.size ≤ 100000) (h : autoV (autoP s.data.toList) = .tuple #[.string b, .string c, .int .i64 n]) : Frm w 13 #[.string s] (.tuple #[.string b, .string c, .int .i64 n]) :=
  frm_below hL fun W hW => by have := same_below (rauto_any s W (by omega)); rwa [h] at this
theorem frm_raw {w : World} (hL : LaidP w) {s : ByteArray} {n : Nat} (hs : s.size ≤ 100000) (h : rawP s.data.toList = n) : Frm w 14 #[.string s] (.int .i64 (n : Int)) :=
  frm_below hL fun W hW => by have := raw_any s W (by omega) hW; rwa [h] at this
theorem frm_rraw {w : World} (hL : LaidP w) {s : ByteArray} {n : Nat} (hs : s.size ≤ 100000) (h : rawP s.data.toList = n) : Frm w 15 #[.string s] (.int .i64 (n : Int)) :=
  frm_below hL fun W hW => by have := rraw_any s W (by omega); rwa [h] at this
theorem frm_run {w : World} (hL : LaidP w) {s : ByteArray} {n : Nat} (hs : s.size ≤ 100000) (h : runP s.data.toList = n) : Frm w 16 #[.string s] (.int .i64 (n : Int)) :=
  frm_below hL fun W hW => by have := run_any s W (by omega); rwa [h] at this
theorem frm_rrun {w : World} (hL : LaidP w) {s : ByteArray} {n : Nat} (hs : s.size ≤ 100000) (h : runP s.data.toList = n) : Frm w 17 #[.string s] (.int .i64 (n : Int)) :=
  frm_below hL fun W hW => by have := rrun_any s W (by omega); rwa [h] at this
theorem codeV_form (l : List UInt8) : ∃ (b : ByteArray) (n : Nat), codeV (codeP l) = .tuple #[.string b, .int .i64 (n : Int)] := by
  cases codeP l with
  | none => exact ⟨⟨#[]⟩, 0, rfl⟩
  | some p => exact ⟨⟨p.1.toArray⟩, p.2, rfl⟩
theorem autoV_form (l : List UInt8) : ∃ (b c : ByteArray) (n : Nat), autoV (autoP l) = .tuple #[.string b, .string c, .int .i64 (n : Int)] := by
  cases autoP l with
  | none => exact ⟨⟨#[]⟩, ⟨#[]⟩, 0, rfl⟩
  | some p => exact ⟨⟨(autoA p.1 p.2).toArray⟩, ⟨p.2.toArray⟩, p.2.length + 2, rfl⟩

set_option maxHeartbeats 2000000 in
theorem awake_any (w : World) (hL : LaidP w) :
    Calls Tryz.prog 9 #[] w fun e w' => e = .returned (.bool true) ∧ Below w.heap.size w w' := by
  have H1 := Lib.hid (frm_code hL (s := ⟨#[96, 96, 32, 97, 96, 98, 32, 96, 96]⟩) (b := ⟨#[97, 96, 98]⟩) (n := 9) (by decide) (by rw [show codeP (⟨#[96, 96, 32, 97, 96, 98, 32, 96, 96]⟩ : ByteArray).data.toList = some ([97, 96, 98], 9) by decide +kernel]; rfl))
  have H2 := Lib.hid (frm_auto hL (s := ⟨#[60, 97, 58, 98, 62]⟩) (b := ⟨#[]⟩) (c := ⟨#[]⟩) (n := 0) (by decide) (by rw [show autoP (⟨#[60, 97, 58, 98, 62]⟩ : ByteArray).data.toList = none by decide +kernel]; rfl))
  have H3 := Lib.hid (frm_auto hL (s := ⟨#[60, 120, 64, 121, 46, 122, 62]⟩) (b := ⟨#[109, 97, 105, 108, 116, 111, 58, 120, 64, 121, 46, 122]⟩) (c := ⟨#[120, 64, 121, 46, 122]⟩) (n := 7) (by decide) (by rw [show autoP (⟨#[60, 120, 64, 121, 46, 122, 62]⟩ : ByteArray).data.toList = some (true, [120, 64, 121, 46, 122]) by decide +kernel]; rfl))
  have H4 := Lib.hid (frm_raw hL (s := ⟨#[60, 33, 45, 45, 62]⟩) (n := 5) (by decide) (by decide +kernel))
  have H5 := Lib.hid (frm_run hL (s := ⟨#[97, 97, 98]⟩) (n := 2) (by decide) (by decide +kernel))
  have hb0 := Below.refl w.heap.size w
  clear hL
  go_enter Tryz.func9, Tryz.ntmps9
  go_wp2_with fail
  refine (H1.out _ hb0).mono ?_
  rintro e w1 ⟨rfl, hb1⟩
  go_wp2_with fail
  refine (H2.out _ hb1).mono ?_
  rintro e w2 ⟨rfl, hb2⟩
  go_wp2_with fail
  refine (H3.out _ hb2).mono ?_
  rintro e w3 ⟨rfl, hb3⟩
  go_wp2_with fail
  refine (H4.out _ hb3).mono ?_
  rintro e w4 ⟨rfl, hb4⟩
  go_wp2_with fail
  refine (H5.out _ hb4).mono ?_
  rintro e w5 ⟨rfl, hb5⟩
  go_wp2
  go_ret
  exact ⟨rfl, hb5⟩
theorem frm_awake {w : World} (hL : LaidP w) : Frm w 9 #[] (.bool true) := frm_below hL fun W h => awake_any W h
end Sp
end Go.Proofs.YtapibalcekedfaaGreatDoor
