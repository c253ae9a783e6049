/- Walks of layer 3, the third part: Fold. -/
import Derived.Test.YtfabiidohdkkcaaGreatDoorClassAr
namespace Go.Proofs.YtfabiidohdkkcaaGreatDoor
open Go Go.RowKit
namespace Ks
open Tx
set_option maxRecDepth 100000
set_option linter.unusedVariables false
set_option linter.unusedSimpArgs false

/-- Numbers in a block of their own. -/
def RB (w : World) (b : Nat) (ns : List Nat) : Prop := ∃ cs fr, w.heap[b]? = some (.cells cs 21 fr) ∧ ∀ i (h : i < ns.length), cs[i]? = some (.int .i32 (ns[i] : Nat))
theorem RB.cell {w : World} {b : Nat} {ns : List Nat} (h : RB w b ns) (i : Nat) (hi : i < ns.length) : w.cell? ⟨b, i, none⟩ = some (.int .i32 (ns[i] : Nat)) := by
  obtain ⟨cs, fr, hb, hc⟩ := h
  simp [World.cell?, hb, hc i hi]
theorem RB.kept {w w' : World} {b B : Nat} {ns : List Nat} (h : RB w b ns) (hne : b ≠ B) (ho : Lib.OthersKept 5 (some B) w w') : RB w' b ns := by
  obtain ⟨cs, fr, hb, hc⟩ := h
  refine ⟨cs, fr, ho b _ hb (fun e => hne (Option.some.inj e)) (fun c fz e => ?_), hc⟩
  simp at e

theorem conv_srB (l : List UInt8) (w : World) (hl : (clean l).length ≤ 1000000000) : ∃ b cap W', (convert 9 83 (.string ⟨(clean l).toArray⟩)).run Tryz.prog w = .ok (.slice (some ⟨b, 0, none⟩) (runes l).length cap) W' ∧ w.heap.size ≤ b ∧ RB W' b (runes l) ∧ Below w.heap.size w W' := by
  have hlen : (chars l).length ≤ (clean l).length := by
    have := chars_length (clean l); rw [chars_clean] at this; exact this
  have hrf : Conv.runesFrom ⟨(clean l).toArray⟩ (clean l).length 0 #[] = ((runes l).map (fun n => Value.int .i32 (n : Nat))).toArray := by
    have := runesFrom_chars (chars l) [] (clean l).length #[] (chars_isChar l) hlen
    simp only [List.nil_append, List.length_nil] at this
    rw [show (chars l).flatten = clean l from rfl] at this
    rw [this]; simp [runes]
  have hsz : (runes l).length = (chars l).length := by simp [runes]
  have hrun := run_runes_of_string (P := Tryz.prog) w 9 83 21 ⟨(clean l).toArray⟩ Tryz.underlying9 Tryz.underlying83 Tryz.underlying21 (by rw [size_mk, hrf]; simp; omega)
  rw [size_mk, hrf] at hrun
  simp only [List.size_toArray, List.length_map] at hrun
  refine ⟨_, _, _, hrun, Nat.le_refl _, ⟨_, _, heap_alloc_new _ _, fun i hi => ?_⟩, (drew_below w).alloc (Nat.le_refl _) _⟩
  rw [Array.getElem?_append_left (by simpa using hi)]
  simp [List.getElem?_eq_getElem hi]

set_option maxHeartbeats 1000000 in
theorem runesB_any (s : ByteArray) (w : World) (hs : s.size ≤ 100000000) :
    Calls Tryz.prog 70 #[.string s] w fun e w' => ∃ b cap, e = .returned (.slice (some ⟨b, 0, none⟩) (runes s.data.toList).length cap) ∧ w.heap.size ≤ b ∧ RB w' b (runes s.data.toList) ∧ Below w.heap.size w w' := by
  have hdl : s.data.toList.length = s.size := by rw [Array.length_toList]; rfl
  obtain ⟨v1, w1, hcv, hsl, hb1⟩ := conv_sb s w (by unfold maxLen; omega)
  have Hsl := Lib.hid hsl
  clear hsl
  have hcl := clean_length s.data.toList
  go_enter Tryz.func70, Tryz.ntmps70
  go_wp2_with fail
  refine (clean_any _ _ _ Hsl.out (by omega)).mono ?_
  rintro e w2 ⟨rfl, hb2⟩
  obtain ⟨b3, cap3, w3, hcv3, hle3, hrs, hb3⟩ := conv_srB s.data.toList w2 (by omega)
  have Hrs := Lib.hid hrs
  clear hrs hcv
  have hbw := (hb1.trans (hb2.mono hb1.size))
  have hbw3 := hbw.trans (hb3.mono hbw.size)
  have hsz := hbw.size
  clear hb1 hb2 hb3 hbw
  go_wp2
  go_ret
  exact ⟨_, _, rfl, by omega, Hrs.out, hbw3⟩

/-- A builder of the call's own that holds these bytes. -/
def BF (B : Nat) (bs : List UInt8) (w : World) : Prop := Lib.IsBuilderF 73 5 B B (Lib.byteCells bs) w
theorem bf_below {W W' : World} {B : Nat} {bs : List UInt8} (h : BF B bs W) (hb : Below W.heap.size W W') : BF B bs W' := by
  have one : ∀ p, Lib.BuilderAtF 73 5 B B p (Lib.byteCells bs) W → Lib.BuilderAtF 73 5 B B p (Lib.byteCells bs) W' := by
    intro p h
    have hlt := h.lt
    obtain ⟨hB, v, hv, hown, hne⟩ := h
    exact ⟨hB, v, (hb.block B hlt).trans hv, hown.kept (row := none) ⟨hb.os, hb.tape, hb.output, hb.size, fun k hk _ => hb.block k hk⟩ (Classical.em _), hne⟩
  exact h.elim (fun x => .inl (one _ x)) (fun x => .inr (one _ x))

theorem byteCells_app (a b : List UInt8) : Lib.byteCells (a ++ b) = Lib.byteCells a ++ Lib.byteCells b := by simp [Lib.byteCells]
theorem strCells_mk (l : List UInt8) : Lib.strCells ⟨l.toArray⟩ = Lib.byteCells l := by simp [Lib.strCells, Lib.byteCells]
theorem u8i (n : Nat) (h : n < 256) : Value.int .u8 ((UInt8.ofNat n).toNat : Nat) = Value.int .u8 (n : Int) := by rw [toNat_of n h]
theorem runeCells_enc {n : Nat} (h : Valid n) : Lib.runeCells (n : Int) = Lib.byteCells (encN n) := by
  unfold Valid at h
  unfold Lib.runeCells encN
  by_cases h1 : n < 128
  · rw [Lib.encodeRuneZ_one (by omega) (by omega), if_pos h1]
    simp only [Lib.byteCells, List.map_cons, List.map_nil]
    rw [u8i _ (by omega)]
  by_cases h2 : n < 2048
  · rw [Lib.encodeRuneZ_two (by omega) (by omega), if_neg h1, if_pos h2]
    simp only [Lib.byteCells, List.map_cons, List.map_nil]
    rw [u8i _ (by omega), u8i _ (by omega)]
    rfl
  by_cases h3 : n < 65536
  · rw [Lib.encodeRuneZ_three (by omega), if_neg h1, if_neg h2, if_pos h3]
    simp only [Lib.byteCells, List.map_cons, List.map_nil]
    rw [u8i _ (by omega), u8i _ (by omega), u8i _ (by omega)]
    rfl
  · rw [Lib.encodeRuneZ_four (by omega) (by omega), if_neg h1, if_neg h2, if_neg h3]
    simp only [Lib.byteCells, List.map_cons, List.map_nil]
    rw [u8i _ (by omega), u8i _ (by omega), u8i _ (by omega), u8i _ (by omega)]
    rfl
theorem take_fold (R : List Nat) (k : Nat) (h : k < R.length) : enc (foldRs (R.take (k + 1))) = enc (foldRs (R.take k)) ++ enc (foldN R[k]) := by
  rw [List.take_succ_eq_append_getElem h, foldRs_app, enc_app]
  congr 2
  simp [foldRs]
theorem take_fold_len (R : List Nat) (k : Nat) : (enc (foldRs (R.take k))).length ≤ 8 * R.length := by
  have h1 := (enc_len (foldRs (R.take k))).2
  have h2 := foldRs_len (R.take k)
  have h3 : (R.take k).length ≤ R.length := by simp; omega
  omega
theorem ret_str' {a b : List UInt8} (h : a = b) : Ending.returned (.string ⟨a.toArray⟩) = .returned (str b) := by rw [h]; rfl

set_option maxHeartbeats 2000000 in
theorem fold_any (s : ByteArray) (w : World) (hs : s.size ≤ 100000000) (hL : Laid w) :
    Calls Tryz.prog 45 #[.string s] w fun e w' => e = .returned (str (fold s.data.toList)) ∧ Below w.heap.size w w' := by
  have HL := Lib.hid hL
  have hdl : s.data.toList.length = s.size := by rw [Array.length_toList]; rfl
  have hrl := runes_len s.data.toList
  go_enter Tryz.func45, Tryz.ntmps45
  go_wp2_with (go_at_call 64; refine (Tryz.Builder_Grow_fresh w.heap.size w.heap.size s.size _ (Nat.le_refl _) ?g1 ?g2 ?g3).mono ?_)
  case g1 => simp only [World.alloc, Array.getElem?_push_size]
  case g2 => simp
  case g3 => omega
  rintro e w1 ⟨rfl, hb1, hbw1⟩
  have hbw0 : Below w.heap.size w w1 := ((Below.refl _ w).alloc (Nat.le_refl _) _).trans hbw1
  have hB1 : BF w.heap.size [] w1 := Lib.IsBuilderF.of (Or.inr hb1)
  have hlt1 : w.heap.size < w1.heap.size := hb1.lt
  clear hbw1 hb1
  have HR := Lib.hid (runesB_any s w1 hs)
  go_wp2_with (go_at_call 70; refine HR.out.mono ?_; rintro e w2 ⟨b, cap, rfl, hle, hrb, hb2⟩)
  have hbw2 := hbw0.trans (hb2.mono hbw0.size)
  have hB2 := bf_below hB1 hb2
  have hne : b ≠ w.heap.size := by omega
  have HV := Lib.hid (runes_valid s.data.toList)
  have HF : Hid (fold s.data.toList = enc (foldRs (runes s.data.toList))) := Lib.hid rfl
  clear HR hB1 hb2 hbw0 hlt1 hle
  generalize runes s.data.toList = R at *
  go_loopg [12] R.length (fun g s12 wr => ∃ k : Nat, k + g = R.length ∧ s12 = .int .i64 k ∧ BF w.heap.size (enc (foldRs (R.take k))) wr ∧ RB wr b R ∧ Below w.heap.size w wr)
  case atStart => exact ⟨0, by omega, rfl, hB2, hrb, hbw2⟩
  case round =>
    obtain ⟨k, hkg, rfl, hB, hR, hbw⟩ := hrel
    have hsz := hbw.size
    clear hB2 hrb hbw2
    cases gk with
    | zero =>
      have hkl : ¬ ((k : Int) < (R.length : Int)) := by omega
      go_wp2_with (go_at_call 67; refine (Tryz.Builder_String_any_f w.heap.size w.heap.size _ _ hB hsz).mono ?_; rintro e w3 ⟨rfl, _, hb3⟩)
      go_ret
      rw [List.take_of_length_le (by omega)]
      exact ⟨ret_str' HF.out.symm, hbw.trans hb3⟩
    | succ g =>
      have hkl : (k : Int) < (R.length : Int) := by omega
      have hk2 : k < R.length := by omega
      have hc := hR.cell k hk2
      have HT := Lib.hid (take_fold R k hk2)
      have hv := HV.out _ (List.getElem_mem hk2)
      have hlen := take_fold_len R k
      have hLr := HL.out.below hbw
      have HR' := Lib.hid hR
      generalize R[k] = x at *
      have HX := Lib.hid hv
      obtain ⟨z, hz⟩ : ∃ z : Int, (x : Int) = z := ⟨_, rfl⟩
      have Hz := Lib.hid hz
      have HSM := Lib.hid (small_any z wr hLr)
      rw [hz] at hc
      clear hv hLr hR hz
      by_cases h1 : z = 223
      · have HN : Hid (enc (foldN x) = [115, 115]) := Lib.hid (by
          have : x = 223 := by have := Hz.out; omega
          subst this; rfl)
        have e1 : (z == 223) = true := by subst h1; rfl
        clear h1
        go_wp2_with (go_at_call 66; refine (Tryz.Builder_WriteString_k w.heap.size w.heap.size _ _ _ hB ?a1 hsz).mono ?_)
        case a1 => rw [Lib.byteCells_length, show (⟨#[115, 115]⟩ : ByteArray).size = 2 from rfl]; omega
        rintro e w3 ⟨rfl, hb3, hbw3, ho3⟩
        go_wp2
        go_roundg g
        case rel => exact ⟨k + 1, by omega, by go_num, by rw [HT.out, HN.out]; exact Or.inr (by rw [byteCells_app]; exact hb3), HR'.out.kept hne ho3, hbw.trans hbw3⟩
        case measure => omega
      · have e1 : (z == 223) = false := by simpa using h1
        by_cases h2 : z = 7838
        · have HN : Hid (enc (foldN x) = [115, 115]) := Lib.hid (by
            have : x = 7838 := by have := Hz.out; omega
            subst this; rfl)
          have e2 : (z == 7838) = true := by subst h2; rfl
          clear h1 h2
          go_wp2_with (go_at_call 66; refine (Tryz.Builder_WriteString_k w.heap.size w.heap.size _ _ _ hB ?a2 hsz).mono ?_)
          case a2 => rw [Lib.byteCells_length, show (⟨#[115, 115]⟩ : ByteArray).size = 2 from rfl]; omega
          rintro e w3 ⟨rfl, hb3, hbw3, ho3⟩
          go_wp2
          go_roundg g
          case rel => exact ⟨k + 1, by omega, by go_num, by rw [HT.out, HN.out]; exact Or.inr (by rw [byteCells_app]; exact hb3), HR'.out.kept hne ho3, hbw.trans hbw3⟩
          case measure => omega
        · have e2 : (z == 7838) = false := by simpa using h2
          have HN : Hid (enc (foldN x) = encN (sm x)) := Lib.hid (by
            have h3 := Hz.out
            unfold foldN
            rw [if_neg (by omega)]
            simp [enc])
          have HS2 : Hid (smI z = ((sm x : Nat) : Int)) := Lib.hid (by rw [← Hz.out]; exact smI_nat x)
          have HC := Lib.hid (runeCells_enc (sm_valid HX.out))
          have hsmv := sm_valid HX.out
          obtain ⟨y, hy⟩ : ∃ y : Int, ((sm x : Nat) : Int) = y := ⟨_, rfl⟩
          have hy0 : -2147483648 ≤ y := by omega
          have hy1 : y ≤ 2147483647 := by unfold Valid at hsmv; omega
          rw [HS2.out, hy] at HSM
          rw [hy] at HC
          clear h1 h2 hsmv HS2 hy
          go_wp2_with (first
            | (go_at_call 72; refine HSM.out.mono ?_; rintro e w' ⟨rfl, rfl⟩)
            | (go_at_call 71; refine (Tryz.Builder_WriteRune_k w.heap.size w.heap.size _ y hy0 hy1 _ hB ?a3 hsz).mono ?_))
          case a3 => rw [Lib.byteCells_length]; omega
          rintro e w3 ⟨rfl, hb3, hbw3, ho3⟩
          go_wp2
          go_roundg g
          case rel => exact ⟨k + 1, by omega, by go_num, by rw [HT.out, HN.out]; exact Or.inr (by rw [byteCells_app, ← HC.out]; exact hb3), HR'.out.kept hne ho3, hbw.trans hbw3⟩
          case measure => omega
end Ks
end Go.Proofs.YtfabiidohdkkcaaGreatDoor
