/- Walks of layer 1, the ninth part: Runes. -/
import Derived.Test.YtfabiidohdkkcaaGreatDoorTextM
import Derived.Laws.Cover4
namespace Go.Proofs.YtfabiidohdkkcaaGreatDoor
open Go Go.RowKit
namespace Tx
set_option maxRecDepth 100000
set_option linter.unusedVariables false
set_option linter.unusedSimpArgs false

theorem get_at (l : List UInt8) (i k : Nat) : ((⟨l.toArray⟩ : ByteArray).get! (i + k)).toNat = at' (l.drop i) k := by
  rw [at_drop]
  unfold at'
  congr 1
  show (l.toArray)[i + k]! = _
  by_cases h : i + k < l.length
  · simp [List.getD, h]
  · simp [List.getD, h]; rfl

theorem decode_char (pre c m : List UInt8) (h : IsChar c) : Utf8.decode ⟨(pre ++ (c ++ m)).toArray⟩ pre.length = (val c, c.length) := by
  rw [Lib.decode_at]
  have e0 := get_at (pre ++ (c ++ m)) pre.length 0
  have e1 := get_at (pre ++ (c ++ m)) pre.length 1
  have e2 := get_at (pre ++ (c ++ m)) pre.length 2
  have e3 := get_at (pre ++ (c ++ m)) pre.length 3
  rw [Nat.add_zero] at e0
  rw [List.drop_left] at e0 e1 e2 e3
  rw [e0, e1, e2, e3]
  have hs : (⟨(pre ++ (c ++ m)).toArray⟩ : ByteArray).size - pre.length = (c ++ m).length := by
    rw [size_mk]; simp
  rw [hs]
  exact decodeN_val c m h

theorem runesFrom_chars : ∀ (cs : List (List UInt8)) (pre : List UInt8) (bound : Nat) (acc : Array Value), (∀ c ∈ cs, IsChar c) → cs.length ≤ bound →
    Conv.runesFrom ⟨(pre ++ cs.flatten).toArray⟩ bound pre.length acc = acc ++ (cs.map (fun c => Value.int .i32 (val c : Nat))).toArray
  | [], pre, bound, acc, _, _ => by
    cases bound with
    | zero => simp [Conv.runesFrom]
    | succ n =>
      unfold Conv.runesFrom
      rw [if_neg (by rw [size_mk]; simp)]
      simp
  | c :: cs, pre, bound, acc, h, hb => by
    obtain ⟨n, rfl⟩ : ∃ n, bound = n + 1 := ⟨bound - 1, by simp at hb; omega⟩
    have hc := h c (by simp)
    have hpos : 0 < c.length := List.length_pos_iff.2 hc.1
    unfold Conv.runesFrom
    rw [List.flatten_cons, if_pos (by rw [size_mk]; simp; omega), decode_char pre c cs.flatten hc]
    have := runesFrom_chars cs (pre ++ c) n (acc.push (.int .i32 (val c : Nat))) (fun x hx => h x (by simp [hx])) (by simp at hb; omega)
    rw [List.length_append, List.append_assoc] at this
    show Conv.runesFrom _ n (pre.length + c.length) (acc.push (.int .i32 (Int.ofNat (val c)))) = _
    rw [show (Int.ofNat (val c)) = ((val c : Nat) : Int) from rfl, this]
    simp

/-- A slice value that reads as these numbers. -/
def RSl (w : World) (v : Value) (ns : List Nat) : Prop := ∃ (ao : Option Addr) (cap : Nat), v = .slice ao ns.length cap ∧ ns.length ≤ 9223372036854775807 ∧ (ns ≠ [] → ∃ b off, ao = some ⟨b, off, none⟩ ∧ ∀ i (h : i < ns.length), w.cell? ⟨b, off + i, none⟩ = some (.int .i32 (ns[i] : Nat)))

theorem RSl.below {w w' : World} {v : Value} {L : List Nat} (h : RSl w v L) (hB : Below w.heap.size w w') : RSl w' v L := by
  obtain ⟨ao, cap, rfl, hl, hr⟩ := h
  refine ⟨ao, cap, rfl, hl, fun hne => ?_⟩
  obtain ⟨b, off, e, hc⟩ := hr hne
  exact ⟨b, off, e, fun i hi => by have := hc i hi; rw [hB.cell (p := ⟨b, off + i, none⟩) (cell_lt this)]; exact this⟩

theorem drew_below (w : World) : Below w.heap.size w w.drew := (Below.refl _ w).drew

/-- []byte(s). -/
theorem conv_sb (s : ByteArray) (w : World) (hs : s.size ≤ maxLen) : ∃ v W', (convert 9 65 (.string s)).run Tryz.prog w = .ok v W' ∧ Sl W' v s.data.toList ∧ Below w.heap.size w W' := by
  have hdl : s.data.toList.length = s.size := by rw [Array.length_toList]; rfl
  refine ⟨_, _, run_bytes_of_string w 9 65 5 s Tryz.underlying9 Tryz.underlying65 Tryz.underlying5, ?_, (drew_below w).alloc (Nat.le_refl _) _⟩
  refine ⟨_, _, by rw [hdl], by rw [hdl]; exact grownCap_ge _ _ _ _, grownCap_le_maxLen _ _ _ _ hs, fun _ => ⟨w.heap.size, 0, rfl, fun i hi => ?_⟩⟩
  rw [hdl] at hi
  have h1 := World.cell?_alloc_mark w.drew (bytesRow s (grownCap w s.size 0 5)) 5 ((bytesRow s (grownCap w s.size 0 5)).size, (bytesRow s (grownCap w s.size 0 5)).size + 1) i
  rw [Nat.zero_add]
  refine Eq.trans h1 ?_
  rw [bytesRow_at s _ i hi]
  have : at' s.data.toList i = s.data[i].toNat := by
    unfold at'
    rw [List.getD, List.getElem?_eq_getElem (by rw [hdl]; exact hi)]
    simp
  rw [this]

/-- []rune(s) of a text that was cleaned. -/
theorem conv_sr (l : List UInt8) (w : World) (hl : (clean l).length ≤ 1000000000) : ∃ v W', (convert 9 83 (str (clean l))).run Tryz.prog w = .ok v W' ∧ RSl W' v (runes l) ∧ Below w.heap.size w W' := by
  have hlen : (chars l).length ≤ (clean l).length := by
    have := chars_length (clean l); rw [chars_clean] at this; exact this
  have hrf : Conv.runesFrom ⟨(clean l).toArray⟩ (clean l).length 0 #[] = ((runes l).map (fun n => Value.int .i32 (n : Nat))).toArray := by
    have := runesFrom_chars (chars l) [] (clean l).length #[] (chars_isChar l) hlen
    simp only [List.nil_append, List.length_nil] at this
    rw [show (chars l).flatten = clean l from rfl] at this
    rw [this]; simp [runes]
  have hsz : (runes l).length = (chars l).length := by simp [runes]
  have hrun := run_runes_of_string (P := Tryz.prog) w 9 83 21 ⟨(clean l).toArray⟩ Tryz.underlying9 Tryz.underlying83 Tryz.underlying21 (by rw [size_mk, hrf]; simp; omega)
  rw [size_mk, hrf] at hrun
  simp only [List.size_toArray, List.length_map] at hrun
  refine ⟨_, _, hrun, ?_, (drew_below w).alloc (Nat.le_refl _) _⟩
  refine ⟨_, _, rfl, by omega, fun _ => ⟨w.heap.size, 0, rfl, fun i hi => ?_⟩⟩
  rw [Nat.zero_add]
  have h1 := World.cell?_alloc_mark w.drew (((runes l).map (fun n => Value.int .i32 (n : Nat))).toArray ++ Array.replicate (grownCap w (runes l).length 0 21 - (runes l).length) (.int .i32 0)) 21 (0, 0) i
  refine Eq.trans h1 ?_
  rw [Array.getElem?_append_left (by simpa using hi)]
  simp [List.getElem?_eq_getElem hi]

theorem runesBytes_chars (cs : List (List UInt8)) (h : ∀ c ∈ cs, IsChar c) : ∀ (a : List UInt8), (cs.map (fun c => (val c : Int))).foldl (fun r n => r ++ Utf8.encode n) (⟨a.toArray⟩ : ByteArray) = ⟨(a ++ cs.flatten).toArray⟩ := by
  induction cs with
  | nil => intro a; simp
  | cons c cs ih =>
    intro a
    rw [List.map_cons, List.foldl_cons, encode_val c (h c (by simp))]
    have e : (⟨a.toArray⟩ : ByteArray) ++ ⟨c.toArray⟩ = ⟨(a ++ c).toArray⟩ := by
      apply ByteArray.ext
      rw [ByteArray.data_append]
      simp
    rw [e, ih (fun x hx => h x (by simp [hx]))]
    simp

/-- string(r) of a text's characters. -/
theorem conv_rs (l : List UInt8) (v : Value) (w : World) (hv : RSl w v (runes l)) : (convert 83 9 v).run Tryz.prog w = .ok (str (clean l)) w := by
  obtain ⟨ao, cap, rfl, hlen, hr⟩ := hv
  by_cases hne : runes l = []
  · have hc : chars l = [] := by simpa [runes] using hne
    have hcl : clean l = [] := by unfold clean; rw [hc]; rfl
    rw [hcl]
    cases ao with
    | none =>
      have := run_convert_runes_nil (P := Tryz.prog) w 83 9 21 (runes l).length cap Tryz.underlying83 Tryz.underlying21 Tryz.underlying9
      rw [this]; rfl
    | some a =>
      have := run_convert_runes (P := Tryz.prog) w 83 9 21 a 0 cap [] (by simp) Tryz.underlying83 Tryz.underlying21 Tryz.underlying9 (by intro j hj; simp at hj)
      rw [hne, List.length_nil, this]; rfl
  · obtain ⟨b, off, rfl, hc⟩ := hr hne
    have := run_convert_runes (P := Tryz.prog) w 83 9 21 ⟨b, off, none⟩ (runes l).length cap ((runes l).map (fun n : Nat => (n : Int))) (by simp) Tryz.underlying83 Tryz.underlying21 Tryz.underlying9 (by
      intro j hj
      have hj2 : j < (runes l).length := by simpa using hj
      rw [add_eq, hc j hj2]
      simp [List.getD, List.getElem?_eq_getElem hj2])
    rw [this, List.take_of_length_le (by simp)]
    have h2 := runesBytes_chars (chars l) (chars_isChar l) []
    rw [List.nil_append] at h2
    have h3 : runesBytes ((runes l).map (fun n : Nat => (n : Int))) = ⟨(clean l).toArray⟩ := by
      unfold runesBytes
      rw [show (runes l).map (fun n : Nat => (n : Int)) = (chars l).map (fun c => (val c : Int)) from by simp [runes], show ByteArray.empty = (⟨([] : List UInt8).toArray⟩ : ByteArray) from rfl, h2]; rfl
    rw [h3]; rfl

set_option maxHeartbeats 1000000 in
theorem runes_any (s : ByteArray) (w : World) (hs : s.size ≤ 100000000) :
    Calls Tryz.prog 70 #[.string s] w fun e w' => ∃ v, e = .returned v ∧ RSl w' v (runes s.data.toList) ∧ Below w.heap.size w w' := by
  have hdl : s.data.toList.length = s.size := by rw [Array.length_toList]; rfl
  obtain ⟨v1, w1, hcv, hsl, hb1⟩ := conv_sb s w (by unfold maxLen; omega)
  have Hsl := Lib.hid hsl
  clear hsl
  have hcl := clean_length s.data.toList
  go_enter Tryz.func70, Tryz.ntmps70
  go_wp2_with fail
  refine (clean_any _ _ _ Hsl.out (by omega)).mono ?_
  rintro e w2 ⟨rfl, hb2⟩
  obtain ⟨v3, w3, hcv3, hrs, hb3⟩ := conv_sr s.data.toList w2 (by omega)
  have Hrs := Lib.hid hrs
  clear hrs hcv
  have hbw := (hb1.trans (hb2.mono hb1.size))
  have hbw3 := hbw.trans (hb3.mono hbw.size)
  unfold str at hcv3
  clear hb1 hb2 hb3 hbw
  go_wp2
  go_ret
  exact ⟨_, rfl, Hrs.out, hbw3⟩
end Tx
end Go.Proofs.YtfabiidohdkkcaaGreatDoor
