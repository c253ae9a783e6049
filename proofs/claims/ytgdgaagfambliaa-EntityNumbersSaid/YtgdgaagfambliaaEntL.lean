/- Walks of layer 4, the twelfth part: a number's digits. -/
import Derived.Test.YtgdgaagfambliaaEntK
namespace Go.Proofs.Ytgdgaagfambliaa
open Go Go.RowKit
namespace En
set_option maxRecDepth 100000
set_option linter.unusedVariables false
set_option linter.unusedSimpArgs false

theorem foldl_shift (base : Int) : ∀ (l : List UInt8) (a : Int), l.foldl (fun v c => v * base + dg c) a = a * base ^ l.length + l.foldl (fun v c => v * base + dg c) 0
  | [], a => by simp
  | c :: t, a => by
    rw [List.foldl_cons, List.foldl_cons, foldl_shift base t (a * base + dg c), foldl_shift base t (0 * base + dg c), List.length_cons, Int.pow_succ, Int.add_mul, Int.add_mul]
    rw [show 0 * base = 0 from Int.zero_mul _, Int.zero_mul, Int.zero_add, Int.mul_assoc, Int.mul_comm base, ← Int.add_assoc]
theorem valN_cons (base : Int) (u : UInt8) (l : List UInt8) : valN base (u :: l) = dg u * base ^ l.length + valN base l := by
  unfold valN
  rw [List.foldl_cons, foldl_shift, Int.zero_mul, Int.zero_add]

/-- What the loop over a number's digits keeps: what is left, and what is written. -/
def DRel (base z v : Int) (l : List UInt8) : Prop := 0 ≤ v ∧ z = v * base ^ l.length + valN base l ∧ ∀ c ∈ l, dg c < base
theorem drel_start (base z : Int) (h : 0 ≤ z) : DRel base z z [] := ⟨h, by simp [valN], by simp⟩
theorem drel_step {base z v d e : Int} {l : List UInt8} {u : UInt8} (h : DRel base z v l) (he : 0 ≤ e) (hv : v = e * base + d) (hu : dg u = d) (hd : d < base) : DRel base z e (u :: l) := by
  obtain ⟨h1, h2, h3⟩ := h
  refine ⟨he, ?_, fun c hc => ?_⟩
  · rw [valN_cons, List.length_cons, Int.pow_succ, h2, hv, hu, Int.add_mul, Int.mul_assoc, Int.mul_comm base, Int.add_assoc]
  · rcases List.mem_cons.1 hc with rfl | hc
    · rw [hu]; exact hd
    · exact h3 c hc
theorem drel_len {base z v : Int} {l : List UInt8} (h : DRel base z v l) (hb : 2 ≤ base) (hv : 1 ≤ v) (m : Nat) (hm : z < base ^ m) : l.length < m := by
  obtain ⟨h1, h2, h3⟩ := h
  rcases Nat.lt_or_ge l.length m with h | h
  · exact h
  · exfalso
    have hp := pow_mono (b := base) (by omega) (l.length - m) m
    rw [Nat.add_sub_cancel' h] at hp
    have hn : 0 ≤ base ^ l.length := Int.pow_nonneg (by omega)
    have hq := Int.mul_le_mul_of_nonneg_right hv hn
    have := (valN_bound base hb l h3).1
    rw [Int.one_mul] at hq
    omega
theorem drel_end {base z v : Int} {l : List UInt8} (h : DRel base z v l) (hv : ¬ 0 < v) : z = valN base l ∧ ∀ c ∈ l, dg c < base := by
  obtain ⟨h1, h2, h3⟩ := h
  have : v = 0 := by omega
  rw [this, Int.zero_mul, Int.zero_add] at h2
  exact ⟨h2, h3⟩

theorem enc_chr {v : Int} (h0 : v ≠ 0) (h1 : ¬ 1114111 < v) : Utf8.encode (chr v) = Utf8.encode v := by
  unfold chr
  split
  · rename_i h
    have hb : 55296 ≤ v ∧ v ≤ 57343 := by omega
    have e1 : Utf8.valid v = false := by
      unfold Utf8.valid
      simp
      omega
    unfold Utf8.encode
    rw [e1]
    rfl
  · rfl
theorem chr_mark {v : Int} (h : v = 0 ∨ 1114111 < v) : chr v = 65533 := by
  unfold chr
  rw [if_pos (by omega)]
theorem dg_semi_not {base : Int} (hb : base ≤ 16) {l : List UInt8} (h : ∀ c ∈ l, dg c < base) : 59 ∉ l := fun hm => by
  have := h 59 hm
  rw [dg_semi] at this
  omega
theorem cut_pre (p l m : List UInt8) (hp : 59 ∉ p) (hl : 59 ∉ l) : cutS (p ++ l ++ 59 :: m) = some (p ++ l) := cutS_app _ _ fun h => by
  rcases List.mem_append.1 h with h | h
  · exact hp h
  · exact hl h
theorem read_dec {z : Int} {l : List UInt8} (hz : z = valN 10 l) (hd : ∀ c ∈ l, dg c < 10) (h0 : l ≠ []) (h7 : l.length ≤ 7) (m : List UInt8) : rread ([38, 35] ++ l ++ 59 :: m) = some (chr z, l.length + 3) := by
  rw [rread_some (cut_pre [38, 35] l m (by decide) (dg_semi_not (by decide) hd))]
  cases l with
  | nil => exact absurd rfl h0
  | cons c t =>
    have hc : ¬ (c = 120 ∨ c = 88) := fun e => by
      have := hd c (by simp)
      rcases e with rfl | rfl
      · exact absurd this (by decide)
      · exact absurd this (by decide)
    show (ofBody (38 :: 35 :: c :: t)).map _ = _
    rw [ofBody_dec hc, numB_some h0 h7 hd, ← hz]
    simp
theorem read_hex {z : Int} {l : List UInt8} (x : UInt8) (hx : x = 120 ∨ x = 88) (hz : z = valN 16 l) (hd : ∀ c ∈ l, dg c < 16) (h0 : l ≠ []) (h6 : l.length ≤ 6) (m : List UInt8) : rread ([38, 35, x] ++ l ++ 59 :: m) = some (chr z, l.length + 4) := by
  rw [rread_some (cut_pre [38, 35, x] l m (by rcases hx with rfl | rfl <;> decide) (dg_semi_not (by decide) hd))]
  show (ofBody (38 :: 35 :: x :: l)).map _ = _
  rw [ofBody_hex hx, numB_some h0 h6 hd, ← hz]
  simp

/-- string([]byte{z}), z a number. -/
theorem conv_int (z : Int) (h0 : 0 ≤ z) (h1 : z ≤ 255) (W : World) : (convert 35 9 (.slice (some ⟨W.heap.size, 0, none⟩) 1 1)).run Try.prog (W.alloc (.cells #[.int .u8 z] 5)) = .ok (.string ⟨#[UInt8.ofNat z.toNat]⟩) (W.alloc (.cells #[.int .u8 z] 5)) := by
  have := conv_one (UInt8.ofNat z.toNat) W
  have e : ((UInt8.ofNat z.toNat).toNat : Int) = z := by simp; omega
  rw [e] at this
  exact this
theorem dec_digit (d : Int) (h0 : 0 ≤ d) (h1 : d ≤ 9) : dg (UInt8.ofNat (48 + d).toNat) = d := by
  obtain ⟨n, rfl⟩ := Int.eq_ofNat_of_zero_le h0
  have : ∀ n : Fin 10, dg (UInt8.ofNat (48 + (n.val : Int)).toNat) = (n.val : Int) := by decide
  exact this ⟨n, by omega⟩
theorem low_digit (d : Int) (h0 : 0 ≤ d) (h1 : d ≤ 15) : ∃ x : UInt8, (⟨#[48, 49, 50, 51, 52, 53, 54, 55, 56, 57, 97, 98, 99, 100, 101, 102]⟩ : ByteArray).extract d.toNat (d + 1).toNat = ⟨#[x]⟩ ∧ dg x = d := by
  obtain ⟨n, rfl⟩ := Int.eq_ofNat_of_zero_le h0
  have : ∀ n : Fin 16, (⟨#[48, 49, 50, 51, 52, 53, 54, 55, 56, 57, 97, 98, 99, 100, 101, 102]⟩ : ByteArray).extract (n.val : Int).toNat ((n.val : Int) + 1).toNat = ⟨#[lowL.getD n.val 0]⟩ ∧ dg (lowL.getD n.val 0) = (n.val : Int) := by decide
  exact ⟨_, this ⟨n, by omega⟩⟩
theorem upp_digit (d : Int) (h0 : 0 ≤ d) (h1 : d ≤ 15) : ∃ x : UInt8, (⟨#[48, 49, 50, 51, 52, 53, 54, 55, 56, 57, 65, 66, 67, 68, 69, 70]⟩ : ByteArray).extract d.toNat (d + 1).toNat = ⟨#[x]⟩ ∧ dg x = d := by
  obtain ⟨n, rfl⟩ := Int.eq_ofNat_of_zero_le h0
  have : ∀ n : Fin 16, (⟨#[48, 49, 50, 51, 52, 53, 54, 55, 56, 57, 65, 66, 67, 68, 69, 70]⟩ : ByteArray).extract (n.val : Int).toNat ((n.val : Int) + 1).toNat = ⟨#[uppL.getD n.val 0]⟩ ∧ dg (uppL.getD n.val 0) = (n.val : Int) := by decide
  exact ⟨_, this ⟨n, by omega⟩⟩
theorem cons_data (x : UInt8) (D : ByteArray) : ((⟨#[x]⟩ : ByteArray) ++ D).data.toList = x :: D.data.toList := by rw [app_data]; rfl
theorem empty_list {D : ByteArray} (h : D.size = 0) : (D.toList == []) = true := by
  have h2 : D.data.toList = [] := List.length_eq_zero_iff.1 (by rw [sz]; exact h)
  rw [Lib.toList_data, h2]
  rfl
theorem full_list {D : ByteArray} (h : D.size ≠ 0) : (D.toList == []) = false := by
  rw [Lib.toList_data, beq_eq_false_iff_ne]
  intro e
  apply h
  rw [← sz, e]
  rfl
end En
end Go.Proofs.Ytgdgaagfambliaa
