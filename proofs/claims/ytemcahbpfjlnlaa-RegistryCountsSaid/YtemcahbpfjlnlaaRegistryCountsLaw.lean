/- RegistryCounts: steps are summed. -/
import Derived.Test.YtemcahbpfjlnlaaRegM
import Derived.Deep.LoopGhost
namespace Go.Proofs.Ytemcahbpfjlnlaa
open Go Go.RowKit Rg
namespace RegistryCounts
set_option maxRecDepth 100000
set_option linter.unusedVariables false
set_option linter.unusedSimpArgs false

def sumK (l : List Int) : Nat := (l.map fun x => msk x 1099511627775).sum
theorem sumK_le : ∀ l : List Int, sumK l ≤ l.length * 1099511627775
  | [] => by simp [sumK]
  | x :: l => by
    have h1 := sumK_le l
    have h2 := msk_le x 1099511627775 (by decide)
    simp only [sumK, List.map_cons, List.sum_cons, List.length_cons] at *
    omega
theorem sumK_snoc (l : List Int) (x : Int) : sumK (l ++ [x]) = sumK l + msk x 1099511627775 := by simp [sumK]
theorem stepF_pos {s k : Nat} (h : s + k ≤ 4611686018427387904) : stepF (s : Int) (k : Int) = ((s + k : Nat) : Int) := by
  unfold stepF
  split
  · omega
  · rw [Int.min_eq_left (by omega)]; omega
theorem stepF_neg {s : Int} {k : Nat} : stepF s (-(k : Int)) = s := by
  unfold stepF
  rw [if_pos (by omega)]

set_option maxHeartbeats 4000000 in
theorem law_any (v : Value) (l : List Int) (w : World) (hl : Nums w v l) (hg : ∀ x ∈ l, wfI x) :
    Calls Try.prog 9 #[v] w fun e w' => e = .returned (.bool true) ∧ Below w.heap.size w w' := by
  obtain ⟨a, cap, rfl, hlm, hc⟩ := hl
  have HA := Lib.hid (fun W => awake_any W)
  have HN := Lib.hid (fun W => At.new W 0)
  have HC := Lib.hid hc
  clear hc
  obtain ⟨n, hn⟩ : ∃ n, n = l.length := ⟨_, rfl⟩
  rw [← hn] at hlm ⊢
  have HLn := Lib.hid hn
  clear hn
  go_enter Try.func9, Try.ntmps9
  go_wp2_with fail
  refine (HA.out _).mono ?_
  rintro e w1 ⟨rfl, hb1⟩
  have HB1 := Lib.hid hb1
  clear hb1
  by_cases h200 : (200 : Int) < (n : Int)
  · go_wp2
    go_ret
    exact ⟨rfl, HB1.out⟩
  go_wp2_with fail
  refine (HN.out _).mono ?_
  rintro e w2 ⟨A, rfl, X, hAt⟩
  have hAt2 : At w w2 X A (Go.bits .and .i64 0 127) [] false ((sumK (l.take 0) : Nat) : Int) := hAt.from HB1.out
  generalize Go.bits .and .i64 0 127 = m0 at *
  clear hAt HN HA HB1
  unfold ptr
  go_wp2_with fail
  go_loopg [5, 6] n (fun G s5 s6 wr => ∃ i : Nat, i + G = n ∧ s6 = .int .i64 i ∧ s5 = .int .i64 (sumK (l.take i) : Nat) ∧ At w wr X A m0 [] false ((sumK (l.take i) : Nat) : Int))
  case atStart => exact ⟨0, by omega, rfl, rfl, hAt2⟩
  case round =>
    obtain ⟨i, hig, rfl, rfl, hAt⟩ := hrel
    have HAt := Lib.hid hAt
    clear hAt2
    cases gk with
    | zero =>
      have hlt : ¬ ((i : Int) < (n : Int)) := by omega
      have HSt := Lib.hid hAt.steps
      unfold ptr at HSt
      clear hAt
      go_wp2_with fail
      refine HSt.out.mono ?_
      rintro e w3 ⟨rfl, rfl⟩
      have hb := HAt.out.on
      go_wp2
      go_ret
      exact ⟨rfl, hb⟩
    | succ G =>
      have hlt : (i : Int) < (n : Int) := by omega
      obtain ⟨x, hx⟩ : ∃ x, l[i]? = some x := ⟨_, List.getElem?_eq_getElem (by have := HLn.out; omega)⟩
      have hTK : l.take (i + 1) = l.take i ++ [x] := by rw [List.take_add_one, hx]; rfl
      rcases HC.out with rfl | ⟨b, off, rfl, hcell⟩
      · simp at hx
      have c0 := keep_cell hAt.on (hcell i x hx)
      have hk := bits_and x 1099511627775 (by decide)
      rw [show ((1099511627775 : Nat) : Int) = 1099511627775 from rfl] at hk
      have hkle := msk_le x 1099511627775 (by decide)
      have hsle := sumK_le (l.take i)
      rw [List.length_take] at hsle
      have hsum : sumK (l.take (i + 1)) = sumK (l.take i) + msk x 1099511627775 := by rw [hTK, sumK_snoc]
      generalize msk x 1099511627775 = k at *
      have HSu := Lib.hid hsum
      obtain ⟨s, hs⟩ : ∃ s, s = sumK (l.take i) := ⟨_, rfl⟩
      rw [← hs] at hAt hsle hsum ⊢
      have h1 : (Int.ofNat k) ≤ 9223372036854775807 := by show (k : Int) ≤ _; omega
      have hs62 : s + k ≤ 4611686018427387904 := by omega
      have HS1 := Lib.hid (hAt.count (k : Int) (by omega))
      rw [stepF_pos hs62] at HS1
      have HS2 := Lib.hid (fun (W : World) (h : At w W X A m0 [] false ((s + k : Nat) : Int)) => h.count (-(k : Int)) (by omega))
      have hneg : IntKind.i64.wrap (-(k : Int)) = -(k : Int) := by rw [IntKind.wrap_i64]; omega
      have hadd : IntKind.i64.wrap ((s : Int) + (k : Int)) = ((s + k : Nat) : Int) := by rw [IntKind.wrap_i64]; omega
      have hi1 : IntKind.i64.wrap ((i : Int) + 1) = ((i + 1 : Nat) : Int) := by rw [IntKind.wrap_i64]; omega
      unfold ptr at HS1 HS2
      have HSm := Lib.hid (hsum)
      clear hAt hcell hx hTK hsum hsle hlm hs
      go_wp2_with fail
      refine HS1.out.mono ?_
      rintro e w3 ⟨rfl, h3⟩
      have HS3 := Lib.hid (HS2.out w3 h3)
      rw [stepF_neg] at HS3
      clear HS1 HS2 h3
      go_wp2_with fail
      refine HS3.out.mono ?_
      rintro e w4 ⟨rfl, h4⟩
      have HA4 := Lib.hid h4
      clear HS3 h4
      go_wp2
      go_roundg G
      case rel => exact ⟨i + 1, by omega, by first | rfl | go_num, by rw [HSm.out]; first | rfl | go_num | (congr 1; omega), by rw [HSm.out]; exact HA4.out⟩
      case measure => omega
end RegistryCounts
end Go.Proofs.Ytemcahbpfjlnlaa
