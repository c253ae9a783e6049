/- RegistryCore: this document's own hooks. -/
import Derived.Test.YtemcahbpfjlnlaaRegP
namespace Go.Proofs.Ytemcahbpfjlnlaa
open Go Go.RowKit Rg
namespace RegistryCore
set_option maxRecDepth 100000
set_option linter.unusedVariables false
set_option linter.unusedSimpArgs false

def cnt (p : Int) : Nat := (coreL.filter (pick 127 p)).length
theorem told_cnt (p : Int) : (told 127 coreL p).length = cnt p := (told_perm 127 coreL p).length_eq
def sumTo : Nat → Nat
  | 0 => 0
  | i + 1 => sumTo i + cnt ((i : Int) + 1)
theorem sum4 : sumTo 4 = 25 := by decide +kernel
theorem sum_le {i : Nat} (h : i ≤ 4) : sumTo i ≤ 25 := by
  match i, h with
  | 0, _ => exact Nat.zero_le _
  | 1, _ => have : sumTo 1 ≤ 25 := by decide +kernel
            exact this
  | 2, _ => have : sumTo 2 ≤ 25 := by decide +kernel
            exact this
  | 3, _ => have : sumTo 3 ≤ 25 := by decide +kernel
            exact this
  | 4, _ => rw [sum4]; exact Nat.le_refl _
theorem core_some {i : Nat} (h : i < 25) : ∃ x, coreL[i]? = some x := ⟨_, List.getElem?_eq_getElem (show i < coreL.length from h)⟩

set_option maxHeartbeats 8000000 in
theorem law_any (k : Int) (w : World) (hk : wfI k) :
    Calls Try.prog 4 #[.int .i64 k] w fun e w' => e = .returned (.bool true) ∧ Below w.heap.size w w' := by
  have HA := Lib.hid (fun W => awake_any W)
  have HC := Lib.hid (fun W => core_any W)
  have HR := Lib.hid (fun W => rcore_any W)
  have HN := Lib.hid (fun W => At.new W 127)
  rw [bits127] at HN
  go_enter Try.func4, Try.ntmps4
  go_wp2_with fail
  refine (HA.out _).mono ?_
  rintro e w1 ⟨rfl, hb1⟩
  go_wp2_with fail
  refine (HC.out _).mono ?_
  rintro e w2 ⟨g1, rfl, hg1, hl1, hb2⟩
  go_wp2_with fail
  refine (HR.out _).mono ?_
  rintro e w3 ⟨g2, rfl, hg2, _, hb3⟩
  have hS := Lib.hid (same_any (core_hooks (cap := 25) (hg1.below hb3)) (core_hooks (cap := 25) hg2))
  go_wp2_with fail
  refine hS.out.mono ?_
  rintro e w4 ⟨rfl, hb4⟩
  have hG1 : Blk w4 g1 _ _ := (hg1.below hb3).below hb4
  have hB4 : Below w.heap.size w w4 := below_later (below_later (below_later hb1 hb2) hb3) hb4
  have hge : w.heap.size ≤ g1 := Nat.le_trans hb1.size hl1
  have hand := bits_and k 65535 (by decide)
  rw [show ((65535 : Nat) : Int) = 65535 from rfl] at hand
  obtain ⟨z, hz⟩ : ∃ z, z = msk k 65535 := ⟨_, rfl⟩
  rw [← hz] at hand
  have hmod : Int.tmod (z : Int) 25 = ((z % 25 : Nat) : Int) := by
    rw [Int.tmod_eq_emod_of_nonneg (by omega)]; omega
  obtain ⟨q, hq⟩ : ∃ q, q = z % 25 := ⟨_, rfl⟩
  rw [← hq] at hmod
  have hq25 : q < 25 := by omega
  have hq25' : (q : Int) < 25 := by omega
  obtain ⟨x, hx⟩ := core_some hq25
  have c0 : w4.cell? ⟨g1, q * 5, none⟩ = some (.string x.name) := by
    refine hG1.cell _ ?_
    have := rowC_get hx 0 (.string x.name) rfl
    simpa using this
  have f0 := fun k => hG1.fr k
  have hB5 : Below w.heap.size w (w4.setCell ⟨g1, q * 5, none⟩ (.string ⟨#[120]⟩)) := hB4.setCell (by show w.heap.size ≤ g1; omega) _
  have HB5 := Lib.hid hB5
  clear hg1 hg2 hG1 hb1 hb2 hb3 hb4 hl1 hS hB4 hB5 hx hq hz hq25 hge
  go_wp2_with fail
  refine (HN.out _).mono ?_
  rintro e w6 ⟨A, rfl, X, hAt⟩
  have hAt6 := hAt.from HB5.out
  clear hAt c0 f0
  unfold ptr
  go_wp2_with fail
  refine (HC.out _).mono ?_
  rintro e w7 ⟨g, rfl, hg, hlg, hb7⟩
  have hT : AtB w w7 X A 127 (coreL.take 0) false 0 g (rowC coreL).toArray := ⟨hAt6.then_below hb7, hg, fun e => by have := hAt6.rb.lt _ e; omega⟩
  clear hAt6 hg hlg hb7 HN HA
  go_wp2_with fail
  go_loopg [7] 25 (fun G s7 wr => ∃ i : Nat, i + G = 25 ∧ s7 = .int .i64 i ∧ AtB w wr X A 127 (coreL.take i) false 0 g (rowC coreL).toArray)
  case atStart => exact ⟨0, by omega, rfl, hT⟩
  case round =>
    obtain ⟨i, hig, rfl, hT1⟩ := hrel
    clear hT
    cases gk with
    | zero =>
      have hlt : ¬ ((i : Int) < (25 : Int)) := by omega
      have hall : coreL.take i = coreL := List.take_of_length_le (show 25 ≤ i by omega)
      rw [hall] at hT1
      go_wp2_with fail
      go_loopg [8, 9] 4 (fun G s8 s9 wr => ∃ (i : Nat) (Y : Nat → Prop) (sl : Bool), i + G = 4 ∧ s9 = .int .i64 ((i + 1 : Nat) : Int) ∧ s8 = .int .i64 (sumTo i : Nat) ∧ AtB w wr Y A 127 coreL sl 0 g (rowC coreL).toArray)
      case atStart => exact ⟨0, _, _, by omega, rfl, rfl, hT1⟩
      case round =>
        obtain ⟨p, Y, sl, hpg, rfl, rfl, hT2⟩ := hrel
        cases gk with
        | zero =>
          obtain rfl : p = 4 := by omega
          have HT2 := Lib.hid hT2
          rw [sum4]
          clear hT1 hT2
          go_wp2_with fail
          refine (HR.out _).mono ?_
          rintro e w8 ⟨g4, rfl, hg4, _, hb8⟩
          have hT3 := HT2.out.below hb8
          have hS := Lib.hid (same_any (core_hooks (cap := 25) hT3.blk) (core_hooks (cap := 25) hg4))
          have HO := Lib.hid hT3.at_.on
          have hsz := hT3.at_.on.size
          clear hT3 hg4 hb8
          go_wp2_with fail
          refine hS.out.mono ?_
          rintro e w9 ⟨rfl, hb9⟩
          have hb := below_later HO.out hb9
          go_wp2
          go_ret
          exact ⟨rfl, hb⟩
        | succ G =>
          have hle : ((p + 1 : Nat) : Int) ≤ 4 := by omega
          have hle2 : (p : Int) + 1 ≤ 4 := by omega
          have hwf : wfI ((p : Int) + 1) := by
            have hmin : IntKind.i64.min = -9223372036854775808 := rfl
            have hmax : IntKind.i64.max = 9223372036854775807 := rfl
            unfold wfI
            simp only [Lit.wf, Bool.and_eq_true, decide_eq_true_eq]
            omega
          have HS := Lib.hid (hT2.sorted ((p : Int) + 1) hwf)
          have hs1 := sum_le (i := p) (by omega)
          have hs2 := sum_le (i := p + 1) (by omega)
          have hcp : cnt ((p : Int) + 1) ≤ 25 := List.length_filter_le _ coreL
          unfold ptr at HS
          have hpp : IntKind.i64.wrap ((p : Int) + 1 + 1) = ((p + 1 + 1 : Nat) : Int) := by rw [IntKind.wrap_i64]; omega
          have hpp2 : IntKind.i64.wrap (((p + 1 : Nat) : Int) + 1) = ((p + 1 + 1 : Nat) : Int) := by rw [IntKind.wrap_i64]; omega
          have hss : IntKind.i64.wrap ((sumTo p : Int) + (cnt ((p : Int) + 1) : Int)) = ((sumTo (p + 1) : Nat) : Int) := by rw [IntKind.wrap_i64, sumTo]; omega
          rw [show ((p + 1 : Nat) : Int) = (p : Int) + 1 from rfl]
          clear hT1 hT2
          go_wp2_with fail
          refine HS.out.mono ?_
          rintro e w8 ⟨v, rfl, ⟨a, cap, rfl, _, _⟩, Y', hT3⟩
          rw [told_cnt]
          have HT3 := Lib.hid hT3
          clear hT3 HS
          go_wp2
          go_roundg G
          case rel => exact ⟨p + 1, Y', true, by omega, by first | rfl | go_num, by first | rfl | go_num | (congr 1; omega), HT3.out⟩
          case measure => omega
    | succ G =>
      have hlt : (i : Int) < (25 : Int) := by omega
      obtain ⟨x, hx⟩ := core_some (show i < 25 by omega)
      obtain ⟨hfr, hok⟩ := core_at hx
      have hTK : coreL.take (i + 1) = coreL.take i ++ [x] := by rw [List.take_add_one, hx]; rfl
      have hcell : ∀ j v, (hookC x)[j]? = some v → wr.cell? ⟨g, i * 5 + j, none⟩ = some v := fun j v hj => hT1.blk.cell _ (by have := rowC_get hx j v hj; simpa using this)
      have c0 : wr.cell? ⟨g, i * 5, none⟩ = some (.string x.name) := hcell 0 _ rfl
      have c1 : wr.cell? ⟨g, i * 5 + 1, none⟩ = some (.int .i64 x.ph) := hcell 1 _ rfl
      have c2 : wr.cell? ⟨g, i * 5 + 2, none⟩ = some (.int .i64 x.pri) := hcell 2 _ rfl
      have c3 : wr.cell? ⟨g, i * 5 + 3, none⟩ = some (.string x.trig) := hcell 3 _ rfl
      have c4 : wr.cell? ⟨g, i * 5 + 4, none⟩ = some (.int .i64 x.bit) := hcell 4 _ rfl
      have HS1 := Lib.hid (hT1.add x hok (by rw [List.length_take]; omega))
      rw [hfr] at HS1
      unfold ptr hookV hookC at HS1
      have HTK := Lib.hid hTK
      have hi1 : IntKind.i64.wrap ((i : Int) + 1) = ((i + 1 : Nat) : Int) := by rw [IntKind.wrap_i64]; omega
      clear hT1 hcell hTK hfr hok hx
      go_wp2_with fail
      refine HS1.out.mono ?_
      rintro e w8 ⟨rfl, hT3⟩
      have hT4 : AtB w w8 X A 127 (coreL.take i ++ [x]) false 0 g (rowC coreL).toArray := hT3
      rw [← HTK.out] at hT4
      have HT4 := Lib.hid hT4
      clear HS1 hT3 hT4
      go_wp2
      go_roundg G
      case rel => exact ⟨i + 1, by omega, by first | rfl | go_num, HT4.out⟩
      case measure => omega
end RegistryCore
end Go.Proofs.Ytemcahbpfjlnlaa
