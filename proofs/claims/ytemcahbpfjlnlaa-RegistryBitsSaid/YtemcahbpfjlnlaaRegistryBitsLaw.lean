/- RegistryBits: hooks whose bits the mask has not are not told; with all bits all are. -/
import Derived.Test.YtemcahbpfjlnlaaRegN
import Derived.Deep.LoopGhost
namespace Go.Proofs.Ytemcahbpfjlnlaa
open Go Go.RowKit Rg
namespace RegistryBits
set_option maxRecDepth 100000
set_option linter.unusedVariables false
set_option linter.unusedSimpArgs false

def modH (x : Hk) : Hk := ⟨x.name, 1, x.pri, x.trig, bits .and .i64 x.bit 127⟩
def adds (l : List Hk) : List Hk := addAll [] (l.map modH)
theorem adds_snoc (l : List Hk) (x : Hk) : adds (l ++ [x]) = (if fresh (adds l) false (modH x) then adds l ++ [modH x] else adds l) := by
  unfold adds; rw [List.map_append, List.map_singleton, addAll_snoc]
theorem adds_len (l : List Hk) : (adds l).length ≤ l.length := by
  have := addAll_len (l.map modH) []
  simpa [adds] using this
theorem adds_mem {l : List Hk} {y : Hk} (h : y ∈ adds l) : ∃ x ∈ l, y = modH x := by
  rcases addAll_mem _ _ h with h1 | h1
  · cases h1
  · obtain ⟨x, hx, e⟩ := List.mem_map.1 h1
    exact ⟨x, hx, e.symm⟩
theorem told_all (l : List Hk) : (told 127 (adds l) 1).length = (adds l).length := by
  rw [(told_perm 127 (adds l) 1).length_eq]
  congr 1
  rw [List.filter_eq_self]
  intro y hy
  obtain ⟨x, _, rfl⟩ := adds_mem hy
  unfold pick
  rw [onB_all (modH x) rfl]
  rfl

set_option maxHeartbeats 8000000 in
theorem law_any (mask : Int) (v : Value) (l : List Hk) (w : World) (hm : wfI mask) (hl : Hooks w v l) (hg : ∀ x ∈ l, HkIn x) :
    Calls Try.prog 8 #[.int .i64 mask, v] w fun e w' => e = .returned (.bool true) ∧ Below w.heap.size w w' := by
  obtain ⟨a, cap, rfl, hlm, hc⟩ := hl
  have HA := Lib.hid (fun W => awake_any W)
  have HN1 := Lib.hid (fun W => At.new W mask)
  have HN2 := Lib.hid (fun W => At.new W 127)
  rw [bits127] at HN2
  have HC := Lib.hid hc
  clear hc
  obtain ⟨n, hn⟩ : ∃ n, n = l.length := ⟨_, rfl⟩
  rw [← hn] at hlm ⊢
  have HLn := Lib.hid hn
  clear hn
  go_enter Try.func8, Try.ntmps8
  go_wp2_with fail
  refine (HA.out _).mono ?_
  rintro e w1 ⟨rfl, hb1⟩
  have HB1 := Lib.hid hb1
  clear hb1
  by_cases h40 : (40 : Int) < (n : Int)
  · go_wp2
    go_ret
    exact ⟨rfl, HB1.out⟩
  go_wp2_with fail
  refine (HN1.out _).mono ?_
  rintro e w2 ⟨A, rfl, X, hA⟩
  have HA2 := Lib.hid (hA.from HB1.out)
  clear hA
  unfold ptr
  go_wp2_with fail
  refine (HN2.out _).mono ?_
  rintro e w3 ⟨B, rfl, Y, hB⟩
  have hT : Two w w3 X A (bits .and .i64 mask 127) (adds (l.take 0)) false 0 Y B 127 (adds (l.take 0)) false 0 := Two.new HA2.out hB
  clear hB HA2 HN1 HN2 HA HB1
  unfold ptr
  go_wp2_with fail
  go_loopg [8, 9] n (fun G s8 s9 wr => ∃ i : Nat, i + G = n ∧ s9 = .int .i64 i ∧ s8 = .int .i64 ((adds (l.take i)).length : Nat) ∧ Two w wr X A (bits .and .i64 mask 127) (adds (l.take i)) false 0 Y B 127 (adds (l.take i)) false 0)
  case atStart => exact ⟨0, by omega, rfl, rfl, hT⟩
  case round =>
    obtain ⟨i, hig, rfl, rfl, hT1⟩ := hrel
    have HT := Lib.hid hT1
    clear hT
    have hal := adds_len (l.take i)
    rw [List.length_take] at hal
    cases gk with
    | zero =>
      have hlt : ¬ ((i : Int) < (n : Int)) := by omega
      have HS := Lib.hid (hT1.sortedL 1 rfl)
      unfold ptr at HS
      clear hT1
      go_wp2_with fail
      refine HS.out.mono ?_
      rintro e w4 ⟨v1, rfl, hv1, ⟨X', hT2⟩, _⟩
      have HT2 := Lib.hid hT2
      have hall := fun y (hy : y ∈ told (bits .and .i64 mask 127) (adds (l.take i)) 1) => (told_mem.1 hy).2.2
      have hlen1 := told_len (bits .and .i64 mask 127) 1 (adds (l.take i))
      have hlen2 := told_all (l.take i)
      obtain ⟨L1, hL1⟩ : ∃ L1, L1 = told (bits .and .i64 mask 127) (adds (l.take i)) 1 := ⟨_, rfl⟩
      rw [← hL1] at hv1 hall hlen1
      obtain ⟨a1, cap1, rfl, _, hc1⟩ := hv1
      have HC1 := Lib.hid hc1
      have HAll := Lib.hid hall
      clear hT2 hall hc1 hL1 HS
      obtain ⟨n1, hn1⟩ : ∃ n1, n1 = L1.length := ⟨_, rfl⟩
      rw [← hn1] at hlen1
      have HN1 := Lib.hid hn1
      rw [← hn1]
      obtain ⟨na, hna⟩ : ∃ na, na = (adds (l.take i)).length := ⟨_, rfl⟩
      rw [← hna] at hlen1 hlen2 hal
      rw [← hna]
      have HNa := Lib.hid hna
      have HLen2 := Lib.hid hlen2
      clear hn1 hna hlen2
      go_wp2_with fail
      go_loopg [12] n1 (fun G s12 wr => ∃ j : Nat, j + G = n1 ∧ s12 = .int .i64 j ∧ w4 = wr)
      case atStart => exact ⟨0, by omega, rfl, rfl⟩
      case round =>
        obtain ⟨j, hjg, rfl, rfl⟩ := hrel
        cases gk with
        | zero =>
          have hlt2 : ¬ ((j : Int) < (n1 : Int)) := by omega
          have HS := Lib.hid (HT2.out.swap.sortedL 1 rfl)
          unfold ptr at HS
          go_wp2_with fail
          refine HS.out.mono ?_
          rintro e w5 ⟨v2, rfl, ⟨a2, cap2, rfl, _, _⟩, ⟨Y', hT3⟩, _⟩
          have hb := hT3.a.on
          rw [HLen2.out]
          have e1 : ((na : Int) == (na : Int)) = true := by simp
          have e2 : (n1 : Int) ≤ (na : Int) := by omega
          clear hT3 HS
          go_wp2
          go_ret
          exact ⟨rfl, hb⟩
        | succ G =>
          have hlt2 : (j : Int) < (n1 : Int) := by omega
          obtain ⟨o, ho⟩ : ∃ o, L1[j]? = some o := ⟨_, List.getElem?_eq_getElem (by have := HN1.out; omega)⟩
          rcases HC1.out with rfl | ⟨b1, off1, rfl, hcell⟩
          · simp at ho
          have c4 : w4.cell? ⟨b1, off1 + j * 5 + 4, none⟩ = some (.int .i64 o.bit) := (hcell j o ho).c4
          have hon := HAll.out o (List.mem_of_getElem? ho)
          have hj1 : IntKind.i64.wrap ((j : Int) + 1) = ((j + 1 : Nat) : Int) := by rw [IntKind.wrap_i64]; omega
          by_cases h0 : o.bit = 0
          · have e0 : (o.bit != 0) = false := by simp [h0]
            clear hcell ho hon
            go_wp2
            go_roundg G
            case rel => exact ⟨j + 1, by omega, by first | rfl | go_num, rfl⟩
            case measure => omega
          · have e0 : (o.bit != 0) = true := by simp [h0]
            have e1 : (bits .and .i64 o.bit mask == 0) = false := by simpa using onB_mask hon h0
            clear hcell ho hon
            go_wp2
            go_roundg G
            case rel => exact ⟨j + 1, by omega, by first | rfl | go_num, rfl⟩
            case measure => omega
    | succ G =>
      have hlt : (i : Int) < (n : Int) := by omega
      obtain ⟨x, hx⟩ : ∃ x, l[i]? = some x := ⟨_, List.getElem?_eq_getElem (by have := HLn.out; omega)⟩
      have hTK : l.take (i + 1) = l.take i ++ [x] := by rw [List.take_add_one, hx]; rfl
      rcases HC.out with rfl | ⟨b, off, rfl, hcell⟩
      · simp at hx
      have K := (hcell i x hx).carry fun off' v hv => keep_cell hT1.a.on hv
      have c0 : wr.cell? ⟨b, off + i * 5, none⟩ = some (.string x.name) := K.c0
      have c1 : wr.cell? ⟨b, off + i * 5 + 1, none⟩ = some (.int .i64 x.ph) := K.c1
      have c2 : wr.cell? ⟨b, off + i * 5 + 2, none⟩ = some (.int .i64 x.pri) := K.c2
      have c3 : wr.cell? ⟨b, off + i * 5 + 3, none⟩ = some (.string x.trig) := K.c3
      have c4 : wr.cell? ⟨b, off + i * 5 + 4, none⟩ = some (.int .i64 x.bit) := K.c4
      have hin := hg x (List.mem_of_getElem? hx)
      have hkB := Blk.new wr (hookC x) 29
      have k0 : (wr.alloc (.cells (hookC x) 29)).cell? ⟨wr.heap.size, 0, none⟩ = some (.string x.name) := hkB.cell 0 rfl
      have k3 : (wr.alloc (.cells (hookC x) 29)).cell? ⟨wr.heap.size, 3, none⟩ = some (.string x.trig) := hkB.cell 3 rfl
      have k4 : (wr.alloc (.cells (hookC x) 29)).cell? ⟨wr.heap.size, 4, none⟩ = some (.int .i64 x.bit) := hkB.cell 4 rfl
      have hbk : Below wr.heap.size wr (wr.alloc (.cells (hookC x) 29)) := (Below.refl _ wr).alloc (Nat.le_refl _) _
      have hb := (hT1.below hbk).a.on
      unfold hookC at k0 k3 k4 hb
      clear K hcell hx hkB
      by_cases h1 : (300 : Int) < (x.name.size : Int)
      · go_wp2
        go_ret
        exact ⟨rfl, hb⟩
      by_cases h2 : (300 : Int) < (x.trig.size : Int)
      · go_wp2
        go_ret
        exact ⟨rfl, hb⟩
      have hok : HkOk (modH x) := hkok_small (show x.name.size ≤ 300 by omega) (show x.trig.size ≤ 300 by omega) rfl
      have hbm : Below wr.heap.size wr (wr.alloc (.cells (hookC (modH x)) 29)) := (Below.refl _ wr).alloc (Nat.le_refl _) _
      have hT2 := hT1.below hbm
      have HMB := Lib.hid (Blk.new wr (hookC (modH x)) 29)
      have hXn : ¬ X wr.heap.size := fun e => by have := hT1.a.rb.lt _ e; omega
      have HAd := Lib.hid (adds_snoc (l.take i) x)
      have HTK := Lib.hid hTK
      have hle : (adds (l.take i)).length ≤ 40 := by omega
      obtain ⟨hs, hhs⟩ : ∃ hs, hs = adds (l.take i) := ⟨_, rfl⟩
      rw [← hhs] at hT2 hle HAd ⊢
      have HHs := Lib.hid hhs
      have HS1 := Lib.hid (hT2.addL (modH x) hok (by omega))
      obtain ⟨fr, hfr⟩ : ∃ fr, fr = fresh hs false (modH x) := ⟨_, rfl⟩
      rw [← hfr] at HS1 HAd
      have HFr := Lib.hid hfr
      have HS2 := Lib.hid (fun (W : World) (hs' : List Hk) (h : Two w W Y B 127 hs false 0 X A (bits .and .i64 mask 127) hs' false 0) => h.addL (modH x) hok (by omega))
      rw [← hfr] at HS2
      clear hT1 hT2 hbm hbk HT hTK hhs hfr hal k0 k3 k4 hin
      unfold ptr hookV hookC modH at HS1 HS2
      have hi1 : IntKind.i64.wrap ((i : Int) + 1) = ((i + 1 : Nat) : Int) := by rw [IntKind.wrap_i64]; omega
      have hn1 : IntKind.i64.wrap ((hs.length : Int) + 1) = ((hs.length + 1 : Nat) : Int) := by rw [IntKind.wrap_i64]; omega
      have k0 : (wr.alloc (.cells (hookC x) 29)).cell? ⟨wr.heap.size, 0, none⟩ = some (.string x.name) := (Blk.new wr (hookC x) 29).cell 0 rfl
      have k3 : (wr.alloc (.cells (hookC x) 29)).cell? ⟨wr.heap.size, 3, none⟩ = some (.string x.trig) := (Blk.new wr (hookC x) 29).cell 3 rfl
      have k4 : (wr.alloc (.cells (hookC x) 29)).cell? ⟨wr.heap.size, 4, none⟩ = some (.int .i64 x.bit) := (Blk.new wr (hookC x) 29).cell 4 rfl
      unfold hookC at k0 k3 k4
      go_wp2_with fail
      refine HS1.out.mono ?_
      rintro e w4 ⟨rfl, hT3, ho3⟩
      have K4 : Blk w4 wr.heap.size (hookC (modH x)) 29 := HMB.out.only ho3 hXn
      have m0 : w4.cell? ⟨wr.heap.size, 0, none⟩ = some (.string x.name) := K4.cell 0 rfl
      have m1 : w4.cell? ⟨wr.heap.size, 1, none⟩ = some (.int .i64 1) := K4.cell 1 rfl
      have m2 : w4.cell? ⟨wr.heap.size, 2, none⟩ = some (.int .i64 x.pri) := K4.cell 2 rfl
      have m3 : w4.cell? ⟨wr.heap.size, 3, none⟩ = some (.string x.trig) := K4.cell 3 rfl
      have m4 : w4.cell? ⟨wr.heap.size, 4, none⟩ = some (.int .i64 (bits .and .i64 x.bit 127)) := K4.cell 4 rfl
      have HS3 := Lib.hid (HS2.out w4 _ hT3.swap)
      clear HS1 HS2 hT3 ho3 K4 k0 k3 k4
      go_wp2_with fail
      refine HS3.out.mono ?_
      rintro e w5 ⟨rfl, hT4, _⟩
      have HT4 := Lib.hid hT4.swap
      clear HS3 hT4
      cases fr with
      | false =>
        have HE : Hid (adds (l.take (i + 1)) = hs) := Lib.hid (by rw [HTK.out, HAd.out]; rfl)
        go_wp2
        go_roundg G
        case rel => exact ⟨i + 1, by omega, by first | rfl | go_num, by rw [HE.out], by rw [HE.out]; exact HT4.out⟩
        case measure => omega
      | true =>
        have HE : Hid (adds (l.take (i + 1)) = hs ++ [modH x]) := Lib.hid (by rw [HTK.out, HAd.out]; rfl)
        go_wp2
        go_roundg G
        case rel => exact ⟨i + 1, by omega, by first | rfl | go_num, by rw [HE.out, List.length_append, List.length_singleton]; first | rfl | go_num | (congr 1; omega), by rw [HE.out]; exact HT4.out⟩
        case measure => omega
end RegistryBits
end Go.Proofs.Ytemcahbpfjlnlaa
