/- RegistryOrder: hooks of unlike names, added in any order, are told in one order. -/
import Derived.Test.YtemcahbpfjlnlaaRegQ
import Derived.Deep.RegionHeld3
import Derived.Deep.DrawnRows
namespace Go.Proofs.Ytemcahbpfjlnlaa
open Go Go.RowKit Rg
namespace RegistryOrder
attribute [local go_sem ↓] Go.wp_at_zero Go.wp_at_succ
set_option maxRecDepth 100000
set_option linter.unusedVariables false
set_option linter.unusedSimpArgs false

def zzz : Hk := ⟨⟨#[122, 122, 122]⟩, 0, 0, ⟨#[]⟩, 0⟩
theorem owns_cells {w : World} {B n : Nat} {a : Option Addr} {cap : Nat} {L : List Hk} (h : w.ownsRow B 29 5 (.slice a n cap) L.length (rowC L)) {i : Nat} {o : Hk} (hi : L[i]? = some o) : ∃ g, a = some ⟨g, 0, none⟩ ∧ CellsAt w g (i * 5) o := by
  have hlt : i < L.length := (List.getElem?_eq_some_iff.1 hi).1
  obtain ⟨g, cap', hv', _, _⟩ := h.form (by omega)
  injection hv' with e1 e2 e3
  subst e1 e2 e3
  refine ⟨g, rfl, ?_⟩
  have hc := fun j v (hj : (hookC o)[j]? = some v) => h.cells rfl _ _ (rowC_get hi j v hj)
  refine ⟨?_, ?_, ?_, ?_, ?_⟩
  · have := hc 0 _ rfl; rwa [add_off, Nat.zero_add, Nat.add_zero] at this
  · have := hc 1 _ rfl; rwa [add_off, Nat.zero_add] at this
  · have := hc 2 _ rfl; rwa [add_off, Nat.zero_add] at this
  · have := hc 3 _ rfl; rwa [add_off, Nat.zero_add] at this
  · have := hc 4 _ rfl; rwa [add_off, Nat.zero_add] at this

set_option maxHeartbeats 60000000 in
theorem law_any (mask : Int) (v : Value) (l : List Hk) (u : Value) (ps : List Int) (b : Int) (w : World) (hm : wfI mask) (hl : Hooks w v l) (hg : ∀ x ∈ l, HkIn x) (hu : Nums w u ps) (hgu : ∀ x ∈ ps, wfI x) (hb0 : 0 ≤ b) (hb1 : b ≤ 255) :
    Calls Try.prog 5 #[.int .i64 mask, v, u, .int .u8 b] w fun e w' => e = .returned (.bool true) ∧ Below w.heap.size w w' := by
  obtain ⟨a, cap, rfl, hlm, hc⟩ := hl
  obtain ⟨a2, cap2, rfl, hlm2, hc2⟩ := hu
  have HA := Lib.hid (fun W => awake_any W)
  have HN1 := Lib.hid (fun W => At.new W mask)
  have HC := Lib.hid hc
  have HC2 := Lib.hid hc2
  obtain ⟨i0, hi, hz0, hz1, hz2⟩ := info_parts hookInfo2
  clear hc hc2
  obtain ⟨n, hn⟩ : ∃ n, n = l.length := ⟨_, rfl⟩
  obtain ⟨np, hnp⟩ : ∃ np, np = ps.length := ⟨_, rfl⟩
  rw [← hn] at hlm ⊢
  rw [← hnp] at hlm2 ⊢
  unfold maxLen at hlm2
  have HLn := Lib.hid hn
  have HLp := Lib.hid hnp
  clear hn hnp
  go_enter Try.func5, Try.ntmps5
  go_wp2_with fail
  refine (HA.out _).mono ?_
  rintro e w1 ⟨rfl, hb1'⟩
  have HB1 := Lib.hid hb1'
  clear hb1'
  by_cases h40 : (40 : Int) < (n : Int)
  · go_wp2
    go_ret
    exact ⟨rfl, HB1.out⟩
  go_wp2_with fail
  refine (HN1.out _).mono ?_
  rintro e w2 ⟨A, rfl, X, hA⟩
  have HA2 := Lib.hid (hA.from HB1.out)
  clear hA
  unfold ptr
  go_wp2_with fail
  refine (HN1.out _).mono ?_
  rintro e w3 ⟨B, rfl, Y, hB⟩
  have hT : Two w w3 X A (bits .and .i64 mask 127) (addAll [] (l.take 0)) false 0 Y B (bits .and .i64 mask 127) [] false 0 := Two.new HA2.out hB
  generalize bits .and .i64 mask 127 = m1 at *
  clear hB HA2 HN1 HA HB1
  obtain ⟨B0, hB0⟩ : ∃ B0, B0 = w3.heap.size := ⟨_, rfl⟩
  have hXB : ∀ k, X k → k < B0 := fun k hk => hB0 ▸ hT.a.rb.lt k hk
  have hYB : ∀ k, Y k → k < B0 := fun k hk => hB0 ▸ hT.b.rb.lt k hk
  have hwB : w.heap.size ≤ B0 := hB0 ▸ hT.a.on.size
  have HXB := Lib.hid hXB
  have HYB := Lib.hid hYB
  have HZ : Hid (∀ (V : Value), (∀ k, V.ownBlock = some k → B0 ≤ k) → ∀ k, V.ownBlock = some k → w.heap.size ≤ k ∧ ¬ X k ∧ ¬ Y k) := Lib.hid (fun V h k hk => ⟨Nat.le_trans hwB (h k hk), fun hx => by have := hXB k hx; have := h k hk; omega, fun hx => by have := hYB k hx; have := h k hk; omega⟩)
  have hB0' : B0 ≤ w3.heap.size := by omega
  clear hB0 hXB hYB
  unfold ptr
  go_wp2_with fail
  go_loopg [12, 13] n (fun G s12 s13 wr => ∃ i : Nat, i + G = n ∧ s13 = .int .i64 i ∧ Two w wr X A m1 (addAll [] (l.take i)) false 0 Y B m1 [] false 0 ∧ wr.ownsRow B0 29 5 s12 (addAll [] (l.take i)).length (rowC (addAll [] (l.take i))) ∧ B0 ≤ wr.heap.size ∧ ∀ x ∈ l.take i, x.name.size ≤ 300)
  case atStart => exact ⟨0, by omega, rfl, hT, ⟨rfl, .inl ⟨rfl, rfl⟩⟩, hB0', fun x hx => by simp at hx⟩
  case round =>
    obtain ⟨i, hig, rfl, hT1, hown, hBr, hsm⟩ := hrel
    have HSm := Lib.hid hsm
    clear hsm
    have HT := Lib.hid hT1
    clear hT hB0'
    have hal := addAll_len (l.take i) []
    rw [List.length_take] at hal
    simp only [List.length_nil, Nat.zero_add] at hal
    cases gk with
    | zero =>
      have hlt : ¬ ((i : Int) < (n : Int)) := by omega
      have hnm := hT1.a.rb.names
      have hokk := hT1.a.rb.ok
      have hne := addAll_named (l.take i) [] (fun x hx => by cases hx)
      have hi0 : (n = 0 → addAll [] (l.take i) = []) := fun e => by
        have : i = 0 := by omega
        subst this; rfl
      obtain ⟨hs, hhs⟩ : ∃ hs, hs = addAll [] (l.take i) := ⟨_, rfl⟩
      rw [← hhs] at hT1 hnm hokk hne hi0 hown hal
      have HNm := Lib.hid hnm
      have HOk := Lib.hid hokk
      have HNe := Lib.hid hne
      have HI0 := Lib.hid hi0
      have HLs := Lib.hid hal
      obtain ⟨n0, hn0⟩ : ∃ n0, n0 = hs.length := ⟨_, rfl⟩
      have hn40 : n0 ≤ 40 := by omega
      have HN0 := Lib.hid hn0
      rw [← hn0] at hown hal
      clear hn0 hnm hokk hne hhs hi0 HT
      go_wp2_with fail
      go_loopg [12, 14] n0 (fun G s12 s14 wq => ∃ (c : Nat) (L T : List Hk), L.length = G ∧ c + G = n0 ∧ s14 = .int .i64 c ∧ Two w wq X A m1 hs false 0 Y B m1 T false 0 ∧ wq.ownsRow B0 29 5 s12 L.length (rowC L) ∧ B0 ≤ wq.heap.size ∧ (T ++ L).Perm hs)
      case atStart => exact ⟨0, hs, [], HN0.out.symm, by omega, rfl, hT1, by rw [← HN0.out]; exact hown, hBr, List.Perm.refl _⟩
      case round =>
        obtain ⟨c, L, T, hLG, hcG, rfl, hT2, hown2, hBq, hperm⟩ := hrel
        clear hT1 hown hBr
        obtain ⟨av, capv, hv⟩ := owns_form hown2
        rw [hLG] at hv
        subst hv
        have HPm := Lib.hid hperm
        have HT2 := Lib.hid hT2
        have HOwn2 := Lib.hid hown2
        cases gk with
        | zero =>
          have hL0 : L = [] := List.length_eq_zero_iff.1 hLG
          have HTl : Hid (∀ p, told m1 T p = told m1 hs p) := Lib.hid (fun p => by
            have h1 := HPm.out
            rw [hL0, List.append_nil] at h1
            exact (told_swap HNm.out h1.symm m1 p).symm)
          have HHs : Hid (∀ k, hasB m1 T k = hasB m1 hs k) := Lib.hid (fun k => by
            have h1 := HPm.out
            rw [hL0, List.append_nil] at h1
            exact (has_perm HNm.out h1.symm m1 k).symm)
          clear hperm hown2 hL0 hLG hT2
          go_wp2_with fail
          go_loopg [16] n (fun G s16 wt => ∃ i : Nat, i + G = n ∧ s16 = .int .i64 i ∧ ((i = 0 ∧ Two w wt X A m1 hs false 0 Y B m1 T false 0) ∨ (0 < i ∧ St w wt A B m1 hs T true)))
          case atStart => exact ⟨0, by omega, rfl, .inl ⟨rfl, HT2.out⟩⟩
          case round =>
            obtain ⟨i3, hig3, rfl, hS3⟩ := hrel
            cases gk with
            | zero =>
              have hlt3 : ¬ ((i3 : Int) < (n : Int)) := by omega
              have hSx : ∃ X' Y' s1 s2, s1 = decide (0 < n) ∧ Two w wr X' A m1 hs s1 0 Y' B m1 T s2 0 := by
                rcases hS3 with ⟨h0, h⟩ | ⟨h0, ⟨X', Y', s1, s2, h1, h⟩⟩
                · exact ⟨X, Y, false, false, by simp; omega, h⟩
                · exact ⟨X', Y', s1, s2, by rw [h1 rfl]; simp; omega, h⟩
              obtain ⟨X', Y', s1, s2, hs1, hT8⟩ := hSx
              have hfz : fresh hs s1 zzz = !decide (0 < n) := by
                rw [hs1, fresh_eq]
                by_cases hn0 : n = 0
                · rw [HI0.out hn0, hn0]; rfl
                · have : decide (0 < n) = true := by simp; omega
                  rw [this]; simp
              have HAz := Lib.hid (hT8.addL zzz (hkok_small (by decide) (by decide) rfl) (by have := HN0.out; omega))
              rw [hfz] at HAz
              unfold ptr hookV hookC zzz at HAz
              clear hS3 hT8 hs1 hfz
              by_cases hn1 : (0 : Int) < (n : Int)
              · have e1 : decide (0 < n) = true := by simp; omega
                rw [e1] at HAz
                have HE1 := Lib.hid e1
                clear e1
                go_wp2_with fail
                refine HAz.out.mono ?_
                rintro e w9 ⟨rfl, hT9, _⟩
                have hb := hT9.a.on
                clear hT9 HAz
                go_wp2
                go_ret
                refine ⟨?_, hb⟩
                first | rfl | (show Ending.returned (.bool (decide (0 < n))) = _; rw [HE1.out])
              · have e1 : decide (0 < n) = false := by simp; omega
                have e2 : n = 0 := by omega
                rw [e1] at HAz
                clear e1
                subst e2
                go_wp2_with fail
                refine HAz.out.mono ?_
                rintro e w9 ⟨rfl, hT9, _⟩
                have hb := hT9.a.on
                clear hT9 HAz
                go_wp2
                go_ret
                exact ⟨rfl, hb⟩
            | succ G =>
              have hlt3 : (i3 : Int) < (n : Int) := by omega
              obtain ⟨o, ho⟩ : ∃ o, l[i3]? = some o := ⟨_, List.getElem?_eq_getElem (by have := HLn.out; omega)⟩
              rcases HC.out with rfl | ⟨bl, off, rfl, hcell⟩
              · simp at ho
              have hSt : St w wr A B m1 hs T false := by
                rcases hS3 with ⟨_, h⟩ | ⟨_, ⟨X', Y', s1, s2, _, h⟩⟩
                · exact ⟨X, Y, false, false, (fun e => by cases e), h⟩
                · exact ⟨X', Y', s1, s2, (fun e => by cases e), h⟩
              have hin := hg o (List.mem_of_getElem? ho)
              have hph := hin.1
              have hns : o.name.size ≤ 281474976710656 := by
                have h1 := HSm.out o (by rw [List.take_of_length_le (by have := HLn.out; omega)]; exact List.mem_of_getElem? ho)
                omega
              have HSl : Hid (∀ W, Below w.heap.size w W → W.cell? ⟨bl, off + i3 * 5, none⟩ = some (.string o.name) ∧ W.cell? ⟨bl, off + i3 * 5 + 1, none⟩ = some (.int .i64 o.ph)) := Lib.hid (fun W hW => by
                have K := (hcell i3 o ho).carry fun off' v hv => keep_cell hW hv
                exact ⟨K.c0, K.c1⟩)
              have e1 := HTl.out o.ph
              have e3 := HHs.out o.name.data.toList
              have hst0 : St w wr.drew A B m1 hs T false := hSt.below (Below.refl _ _).drew
              have hbX := hst0.on
              have hi31 : IntKind.i64.wrap ((i3 : Int) + 1) = ((i3 + 1 : Nat) : Int) := by rw [IntKind.wrap_i64]; omega
              obtain ⟨L1, hL1⟩ : ∃ L1, L1 = told m1 hs o.ph := ⟨_, rfl⟩
              obtain ⟨hq, hhq⟩ : ∃ hq, hq = hasB m1 hs o.name.data.toList := ⟨_, rfl⟩
              have HE1 : Hid (told m1 T o.ph = L1 ∧ told m1 hs o.ph = L1) := Lib.hid ⟨by rw [e1, hL1], hL1.symm⟩
              have HE3 : Hid (hasB m1 T o.name.data.toList = hq ∧ hasB m1 hs o.name.data.toList = hq) := Lib.hid ⟨by rw [e3, hhq], hhq.symm⟩
              have C1 := Lib.hid (fun (W : World) (h : St w W A B m1 hs T false) => h.sortA o.ph hph)
              have C2 := Lib.hid (fun (W : World) (h : St w W A B m1 hs T false) => h.sortB o.ph hph)
              have C3 := Lib.hid (fun (W : World) (u : Value) (h : St1 w W A B m1 hs T false u L1) => h.sortA o.ph hph)
              have C4 := Lib.hid (fun (W : World) (u : Value) (h : St1 w W A B m1 hs T true u L1) => h.sortB o.ph hph)
              have C5 := Lib.hid (fun (W : World) (h : St w W A B m1 hs T true) => h.forA o.ph hph b hb0 hb1)
              have C6 := Lib.hid (fun (W : World) (h : St w W A B m1 hs T true) => h.forB o.ph hph b hb0 hb1)
              have C7 := Lib.hid (fun (W : World) (u : Value) (h : St1 w W A B m1 hs T true u (L1.filter (trigB b))) => h.forA o.ph hph b hb0 hb1)
              have C8 := Lib.hid (fun (W : World) (u : Value) (h : St1 w W A B m1 hs T true u (L1.filter (trigB b))) => h.forB o.ph hph b hb0 hb1)
              have C9 := Lib.hid (fun (W : World) (h : St w W A B m1 hs T true) => h.hasA o.name hns)
              have C10 := Lib.hid (fun (W : World) (h : St w W A B m1 hs T true) => h.hasB_ o.name hns)
              have D1 := Lib.hid (fun (W : World) (v v' : Value) (h : Hooks W v L1) (h' : Hooks W v' L1) => same_any h h')
              have D2 := Lib.hid (fun (W : World) (v v' : Value) (h : Hooks W v (L1.filter (trigB b))) (h' : Hooks W v' (L1.filter (trigB b))) => same_any h h')
              rw [HE1.out.1] at C2 C4 C6 C8
              rw [HE1.out.2] at C1 C3 C5 C7
              rw [HE3.out.1] at C10
              rw [HE3.out.2] at C9
              unfold ptr at C1 C2 C3 C4 C5 C6 C7 C8 C9 C10
              clear hL1 hhq e1 e3 HE1 HE3 HTl HHs hcell ho hin hph hS3 hSt
              go_wp2_with fail
              go_region_held3 (fun W => W.cell? ⟨bl, off + i3 * 5, none⟩ = some (.string o.name) ∧ W.cell? ⟨bl, off + i3 * 5 + 1, none⟩ = some (.int .i64 o.ph)) (exact HSl.out _ (by assumption)) (first
                | (go_at_call_of 16 (Value.pointer (some ⟨A, 0, none⟩)); first
                    | (refine (C1.out _ (by assumption)).mono ?_; rintro e w' ⟨va, rfl, hst1⟩; have hbX := hst1.st.on)
                    | (refine (C3.out _ _ (by assumption)).mono ?_; rintro e w' ⟨va, rfl, hst, hka, hkb⟩; have hbX := hst.on))
                | (go_at_call_of 16 (Value.pointer (some ⟨B, 0, none⟩)); first
                    | (refine (C2.out _ (by assumption)).mono ?_; rintro e w' ⟨vb, rfl, hst1⟩; have hbX := hst1.st.on)
                    | (refine (C4.out _ _ (by assumption)).mono ?_; rintro e w' ⟨vb, rfl, hst, hka, hkb⟩; have hst' : St w w' A B m1 hs T true := hst; have hbX := hst.on))
                | (go_at_call_of 18 (Value.pointer (some ⟨A, 0, none⟩)); first
                    | (refine (C5.out _ (by assumption)).mono ?_; rintro e w' ⟨va, rfl, hst1⟩; have hbX := hst1.st.on)
                    | (refine (C7.out _ _ (by assumption)).mono ?_; rintro e w' ⟨va, rfl, hst, hka, hkb⟩; have hbX := hst.on))
                | (go_at_call_of 18 (Value.pointer (some ⟨B, 0, none⟩)); first
                    | (refine (C6.out _ (by assumption)).mono ?_; rintro e w' ⟨vb, rfl, hst1⟩; have hbX := hst1.st.on)
                    | (refine (C8.out _ _ (by assumption)).mono ?_; rintro e w' ⟨vb, rfl, hst, hka, hkb⟩; have hbX := hst.on))
                | (go_at_call 15; first
                    | (refine (D1.out _ _ _ (by assumption) (by assumption)).mono ?_; rintro e w' ⟨rfl, hbs⟩; have hst := St.below (show St w _ A B m1 hs T true by assumption) hbs; have hbX := hst.on)
                    | (refine (D2.out _ _ _ (by assumption) (by assumption)).mono ?_; rintro e w' ⟨rfl, hbs⟩; have hst := St.below (show St w _ A B m1 hs T true by assumption) hbs; have hbX := hst.on))
                | (go_at_call_of 20 (Value.pointer (some ⟨A, 0, none⟩)); refine (C9.out _ (by assumption)).mono ?_; rintro e w' ⟨rfl, hst⟩; have hbX := hst.on)
                | (go_at_call_of 20 (Value.pointer (some ⟨B, 0, none⟩)); refine (C10.out _ (by assumption)).mono ?_; rintro e w' ⟨rfl, hst⟩; have hbX := hst.on))
              all_goals
                have HSt := Lib.hid (show St w _ A B m1 hs T true from hst)
                go_wp2_with fail
                go_roundg G
                case rel => exact ⟨i3 + 1, by omega, by first | rfl | go_num, .inr ⟨by omega, HSt.out⟩⟩
                case measure => omega
        | succ G =>
          have hlt2 : (0 : Int) < ((G + 1 : Nat) : Int) := by omega
          have hlt3 : (0 : Int) < (G : Int) + 1 := by omega
          obtain ⟨g, capg, hvf, _, hglt⟩ := hown2.form (by omega)
          injection hvf with e1 e2 e3
          subst e1 e3
          clear e2
          have hc1 : IntKind.i64.wrap ((c : Int) + 1) = ((c + 1 : Nat) : Int) := by rw [IntKind.wrap_i64]; omega
          have HLG := Lib.hid hLG
          clear hperm hown2 hT2 hLG
          go_upto_if 70 with fail
          go_cut [15] from 67 to 95 (fun v15 wx => ∃ p : Nat, v15 = .int .i64 p ∧ p < G + 1 ∧ wr = wx)
          case first =>
            by_cases hcp : (c : Int) < (np : Int)
            · obtain ⟨z, hz⟩ : ∃ z, ps[c]? = some z := ⟨_, List.getElem?_eq_getElem (by have := HLp.out; omega)⟩
              rcases HC2.out with rfl | ⟨bp, offp, rfl, hcellp⟩
              · simp at hz
              have z0 := keep_cell HT2.out.a.on (hcellp c z hz)
              have hand := bits_and z 65535 (by decide)
              rw [show ((65535 : Nat) : Int) = 65535 from rfl] at hand
              have hmod : Int.tmod ((msk z 65535 : Nat) : Int) ((G + 1 : Nat) : Int) = ((msk z 65535 % (G + 1) : Nat) : Int) := by
                rw [Int.tmod_eq_emod_of_nonneg (by omega)]; omega
              have hmod2 : Int.tmod ((msk z 65535 : Nat) : Int) ((G : Int) + 1) = ((msk z 65535 % (G + 1) : Nat) : Int) := hmod
              have hpl : msk z 65535 % (G + 1) < G + 1 := Nat.mod_lt _ (by omega)
              have HPl := Lib.hid hpl
              clear hcellp hz hpl
              go_wp2
              go_meet
              exact ⟨_, rfl, HPl.out, rfl⟩
            · go_wp2
              go_meet
              exact ⟨0, rfl, by omega, rfl⟩
          obtain ⟨p, rfl, hpl, rfl⟩ := hcut
          obtain ⟨x, hx⟩ : ∃ x, L[p]? = some x := ⟨_, List.getElem?_eq_getElem (by rw [HLG.out]; exact hpl)⟩
          obtain ⟨g2, hg2, K⟩ := owns_cells HOwn2.out hx
          injection hg2 with hg2
          injection hg2 with hg2 _ _
          subst hg2
          have c0 : wr.cell? ⟨g, p * 5, none⟩ = some (.string x.name) := K.c0
          have c1 : wr.cell? ⟨g, p * 5 + 1, none⟩ = some (.int .i64 x.ph) := K.c1
          have c2 : wr.cell? ⟨g, p * 5 + 2, none⟩ = some (.int .i64 x.pri) := K.c2
          have c3 : wr.cell? ⟨g, p * 5 + 3, none⟩ = some (.string x.trig) := K.c3
          have c4 : wr.cell? ⟨g, p * 5 + 4, none⟩ = some (.int .i64 x.bit) := K.c4
          have hmemL := List.mem_of_getElem? hx
          have hmem : x ∈ hs := HPm.out.mem_iff.1 (List.mem_append_right T hmemL)
          have hfr := fresh_left HNm.out HPm.out hmemL (HNe.out x hmem)
          have hTl : T.length < 1000000 := by
            have h1 := HPm.out.length_eq
            rw [List.length_append] at h1
            have h2 := HN0.out
            omega
          have HS := Lib.hid (HT2.out.swap.addL x (HOk.out x hmem) hTl)
          rw [hfr] at HS
          have HX := Lib.hid hx
          unfold ptr hookV hookC at HS
          clear K hmemL hmem hfr hTl hx
          have hpl2 : (p : Int) < (G : Int) + 1 := by omega
          have hpl3 : (p : Int) < ((G + 1 : Nat) : Int) := by omega
          go_wp2_with fail
          refine HS.out.mono ?_
          rintro e w5 ⟨rfl, hT5, ho5⟩
          have hT6 : Two w w5 X A m1 hs false 0 Y B m1 (T ++ [x]) false 0 := hT5.swap
          have hown5 := owns_only HOwn2.out ho5 fun k hk hx => by have := HYB.out k hx; have := (HOwn2.out.lt k hk).1; omega
          have hB5 : B0 ≤ w5.heap.size := Nat.le_trans hBq ho5.size
          have HT6 := Lib.hid hT6
          have HO5 := Lib.hid hown5
          clear hT5 hT6 hown5 ho5 HS c0 c1 c2 c3 c4
          have hcg : G + 1 ≤ capv := by
            rcases HO5.out.2 with ⟨h0, _⟩ | ⟨_, _, _, hv, _, _, hle, _⟩
            · cases h0
            · injection hv with _ _ e3
              rw [HLG.out] at hle
              omega
          have hg5 : g < w5.heap.size := (HO5.out.lt g rfl).2
          have hcell5 := fun j v (hj : (rowC L)[j]? = some v) => HO5.out.cells rfl j v hj
          have HCell : Hid (∀ W, Below w5.heap.size w5 W → ∀ j v, (rowC L)[j]? = some v → W.cell? ⟨g, j, none⟩ = some v) := Lib.hid (fun W hW j v hj => by
            have := hcell5 j v hj
            rw [add_off, Nat.zero_add] at this
            exact keep_cell hW this)
          have hN1 : ∀ W, Below w5.heap.size w5 W → ∀ j u, (rowC (L.take p))[j]? = some u → W.cell? ((⟨g, 0, none⟩ : Addr).add j) = some u := fun W hW j u hj => by
            rw [add_off, Nat.zero_add]
            refine HCell.out W hW j u ?_
            rw [← rowC_take] at hj
            rw [List.getElem?_take] at hj
            split at hj
            · exact hj
            · cases hj
          have hN2 : ∀ W, Below w5.heap.size w5 W → ∀ j u, (rowC (L.drop (p + 1)))[j]? = some u → W.cell? ((⟨g, (p + 1) * 5, none⟩ : Addr).add j) = some u := fun W hW j u hj => by
            rw [add_off]
            refine HCell.out W hW _ u ?_
            rw [← rowC_drop, List.getElem?_drop] at hj
            exact hj
          have HN1 := Lib.hid hN1
          have HN2 := Lib.hid hN2
          have HEm := Lib.hid (owns_empty (B := B0) (show Blk ((w5.alloc (.cells #[] 29)).drew) w5.heap.size #[] 29 from Blk.new w5 #[] _) hB5)
          have HT1l : Hid ((rowC (L.take p)).length = p * 5) := Lib.hid (by rw [rowC_len, List.length_take, Nat.min_eq_left (by rw [HLG.out]; omega)])
          have HT2l : Hid ((rowC (L.drop (p + 1))).length = (G - p) * 5) := Lib.hid (by rw [rowC_len, List.length_drop, HLG.out]; congr 1; omega)
          have hp1 : IntKind.i64.wrap ((p : Int) + 1) = ((p + 1 : Nat) : Int) := by rw [IntKind.wrap_i64]; omega
          have hc0 : ¬ capv = 0 := by omega
          have hpg : (p : Int) ≤ (capv : Int) := by omega
          have hpg2 : ((p + 1 : Nat) : Int) ≤ ((G + 1 : Nat) : Int) := by omega
          clear hcell5 hN1 hN2
          go_wp2_with fail
          by_cases hcp : capv = p + 1
          · obtain rfl : p = G := by omega
            subst hcp
            go_region_held_law (fun _ => True) (trivial) (first
              | (refine step_append_at _ rfl (.tmp 86) (.tmp 89) 34 rfl B0 29 i0 (.agg #[.string ⟨#[]⟩, .int .i64 0, .int .i64 0, .string ⟨#[]⟩, .int .i64 0]) 5 56 Try.underlying34 hi hz0 hz1 hz2 rfl (by decide) (.slice (some ⟨w5.heap.size, 0, none⟩) 0 0) 0 (rowC []) (by simp [Act.eval, Act.put]) HEm.out ⟨g, 0, none⟩ p (p + 1) (rowC (L.take p)) (by simp [Act.eval, Act.put]) HT1l.out (HN1.out _ (((Below.refl _ _).alloc (Nat.le_refl _) _).drew)) (rowC_one _) (by unfold maxLen; omega) (by omega) (by simp; omega) ?_; intro v1 w6 ho6 hg6 ha6)
              | (refine step_append_at _ rfl (.tmp 90) (.tmp 94) 34 rfl B0 29 i0 (.agg #[.string ⟨#[]⟩, .int .i64 0, .int .i64 0, .string ⟨#[]⟩, .int .i64 0]) 5 56 Try.underlying34 hi hz0 hz1 hz2 rfl (by decide) v1 (0 + p) (rowC [] ++ rowC (L.take p)) (by simp [Act.eval, Act.put]) ho6 ⟨g, 0, none⟩ 0 0 [] (by simp [Act.eval, Act.put]) rfl (fun _ _ h => by cases h) (fun _ h => by cases h) (by unfold maxLen; omega) (by omega) (by have := hg6.size; simp at this; omega) ?_; intro v2 w7 ho7 hg7 ha7))
            all_goals
              have hown7 : w7.ownsRow B0 29 5 v2 (L.eraseIdx p).length (rowC (L.eraseIdx p)) := by
                have h1 := ho7
                have e1 : rowC [] ++ rowC (L.take p) ++ [] = rowC (L.eraseIdx p) := by
                  rw [show rowC [] = [] from rfl, List.nil_append, List.append_nil, ← erase_split, List.drop_of_length_le (by rw [HLG.out]; exact Nat.le_refl _), List.append_nil]
                have e2 : 0 + p + 0 = (L.eraseIdx p).length := by
                  rw [List.length_eraseIdx_of_lt (by rw [HLG.out]; omega), HLG.out]; omega
                rw [e1, e2] at h1
                exact h1
              have hlen7 : (L.eraseIdx p).length = p := by rw [List.length_eraseIdx_of_lt (by rw [HLG.out]; omega), HLG.out]; omega
              have hb6 : Only (fun k => w5.heap.size ≤ k) w5 w6 := ((Only.of_below (((Below.refl _ _).alloc (Nat.le_refl _) (.cells #[] 29)).drew)).trans' ((only_grown hg6).mono fun k hk => by simp [Value.ownBlock] at hk; omega))
              have hv1 : ∀ k, v1.ownBlock = some k → w5.heap.size ≤ k := fun k hk => by
                rcases ha6 with e | e
                · rw [e] at hk; simp [Value.ownBlock] at hk; omega
                · rw [e] at hk; injection hk with hk; subst hk
                  have : (w5.alloc (.cells #[] 29)).heap.size = w5.heap.size + 1 := by simp
                  show w5.heap.size ≤ (w5.alloc (.cells #[] 29)).heap.size
                  omega
              have hb7 : Only (fun k => w5.heap.size ≤ k) w5 w7 := hb6.trans' ((only_grown hg7).mono fun k hk => hv1 k hk)
              have hbw7 : Below w5.heap.size w5 w7 := hb7.below (Nat.le_refl _) fun k hk => hk
              have HT7 := Lib.hid (HT6.out.below hbw7)
              have HO7 := Lib.hid hown7
              have HL7 := Lib.hid hlen7
              have HB7 : Hid (B0 ≤ w7.heap.size) := Lib.hid (Nat.le_trans hB5 hbw7.size)
              have HP7 : Hid ((T ++ [x] ++ L.eraseIdx p).Perm hs) := Lib.hid (by
                refine List.Perm.trans ?_ HPm.out
                rw [List.append_assoc]
                exact (erase_perm HX.out).symm.append_left T)
              clear ho6 hg6 ha6 ho7 hg7 ha7 hown7 hlen7 hb6 hb7 hv1 hbw7
              go_wp2_with fail
              go_roundg p
              case rel => exact ⟨c + 1, L.eraseIdx p, T ++ [x], HL7.out, by omega, by first | rfl | go_num, HT7.out, HO7.out, HB7.out, HP7.out⟩
              case measure => omega
          · go_region_held_law (fun _ => True) (trivial) (first
              | (refine step_append_at _ rfl (.tmp 86) (.tmp 89) 34 rfl B0 29 i0 (.agg #[.string ⟨#[]⟩, .int .i64 0, .int .i64 0, .string ⟨#[]⟩, .int .i64 0]) 5 56 Try.underlying34 hi hz0 hz1 hz2 rfl (by decide) (.slice (some ⟨w5.heap.size, 0, none⟩) 0 0) 0 (rowC []) (by simp [Act.eval, Act.put]) HEm.out ⟨g, 0, none⟩ p capv (rowC (L.take p)) (by simp [Act.eval, Act.put]) HT1l.out (HN1.out _ (((Below.refl _ _).alloc (Nat.le_refl _) _).drew)) (rowC_one _) (by unfold maxLen; omega) (by omega) (by simp; omega) ?_; intro v1 w6 ho6 hg6 ha6)
              | (refine step_append_at _ rfl (.tmp 90) (.tmp 94) 34 rfl B0 29 i0 (.agg #[.string ⟨#[]⟩, .int .i64 0, .int .i64 0, .string ⟨#[]⟩, .int .i64 0]) 5 56 Try.underlying34 hi hz0 hz1 hz2 rfl (by decide) v1 (0 + p) (rowC [] ++ rowC (L.take p)) (by simp [Act.eval, Act.put]) ho6 ⟨g, (p + 1) * 5, none⟩ (G - p) (capv - (p + 1)) (rowC (L.drop (p + 1))) (by simp [Act.eval, Act.put]) HT2l.out (HN2.out _ (((Below.refl _ _).alloc (Nat.le_refl _) _).drew.grown hg6 (by simp) (fun k hk => by simp [Value.ownBlock] at hk; omega))) (rowC_one _) (by unfold maxLen; omega) (by omega) (by have := hg6.size; simp at this; omega) ?_; intro v2 w7 ho7 hg7 ha7))
            all_goals
              have hown7 : w7.ownsRow B0 29 5 v2 (L.eraseIdx p).length (rowC (L.eraseIdx p)) := by
                have h1 := ho7
                have e1 : rowC [] ++ rowC (L.take p) ++ rowC (L.drop (p + 1)) = rowC (L.eraseIdx p) := by
                  rw [show rowC [] = [] from rfl, List.nil_append, ← rowC_append, erase_split]
                have e2 : 0 + p + (G - p) = (L.eraseIdx p).length := by
                  rw [List.length_eraseIdx_of_lt (by rw [HLG.out]; exact hpl), HLG.out]; omega
                rw [e1, e2] at h1
                exact h1
              have hlen7 : (L.eraseIdx p).length = G := by rw [List.length_eraseIdx_of_lt (by rw [HLG.out]; exact hpl), HLG.out]; omega
              have hb6 : Only (fun k => w5.heap.size ≤ k) w5 w6 := ((Only.of_below (((Below.refl _ _).alloc (Nat.le_refl _) (.cells #[] 29)).drew)).trans' ((only_grown hg6).mono fun k hk => by simp [Value.ownBlock] at hk; omega))
              have hv1 : ∀ k, v1.ownBlock = some k → w5.heap.size ≤ k := fun k hk => by
                rcases ha6 with e | e
                · rw [e] at hk; simp [Value.ownBlock] at hk; omega
                · rw [e] at hk; injection hk with hk; subst hk
                  have : (w5.alloc (.cells #[] 29)).heap.size = w5.heap.size + 1 := by simp
                  show w5.heap.size ≤ (w5.alloc (.cells #[] 29)).heap.size
                  omega
              have hb7 : Only (fun k => w5.heap.size ≤ k) w5 w7 := hb6.trans' ((only_grown hg7).mono fun k hk => hv1 k hk)
              have hbw7 : Below w5.heap.size w5 w7 := hb7.below (Nat.le_refl _) fun k hk => hk
              have HT7 := Lib.hid (HT6.out.below hbw7)
              have HO7 := Lib.hid hown7
              have HL7 := Lib.hid hlen7
              have HB7 : Hid (B0 ≤ w7.heap.size) := Lib.hid (Nat.le_trans hB5 hbw7.size)
              have HP7 : Hid ((T ++ [x] ++ L.eraseIdx p).Perm hs) := Lib.hid (by
                refine List.Perm.trans ?_ HPm.out
                rw [List.append_assoc]
                exact (erase_perm HX.out).symm.append_left T)
              clear ho6 hg6 ha6 ho7 hg7 ha7 hown7 hlen7 hb6 hb7 hv1 hbw7
              go_wp2_with fail
              go_roundg G
              case rel => exact ⟨c + 1, L.eraseIdx p, T ++ [x], HL7.out, by omega, by first | rfl | go_num, HT7.out, HO7.out, HB7.out, HP7.out⟩
              case measure => omega
    | succ G =>
      have hlt : (i : Int) < (n : Int) := by omega
      obtain ⟨x, hx⟩ : ∃ x, l[i]? = some x := ⟨_, List.getElem?_eq_getElem (by have := HLn.out; omega)⟩
      have hTK : l.take (i + 1) = l.take i ++ [x] := by rw [List.take_add_one, hx]; rfl
      rcases HC.out with rfl | ⟨b, off, rfl, hcell⟩
      · simp at hx
      have HK := Lib.hid (fun W (hW : Below w.heap.size w W) => (hcell i x hx).carry fun off' v hv => keep_cell hW hv)
      have K := HK.out wr hT1.a.on
      have c0 : wr.cell? ⟨b, off + i * 5, none⟩ = some (.string x.name) := K.c0
      have c1 : wr.cell? ⟨b, off + i * 5 + 1, none⟩ = some (.int .i64 x.ph) := K.c1
      have c2 : wr.cell? ⟨b, off + i * 5 + 2, none⟩ = some (.int .i64 x.pri) := K.c2
      have c3 : wr.cell? ⟨b, off + i * 5 + 3, none⟩ = some (.string x.trig) := K.c3
      have c4 : wr.cell? ⟨b, off + i * 5 + 4, none⟩ = some (.int .i64 x.bit) := K.c4
      have hin := hg x (List.mem_of_getElem? hx)
      have hb := hT1.a.on
      clear K hcell hx
      by_cases h1 : (300 : Int) < (x.name.size : Int)
      · go_wp2
        go_ret
        exact ⟨rfl, hb⟩
      by_cases h2 : (300 : Int) < (x.trig.size : Int)
      · go_wp2
        go_ret
        exact ⟨rfl, hb⟩
      have hok : HkOk x := hin.ok (by omega) (by omega)
      have HAd := Lib.hid (addAll_snoc (l.take i) [] x)
      have HTK := Lib.hid hTK
      have HS1 := Lib.hid (hT1.addL x hok (by omega))
      have HOwn := Lib.hid hown
      obtain ⟨hs, hhs⟩ : ∃ hs, hs = addAll [] (l.take i) := ⟨_, rfl⟩
      rw [← hhs] at HS1 HAd HOwn hal
      obtain ⟨fr, hfr⟩ : ∃ fr, fr = fresh hs false x := ⟨_, rfl⟩
      rw [← hfr] at HS1 HAd
      unfold ptr hookV hookC at HS1
      have hi1 : IntKind.i64.wrap ((i : Int) + 1) = ((i + 1 : Nat) : Int) := by rw [IntKind.wrap_i64]; omega
      have HSm1 : Hid (∀ y ∈ l.take (i + 1), y.name.size ≤ 300) := Lib.hid (fun y hy => by
        rw [HTK.out] at hy
        rcases List.mem_append.1 hy with hy | hy
        · exact HSm.out y hy
        · rw [List.mem_singleton] at hy; subst hy; omega)
      clear hT1 hb HT hTK hin hown hhs hfr
      go_wp2_with fail
      refine HS1.out.mono ?_
      rintro e w4 ⟨rfl, hT3, ho3⟩
      have HT3 := Lib.hid hT3
      have hown4 : w4.ownsRow B0 29 5 u12 hs.length (rowC hs) := owns_only HOwn.out ho3 fun k hk hx => by have := HXB.out k hx; have := (HOwn.out.lt k hk).1; omega
      have HO4 := Lib.hid hown4
      have hB4 : B0 ≤ w4.heap.size := Nat.le_trans hBr ho3.size
      have K := HK.out w4 hT3.a.on
      have c0 : w4.cell? ⟨b, off + i * 5, none⟩ = some (.string x.name) := K.c0
      have c1 : w4.cell? ⟨b, off + i * 5 + 1, none⟩ = some (.int .i64 x.ph) := K.c1
      have c2 : w4.cell? ⟨b, off + i * 5 + 2, none⟩ = some (.int .i64 x.pri) := K.c2
      have c3 : w4.cell? ⟨b, off + i * 5 + 3, none⟩ = some (.string x.trig) := K.c3
      have c4 : w4.cell? ⟨b, off + i * 5 + 4, none⟩ = some (.int .i64 x.bit) := K.c4
      clear HS1 hT3 hown4 ho3 K
      cases fr with
      | false =>
        have HE : Hid (addAll [] (l.take (i + 1)) = hs) := Lib.hid (by rw [HTK.out, HAd.out]; rfl)
        go_wp2
        go_roundg G
        case rel => exact ⟨i + 1, by omega, by first | rfl | go_num, by rw [HE.out]; exact HT3.out, by rw [HE.out]; exact HO4.out, hB4, HSm1.out⟩
        case measure => omega
      | true =>
        have HE : Hid (addAll [] (l.take (i + 1)) = hs ++ [x]) := Lib.hid (by rw [HTK.out, HAd.out]; rfl)
        have HNew : Hid (Blk (w4.alloc (.cells (hookC x) 29)) w4.heap.size (hookC x) 29) := Lib.hid (Blk.new w4 (hookC x) _)
        unfold hookC at HNew
        go_wp2_with (at_builtin; refine wpList_append_lies _ rfl _ _ 34 rfl B0 29 i0 (.agg #[.string ⟨#[]⟩, .int .i64 0, .int .i64 0, .string ⟨#[]⟩, .int .i64 0]) 5 56 Try.underlying34 hi hz0 hz1 hz2 rfl (by decide) _ hs.length (rowC hs) rfl (HO4.out.alloc _) ⟨w4.heap.size, 0, none⟩ 1 1 (hookC x).toList rfl rfl (World.news_of_block HNew.out) (hookC_one x) (by decide) ?c3 ?c4 ?c5 _ rfl ?_)
        case c3 => unfold maxLen; omega
        case c4 => omega
        case c5 => simp; omega
        intro g' cap' w5 hown5 hgrow5 hat5 hlt5
        have hsz5 := hgrow5.size
        have hT5 := (HT3.out.below ((Below.refl _ _).alloc (Nat.le_refl _) (.cells (hookC x) 29))).off (only_grown hgrow5) (HZ.out u12 fun k hk => (HO4.out.lt k hk).1)
        have HT5 := Lib.hid hT5
        have HO5 := Lib.hid hown5
        have hB5 : B0 ≤ w5.heap.size := by
          have : (w4.alloc (.cells (hookC x) 29)).heap.size = w4.heap.size + 1 := by simp
          have h2 : (w4.alloc (.cells (hookC x) 29)).heap.size ≤ w5.heap.size := hgrow5.size
          omega
        clear hown5 hgrow5 hat5 hT5 hsz5
        go_wp2
        go_roundg G
        case rel => exact ⟨i + 1, by omega, by first | rfl | go_num, by rw [HE.out]; exact HT5.out, by rw [HE.out, rowC_snoc, List.length_append, List.length_singleton]; exact HO5.out, hB5, HSm1.out⟩
        case measure => omega
end RegistryOrder
end Go.Proofs.Ytemcahbpfjlnlaa
