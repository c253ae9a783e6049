/- DelimApart: the law's walk. -/
import Derived.Test.YtbdcbeghiglfgaaDoorDlCopy
namespace Go.Proofs.YtbdcbeghiglfgaaDoor
open Go Go.RowKit
namespace DelimApart
open Dl
set_option maxRecDepth 100000
set_option linter.unusedVariables false
set_option linter.unusedSimpArgs false

theorem and63 (n : Int) : ∃ x : Nat, x ≤ 63 ∧ bits .and .i64 n 63 = (x : Int) := by
  have h63 : (BitVec.ofInt 64 (63 : Int)).toNat = 63 := by decide +kernel
  have h : ((BitVec.ofInt 64 n) &&& (BitVec.ofInt 64 (63 : Int))).toNat ≤ 63 := by
    rw [BitVec.toNat_and, h63]; exact Nat.and_le_right
  refine ⟨_, h, ?_⟩
  show IntKind.i64.wrap (((BitVec.ofInt 64 n) &&& (BitVec.ofInt 64 (63 : Int))).toNat : Int) = _
  rw [IntKind.wrap_i64]
  omega
theorem sum_const {f : Nat → Nat} {c : Nat} : ∀ n, (∀ j, j < n → f j ≤ c) → sumf f n ≤ n * c
  | 0, _ => Nat.zero_le _
  | n + 1, h => by
    have h1 := sum_const n (fun j hj => h j (by omega))
    have h2 := h n (by omega)
    rw [Nat.add_mul, Nat.one_mul]
    exact Nat.add_le_add h1 h2
/-- A row, so far. -/
structure Mix (c : UInt8) (N i : Nat) (X : List Rn) : Prop where
  lx : X.length = N
  x : ∀ j, j < i → (rn X j).c = c ∧ 0 ≤ (rn X j).n ∧ (rn X j).n ≤ 63
theorem Mix.next {c : UInt8} {N i z : Nat} {X : List Rn} (h : Mix c N i X) (hi : i < N) (hz : z ≤ 63) :
    Mix c N (i + 1) ((X.set i { rn X i with c := c }).set i { rn X i with c := c, n := z }) := by
  have hx := h.lx
  refine ⟨by rw [List.length_set, List.length_set]; exact hx, fun j hj => ?_⟩
  rw [rn_set (by rw [List.length_set]; omega), rn_set (by omega)]
  by_cases e : j = i
  · rw [if_pos e]; exact ⟨rfl, by simp only; omega, by simp only; omega⟩
  · rw [if_neg e, if_neg e]; exact h.x j (by omega)
theorem Mix.ok {c : UInt8} {N : Nat} {X : List Rn} (h : Mix c N N X) : ∀ r ∈ X, RnOk r := by
  intro r hr
  obtain ⟨j, hj⟩ := List.getElem?_of_mem hr
  have h1 := h.x j (by rw [← h.lx]; exact (List.getElem?_eq_some_iff.1 hj).1)
  rw [rn_of hj] at h1
  exact ok_small h1.2.1 (by omega)
theorem Mix.len {c : UInt8} {N : Nat} {X : List Rn} (h : Mix c N N X) (hN : N ≤ 40) : (pairs X).length ≤ 2520 := by
  have h1 := sum_const (f := caps X) (c := 63) X.length (fun j hj => by
    have := h.x j (by rw [← h.lx]; exact hj)
    unfold caps cap
    split <;> omega)
  have h2 := pairs_len X
  rw [h.lx] at h1 h2
  have : N * 63 ≤ 40 * 63 := Nat.mul_le_mul_right _ hN
  omega
theorem Mix.apart {N M : Nat} {X Y : List Rn} (h : Mix 42 N N X) (h' : Mix 95 M M Y) : pairs (X ++ Y) = pairs X ++ (pairs Y).map (shiftP N) := by
  rw [← h.lx]
  refine Dl.apart (fun j l hj hl e => ?_)
  have h1 := (h.x j (by rw [← h.lx]; exact hj)).1
  have h2 := (h'.x l (by rw [← h'.lx]; exact hl)).1
  rw [h1, h2] at e
  exact absurd e (by decide)
theorem runs_in {w : World} {B : Nat} {v : Value} {l : List Rn} (h : OwnR w B v l) : RunsIn w v l := by
  refine ⟨RowsG.of_owns runE_len h, fun n c e => ?_⟩
  rcases h.2 with ⟨e2, _⟩ | ⟨g, cap, cur, e2, _⟩
  · rw [e2] at e; injection e with _ _ e3; exact e3.symm
  · rw [e2] at e; injection e with e1; cases e1
/-- Pairs that lie somewhere, by number. -/
def PAt (w : World) (a : Option Addr) (p : List Pr) : Prop := ∀ i x, p[i]? = some x → ∃ b off, a = some ⟨b, off, none⟩ ∧ AtG pairE w b (off + i * 3) x
theorem PAt.keep {w W : World} {a : Option Addr} {p : List Pr} (h : PAt w a p) (hb : Below w.heap.size w W) : PAt W a p := fun i x hx => by
  obtain ⟨b, off, e, hc⟩ := h i x hx
  exact ⟨b, off, e, hc.keep hb⟩
theorem pat_of {w : World} {u : Value} {p : List Pr} (h : Prs w u p) : ∃ a c, u = .slice a p.length c ∧ PAt w a p := by
  obtain ⟨a, c, e, _, h⟩ := h
  refine ⟨a, c, e, fun i x hx => ?_⟩
  rcases h with rfl | ⟨b, off, rfl, hc⟩
  · simp at hx
  · exact ⟨b, off, rfl, hc i x hx⟩

set_option maxHeartbeats 8000000 in
theorem law_any (la lb : List Rn) (va vb : Value) (w : World) (hP : Prog13 w) (hA : RunsIn w va la) (hB : RunsIn w vb lb) :
    Calls Tryd.prog 8 #[va, vb] w fun e w' => e = .returned (.bool true) ∧ Below w.heap.size w w' := by
  have HAw := Lib.hid (awake_any w hP)
  have HM : Hid (∀ (L : List Rn) (u : Value) (W : World), Below w.heap.size w W → Runs W u L → L.length ≤ 100 → (∀ r ∈ L, RnOk r) → (pairs L).length ≤ 100000 → Calls Tryd.prog 15 #[u] W fun e w' => (∃ a c, e = .returned (.slice a (pairs L).length c) ∧ PAt w' a (pairs L)) ∧ Below W.heap.size W w') := Lib.hid (fun L u W hW hV h1 h2 h3 =>
    (hP.mtch L u W hW hV h1 h2 h3).mono (by
      rintro e w' ⟨u2, rfl, hu, hb⟩
      obtain ⟨a, c, rfl, hc⟩ := pat_of hu
      exact ⟨⟨a, c, rfl, hc⟩, hb⟩))
  have HA := Lib.hid hA
  have HB := Lib.hid hB
  have hb0 := Below.refl w.heap.size w
  obtain ⟨⟨aa, capa, rfl, hlma, _⟩, _⟩ := hA
  obtain ⟨⟨ab, capb, rfl, hlmb, _⟩, _⟩ := hB
  unfold maxLen at hlma hlmb
  obtain ⟨N, hN⟩ : ∃ N, la.length = N := ⟨_, rfl⟩
  obtain ⟨M, hM⟩ : ∃ M, lb.length = M := ⟨_, rfl⟩
  have HN := Lib.hid hN
  have HMM := Lib.hid hM
  rw [hN] at hlma HA ⊢
  rw [hM] at hlmb HB ⊢
  clear hN hM hP
  by_cases hbig : 40 < N
  · have hb' : decide ((40 : Int) < (N : Int)) = true := by simp; omega
    go_enter Tryd.func8, Tryd.ntmps8
    go_wp2_with fail
    refine HAw.out.mono ?_
    rintro e w1 ⟨rfl, hb1⟩
    go_wp2
    go_ret
    exact ⟨rfl, hb1⟩
  by_cases hbig2 : 40 < M
  · have hb' : decide ((40 : Int) < (N : Int)) = false := by simp; omega
    have hb2' : decide ((40 : Int) < (M : Int)) = true := by simp; omega
    go_enter Tryd.func8, Tryd.ntmps8
    go_wp2_with fail
    refine HAw.out.mono ?_
    rintro e w1 ⟨rfl, hb1⟩
    go_wp2
    go_ret
    exact ⟨rfl, hb1⟩
  have hb' : decide ((40 : Int) < (N : Int)) = false := by simp; omega
  have hb2' : decide ((40 : Int) < (M : Int)) = false := by simp; omega
  have hn40 : N ≤ 40 := by omega
  have hm40 : M ≤ 40 := by omega
  go_enter Tryd.func8, Tryd.ntmps8
  go_wp2_with fail
  refine HAw.out.mono ?_
  rintro e w1 ⟨rfl, hb1⟩
  have s1 := hb1.size
  go_wp2_with (at_builtin; refine wp_copy rfl _ _ rfl w.heap.size _ [] rfl (own_empty w1 s1) _ la rfl ?rh1 ?rh2 ?rh3 ?_)
  case rh1 => exact ⟨(HA.out.1.keep hb1).keep ((Below.refl _ _).alloc (Nat.le_refl _) _), HA.out.2⟩
  case rh2 => have := HN.out; simp; omega
  case rh3 => simp; omega
  intro u6 w2 ho2 hg2
  have hb2 : Below w.heap.size w w2 := (hb1.alloc s1 _).grown hg2 (by simp; omega) (fun k hk => by simp [Value.ownBlock] at hk; omega)
  obtain ⟨a6, c6, rfl⟩ := ho2.form
  have HO2 : Hid (OwnR w2 w.heap.size (.slice a6 N c6) la) := Lib.hid (by rw [← HN.out]; exact ho2)
  have HB2 := Lib.hid hb2
  rw [HN.out]
  clear hg2 ho2 hb2
  go_wp2_with fail
  go_loopg [7] N (fun G s7 wr => ∃ (i : Nat) (X : List Rn), i + G = N ∧ s7 = .int .i64 (i : Int) ∧ Hid (Mix 42 N i X) ∧ Hid (OwnR wr w.heap.size (.slice a6 N c6) X) ∧ Hid (Below w.heap.size w wr))
  case atStart => exact ⟨0, la, by omega, rfl, Lib.hid ⟨HN.out, fun j hj => by omega⟩, HO2, HB2⟩
  case round =>
    clear HO2 HB2
    obtain ⟨i, X, hig, rfl, HF, HX, HBw⟩ := hrel
    cases gk with
    | zero =>
      obtain rfl : i = N := by omega
      have hlt : ¬ (i : Int) < (i : Int) := by omega
      have s2 := HBw.out.size
      go_wp2_with (at_builtin; refine wp_copy rfl _ _ rfl wr.heap.size _ [] rfl (own_empty wr (Nat.le_refl _)) _ lb rfl ?xh1 ?xh2 ?xh3 ?_)
      case xh1 => exact ⟨(HB.out.1.keep HBw.out).keep ((Below.refl _ _).alloc (Nat.le_refl _) _), HB.out.2⟩
      case xh2 => have := HMM.out; simp; omega
      intro u8 w3 ho3 hg3
      have hb3 : Below wr.heap.size wr w3 := ((Below.refl _ wr).alloc (Nat.le_refl _) _).grown hg3 (by simp) (fun k hk => by simp [Value.ownBlock] at hk; omega)
      obtain ⟨a8, c8, rfl⟩ := ho3.form
      have HO3 : Hid (OwnR w3 wr.heap.size (.slice a8 M c8) lb) := Lib.hid (by rw [← HMM.out]; exact ho3)
      have HX3 := Lib.hid (HX.out.keep hb3)
      have HLt : Hid (∀ g, (Value.slice a6 i c6).ownBlock = some g → g < wr.heap.size) := Lib.hid (fun g hg => (World.ownsRow.lt HX.out g hg).2)
      have HB3 := Lib.hid (below_later HBw.out hb3)
      obtain ⟨B2, hB2⟩ : ∃ B2, wr.heap.size = B2 := ⟨_, rfl⟩
      rw [hB2] at HO3 HLt
      have hB3 : w.heap.size ≤ B2 := by omega
      rw [HMM.out]
      clear hg3 ho3 hb3 hB2 HX HBw
      go_wp2_with fail
      go_loopg [9] M (fun G s9 wq => ∃ (j : Nat) (Y : List Rn), j + G = M ∧ s9 = .int .i64 (j : Int) ∧ Hid (Mix 95 M j Y) ∧ Hid (OwnR wq w.heap.size (.slice a6 i c6) X) ∧ Hid (OwnR wq B2 (.slice a8 M c8) Y) ∧ Hid (Below w.heap.size w wq))
      case atStart => exact ⟨0, lb, by omega, rfl, Lib.hid ⟨HMM.out, fun j hj => by omega⟩, HX3, HO3, HB3⟩
      case round =>
        clear HX3 HO3 HB3
        obtain ⟨j, Y, hjg, rfl, HG, HX, HY, HBw⟩ := hrel
        cases gk with
        | zero =>
          obtain rfl : j = M := by omega
          have hlt : ¬ (j : Int) < (j : Int) := by omega
          obtain ⟨p, hp⟩ : ∃ p, (pairs X).length = p := ⟨_, rfl⟩
          obtain ⟨q, hq⟩ : ∃ q, (pairs Y).length = q := ⟨_, rfl⟩
          obtain ⟨T, hT⟩ : ∃ T, p + q = T := ⟨_, rfl⟩
          have hp2 := HF.out.len hn40
          have hq2 := HG.out.len hm40
          have hp3 : (p : Int) ≤ 2520 := by omega
          have hq3 : (q : Int) ≤ 2520 := by omega
          have hT3 : (T : Int) ≤ 5040 := by omega
          have HAll := Lib.hid (HF.out.apart HG.out)
          have HLP := Lib.hid hp
          have HLQ := Lib.hid hq
          have HM1 : Hid (∀ (u : Value) (W : World), Below w.heap.size w W → Runs W u X → Calls Tryd.prog 15 #[u] W fun e w' => (∃ a c, e = .returned (.slice a p c) ∧ PAt w' a (pairs X)) ∧ Below W.heap.size W w') := Lib.hid (fun u W hW hR => by
            have := HM.out X u W hW hR (by rw [HF.out.lx]; omega) HF.out.ok (by omega)
            rwa [hp] at this)
          have HM2 : Hid (∀ (u : Value) (W : World), Below w.heap.size w W → Runs W u Y → Calls Tryd.prog 15 #[u] W fun e w' => (∃ a c, e = .returned (.slice a q c) ∧ PAt w' a (pairs Y)) ∧ Below W.heap.size W w') := Lib.hid (fun u W hW hR => by
            have := HM.out Y u W hW hR (by rw [HG.out.lx]; omega) HG.out.ok (by omega)
            rwa [hq] at this)
          have HM3 : Hid (∀ (u : Value) (W : World), Below w.heap.size w W → Runs W u (X ++ Y) → Calls Tryd.prog 15 #[u] W fun e w' => (∃ a c, e = .returned (.slice a T c) ∧ PAt w' a (pairs X ++ (pairs Y).map (shiftP i))) ∧ Below W.heap.size W w') := Lib.hid (fun u W hW hR => by
            have hl : (pairs X ++ (pairs Y).map (shiftP i)).length = T := by rw [List.length_append, List.length_map, hp, hq, hT]
            have := HM.out (X ++ Y) u W hW hR (by rw [List.length_append, HF.out.lx, HG.out.lx]; omega) (fun r hr => (List.mem_append.1 hr).elim (HF.out.ok r) (HG.out.ok r)) (by rw [HAll.out, hl]; omega)
            rwa [HAll.out, hl] at this)
          clear hp hq HM
          go_wp2_with fail
          refine (HM1.out _ _ HBw.out (runs_in HX.out).1).mono ?_
          rintro e w4 ⟨⟨aP, cP, rfl, hp4⟩, hb4⟩
          have hB4 := below_later HBw.out hb4
          go_wp2_with fail
          refine (HM2.out _ _ hB4 ((runs_in HY.out).1.keep hb4)).mono ?_
          rintro e w5 ⟨⟨aQ, cQ, rfl, hq5⟩, hb5⟩
          have hB5 := below_later hB4 hb5
          have HP5 := Lib.hid (hp4.keep hb5)
          have HQ5 := Lib.hid hq5
          have HX5 := Lib.hid ((HX.out.keep hb4).keep hb5)
          have HY5 := Lib.hid ((HY.out.keep hb4).keep hb5)
          clear hp4 hq5 hb4 hb5 HX HY
          go_wp2_with (at_builtin; refine wp_copy rfl _ _ rfl w5.heap.size (.slice (some ⟨w5.heap.size, 0, none⟩) 0 0) [] (by simp [Act.eval, Act.put]) (own_empty w5 (Nat.le_refl _)) (.slice a6 i c6) X (by simp [Act.eval, Act.put]) ?yh1 ?yh2 (by simp) ?_)
          case yh1 =>
            have h1 := runs_in HX5.out
            exact ⟨h1.1.keep ((Below.refl _ _).alloc (Nat.le_refl _) _), h1.2⟩
          case yh2 => have := HF.out.lx; simp; omega
          intro u w6 ho6 hg6
          have hb6 : Below w5.heap.size w5 w6 := ((Below.refl _ w5).alloc (Nat.le_refl _) _).grown hg6 (by simp) (fun k hk => by simp [Value.ownBlock] at hk; omega)
          have HO6 := Lib.hid ho6
          have HB6 := Lib.hid hb6
          clear hg6 ho6 hb6
          go_wp2_with (at_builtin; refine wp_copy rfl _ _ rfl w5.heap.size u X (by simp [Act.eval, Act.put]) HO6.out (.slice a8 j c8) Y (by simp [Act.eval, Act.put]) ?zh1 ?zh2 HB6.out.size ?_)
          case zh1 => exact runs_in (HY5.out.keep HB6.out)
          case zh2 => rw [HF.out.lx, HG.out.lx]; omega
          intro u' w7 ho7 hg7
          have hb7 : Below w5.heap.size w5 w7 := HB6.out.grown hg7 HB6.out.size (fun k hk => (World.ownsRow.lt HO6.out k hk).1)
          have hB7 := below_later hB5 hb7
          have HO7 := Lib.hid ho7
          have HP7 := Lib.hid (HP5.out.keep hb7)
          have HQ7 := Lib.hid (HQ5.out.keep hb7)
          clear hg7 ho7 hb7 HO6 HB6 HP5 HQ5
          go_wp2_with fail
          refine (HM3.out _ _ hB7 (runs_in HO7.out).1).mono ?_
          rintro e w8 ⟨⟨aA, cA, rfl, ha8⟩, hb8⟩
          have hB8 := below_later hB7 hb8
          have HA8 := Lib.hid ha8
          have HP8 := Lib.hid (HP7.out.keep hb8)
          have HQ8 := Lib.hid (HQ7.out.keep hb8)
          clear ha8 hb8 HP7 HQ7 HO7 HX5 HY5
          have HB8 := Lib.hid hB8
          have e1 : ((T : Int) != (p : Int) + (q : Int)) = false := by rw [← hT]; simp
          clear hB8 hB7 hB5 hB4
          go_wp2_with fail
          go_loopg [13] T (fun G s13 wz => ∃ k : Nat, k + G = T ∧ s13 = .int .i64 (k : Int) ∧ Hid (Below w8.heap.size w8 wz))
          case atStart => exact ⟨0, by omega, rfl, Lib.hid (Below.refl _ _)⟩
          case round =>
            obtain ⟨k, hkg, rfl, HBz⟩ := hrel
            cases gk with
            | zero =>
              have hlt : ¬ (k : Int) < (T : Int) := by omega
              go_wp2
              go_ret
              exact ⟨rfl, below_later HB8.out HBz.out⟩
            | succ G =>
              have hltk : (k : Int) < (T : Int) := by omega
              have hkk : (0 : Int) ≤ (k : Int) := by omega
              have hkT : k < (pairs X ++ (pairs Y).map (shiftP i)).length := by rw [List.length_append, List.length_map, HLP.out, HLQ.out]; omega
              obtain ⟨x, hx⟩ : ∃ x, (pairs X ++ (pairs Y).map (shiftP i))[k]? = some x := ⟨_, List.getElem?_eq_getElem hkT⟩
              obtain ⟨bA, oA, eA, hcA⟩ := HA8.out k x hx
              subst eA
              obtain ⟨A0, A1, A2⟩ := pair_cells (hcA.keep HBz.out)
              by_cases hkp : k < p
              · have hkpI : decide ((k : Int) < (p : Int)) = true := by simp; omega
                have hkpI2 : ¬ (p : Int) ≤ (k : Int) := by omega
                have hx' : (pairs X)[k]? = some x := by rw [List.getElem?_append_left (by rw [HLP.out]; exact hkp)] at hx; exact hx
                obtain ⟨bP, oP, eP, hcP⟩ := HP8.out k x hx'
                subst eP
                obtain ⟨P0, P1, P2⟩ := pair_cells (hcP.keep HBz.out)
                clear hx hx' hcA hcP hkT
                generalize x.1 = x1 at *
                generalize x.2.1 = x2 at *
                generalize x.2.2 = x3 at *
                go_wp2_with fail
                go_big_quiet (fail)
                go_wp2
                go_roundg G
                case rel => exact ⟨k + 1, by omega, by go_num, Lib.hid (below_drewN HBz.out nq)⟩
                case measure => omega
              · have hkpI : decide ((k : Int) < (p : Int)) = false := by simp; omega
                have hkpI2 : (p : Int) ≤ (k : Int) := by omega
                obtain ⟨m, hkm⟩ : ∃ m, k = p + m := ⟨k - p, by omega⟩
                have hmI : (k : Int) - (p : Int) = (m : Int) := by omega
                have hmq : (m : Int) < (q : Int) := by omega
                have hm0 : (0 : Int) ≤ (m : Int) := by omega
                have hkI4 : (k : Int) ≤ 5040 := by omega
                obtain ⟨y, hy⟩ : ∃ y, (pairs Y)[m]? = some y := ⟨_, List.getElem?_eq_getElem (by rw [HLQ.out]; omega)⟩
                have hxy : x = shiftP i y := by
                  rw [List.getElem?_append_right (by rw [HLP.out]; omega), HLP.out, show k - p = m by omega, List.getElem?_map, hy] at hx
                  exact (Option.some.inj hx).symm
                obtain ⟨bQ, oQ, eQ, hcQ⟩ := HQ8.out m y hy
                subst eQ
                have hbnd := (nests Y 0 (caps Y) [] ⟨fun a ha => (by cases ha), fun a ha => (by cases ha), fun a ha => (by cases ha)⟩).1 y (List.mem_of_getElem? hy)
                obtain ⟨y1, y2, y3⟩ := y
                subst hxy
                have hy1 : y1 < y2 := hbnd.1
                have hy2 : y2 < 40 := by
                  have h1 := hbnd.2.1
                  rw [HG.out.lx] at h1
                  exact Nat.lt_of_lt_of_le h1 hm40
                have HcA := Lib.hid hcA
                have HcQ := Lib.hid hcQ
                have hy1I : (y1 : Int) ≤ 40 := by omega
                have hy2I : (y2 : Int) ≤ 40 := by omega
                have hiI : (i : Int) ≤ 40 := by omega
                clear hx hy hcA hcQ hkT A0 A1 A2 hbnd hkm
                go_wp2_with fail
                go_big_quiet (fail)
                have HBy := Lib.hid (below_drewN HBz.out nq)
                generalize wr.drewN nq = wy at *
                obtain ⟨W2, hW2⟩ : ∃ W2, wy.alloc (.cells #[.int .i64 (y1 : Int), .int .i64 (y2 : Int), .int .i64 (y3 : Int)] 40) = W2 := ⟨_, rfl⟩
                have hBx : Below wy.heap.size wy W2 := by rw [← hW2]; exact (Below.refl _ _).alloc (Nat.le_refl _) _
                have z0 : W2.cell? ⟨wy.heap.size, 0, none⟩ = some (.int .i64 (y1 : Int)) := by rw [← hW2, World.cell?_alloc_new]; rfl
                have z1 : W2.cell? ⟨wy.heap.size, 1, none⟩ = some (.int .i64 (y2 : Int)) := by rw [← hW2, World.cell?_alloc_new]; rfl
                have z2 : W2.cell? ⟨wy.heap.size, 2, none⟩ = some (.int .i64 (y3 : Int)) := by rw [← hW2, World.cell?_alloc_new]; rfl
                obtain ⟨Q0, Q1, Q2⟩ := pair_cells (HcQ.out.keep HBy.out)
                obtain ⟨a0, a1, a2⟩ := pair_cells ((HcA.out.keep HBy.out).keep hBx)
                have A0 : W2.cell? ⟨bA, oA + k * 3, none⟩ = some (.int .i64 ((y1 : Int) + (i : Int))) := by rw [a0]; rfl
                have A1 : W2.cell? ⟨bA, oA + k * 3 + 1, none⟩ = some (.int .i64 ((y2 : Int) + (i : Int))) := by rw [a1]; rfl
                have A2 : W2.cell? ⟨bA, oA + k * 3 + 2, none⟩ = some (.int .i64 (y3 : Int)) := by rw [a2]; rfl
                have n0 : (((y1 : Int) + (i : Int)) != ((y1 : Int) + (i : Int))) = false := by simp
                have n1 : (((y2 : Int) + (i : Int)) != ((y2 : Int) + (i : Int))) = false := by simp
                have n2 : ((y3 : Int) != (y3 : Int)) = false := by simp
                have HW2 := Lib.hid hW2
                have HBn := Lib.hid (below_later HBy.out hBx)
                clear hW2 hBx a0 a1 a2
                go_wp2_with fail
                rw [HW2.out]
                go_big_quiet (fail)
                go_wp2
                go_roundg G
                case rel => exact ⟨k + 1, by omega, by go_num, Lib.hid (below_drewN HBn.out nq)⟩
                case measure => omega
        | succ G =>
          have hlt : (j : Int) < (M : Int) := by omega
          have hii : (0 : Int) ≤ (j : Int) := by omega
          have hiM : j < M := by omega
          obtain ⟨g8, rfl, hg8, hg8'⟩ := OwnR.first HY.out (by rw [HG.out.lx]; omega)
          have hya := rn_at (L := Y) (i := j) (by rw [HG.out.lx]; exact hiM)
          obtain ⟨z, hz, hzz⟩ := and63 (rn Y j).n
          have X1 := HX.out.other (a := ⟨g8, j * 4 + 0, none⟩) (.inr (fun e => by have := HLt.out _ e; simp at this; omega)) (.int .u8 95)
          have Y1 := HY.out.put HG.out.lx hya 0 (by decide) (.int .u8 95) { rn Y j with c := 95 } rfl
          have B1 := HBw.out.setCell (p := ⟨g8, j * 4 + 0, none⟩) (by show w.heap.size ≤ g8; omega) (.int .u8 95)
          have X2 := X1.other (a := ⟨g8, j * 4 + 1, none⟩) (.inr (fun e => by have := HLt.out _ e; simp at this; omega)) (.int .i64 (z : Int))
          have Y2 := Y1.put (x := { rn Y j with c := 95 }) (by rw [List.length_set]; exact HG.out.lx) (by rw [List.getElem?_set_self (by rw [HG.out.lx]; exact hiM)]) 1 (by decide) (.int .i64 (z : Int)) { rn Y j with c := 95, n := z } rfl
          have B2' := B1.setCell (p := ⟨g8, j * 4 + 1, none⟩) (by show w.heap.size ≤ g8; omega) (.int .i64 (z : Int))
          have F1 := Lib.hid (HG.out.next hiM hz)
          have f0 := World.ownsRow.frozenAt (by have h1 := HY.out; unfold OwnR OwnG at h1; rw [HG.out.lx] at h1; exact h1) (j * 4)
          have f1 := World.ownsRow.frozenAt (by have h1 := HY.out; unfold OwnR OwnG at h1; rw [HG.out.lx] at h1; exact h1) (j * 4 + 1)
          obtain ⟨k0, k1, _, _⟩ := HY.out.cellsAt hya
          rw [Nat.add_zero] at X2 Y2 B2'
          have HX2 := Lib.hid X2
          have HY2 := Lib.hid Y2
          have HB2 := Lib.hid B2'
          clear X1 X2 Y1 Y2 B1 B2' hya
          go_wp2
          go_roundg G
          case rel => exact ⟨j + 1, _, by omega, by go_num, F1, HX2, HY2, HB2⟩
          case measure => omega
    | succ G =>
      have hlt : (i : Int) < (N : Int) := by omega
      have hii : (0 : Int) ≤ (i : Int) := by omega
      have hiM : i < N := by omega
      obtain ⟨g6, rfl, hg6, hg6'⟩ := OwnR.first HX.out (by rw [HF.out.lx]; omega)
      have hya := rn_at (L := X) (i := i) (by rw [HF.out.lx]; exact hiM)
      obtain ⟨z, hz, hzz⟩ := and63 (rn X i).n
      have Y1 := HX.out.put HF.out.lx hya 0 (by decide) (.int .u8 42) { rn X i with c := 42 } rfl
      have B1 := HBw.out.setCell (p := ⟨g6, i * 4 + 0, none⟩) (by show w.heap.size ≤ g6; omega) (.int .u8 42)
      have Y2 := Y1.put (x := { rn X i with c := 42 }) (by rw [List.length_set]; exact HF.out.lx) (by rw [List.getElem?_set_self (by rw [HF.out.lx]; exact hiM)]) 1 (by decide) (.int .i64 (z : Int)) { rn X i with c := 42, n := z } rfl
      have B2' := B1.setCell (p := ⟨g6, i * 4 + 1, none⟩) (by show w.heap.size ≤ g6; omega) (.int .i64 (z : Int))
      have F1 := Lib.hid (HF.out.next hiM hz)
      have f0 := World.ownsRow.frozenAt (by have h1 := HX.out; unfold OwnR OwnG at h1; rw [HF.out.lx] at h1; exact h1) (i * 4)
      have f1 := World.ownsRow.frozenAt (by have h1 := HX.out; unfold OwnR OwnG at h1; rw [HF.out.lx] at h1; exact h1) (i * 4 + 1)
      obtain ⟨k0, k1, _, _⟩ := HX.out.cellsAt hya
      rw [Nat.add_zero] at Y2 B2'
      have HY2 := Lib.hid Y2
      have HB2 := Lib.hid B2'
      clear Y1 Y2 B1 B2' hya
      go_wp2
      go_roundg G
      case rel => exact ⟨i + 1, _, by omega, by go_num, F1, HY2, HB2⟩
      case measure => omega
end DelimApart
end Go.Proofs.YtbdcbeghiglfgaaDoor
