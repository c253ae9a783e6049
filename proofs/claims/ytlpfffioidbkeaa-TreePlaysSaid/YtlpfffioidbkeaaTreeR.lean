/- Layer 6: how a node that comes in reads. -/
import Derived.Test.YtlpfffioidbkeaaTreeQ
import Derived.Test.YtlpfffioidbkeaaTreeF
import Derived.Test.YtlpfffioidbkeaaKit
import Derived.ChangeArms
import Derived.SizedLaws
namespace Go.Proofs.Ytlpfffioidbkeaa
open Go Go.ChangeShapes Go.WideShapes Go.ChangeAt Go.RowKit
namespace Tr
set_option maxRecDepth 100000
set_option linter.unusedVariables false
set_option linter.unusedSimpArgs false

section
variable {H : Type} {enc : TypeId × Value → H} {W : World} {sp : Nat → Bool} {hd : Bool}
theorem weightsAll_mem {P : Program} {e : TypeId} {y : Nat} : ∀ {l : List (DataW H)} {d : DataW H}, d ∈ l → y ∈ d.weights P e → y ∈ DataW.weightsAll P e l
  | a :: l, d, h, hy => by
    rw [DataW.weightsAll, List.mem_append]
    rcases List.mem_cons.1 h with rfl | h
    · exact .inl hy
    · exact .inr (weightsAll_mem h hy)
theorem c1 {t : TypeId} (h : Try.prog.cellsOf t = 1) (cs : List Value) (i : Nat) {v : Value} (e : (cs.drop i).take (Try.prog.cellsOf t) = [v]) : cs[i]? = some v := by
  rw [h] at e
  have : ((cs.drop i).take 1)[0]? = some v := by rw [e]; rfl
  rw [List.getElem?_take_of_lt (by omega), List.getElem?_drop] at this
  exact this
theorem list7 {cs : List Value} {v0 v1 v2 v3 v4 v5 v6 : Value} (hl : cs.length = 7) (h0 : cs[0]? = some v0) (h1 : cs[1]? = some v1) (h2 : cs[2]? = some v2) (h3 : cs[3]? = some v3) (h4 : cs[4]? = some v4) (h5 : cs[5]? = some v5) (h6 : cs[6]? = some v6) : cs = [v0, v1, v2, v3, v4, v5, v6] := by
  match cs, hl with
  | [a, b, c, d, e, f, g], _ => simp at h0 h1 h2 h3 h4 h5 h6; simp [*]

theorem open_nodeF (fuel : Nat) : ∀ (cs : List Value) (x : DataW H × List MemPlace), DataW.trod enc Try.prog W 0 sp hd fuel 24 cs = some x → (∀ y ∈ x.1.weights Try.prog 24, y ≤ reachBytes) →
    ∃ T L, cs = (nodeC T.own L).toList ∧ In W (fun b => b < W.heap.size) T L ∧ Sz T := by
  induction fuel using Nat.strongRecOn with
  | ind fuel ih =>
    intro cs x h hw
    obtain ⟨xs, n, rfl, rfl, hl, hlen, hf⟩ := DataW.trod_struct Try.underlying24 h
    match xs, hlen with
    | [y0, y1, y2, y3, y4, y5, y6], _ =>
      have cN : Try.prog.cellsOf 24 = 7 := by kernel_rfl
      have ci : Try.prog.cellsOf 3 = 1 := by kernel_rfl
      have cst : Try.prog.cellsOf 9 = 1 := by kernel_rfl
      have cb : Try.prog.cellsOf 4 = 1 := by kernel_rfl
      have cl : Try.prog.cellsOf 22 = 1 := by kernel_rfl
      obtain ⟨k0, e0, r0, _⟩ := DataW.trod_int Try.underlying3 (hf 0 _ rfl)
      obtain ⟨s1, e1, r1, _⟩ := DataW.trod_string Try.underlying9 (hf 1 _ rfl)
      obtain ⟨s2, e2, r2, _⟩ := DataW.trod_string Try.underlying9 (hf 2 _ rfl)
      obtain ⟨k3, e3, r3, _⟩ := DataW.trod_int Try.underlying3 (hf 3 _ rfl)
      obtain ⟨k4, e4, r4, _⟩ := DataW.trod_int Try.underlying3 (hf 4 _ rfl)
      obtain ⟨b5, e5, r5⟩ := DataW.trod_bool Try.underlying4 (hf 5 _ rfl)
      have q0 := c1 ci cs 0 e0
      have q1 := c1 cst cs 1 e1
      have q2 := c1 cst cs 2 e2
      have q3 := c1 ci cs 3 e3
      have q4 := c1 ci cs 4 e4
      have q5 := c1 cb cs 5 e5
      simp only [DataW.weights, Try.underlying24, List.map_cons, List.map_nil, DataW.weightsEach, List.append_nil, List.mem_append] at hw
      have hs1 : s1.size ≤ 140737488355328 := by
        have := hw s1.data.toList.length (.inr (.inl (by rw [r1]; simp [DataW.weights])))
        unfold reachBytes at this
        rw [Array.length_toList] at this
        have e : s1.data.size = s1.size := rfl
        omega
      have hs2 : s2.size ≤ 140737488355328 := by
        have := hw s2.data.toList.length (.inr (.inr (.inl (by rw [r2]; simp [DataW.weights]))))
        unfold reachBytes at this
        rw [Array.length_toList] at this
        have e : s2.data.size = s2.size := rfl
        omega
      have done : ∀ (L : Value) (kids : List Tree), cs[6]? = some L → (∀ o, In W (fun b => b < W.heap.size) (.mk o kids) L) → SzL kids → ∃ T L, cs = (nodeC T.own L).toList ∧ In W (fun b => b < W.heap.size) T L ∧ Sz T := by
        intro L kids q6 hin hz
        refine ⟨.mk ⟨k0, s1, s2, k3, k4, b5⟩ kids, L, ?_, hin _, ?_⟩
        · exact list7 (by rw [hl, cN]) q0 q1 q2 q3 q4 q5 q6
        · rw [Sz]; exact ⟨hs1, hs2, hz⟩
      rcases DataW.trod_slice Try.underlying22 (hf 6 _ rfl) with ⟨e6, r6⟩ | ⟨a, len, cap, elems, rest, n2, hn2, e6, r6, hb, hle, hcm, hlen2, hel, _, _⟩
      · exact done _ [] (c1 cl cs 6 e6) (fun o => by rw [In]; exact ⟨none, 0, rfl, Nat.le_refl _, by decide, .inl rfl⟩) (by rw [SzL]; trivial)
      · have hwe : ∀ (i : Nat) (d : DataW H × List MemPlace), elems[i]? = some d → ∀ y ∈ d.1.weights Try.prog 24, y ≤ reachBytes := by
          intro i d hd y hy
          refine hw y (.inr (.inr (.inr (.inr (.inr (.inr ?_))))))
          rw [r6]
          simp only [DataW.weights, Try.underlying22, List.mem_cons, List.mem_append]
          exact .inr (.inl (weightsAll_mem (List.mem_map.2 ⟨d, List.mem_of_getElem? hd, rfl⟩) hy))
        have elem : ∀ i, i < len → ∃ T L, Sz T ∧ In W (fun b => b < W.heap.size) T L ∧ ∀ j v, (nodeC T.own L).toList[j]? = some v → W.cell? ((a.add (i * 7)).add j) = some v := by
          intro i hi
          have h1 := hel i hi
          rw [cN, List.getElem?_eq_getElem (by omega : i < elems.length), Option.bind_eq_some_iff] at h1
          obtain ⟨cs', h2, h3⟩ := h1
          obtain ⟨T, L, rfl, g2, g3⟩ := ih n2 (by omega) cs' _ h3 (hwe i _ (List.getElem?_eq_getElem (by omega)))
          refine ⟨T, L, g3, g2, fun j v hj => ?_⟩
          unfold World.cells? at h2
          rw [if_pos (Nat.zero_le _)] at h2
          have hj7 : j < 7 := by
            have := (List.getElem?_eq_some_iff.1 hj).1
            simpa [nodeC] using this
          have := mapM_some_get h2 j j (by simp [hj7])
          rw [this]
          exact hj
        rcases Nat.eq_zero_or_pos len with h0 | hpos
        · subst h0
          exact done _ [] (c1 cl cs 6 e6) (fun o => by rw [In]; exact ⟨_, cap, rfl, Nat.zero_le _, hcm, .inl rfl⟩) (by rw [SzL]; trivial)
        obtain ⟨b, off, spot⟩ := a
        have hspot : spot = none := by
          obtain ⟨T, L, _, _, hc⟩ := elem 0 hpos
          have := hc 0 _ rfl
          simpa [Addr.add] using World.cell?_spot this
        subst hspot
        have hbl : b < W.heap.size := by
          obtain ⟨T, L, _, _, hc⟩ := elem 0 hpos
          have := hc 0 _ rfl
          simp only [add_off] at this
          exact World.block_lt_of_cell? W _ this
        have key : ∀ j i, i + j = len → ∃ kids : List Tree, kids.length = j ∧ SzL kids ∧ InL W (fun b => b < W.heap.size) kids b (off + i * 7) := by
          intro j
          induction j with
          | zero => intro i _; exact ⟨[], rfl, by rw [SzL]; trivial, by rw [InL]; trivial⟩
          | succ j ihj =>
            intro i hi
            obtain ⟨kids, k1, k2, k3⟩ := ihj (i + 1) (by omega)
            obtain ⟨T, L, g1, g2, g3⟩ := elem i (by omega)
            simp only [add_off] at g3
            refine ⟨T :: kids, by simp [k1], by rw [SzL]; exact ⟨g1, k2⟩, ?_⟩
            rw [InL]
            refine ⟨⟨L, ⟨g3 0 _ rfl, g3 1 _ rfl, g3 2 _ rfl, g3 3 _ rfl, g3 4 _ rfl, g3 5 _ rfl, g3 6 _ rfl⟩, g2⟩, ?_⟩
            rw [show off + i * 7 + 7 = off + (i + 1) * 7 by omega]
            exact k3
        obtain ⟨kids, k1, k2, k3⟩ := key len 0 (by omega)
        rw [Nat.zero_mul, Nat.add_zero] at k3
        subst k1
        exact done _ kids (c1 cl cs 6 e6) (fun o => by rw [In]; exact ⟨_, cap, rfl, hle, hcm, .inr ⟨b, off, rfl, hbl, k3⟩⟩) k2
end
/-- A node that comes in. -/
theorem open_node {H : Type} {enc : TypeId × Value → H} {W : World} {v : Value} {d : DataW H} {ps : List MemPlace} {r : Reach} {b0 : Nat} (hval : Value.okWide Try.prog W r b0 24 v)
    (h : DataW.Trod enc Try.prog W 0 (fun _ => true) true 24 v d ps) (hw : ∀ y ∈ d.weights Try.prog 24, y ≤ reachBytes) :
    ∃ T L, v = nodeV T.own L ∧ In W (fun b => b < W.heap.size) T L ∧ Sz T := by
  obtain ⟨fuel, hf⟩ := h
  obtain ⟨T, L, h1, h2, h3⟩ := open_nodeF fuel _ _ hf hw
  refine ⟨T, L, ?_, h2, h3⟩
  obtain ⟨cs, rfl, _⟩ := okWide_struct Try.underlying24 hval
  have e : cs.toList = (nodeC T.own L).toList := h1
  have e2 : cs = nodeC T.own L := by
    have := congrArg List.toArray e
    simpa using this
  rw [e2]; rfl
end Tr
end Go.Proofs.Ytlpfffioidbkeaa
