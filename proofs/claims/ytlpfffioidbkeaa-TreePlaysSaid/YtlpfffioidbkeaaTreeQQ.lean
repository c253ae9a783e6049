/- Layer 6: steps that come in. -/
import Derived.Test.YtlpfffioidbkeaaTreePP
import Derived.Test.YtlpfffioidbkeaaTreeCC
namespace Go.Proofs.Ytlpfffioidbkeaa
open Go Go.ChangeShapes Go.WideShapes Go.ChangeAt Go.RowKit
namespace Tr
set_option maxRecDepth 100000
set_option linter.unusedVariables false
set_option linter.unusedSimpArgs false

/-- A step: what, of whom, to whom, and a node. -/
structure Opr where
  what : Int
  a : Int
  b : Int
  o : Own
/-- How a step lies. -/
def OpAt (w : World) (b off : Nat) (x : Opr) : Prop := w.cell? ⟨b, off, none⟩ = some (.int .i64 x.what) ∧ w.cell? ⟨b, off + 1, none⟩ = some (.int .i64 x.a) ∧ w.cell? ⟨b, off + 2, none⟩ = some (.int .i64 x.b) ∧ ∃ la ln lc, CellsAt w b (off + 3) x.o (.slice la ln lc)
def Ops (w : World) (B : Nat) (v : Value) (l : List Opr) : Prop :=
  ∃ a cap, v = .slice a l.length cap ∧ l.length ≤ maxLen ∧ (∀ x ∈ l, x.o.s.size ≤ 140737488355328 ∧ x.o.t.size ≤ 140737488355328) ∧ (l = [] ∨ ∃ b off, a = some ⟨b, off, none⟩ ∧ b < B ∧ ∀ i x, l[i]? = some x → OpAt w b (off + i * 10) x)
theorem In.is_slice {w : World} {Q : Nat → Prop} {T : Tree} {L : Value} (h : In w Q T L) : ∃ a n c, L = .slice a n c := by
  cases T with
  | mk o ts => rw [In] at h; obtain ⟨a, c, e, _⟩ := h; exact ⟨_, _, _, e⟩
theorem open_ops {H : Type} {enc : TypeId × Value → H} {W : World} {v : Value} {d : DataW H} {ps : List MemPlace} {r : Reach} {b0 : Nat} (hval : Value.okWide Try.prog W r b0 25 v)
    (h : DataW.Trod enc Try.prog W 0 (fun _ => true) true 25 v d ps) (hw : ∀ y ∈ d.weights Try.prog 25, y ≤ reachBytes) : ∃ l, Ops W W.heap.size v l := by
  obtain ⟨a0, len0, cap0, rfl⟩ := okWide_slice Try.underlying25 hval
  obtain ⟨fuel, hf⟩ := h
  have c10 : Try.prog.cellsOf 32 = 10 := by kernel_rfl
  have cN : Try.prog.cellsOf 24 = 7 := by kernel_rfl
  have ci : Try.prog.cellsOf 3 = 1 := by kernel_rfl
  rcases DataW.trod_slice Try.underlying25 hf with ⟨e6, r6⟩ | ⟨a, len, cap, elems, rest, n2, hn2, e6, r6, hb, hle, hcm, hlen2, hel, _, _⟩
  · simp [Value.cells] at e6
    obtain ⟨rfl, rfl, rfl⟩ := e6
    exact ⟨[], none, 0, rfl, by decide, (fun x hx => by cases hx), .inl rfl⟩
  · simp [Value.cells] at e6
    obtain ⟨rfl, rfl, rfl⟩ := e6
    have hwe : ∀ (i : Nat) (d : DataW H × List MemPlace), elems[i]? = some d → ∀ y ∈ d.1.weights Try.prog 32, y ≤ reachBytes := by
      intro i d hd y hy
      refine hw y ?_
      have r7 := congrArg Prod.fst r6
      dsimp only at r7
      rw [r7]
      simp only [DataW.weights, Try.underlying25, List.mem_cons, List.mem_append]
      exact .inr (.inl (weightsAll_mem (List.mem_map.2 ⟨d, List.mem_of_getElem? hd, rfl⟩) hy))
    have elem : ∀ i, i < len0 → ∃ x : Opr, (x.o.s.size ≤ 140737488355328 ∧ x.o.t.size ≤ 140737488355328) ∧ ∃ la ln lc, ∀ j u, (.int .i64 x.what :: .int .i64 x.a :: .int .i64 x.b :: (nodeC x.o (.slice la ln lc)).toList)[j]? = some u → W.cell? ((a.add (i * 10)).add j) = some u := by
      intro i hi
      have h1 := hel i hi
      rw [c10, List.getElem?_eq_getElem (by omega : i < elems.length), Option.bind_eq_some_iff] at h1
      obtain ⟨cs', h2, h3⟩ := h1
      have hwi := hwe i _ (List.getElem?_eq_getElem (by omega))
      generalize elems[i] = ei at h3 hwi
      obtain ⟨xs, m, rfl, rfl, hcl, hl, hxs⟩ := DataW.trod_struct Try.underlying32 h3
      match xs, hl with
      | [y0, y1, y2, y3], _ =>
        obtain ⟨k0, e0, _, _⟩ := DataW.trod_int Try.underlying3 (hxs 0 _ rfl)
        obtain ⟨k1, e1, _, _⟩ := DataW.trod_int Try.underlying3 (hxs 1 _ rfl)
        obtain ⟨k2, e2, _, _⟩ := DataW.trod_int Try.underlying3 (hxs 2 _ rfl)
        simp only [DataW.weights, Try.underlying32, List.map_cons, List.map_nil, DataW.weightsEach, List.append_nil, List.mem_append] at hwi
        obtain ⟨T, L, eN, iN, sN⟩ := open_nodeF _ _ _ (hxs 3 _ rfl) (fun y hy => hwi y (.inr (.inr (.inr hy))))
        obtain ⟨la, ln, lc, rfl⟩ := iN.is_slice
        have q0 := Tr.c1 ci cs' 0 e0
        have q1 := Tr.c1 ci cs' 1 e1
        have q2 := Tr.c1 ci cs' 2 e2
        have eN' : (cs'.drop 3).take (Try.prog.cellsOf 24) = (nodeC T.own (.slice la ln lc)).toList := eN
        have q3 : ∀ j, j < 7 → cs'[3 + j]? = (nodeC T.own (.slice la ln lc)).toList[j]? := fun j hj => by
          rw [← eN', cN, List.getElem?_take_of_lt (by omega), List.getElem?_drop]
        refine ⟨⟨k0, k1, k2, T.own⟩, ?_, la, ln, lc, fun j u hj => ?_⟩
        · cases T with
          | mk o ts => rw [Sz] at sN; exact ⟨sN.1, sN.2.1⟩
        · have hj10 : j < 10 := by
            have := (List.getElem?_eq_some_iff.1 hj).1
            simpa [nodeC] using this
          unfold World.cells? at h2
          rw [if_pos (Nat.zero_le _)] at h2
          rw [mapM_some_get h2 j j (by simp [hj10]), ← hj]
          match j, hj10 with
          | 0, _ => exact q0
          | 1, _ => exact q1
          | 2, _ => exact q2
          | j + 3, hj => rw [show j + 3 = 3 + j by omega, q3 j (by omega), show 3 + j = j + 3 by omega]; rfl
    rcases Nat.eq_zero_or_pos len0 with h0 | hpos
    · subst h0
      exact ⟨[], some a, cap0, rfl, by decide, (fun x hx => by cases hx), .inl rfl⟩
    obtain ⟨b, off, spot⟩ := a
    have hspot : spot = none := by
      obtain ⟨x, _, la, ln, lc, hx⟩ := elem 0 hpos
      have := hx 0 _ rfl
      simpa [Addr.add] using World.cell?_spot this
    subst hspot
    have hbl : b < W.heap.size := by
      obtain ⟨x, _, la, ln, lc, hx⟩ := elem 0 hpos
      have := hx 0 _ rfl
      simp only [add_off] at this
      exact World.block_lt_of_cell? W _ this
    have key : ∀ j i, i + j = len0 → ∃ l : List Opr, l.length = j ∧ (∀ x ∈ l, x.o.s.size ≤ 140737488355328 ∧ x.o.t.size ≤ 140737488355328) ∧ ∀ k x, l[k]? = some x → OpAt W b (off + (i + k) * 10) x := by
      intro j
      induction j with
      | zero => intro i _; exact ⟨[], rfl, (fun x hx => by cases hx), fun k x h => by simp at h⟩
      | succ j ihj =>
        intro i hi
        obtain ⟨l, k1, k3, k2⟩ := ihj (i + 1) (by omega)
        obtain ⟨x, hs, la, ln, lc, hx⟩ := elem i (by omega)
        simp only [add_off] at hx
        refine ⟨x :: l, by simp [k1], ?_, fun k y hy => ?_⟩
        · intro y hy
          rcases List.mem_cons.1 hy with rfl | hy
          · exact hs
          · exact k3 y hy
        · cases k with
          | zero =>
            simp at hy; subst hy
            exact ⟨hx 0 _ rfl, hx 1 _ rfl, hx 2 _ rfl, la, ln, lc, ⟨hx 3 _ rfl, hx 4 _ rfl, hx 5 _ rfl, hx 6 _ rfl, hx 7 _ rfl, hx 8 _ rfl, hx 9 _ rfl⟩⟩
          | succ k =>
            have := k2 k y (by simpa using hy)
            rw [show i + (k + 1) = i + 1 + k by omega]; exact this
    obtain ⟨l, k1, k3, k2⟩ := key len0 0 (by omega)
    subst k1
    refine ⟨l, some ⟨b, off, none⟩, cap0, rfl, by omega, k3, .inr ⟨b, off, rfl, hbl, fun i x hx => ?_⟩⟩
    have := k2 i x hx
    rwa [Nat.zero_add] at this
end Tr
end Go.Proofs.Ytlpfffioidbkeaa
