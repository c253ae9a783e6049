/- Layer 13: how rows of runs that come in read. -/
import Derived.Test.YtbdcbeghiglfgaaDoorDlAw
import Derived.Test.YtbdcbeghiglfgaaDoorKit
import Derived.ChangeArms
import Derived.ChangeSlices
import Derived.SizedLaws
namespace Go.Proofs.YtbdcbeghiglfgaaDoor
open Go Go.ChangeShapes Go.WideShapes Go.ChangeAt Go.ChangeMaps Go.RowKit
namespace Dl
set_option maxRecDepth 100000
set_option linter.unusedVariables false
set_option linter.unusedSimpArgs false

/-- A row that came in: where it is nil, it is the nil slice. -/
def RunsIn (w : World) (v : Value) (l : List Rn) : Prop := Runs w v l ∧ ∀ n c, v = .slice none n c → c = 0
section
variable {H : Type} {enc : TypeId × Value → H} {W : World} {sp : Nat → Bool} {hd : Bool}
theorem weightsAll_mem {P : Program} {e : TypeId} {y : Nat} : ∀ {l : List (DataW H)} {d : DataW H}, d ∈ l → y ∈ d.weights P e → y ∈ DataW.weightsAll P e l
  | a :: l, d, h, hy => by
    rw [DataW.weightsAll, List.mem_append]
    rcases List.mem_cons.1 h with rfl | h
    · exact .inl hy
    · exact .inr (weightsAll_mem h hy)
theorem cl1 {t : TypeId} (h : Tryd.prog.cellsOf t = 1) (cs : List Value) (i : Nat) {v : Value} (e : (cs.drop i).take (Tryd.prog.cellsOf t) = [v]) : cs[i]? = some v := by
  rw [h] at e
  have : ((cs.drop i).take 1)[0]? = some v := by rw [e]; rfl
  rw [List.getElem?_take_of_lt (by omega), List.getElem?_drop] at this
  exact this
theorem list4 {cs : List Value} {v0 v1 v2 v3 : Value} (hl : cs.length = 4) (h0 : cs[0]? = some v0) (h1 : cs[1]? = some v1) (h2 : cs[2]? = some v2) (h3 : cs[3]? = some v3) : cs = [v0, v1, v2, v3] := by
  match cs, hl with
  | [a, b, c, d], _ => simp at h0 h1 h2 h3; simp [*]
theorem c8 : Tryd.prog.cellsOf 5 = 1 := by kernel_rfl
theorem cI : Tryd.prog.cellsOf 3 = 1 := by kernel_rfl
theorem cB : Tryd.prog.cellsOf 4 = 1 := by kernel_rfl
theorem cRun : Tryd.prog.cellsOf 28 = 4 := by kernel_rfl
theorem u8_of {z : Int} (h : (Lit.int .u8 z).wf = true) : ∃ c : UInt8, (c.toNat : Int) = z := by
  simp [Lit.wf, IntKind.min, IntKind.max, IntKind.bits, IntKind.signed] at h
  exact ⟨UInt8.ofNat z.toNat, by rw [UInt8.toNat_ofNat']; omega⟩
theorem i64_of {z : Int} (h : (Lit.int .i64 z).wf = true) : -9223372036854775808 ≤ z ∧ z ≤ 9223372036854775807 := by
  simp [Lit.wf, IntKind.min, IntKind.max, IntKind.bits, IntKind.signed] at h
  omega
theorem parse_run (fuel : Nat) (cs : List Value) (x : DataW H × List MemPlace) (h : DataW.trod enc Tryd.prog W 0 sp hd fuel 28 cs = some x) : ∃ k : Rn, cs = runE k ∧ RnOk k := by
  obtain ⟨xs, n, rfl, rfl, hl, hlen, hf⟩ := DataW.trod_struct Tryd.underlying28 h
  match xs, hlen with
  | [y0, y1, y2, y3], _ =>
    obtain ⟨z0, e0, _, q0⟩ := DataW.trod_int Tryd.underlying5 (hf 0 _ rfl)
    obtain ⟨z1, e1, _, q1⟩ := DataW.trod_int Tryd.underlying3 (hf 1 _ rfl)
    obtain ⟨z2, e2, _⟩ := DataW.trod_bool Tryd.underlying4 (hf 2 _ rfl)
    obtain ⟨z3, e3, _⟩ := DataW.trod_bool Tryd.underlying4 (hf 3 _ rfl)
    obtain ⟨c, hc⟩ := u8_of q0
    refine ⟨⟨c, z1, z2, z3⟩, ?_, i64_of q1⟩
    unfold runE
    rw [hc]
    exact list4 (by rw [hl, cRun]) (cl1 c8 cs 0 e0) (cl1 cI cs 1 e1) (cl1 cB cs 2 e2) (cl1 cB cs 3 e3)
/-- A slice of structs that comes in, with what it weighs. -/
theorem open_rows {α : Type} {t e : TypeId} (ht : Tryd.prog.underlying t = some (.slice e)) {c : Nat} (hc : Tryd.prog.cellsOf e = c) (hcp : 0 < c) (en : α → List Value) (hen : ∀ a, (en a).length = c) (good : α → Prop)
    (parse : ∀ fuel cs x, DataW.trod enc Tryd.prog W 0 sp hd fuel e cs = some x → ∃ a, cs = en a ∧ good a) {v : Value} {d : DataW H} {ps : List MemPlace} {r : Reach} {b0 : Nat} (hval : Value.okWide Tryd.prog W r b0 t v)
    (h : DataW.Trod enc Tryd.prog W 0 sp hd t v d ps) : ∃ l : List α, (∀ x ∈ l, good x) ∧ ∃ a cap, v = .slice a l.length cap ∧ l.length ≤ maxLen ∧ (a = none → cap = 0) ∧
      (l = [] ∨ ∃ b off, a = some ⟨b, off, none⟩ ∧ ∀ (i : Nat) (x : α), l[i]? = some x → ∀ j u, (en x)[j]? = some u → W.cell? ⟨b, off + i * c + j, none⟩ = some u) := by
  obtain ⟨a0, len0, cap0, rfl⟩ := okWide_slice ht hval
  obtain ⟨fuel, hf⟩ := h
  rcases DataW.trod_slice ht hf with ⟨e6, r6⟩ | ⟨a, len, cap, elems, rest, n2, hn2, e6, r6, hb, hle, hcm, hlen2, hel, _, _⟩
  · simp [Value.cells] at e6
    obtain ⟨rfl, rfl, rfl⟩ := e6
    exact ⟨[], (fun x hx => by cases hx), none, 0, rfl, Nat.zero_le _, (fun _ => rfl), .inl rfl⟩
  · simp [Value.cells] at e6
    obtain ⟨rfl, rfl, rfl⟩ := e6
    have elem : ∀ i, i < len0 → ∃ x : α, good x ∧ ∀ j u, (en x)[j]? = some u → W.cell? ((a.add (i * c)).add j) = some u := by
      intro i hi
      have h1 := hel i hi
      rw [hc, List.getElem?_eq_getElem (by omega : i < elems.length), Option.bind_eq_some_iff] at h1
      obtain ⟨cs', h2, h3⟩ := h1
      obtain ⟨x, rfl, hg⟩ := parse _ _ _ h3
      refine ⟨x, hg, fun j u hj => ?_⟩
      have hjc : j < c := by
        have := (List.getElem?_eq_some_iff.1 hj).1
        rwa [hen] at this
      unfold World.cells? at h2
      rw [if_pos (Nat.zero_le _)] at h2
      rw [mapM_some_get h2 j j (by simp [hjc]), ← hj]
    rcases Nat.eq_zero_or_pos len0 with h0 | hpos
    · subst h0
      exact ⟨[], (fun x hx => by cases hx), some a, cap0, rfl, Nat.zero_le _, (fun h => by cases h), .inl rfl⟩
    obtain ⟨b, off, spot⟩ := a
    have first : ∀ x : α, ∃ u, (en x)[0]? = some u := fun x => ⟨_, List.getElem?_eq_getElem (by rw [hen]; exact hcp)⟩
    have hspot : spot = none := by
      obtain ⟨x, _, hx⟩ := elem 0 hpos
      obtain ⟨u, hu⟩ := first x
      have := hx 0 _ hu
      simpa [Addr.add] using World.cell?_spot this
    subst hspot
    have key : ∀ j i, i + j = len0 → ∃ l : List α, l.length = j ∧ (∀ x ∈ l, good x) ∧ ∀ (k : Nat) x, l[k]? = some x → ∀ j u, (en x)[j]? = some u → W.cell? ⟨b, off + (i + k) * c + j, none⟩ = some u := by
      intro j
      induction j with
      | zero => intro i _; exact ⟨[], rfl, (fun x hx => by cases hx), fun k x h => by simp at h⟩
      | succ j ihj =>
        intro i hi
        obtain ⟨l, k1, k3, k2⟩ := ihj (i + 1) (by omega)
        obtain ⟨x, hs, hx⟩ := elem i (by omega)
        simp only [add_off] at hx
        refine ⟨x :: l, by simp [k1], ?_, fun k y hy => ?_⟩
        · intro y hy
          rcases List.mem_cons.1 hy with rfl | hy
          · exact hs
          · exact k3 y hy
        · cases k with
          | zero => simp at hy; subst hy; exact hx
          | succ k =>
            have := k2 k y (by simpa using hy)
            rw [show i + (k + 1) = i + 1 + k by omega]; exact this
    obtain ⟨l, k1, k3, k2⟩ := key len0 0 (by omega)
    subst k1
    refine ⟨l, k3, some ⟨b, off, none⟩, cap0, rfl, by omega, (fun h => by cases h), .inr ⟨b, off, rfl, fun i x hx j u hu => ?_⟩⟩
    have := k2 i x hx j u hu
    rwa [Nat.zero_add] at this
theorem open_runs {v : Value} {d : DataW H} {ps : List MemPlace} {r : Reach} {b0 : Nat} (hval : Value.okWide Tryd.prog W r b0 26 v)
    (h : DataW.Trod enc Tryd.prog W 0 sp hd 26 v d ps) : ∃ l : List Rn, RunsIn W v l ∧ ∀ x ∈ l, RnOk x := by
  obtain ⟨l, h1, a, cap, h2, h3, h5, h4⟩ := open_rows (α := Rn) Tryd.underlying26 cRun (by decide) runE runE_len RnOk parse_run hval h
  exact ⟨l, ⟨⟨a, cap, h2, h3, h4⟩, fun n c e => by rw [h2] at e; injection e with e1 e2 e3; rw [← e3]; exact h5 e1⟩, h1⟩
end
end Dl
end Go.Proofs.YtbdcbeghiglfgaaDoor
