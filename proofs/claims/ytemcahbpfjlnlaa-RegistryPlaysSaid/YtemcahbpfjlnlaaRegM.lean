/- Layer 7: how hooks, numbers and steps that come in read; n & m. -/
import Derived.Test.YtemcahbpfjlnlaaRegL
import Derived.Test.YtemcahbpfjlnlaaKit
import Derived.Laws.BitsAllLaws
import Derived.ChangeArms
import Derived.ChangeSlices
namespace Go.Proofs.Ytemcahbpfjlnlaa
open Go Go.ChangeShapes Go.WideShapes Go.ChangeAt Go.RowKit
namespace Rg
set_option maxRecDepth 100000
set_option linter.unusedVariables false
set_option linter.unusedSimpArgs false

theorem ofInt_i64 (a : Nat) (ha : a < 9223372036854775808) : (BitVec.ofInt 64 (a : Int)).toNat = a := by
  rw [BitVec.ofInt_natCast, BitVec.toNat_ofNat]; exact Nat.mod_eq_of_lt (by omega)
/-- n & m, for a small m. -/
def msk (n : Int) (m : Nat) : Nat := ((BitVec.ofInt 64 n) &&& (BitVec.ofInt 64 (m : Int))).toNat
theorem msk_le (n : Int) (m : Nat) (hm : m < 9223372036854775808) : msk n m ≤ m := by
  unfold msk
  rw [BitVec.toNat_and, ofInt_i64 m hm]; exact Nat.and_le_right
theorem bits_and (n : Int) (m : Nat) (hm : m < 9223372036854775808) : bits .and .i64 n (m : Int) = (msk n m : Nat) := by
  have h := msk_le n m hm
  show IntKind.i64.wrap (((BitVec.ofInt 64 n) &&& (BitVec.ofInt 64 (m : Int))).toNat : Int) = _
  rw [IntKind.wrap_i64]
  unfold msk at *
  omega

/-- What is known of a hook that comes in. -/
def HkIn (h : Hk) : Prop := wfI h.ph ∧ wfI h.pri ∧ wfI h.bit ∧ h.name.size ≤ maxLen ∧ h.trig.size ≤ maxLen
theorem HkIn.ok {h : Hk} (hi : HkIn h) (h1 : h.name.size ≤ 300) (h2 : h.trig.size ≤ 300) : HkOk h := hkok_small h1 h2 hi.1

section
variable {H : Type} {enc : TypeId × Value → H} {W : World} {sp : Nat → Bool} {hd : Bool}
theorem cl1 {t : TypeId} (h : Try.prog.cellsOf t = 1) (cs : List Value) (i : Nat) {v : Value} (e : (cs.drop i).take (Try.prog.cellsOf t) = [v]) : cs[i]? = some v := by
  rw [h] at e
  have : ((cs.drop i).take 1)[0]? = some v := by rw [e]; rfl
  rw [List.getElem?_take_of_lt (by omega), List.getElem?_drop] at this
  exact this
theorem list5 {cs : List Value} {v0 v1 v2 v3 v4 : Value} (hl : cs.length = 5) (h0 : cs[0]? = some v0) (h1 : cs[1]? = some v1) (h2 : cs[2]? = some v2) (h3 : cs[3]? = some v3) (h4 : cs[4]? = some v4) : cs = [v0, v1, v2, v3, v4] := by
  match cs, hl with
  | [a, b, c, d, e], _ => simp at h0 h1 h2 h3 h4; simp [*]
theorem ci : Try.prog.cellsOf 3 = 1 := by kernel_rfl
theorem cst : Try.prog.cellsOf 9 = 1 := by kernel_rfl
theorem cu8 : Try.prog.cellsOf 5 = 1 := by kernel_rfl
theorem cHk : Try.prog.cellsOf 29 = 5 := by kernel_rfl
theorem cOp : Try.prog.cellsOf 31 = 8 := by kernel_rfl
theorem parse_hook (fuel : Nat) (cs : List Value) (x : DataW H × List MemPlace) (h : DataW.trod enc Try.prog W 0 sp hd fuel 29 cs = some x) : ∃ k : Hk, cs = (hookC k).toList ∧ HkIn k := by
  obtain ⟨xs, n, rfl, rfl, hl, hlen, hf⟩ := DataW.trod_struct Try.underlying29 h
  match xs, hlen with
  | [y0, y1, y2, y3, y4], _ =>
    obtain ⟨s0, e0, _, z0⟩ := DataW.trod_string Try.underlying9 (hf 0 _ rfl)
    obtain ⟨k1, e1, _, z1⟩ := DataW.trod_int Try.underlying3 (hf 1 _ rfl)
    obtain ⟨k2, e2, _, z2⟩ := DataW.trod_int Try.underlying3 (hf 2 _ rfl)
    obtain ⟨s3, e3, _, z3⟩ := DataW.trod_string Try.underlying9 (hf 3 _ rfl)
    obtain ⟨k4, e4, _, z4⟩ := DataW.trod_int Try.underlying3 (hf 4 _ rfl)
    refine ⟨⟨s0, k1, k2, s3, k4⟩, list5 (by rw [hl, cHk]) (cl1 cst cs 0 e0) (cl1 ci cs 1 e1) (cl1 ci cs 2 e2) (cl1 cst cs 3 e3) (cl1 ci cs 4 e4), z1, z2, z4, z0, z3⟩

/-- A slice of structs that comes in. -/
theorem open_rows {α : Type} {t e : TypeId} (ht : Try.prog.underlying t = some (.slice e)) {c : Nat} (hc : Try.prog.cellsOf e = c) (hcp : 0 < c) (en : α → List Value) (hen : ∀ a, (en a).length = c) (good : α → Prop)
    (parse : ∀ fuel cs x, DataW.trod enc Try.prog W 0 sp hd fuel e cs = some x → ∃ a, cs = en a ∧ good a) {v : Value} {d : DataW H} {ps : List MemPlace} {r : Reach} {b0 : Nat} (hval : Value.okWide Try.prog W r b0 t v)
    (h : DataW.Trod enc Try.prog W 0 sp hd t v d ps) : ∃ l : List α, (∀ x ∈ l, good x) ∧ ∃ a cap, v = .slice a l.length cap ∧ l.length ≤ maxLen ∧
      (l = [] ∨ ∃ b off, a = some ⟨b, off, none⟩ ∧ ∀ (i : Nat) (x : α), l[i]? = some x → ∀ j u, (en x)[j]? = some u → W.cell? ⟨b, off + i * c + j, none⟩ = some u) := by
  obtain ⟨a0, len0, cap0, rfl⟩ := okWide_slice ht hval
  obtain ⟨fuel, hf⟩ := h
  rcases DataW.trod_slice ht hf with ⟨e6, r6⟩ | ⟨a, len, cap, elems, rest, n2, hn2, e6, r6, hb, hle, hcm, hlen2, hel, _, _⟩
  · simp [Value.cells] at e6
    obtain ⟨rfl, rfl, rfl⟩ := e6
    exact ⟨[], (fun x hx => by cases hx), none, 0, rfl, Nat.zero_le _, .inl rfl⟩
  · simp [Value.cells] at e6
    obtain ⟨rfl, rfl, rfl⟩ := e6
    have elem : ∀ i, i < len0 → ∃ x : α, good x ∧ ∀ j u, (en x)[j]? = some u → W.cell? ((a.add (i * c)).add j) = some u := by
      intro i hi
      have h1 := hel i hi
      rw [hc, List.getElem?_eq_getElem (by omega : i < elems.length), Option.bind_eq_some_iff] at h1
      obtain ⟨cs', h2, h3⟩ := h1
      obtain ⟨x, rfl, hg⟩ := parse _ _ _ h3
      refine ⟨x, hg, fun j u hj => ?_⟩
      have hjc : j < c := by
        have := (List.getElem?_eq_some_iff.1 hj).1
        rwa [hen] at this
      unfold World.cells? at h2
      rw [if_pos (Nat.zero_le _)] at h2
      rw [mapM_some_get h2 j j (by simp [hjc]), ← hj]
    rcases Nat.eq_zero_or_pos len0 with h0 | hpos
    · subst h0
      exact ⟨[], (fun x hx => by cases hx), some a, cap0, rfl, Nat.zero_le _, .inl rfl⟩
    obtain ⟨b, off, spot⟩ := a
    have first : ∀ x : α, ∃ u, (en x)[0]? = some u := fun x => ⟨_, List.getElem?_eq_getElem (by rw [hen]; exact hcp)⟩
    have hspot : spot = none := by
      obtain ⟨x, _, hx⟩ := elem 0 hpos
      obtain ⟨u, hu⟩ := first x
      have := hx 0 _ hu
      simpa [Addr.add] using World.cell?_spot this
    subst hspot
    have key : ∀ j i, i + j = len0 → ∃ l : List α, l.length = j ∧ (∀ x ∈ l, good x) ∧ ∀ (k : Nat) x, l[k]? = some x → ∀ j u, (en x)[j]? = some u → W.cell? ⟨b, off + (i + k) * c + j, none⟩ = some u := by
      intro j
      induction j with
      | zero => intro i _; exact ⟨[], rfl, (fun x hx => by cases hx), fun k x h => by simp at h⟩
      | succ j ihj =>
        intro i hi
        obtain ⟨l, k1, k3, k2⟩ := ihj (i + 1) (by omega)
        obtain ⟨x, hs, hx⟩ := elem i (by omega)
        simp only [add_off] at hx
        refine ⟨x :: l, by simp [k1], ?_, fun k y hy => ?_⟩
        · intro y hy
          rcases List.mem_cons.1 hy with rfl | hy
          · exact hs
          · exact k3 y hy
        · cases k with
          | zero => simp at hy; subst hy; exact hx
          | succ k =>
            have := k2 k y (by simpa using hy)
            rw [show i + (k + 1) = i + 1 + k by omega]; exact this
    obtain ⟨l, k1, k3, k2⟩ := key len0 0 (by omega)
    subst k1
    refine ⟨l, k3, some ⟨b, off, none⟩, cap0, rfl, by omega, .inr ⟨b, off, rfl, fun i x hx j u hu => ?_⟩⟩
    have := k2 i x hx j u hu
    rwa [Nat.zero_add] at this
theorem open_hooks {v : Value} {d : DataW H} {ps : List MemPlace} {r : Reach} {b0 : Nat} (hval : Value.okWide Try.prog W r b0 34 v)
    (h : DataW.Trod enc Try.prog W 0 sp hd 34 v d ps) : ∃ l : List Hk, Hooks W v l ∧ ∀ x ∈ l, HkIn x := by
  obtain ⟨l, h1, a, cap, h2, h3, h4⟩ := open_rows (α := Hk) Try.underlying34 cHk (by decide) (fun k => (hookC k).toList) (fun k => rfl) HkIn parse_hook hval h
  refine ⟨l, ⟨a, cap, h2, h3, h4.imp id ?_⟩, h1⟩
  rintro ⟨b, off, e, hc⟩
  exact ⟨b, off, e, fun i o ho => ⟨hc i o ho 0 _ rfl, hc i o ho 1 _ rfl, hc i o ho 2 _ rfl, hc i o ho 3 _ rfl, hc i o ho 4 _ rfl⟩⟩
/-- Numbers that come in. -/
def Nums (w : World) (v : Value) (l : List Int) : Prop :=
  ∃ a cap, v = .slice a l.length cap ∧ l.length ≤ maxLen ∧ (l = [] ∨ ∃ b off, a = some ⟨b, off, none⟩ ∧ ∀ (i : Nat) (x : Int), l[i]? = some x → w.cell? ⟨b, off + i, none⟩ = some (.int .i64 x))
theorem open_nums {v : Value} {d : DataW H} {ps : List MemPlace} {r : Reach} {b0 : Nat} (hval : Value.okWide Try.prog W r b0 45 v)
    (h : DataW.Trod enc Try.prog W 0 sp hd 45 v d ps) : ∃ l : List Int, Nums W v l ∧ ∀ x ∈ l, wfI x := by
  obtain ⟨l, h1, a, cap, h2, h3, h4⟩ := open_rows (α := Int) Try.underlying45 ci (by decide) (fun k => [.int .i64 k]) (fun k => rfl) wfI
    (fun fuel cs x h => by obtain ⟨k, h1, _, h2⟩ := DataW.trod_int Try.underlying3 h; exact ⟨k, h1, h2⟩) hval h
  refine ⟨l, ⟨a, cap, h2, h3, h4.imp id ?_⟩, h1⟩
  rintro ⟨b, off, e, hc⟩
  exact ⟨b, off, e, fun i o ho => by simpa using hc i o ho 0 _ rfl⟩
theorem open_hook {v : Value} {d : DataW H} {ps : List MemPlace} {r : Reach} {b0 : Nat} (hval : Value.okWide Try.prog W r b0 29 v)
    (h : DataW.Trod enc Try.prog W 0 sp hd 29 v d ps) : ∃ k : Hk, v = hookV k ∧ HkIn k := by
  obtain ⟨fuel, hf⟩ := h
  obtain ⟨k, h1, h2⟩ := parse_hook fuel _ _ hf
  refine ⟨k, ?_, h2⟩
  obtain ⟨cs, rfl, _⟩ := okWide_struct Try.underlying29 hval
  have e : cs.toList = (hookC k).toList := h1
  have e2 : cs = hookC k := by
    have := congrArg List.toArray e
    simpa using this
  rw [e2]; rfl
/-- A step of a play. -/
structure Opr where
  what : Int
  n : Int
  b : Int
  h : Hk
def oprC (x : Opr) : List Value := .int .i64 x.what :: .int .i64 x.n :: .int .u8 x.b :: (hookC x.h).toList
def OprIn (x : Opr) : Prop := wfI x.what ∧ wfI x.n ∧ (0 ≤ x.b ∧ x.b ≤ 255) ∧ HkIn x.h
structure OpAt (w : World) (b off : Nat) (x : Opr) : Prop where
  c0 : w.cell? ⟨b, off, none⟩ = some (.int .i64 x.what)
  c1 : w.cell? ⟨b, off + 1, none⟩ = some (.int .i64 x.n)
  c2 : w.cell? ⟨b, off + 2, none⟩ = some (.int .u8 x.b)
  hk : CellsAt w b (off + 3) x.h
def Oprs (w : World) (v : Value) (l : List Opr) : Prop :=
  ∃ a cap, v = .slice a l.length cap ∧ l.length ≤ maxLen ∧ (l = [] ∨ ∃ b off, a = some ⟨b, off, none⟩ ∧ ∀ (i : Nat) (x : Opr), l[i]? = some x → OpAt w b (off + i * 8) x)
theorem parse_opr (fuel : Nat) (cs : List Value) (x : DataW H × List MemPlace) (h : DataW.trod enc Try.prog W 0 sp hd fuel 31 cs = some x) : ∃ k : Opr, cs = oprC k ∧ OprIn k := by
  obtain ⟨xs, n, rfl, rfl, hl, hlen, hf⟩ := DataW.trod_struct Try.underlying31 h
  match xs, hlen with
  | [y0, y1, y2, y3], _ =>
    obtain ⟨k0, e0, _, z0⟩ := DataW.trod_int Try.underlying3 (hf 0 _ rfl)
    obtain ⟨k1, e1, _, z1⟩ := DataW.trod_int Try.underlying3 (hf 1 _ rfl)
    obtain ⟨k2, e2, _, z2⟩ := DataW.trod_int Try.underlying5 (hf 2 _ rfl)
    obtain ⟨k, eH, zH⟩ := parse_hook _ _ _ (hf 3 _ rfl)
    have q0 := cl1 ci cs 0 e0
    have q1 := cl1 ci cs 1 e1
    have q2 := cl1 cu8 cs 2 e2
    have eH' : (cs.drop 3).take (Try.prog.cellsOf 29) = (hookC k).toList := eH
    have l8 : cs.length = 8 := by rw [hl, cOp]
    have u8 : 0 ≤ k2 ∧ k2 ≤ 255 := by
      have h1 : IntKind.u8.min = 0 := by decide
      have h2 : IntKind.u8.max = 255 := by decide
      simp only [Lit.wf, Bool.and_eq_true, decide_eq_true_eq] at z2
      omega
    refine ⟨⟨k0, k1, k2, k⟩, ?_, z0, z1, u8, zH⟩
    match cs, l8 with
    | [a, b, c, d, e, f, g, i], _ =>
      rw [cHk] at eH'
      have e3 : [d, e, f, g, i] = (hookC k).toList := eH'
      simp at q0 q1 q2
      subst q0 q1 q2
      unfold oprC
      rw [← e3]
theorem open_oprs {v : Value} {d : DataW H} {ps : List MemPlace} {r : Reach} {b0 : Nat} (hval : Value.okWide Try.prog W r b0 22 v)
    (h : DataW.Trod enc Try.prog W 0 sp hd 22 v d ps) : ∃ l : List Opr, Oprs W v l ∧ ∀ x ∈ l, OprIn x := by
  obtain ⟨l, h1, a, cap, h2, h3, h4⟩ := open_rows (α := Opr) Try.underlying22 cOp (by decide) oprC (fun k => rfl) OprIn parse_opr hval h
  refine ⟨l, ⟨a, cap, h2, h3, h4.imp id ?_⟩, h1⟩
  rintro ⟨b, off, e, hc⟩
  exact ⟨b, off, e, fun i o ho => ⟨hc i o ho 0 _ rfl, hc i o ho 1 _ rfl, hc i o ho 2 _ rfl, hc i o ho 3 _ rfl, hc i o ho 4 _ rfl, hc i o ho 5 _ rfl, hc i o ho 6 _ rfl, hc i o ho 7 _ rfl⟩⟩
end
theorem u8_of {n : Int} (h : (Lit.int .u8 n).wf = true) : 0 ≤ n ∧ n ≤ 255 := by
  have h1 : IntKind.u8.min = 0 := by decide
  have h2 : IntKind.u8.max = 255 := by decide
  simp only [Lit.wf, Bool.and_eq_true, decide_eq_true_eq] at h
  omega
theorem At.from {w w1 w2 : World} {X : Nat → Prop} {A : Nat} {m : Int} {hs : List Hk} {sl : Bool} {st : Int} (hb : Below w.heap.size w w1) (h : At w1 w2 X A m hs sl st) : At w w2 X A m hs sl st :=
  ⟨h.rb, fun k hk => Nat.le_trans hb.size (h.lo k hk), hb.trans (h.on.mono hb.size)⟩
end Rg
end Go.Proofs.Ytemcahbpfjlnlaa
