/- Layer 6: how many nodes a tree has; pairs that come in. -/
import Derived.Test.YtlpfffioidbkeaaTreeBB
import Derived.Test.YtlpfffioidbkeaaTreeR
import Derived.OpenShut
namespace Go.Proofs.Ytlpfffioidbkeaa
open Go Go.ChangeShapes Go.WideShapes Go.ChangeAt Go.RowKit
namespace Tr
set_option maxRecDepth 100000
set_option linter.unusedVariables false
set_option linter.unusedSimpArgs false

theorem sub_len : ∀ {l m : List Nat}, l.Nodup → (∀ x ∈ l, x ∈ m) → l.length ≤ m.length
  | [], m, _, _ => by simp
  | a :: l, m, hn, h => by
    rw [List.nodup_cons] at hn
    have ha := h a (by simp)
    have := sub_len (m := m.erase a) hn.2 (fun x hx => (List.mem_erase_of_ne (fun (e : x = a) => hn.1 (by rw [← e]; exact hx))).2 (h x (by simp [hx])))
    rw [List.length_erase_of_mem ha] at this
    have : 0 < m.length := List.length_pos_of_mem ha
    simp only [List.length_cons]; omega
/-- The nodes of a tree, so many levels of it. -/
def nodes (ch : Nat → List Nat) : Nat → Nat → List Nat
  | 0, id => [id]
  | f + 1, id => id :: (ch id).flatMap (nodes ch f)
theorem cnt_tr (o : Nat → Own) (ch : Nat → List Nat) : ∀ f id, (tr o ch f id).cnt = (nodes ch f id).length
  | 0, id => by rw [tr, Tree.cnt, cntL, nodes]; rfl
  | f + 1, id => by
    rw [tr, Tree.cnt, nodes, List.length_cons]
    have : ∀ l : List Nat, cntL (l.map (tr o ch f)) = (l.flatMap (nodes ch f)).length := by
      intro l
      induction l with
      | nil => rw [List.map_nil, cntL]; rfl
      | cons a l ih => rw [List.map_cons, cntL, ih, List.flatMap_cons, List.length_append, cnt_tr o ch f a]
    rw [this]; omega
section
variable {S : Ar} {ch : Nat → List Nat}
theorem Sub.rank {ht : Nat → Nat} (hr : ∀ p, p < S.n → ∀ c ∈ ch p, ht c < ht p) {a b : Nat} (h : Sub S.n ch a b) : ht b ≤ ht a := by
  induction h with
  | refl => exact Nat.le_refl _
  | step h1 h2 _ ih => have := hr _ h1 _ h2; omega
theorem Sub.trans {n : Nat} {a b c : Nat} (h1 : Sub n ch a b) (h2 : Sub n ch b c) : Sub n ch a c := by
  induction h2 with
  | refl => exact h1
  | step g1 g2 _ ih => exact .step g1 g2 ih
theorem Sub.linear (hI : Inv S ch) {a b x : Nat} (h1 : Sub S.n ch a x) (h2 : Sub S.n ch b x) : Sub S.n ch a b ∨ Sub S.n ch b a := by
  induction h1 with
  | refl => exact .inr h2
  | step g1 g2 _ ih =>
    rename_i p c _
    rcases Classical.em (c = b) with e | e
    · exact .inl (by rw [← e]; exact .step g1 g2 (by assumption))
    · exact ih (Sub.back hI g1 g2 e h2)
theorem nodes_mem {ht : Nat → Nat} (hI : Inv S ch) (hr : ∀ p, p < S.n → ∀ c ∈ ch p, ht c < ht p) : ∀ f id, id < S.n → ht id < f → ∀ x, x ∈ nodes ch f id ↔ Sub S.n ch id x
  | 0, id, _, h, _ => by omega
  | f + 1, id, hid, hf, x => by
    rw [nodes, List.mem_cons, List.mem_flatMap]
    constructor
    · rintro (rfl | ⟨c, hc, hx⟩)
      · exact .refl
      · have := (nodes_mem hI hr f c (hI.lt id hid c hc) (by have := hr id hid c hc; omega) x).1 hx
        exact Sub.trans (.step hid hc .refl) this
    · intro h
      rcases Classical.em (x = id) with e | e
      · exact .inl e
      · right
        have key : ∀ y, Sub S.n ch id y → y ≠ id → ∃ c, c ∈ ch id ∧ Sub S.n ch c y := by
          intro y hy
          induction hy with
          | refl => intro h; exact absurd rfl h
          | step g1 g2 g3 ih =>
            rename_i p c
            intro _
            rcases Classical.em (p = id) with e | e
            · subst e; exact ⟨c, g2, .refl⟩
            · obtain ⟨d, h1, h2⟩ := ih e
              exact ⟨d, h1, .step g1 g2 h2⟩
        obtain ⟨c, h1, h2⟩ := key x h e
        exact ⟨c, h1, (nodes_mem hI hr f c (hI.lt id hid c h1) (by have := hr id hid c h1; omega) x).2 h2⟩
theorem nodes_nodup {ht : Nat → Nat} (hI : Inv S ch) (hr : ∀ p, p < S.n → ∀ c ∈ ch p, ht c < ht p) : ∀ f id, id < S.n → ht id < f → (nodes ch f id).Nodup
  | 0, id, _, h => by omega
  | f + 1, id, hid, hf => by
    have hc : ∀ c ∈ ch id, c < S.n ∧ ht c < f ∧ ht c < ht id := fun c hc => ⟨hI.lt id hid c hc, by have := hr id hid c hc; omega, hr id hid c hc⟩
    rw [nodes, List.nodup_cons]
    constructor
    · rw [List.mem_flatMap]
      rintro ⟨c, h1, h2⟩
      have := Sub.rank hr ((nodes_mem hI hr f c (hc c h1).1 (hc c h1).2.1 id).1 h2)
      have := (hc c h1).2.2
      omega
    · unfold List.Nodup
      rw [List.pairwise_flatMap]
      refine ⟨fun c h1 => nodes_nodup hI hr f c (hc c h1).1 (hc c h1).2.1, ?_⟩
      have hn := hI.nodup id hid
      have : List.Pairwise (fun a b => a ∈ ch id ∧ b ∈ ch id ∧ a ≠ b) (ch id) := by
        rw [List.pairwise_iff_forall_sublist]
        intro a b hab
        have h3 : a ≠ b := List.pairwise_iff_forall_sublist.1 hn hab
        exact ⟨hab.subset (by simp), hab.subset (by simp), h3⟩
      refine this.imp ?_
      rintro a b ⟨ha, hb, hne⟩ x hx y hy rfl
      have s1 := (nodes_mem hI hr f a (hc a ha).1 (hc a ha).2.1 x).1 hx
      have s2 := (nodes_mem hI hr f b (hc b hb).1 (hc b hb).2.1 x).1 hy
      have up : ∀ {a b}, a ∈ ch id → b ∈ ch id → a ≠ b → ¬ Sub S.n ch a b := by
        intro a b ha hb hne hs
        have := Sub.rank hr (Sub.back hI hid hb (fun e => hne e.symm) hs)
        have := (hc a ha).2.2
        omega
      rcases Sub.linear hI s1 s2 with h | h
      · exact up ha hb hne h
      · exact up hb ha (fun e => hne e.symm) h
/-- Each node but the first has a parent; the first has none. -/
structure Conn (S : Ar) (ch : Nat → List Nat) : Prop where
  all : ∀ c, 0 < c → c < S.n → ∃ p, p < S.n ∧ c ∈ ch p
  root : ∀ p, p < S.n → 0 ∉ ch p
theorem Conn.sub {ht : Nat → Nat} {M : Nat} (hC : Conn S ch) (hr : ∀ p, p < S.n → ∀ c ∈ ch p, ht c < ht p) (hM : ∀ p, p < S.n → ht p ≤ M) : ∀ k c, c < S.n → M ≤ ht c + k → Sub S.n ch 0 c
  | k, c, hc, hk => by
    rcases Nat.eq_zero_or_pos c with e | e
    · subst e; exact .refl
    · obtain ⟨p, hp, hm⟩ := hC.all c e hc
      have := hr p hp c hm
      have := hM p hp
      cases k with
      | zero => omega
      | succ k => exact .step hp hm (Conn.sub hC hr hM k p hp (by omega))
theorem Conn.count {ht : Nat → Nat} (hG : Inv S ch) (hC : Conn S ch) (hr : ∀ p, p < S.n → ∀ c ∈ ch p, ht c < ht p) (f : Nat) (hf : ht 0 < f) : (tr S.o ch f 0).cnt = S.n := by
  obtain ⟨M, hM⟩ := bound ht S.n
  have h0 := hG.pos
  rw [cnt_tr]
  have hm := nodes_mem hG hr f 0 h0 hf
  have h1 : (nodes ch f 0).length ≤ (List.range S.n).length := sub_len (nodes_nodup hG hr f 0 h0 hf) (fun x hx => by
    have hs := (hm x).1 hx
    rw [List.mem_range]
    cases hs with
    | refl => exact h0
    | step g1 g2 _ => exact hG.lt _ g1 _ g2)
  have h2 : (List.range S.n).length ≤ (nodes ch f 0).length := sub_len List.nodup_range (fun x hx => (hm x).2 (Conn.sub hC hr hM M x (List.mem_range.1 hx) (by omega)))
  rw [List.length_range] at h1 h2
  omega
theorem Conn.move {S' : Ar} (hC : Conn S ch) (hn : S'.n = S.n) {id p : Nat} (hp : p < S.n) (h0 : id ≠ 0) : Conn S' (moved ch id p) := by
  constructor
  · rw [hn]; intro c hc1 hc2
    rcases Classical.em (c = id) with e | e
    · subst e; exact ⟨p, hp, by unfold moved; rw [upd_same]; simp⟩
    · obtain ⟨q, hq, hm⟩ := hC.all c hc1 hc2
      have hm2 : c ∈ Tr.cut ch id q := List.mem_filter.2 ⟨hm, by simpa using e⟩
      refine ⟨q, hq, ?_⟩
      unfold moved
      by_cases e2 : q = p
      · subst e2; rw [upd_same]; exact List.mem_append_left _ hm2
      · rw [upd_other _ _ e2]; exact hm2
  · rw [hn]; intro q hq hm
    unfold moved at hm
    by_cases e2 : q = p
    · subst e2
      rw [upd_same, List.mem_append] at hm
      rcases hm with hm | hm
      · exact hC.root q hq (List.mem_filter.1 hm).1
      · simp at hm; exact h0 hm.symm
    · rw [upd_other _ _ e2] at hm
      exact hC.root q hq (List.mem_filter.1 hm).1
end

/-- A slice of pairs. -/
def Prs (w : World) (B : Nat) (v : Value) (l : List (Int × Int)) : Prop :=
  ∃ a cap, v = .slice a l.length cap ∧ l.length ≤ maxLen ∧ (l = [] ∨ ∃ b off, a = some ⟨b, off, none⟩ ∧ b < B ∧ ∀ i x, l[i]? = some x → w.cell? ⟨b, off + i * 2, none⟩ = some (.int .i64 x.1) ∧ w.cell? ⟨b, off + i * 2 + 1, none⟩ = some (.int .i64 x.2))
theorem open_pairs {H : Type} {enc : TypeId × Value → H} {W : World} {v : Value} {d : DataW H} {ps : List MemPlace} {r : Reach} {b0 : Nat} (hval : Value.okWide Try.prog W r b0 37 v)
    (h : DataW.Trod enc Try.prog W 0 (fun _ => true) true 37 v d ps) (hw : ∀ y ∈ d.weights Try.prog 37, y ≤ reachBytes) : ∃ l, Prs W W.heap.size v l := by
  obtain ⟨a0, len0, cap0, rfl⟩ := okWide_slice Try.underlying37 hval
  obtain ⟨fuel, hf⟩ := h
  have c2 : Try.prog.cellsOf 53 = 2 := by kernel_rfl
  have ci : Try.prog.cellsOf 3 = 1 := by kernel_rfl
  rcases DataW.trod_slice Try.underlying37 hf with ⟨e6, r6⟩ | ⟨a, len, cap, elems, rest, n2, hn2, e6, r6, hb, hle, hcm, hlen2, hel, _, _⟩
  · simp [Value.cells] at e6
    obtain ⟨rfl, rfl, rfl⟩ := e6
    exact ⟨[], none, 0, rfl, by decide, .inl rfl⟩
  · simp [Value.cells] at e6
    obtain ⟨rfl, rfl, rfl⟩ := e6
    have elem : ∀ i, i < len0 → ∃ x : Int × Int, W.cell? ((a.add (i * 2)).add 0) = some (.int .i64 x.1) ∧ W.cell? ((a.add (i * 2)).add 1) = some (.int .i64 x.2) := by
      intro i hi
      have h1 := hel i hi
      rw [c2, List.getElem?_eq_getElem (by omega : i < elems.length), Option.bind_eq_some_iff] at h1
      obtain ⟨cs', h2, h3⟩ := h1
      obtain ⟨xs, m, _, ex, hcl, hl, hxs⟩ := DataW.trod_array Try.underlying53 h3
      have g0 := hxs 0 (by omega)
      have g1 := hxs 1 (by omega)
      obtain ⟨y0, hy0⟩ : ∃ y, xs[0]? = some y := ⟨_, List.getElem?_eq_getElem (by omega)⟩
      obtain ⟨y1, hy1⟩ : ∃ y, xs[1]? = some y := ⟨_, List.getElem?_eq_getElem (by omega)⟩
      rw [hy0] at g0
      rw [hy1] at g1
      obtain ⟨k0, e0, _, _⟩ := DataW.trod_int Try.underlying3 g0
      obtain ⟨k1, e1, _, _⟩ := DataW.trod_int Try.underlying3 g1
      have q0 := Tr.c1 ci cs' _ e0
      have q1 := Tr.c1 ci cs' _ e1
      rw [ci] at q0 q1
      unfold World.cells? at h2
      rw [if_pos (Nat.zero_le _)] at h2
      refine ⟨(k0, k1), ?_, ?_⟩
      · rw [mapM_some_get h2 0 0 (by simp)]; simpa using q0
      · rw [mapM_some_get h2 1 1 (by simp)]; simpa using q1
    rcases Nat.eq_zero_or_pos len0 with h0 | hpos
    · subst h0
      exact ⟨[], some a, cap0, rfl, by decide, .inl rfl⟩
    obtain ⟨b, off, spot⟩ := a
    have hspot : spot = none := by
      obtain ⟨x, hx, _⟩ := elem 0 hpos
      simpa [Addr.add] using World.cell?_spot hx
    subst hspot
    have hbl : b < W.heap.size := by
      obtain ⟨x, hx, _⟩ := elem 0 hpos
      simp only [add_off] at hx
      exact World.block_lt_of_cell? W _ hx
    have key : ∀ j i, i + j = len0 → ∃ l : List (Int × Int), l.length = j ∧ ∀ k x, l[k]? = some x → W.cell? ⟨b, off + (i + k) * 2, none⟩ = some (.int .i64 x.1) ∧ W.cell? ⟨b, off + (i + k) * 2 + 1, none⟩ = some (.int .i64 x.2) := by
      intro j
      induction j with
      | zero => intro i _; exact ⟨[], rfl, fun k x h => by simp at h⟩
      | succ j ihj =>
        intro i hi
        obtain ⟨l, k1, k2⟩ := ihj (i + 1) (by omega)
        obtain ⟨x, h1, h2⟩ := elem i (by omega)
        simp only [add_off] at h1 h2
        refine ⟨x :: l, by simp [k1], fun k y hy => ?_⟩
        cases k with
        | zero => simp at hy; subst hy; exact ⟨h1, h2⟩
        | succ k =>
          have := k2 k y (by simpa using hy)
          rw [show i + (k + 1) = i + 1 + k by omega]; exact this
    obtain ⟨l, k1, k2⟩ := key len0 0 (by omega)
    subst k1
    refine ⟨l, some ⟨b, off, none⟩, cap0, rfl, by omega, .inr ⟨b, off, rfl, hbl, fun i x hx => ?_⟩⟩
    have := k2 i x hx
    rwa [Nat.zero_add] at this
end Tr
end Go.Proofs.Ytlpfffioidbkeaa
