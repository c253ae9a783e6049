/- TextJoins: the law's walk. -/
import Derived.Test.YtopaohficfdhhaaDoorTextF
import Derived.Laws.OwnMore
namespace Go.Proofs.YtopaohficfdhhaaDoor
open Go Go.RowKit
namespace TextJoins
open Tx
set_option maxRecDepth 100000
set_option linter.unusedVariables false
set_option linter.unusedSimpArgs false

theorem run_append_of_nil (w : World) (base : Nat) (t ty e : TypeId) (i : TypeInfo) (size : Nat) (ht : Tryd.prog.underlying t = some (.slice e)) (hi : Tryd.prog.info? e = some i)
    (v : Value) (n : Nat) (xs : List Value) (hown : w.ownsRow base e size v n xs) (c : Nat) : (Builtin.append_ #[t, t] ty #[v, .slice none 0 c]).run Tryd.prog w = .ok v w := by
  rcases hown.2 with ⟨rfl, rfl⟩ | ⟨g, cap, cur, rfl, _, _, hnc, _⟩
  · simp [Builtin.append_, run_underlying ht, sizeOf, typeInfo, hi, Builtin.lenOf, Builtin.firstCells]
  · simp [Builtin.append_, run_underlying ht, sizeOf, typeInfo, hi, Builtin.lenOf, Builtin.firstCells, hnc, storeCells]

/-- append(out, r...) onto a row of bytes of the call's own. -/
theorem app_bytes (w : World) (B : Nat) (v u : Value) (acc r : List UInt8) (hown : w.ownsRow B 5 1 v acc.length (Lib.byteCells acc)) (hu : Sl w u r) (hl : acc.length + r.length ≤ 1000000) (hB : B ≤ w.heap.size) :
    ∃ v' w', (Builtin.append_ #[22, 22] 22 #[v, u]).run Tryd.prog w = .ok v' w' ∧ w'.ownsRow B 5 1 v' (acc ++ r).length (Lib.byteCells (acc ++ r)) ∧ Below B w w' := by
  obtain ⟨i0, hi, hz0, hz1, hz2⟩ := info_parts info5
  obtain ⟨ao, cap, rfl, _, _, hrow⟩ := hu
  have hbc : ∀ l : List UInt8, (Lib.byteCells l).length = l.length := fun l => by simp [Lib.byteCells]
  have main : ∀ (ad : Addr), (∀ j x, (Lib.byteCells r)[j]? = some x → w.cell? (ad.add j) = some x) → ∃ v' w', (Builtin.append_ #[22, 22] 22 #[v, .slice (some ad) r.length cap]).run Tryd.prog w = .ok v' w' ∧ w'.ownsRow B 5 1 v' (acc ++ r).length (Lib.byteCells (acc ++ r)) ∧ Below B w w' := fun ad h => by
    obtain ⟨v', w', h1, h2, h3, _⟩ := run_append_own (P := Tryd.prog) w B 22 22 5 i0 (.int .u8 0) 1 1 Tryd.underlying22 hi hz0 hz1 hz2 rfl (by decide) v acc.length _ hown ad r.length cap (Lib.byteCells r) (by rw [hbc]; omega) h (byteCells_one _) (by unfold maxLen; omega) (by omega) hB
    refine ⟨v', w', h1, ?_, (Below.refl _ _).grown h3 hB (fun k hk => (hown.lt k hk).1)⟩
    simpa [Lib.byteCells] using h2
  by_cases hne : r = []
  · subst hne
    cases ao with
    | none => exact ⟨v, w, run_append_of_nil w B _ _ _ i0 1 Tryd.underlying22 hi v _ _ hown cap, by simpa using hown, Below.refl _ _⟩
    | some a => exact main a (by intro j x hx; simp [Lib.byteCells] at hx)
  · obtain ⟨b, off, rfl, hr⟩ := hrow hne
    refine main _ ?_
    have := row_cells hr r.length (Nat.le_refl _)
    rwa [List.take_length] at this

theorem app_strs (w : World) (B : Nat) (v u : Value) (acc r : List (List UInt8)) (hown : w.ownsRow B 9 1 v acc.length (acc.map str)) (hu : SSl w u r) (hl : acc.length + r.length ≤ 1000000) (hB : B ≤ w.heap.size) :
    ∃ v' w', (Builtin.append_ #[28, 28] 28 #[v, u]).run Tryd.prog w = .ok v' w' ∧ w'.ownsRow B 9 1 v' (acc ++ r).length ((acc ++ r).map str) ∧ Below B w w' := by
  obtain ⟨i0, hi, hz0, hz1, hz2⟩ := info_parts info9
  obtain ⟨ao, cap, rfl, _, hrow⟩ := hu
  have main : ∀ (ad : Addr), (∀ j x, (r.map str)[j]? = some x → w.cell? (ad.add j) = some x) → ∃ v' w', (Builtin.append_ #[28, 28] 28 #[v, .slice (some ad) r.length cap]).run Tryd.prog w = .ok v' w' ∧ w'.ownsRow B 9 1 v' (acc ++ r).length ((acc ++ r).map str) ∧ Below B w w' := fun ad h => by
    obtain ⟨v', w', h1, h2, h3, _⟩ := run_append_own (P := Tryd.prog) w B 28 28 9 i0 (.string ByteArray.empty) 1 16 Tryd.underlying28 hi hz0 hz1 hz2 rfl (by decide) v acc.length _ hown ad r.length cap (r.map str) (by simp) h (str_one _) (by unfold maxLen; omega) (by omega) hB
    refine ⟨v', w', h1, ?_, (Below.refl _ _).grown h3 hB (fun k hk => (hown.lt k hk).1)⟩
    simpa using h2
  by_cases hne : r = []
  · subst hne
    cases ao with
    | none => exact ⟨v, w, run_append_of_nil w B _ _ _ i0 1 Tryd.underlying28 hi v _ _ hown cap, by simpa using hown, Below.refl _ _⟩
    | some a => exact main a (by intro j x hx; simp at hx)
  · obtain ⟨b, off, rfl, hr⟩ := hrow hne
    refine main _ ?_
    intro j x hx
    have hj : j < r.length := by have := (List.getElem?_eq_some_iff.1 hx).1; simpa using this
    rw [add_eq, hr j hj]
    rw [List.getElem?_map, List.getElem?_eq_getElem hj] at hx
    exact hx

theorem own_empty (w : World) (e : TypeId) (B : Nat) (hB : B ≤ w.heap.size) : (w.alloc (.cells #[] e)).ownsRow B e 1 (.slice (some ⟨w.heap.size, 0, none⟩) 0 0) 0 [] := by
  refine ⟨rfl, Or.inr ⟨w.heap.size, 0, #[], rfl, hB, ?_, Nat.le_refl _, by unfold maxLen; omega, rfl, rfl⟩⟩
  simp only [World.alloc, Array.getElem?_push_size]

theorem own_sl {w : World} {B : Nat} {v : Value} {l : List UInt8} (h : w.ownsRow B 5 1 v l.length (Lib.byteCells l)) : Sl w v l := by
  have h0 := h
  rcases h.2 with ⟨rfl, h1⟩ | ⟨g, cap, cur, rfl, _, hg, hn, hm, hs, hc⟩
  · have : l = [] := List.length_eq_zero_iff.1 h1
    subst this
    exact ⟨none, 0, rfl, by simp, by unfold maxLen; omega, fun h => absurd rfl h⟩
  · refine ⟨some ⟨g, 0, none⟩, cap, rfl, hn, hm, fun _ => ⟨g, 0, rfl, fun i hi => ?_⟩⟩
    have := h0.cellAt i (by omega)
    rw [Nat.zero_add, this]
    simp [Lib.byteCells, List.getElem?_eq_getElem hi, at', List.getD]

theorem own_below {w w' : World} {B : Nat} {e : TypeId} {v : Value} {n : Nat} {xs : List Value} (h : w.ownsRow B e 1 v n xs) (hb : Below w.heap.size w w') : w'.ownsRow B e 1 v n xs := by
  have hlt := h.lt
  obtain ⟨h1, h2⟩ := h
  rcases h2 with h2 | ⟨g, cap, cur, rfl, hB, hg, h3, h4, h5, h6⟩
  · exact ⟨h1, Or.inl h2⟩
  · exact ⟨h1, Or.inr ⟨g, cap, cur, rfl, hB, by rw [hb.block g (hlt g rfl).2]; exact hg, h3, h4, h5, h6⟩⟩

theorem bytes_cat (a b : List UInt8) (X Y : ByteArray) (hX : (⟨(clean a).toArray⟩ : ByteArray) ++ ⟨#[120, 10]⟩ = X) (hY : (⟨(clean b).toArray⟩ : ByteArray) = Y) :
    (⟨(clean ([] ++ a ++ [120, 10] ++ b)).toArray⟩ : ByteArray) = X ++ Y ∧ lines (X ++ Y).data.toList = lines X.data.toList ++ lines Y.data.toList := by
  subst hX; subst hY
  have h1 : clean ([] ++ a ++ [120, 10] ++ b) = clean a ++ [120, 10] ++ clean b := by
    have := clean_mid a b
    simpa using this
  have h2 : ((⟨(clean a).toArray⟩ : ByteArray) ++ ⟨#[120, 10]⟩).data.toList = (clean a ++ [120]) ++ [10] := by
    rw [ByteArray.data_append]; simp
  refine ⟨?_, ?_⟩
  · rw [h1]; apply ByteArray.ext; rw [ByteArray.data_append, ByteArray.data_append]; simp
  · rw [ByteArray.data_append, Array.toList_append, h2]
    have := lines_parts (clean a ++ [120]).length (clean a ++ [120]) (clean b) (Nat.le_refl _)
    simpa using this

/-- An append whose run is known, guarded or not. -/
theorem wpList_app_run {P : Program} {w : World} {ops : Array Oper} {rest : List Oper} {o : Oper} {a : Act} {Q : Exit → Act → World → Prop} (hgd : Region.wanted o (yielded ops a.tmps) = true) (s x : Operand) (t : TypeId)
    (ho : o.op = .call { callee := .builtin .append, args := #[s, x], argTypes := #[t, t] }) (hty : o.type = t)
    (v u v' : Value) (w' : World) (hs : a.eval s = v) (hx : a.eval x = u) (hrun : (Builtin.append_ #[t, t] t #[v, u]).run P w = .ok v' w')
    (h : wpList P ops Q rest (a.put o.dst v') w') : wpList P ops Q (o :: rest) a w := by
  refine wpList_step fun K hK => ?_
  simp only [hgd, if_true]
  unfold Oper.wp
  simp [execOp, ho, hty, resolve, invoke, builtin, hs, hx, hrun, Result.andThen]
  exact hK _ _ h

set_option maxHeartbeats 2000000 in
theorem law_any (a : List UInt8) (va : Value) (b : List UInt8) (vb : Value) (w : World) (ha : Sl w va a) (hb : Sl w vb b) :
    Calls Tryd.prog 7 #[va, vb] w fun e w' => e = .returned (.bool true) ∧ Below w.heap.size w w' := by
  have HA := Lib.hid (awake_any w)
  have Ha := Lib.hid ha
  have Hb := Lib.hid hb
  obtain ⟨ao, cap, rfl, hlc, hcm, hrow⟩ := ha
  obtain ⟨bo, cap2, rfl, hlc2, hcm2, hrow2⟩ := hb
  unfold maxLen at hcm hcm2
  clear hrow hrow2
  by_cases h1 : a.length > 1000
  · go_enter Tryd.func7, Tryd.ntmps7
    go_wp2_with (go_at_call 10; refine HA.out.mono ?_; rintro e w1 ⟨rfl, hb1⟩)
    go_ret
    exact ⟨rfl, hb1⟩
  by_cases h2 : b.length > 1000
  · go_enter Tryd.func7, Tryd.ntmps7
    go_wp2_with (go_at_call 10; refine HA.out.mono ?_; rintro e w1 ⟨rfl, hb1⟩)
    go_ret
    exact ⟨rfl, hb1⟩
  have h1' : a.length ≤ 1000 := by omega
  have h2' : b.length ≤ 1000 := by omega
  have d1 : decide (1000 < (a.length : Int)) = false := by simp; omega
  have d2 : decide (1000 < (b.length : Int)) = false := by simp; omega
  clear h1 h2
  have hca := clean_length a
  have hcb := clean_length b
  go_enter Tryd.func7, Tryd.ntmps7
  go_wp2_with fail
  refine HA.out.mono ?_
  rintro e w1 ⟨rfl, hb1⟩
  have A1 := Ha.out.below hb1
  have B1 := Hb.out.below hb1
  have hw1 := hb1.size
  have na : Below w1.heap.size w1 (w1.alloc (.cells #[] 5)) := (Below.refl _ _).alloc (Nat.le_refl _) _
  obtain ⟨v2, w2, e2, o2, b2⟩ := app_bytes (w1.alloc (.cells #[] 5)) w1.heap.size _ _ [] a (own_empty w1 5 w1.heap.size (Nat.le_refl _)) (A1.below na) (by simp; omega) (by simp)
  have nb := na.trans b2
  have hs2 := nb.size
  have xn := sl_new w2 [120, 10] (by decide)
  obtain ⟨v3, w3, e3, o3, b3⟩ := app_bytes _ w1.heap.size v2 _ ([] ++ a) [120, 10] (o2.alloc _) xn (by simp; omega) (by simp; omega)
  have nc := (nb.alloc hs2 _).trans b3
  have hs3 := nc.size
  obtain ⟨v4, w4, e4, o4, b4⟩ := app_bytes _ w1.heap.size v3 _ _ b o3 (B1.below nc) (by simp; omega) hs3
  have nd := nc.trans b4
  have HA4 := Lib.hid (A1.below nd)
  have HB4 := Lib.hid (B1.below nd)
  have HC4 := Lib.hid (own_sl o4)
  have hbw4 := hb1.trans (nd.mono hw1)
  have E2 := Lib.hid e2
  have E3 := Lib.hid e3
  have E4 := Lib.hid e4
  clear e2 e3 e4 o2 o3 o4 b2 b3 b4 na nb nc nd xn hs2 hs3 hw1 A1 B1
  go_wp2_with (first
    | (at_builtin; refine wpList_app_run rfl (.tmp 19) (.tmp 20) 22 rfl rfl _ _ v2 w2 rfl rfl E2.out ?_)
    | (at_builtin; refine wpList_app_run rfl (.tmp 21) (.tmp 22) 22 rfl rfl _ _ v3 w3 rfl rfl E3.out ?_)
    | (at_builtin; refine wpList_app_run rfl (.tmp 23) (.tmp 24) 22 rfl rfl _ _ v4 w4 rfl rfl E4.out ?_))
  refine (clean_any a _ _ HA4.out (by omega)).mono ?_
  rintro e w5 ⟨rfl, hb5⟩
  have HB5 := Lib.hid (HB4.out.below hb5)
  have HC5 := Lib.hid (HC4.out.below hb5)
  have hbw5 := hbw4.trans (hb5.mono hbw4.size)
  obtain ⟨X0, hX0⟩ : ∃ X0 : ByteArray, (⟨(clean a).toArray⟩ : ByteArray) = X0 := ⟨_, rfl⟩
  rw [hX0]
  have hX0s : X0.size ≤ 3000 := by rw [← hX0, size_mk]; omega
  have HX0 := Lib.hid hX0
  clear hX0 hb5 hbw4
  go_wp2_with fail
  refine (clean_any b _ _ HB5.out (by omega)).mono ?_
  rintro e w6 ⟨rfl, hb6⟩
  have HC6 := Lib.hid (HC5.out.below hb6)
  have hbw6 := hbw5.trans (hb6.mono hbw5.size)
  obtain ⟨Y, hY⟩ : ∃ Y : ByteArray, (⟨(clean b).toArray⟩ : ByteArray) = Y := ⟨_, rfl⟩
  rw [hY]
  have hYs : Y.size ≤ 3000 := by rw [← hY, size_mk]; omega
  have HY := Lib.hid hY
  clear hY hb6 hbw5
  obtain ⟨X, hX⟩ : ∃ X : ByteArray, X0 ++ ⟨#[120, 10]⟩ = X := ⟨_, rfl⟩
  have hXs : X.size ≤ 3002 := by rw [← hX, ByteArray.size_append]; have : (⟨#[120, 10]⟩ : ByteArray).size = 2 := rfl; omega
  rw [hX]
  have HX := Lib.hid hX
  clear hX
  go_wp2_with fail
  refine (clean_any _ _ _ HC6.out (by simp; omega)).mono ?_
  rintro e w7 ⟨rfl, hb7⟩
  obtain ⟨hc1, hc2⟩ := bytes_cat a b X Y (by rw [HX0.out]; exact HX.out) HY.out
  rw [hc1]
  have HL := Lib.hid hc2
  have hbw7 := hbw6.trans (hb7.mono hbw6.size)
  have hxy : (X ++ Y).size ≤ 6002 := by rw [ByteArray.size_append]; omega
  have Hxy := Lib.hid hxy
  clear hc1 hc2 hb7 hbw6 hxy
  go_wp2_with fail
  refine (lines_any (X ++ Y) _ (by have := Hxy.out; omega)).mono ?_
  rintro e w8 ⟨v8, rfl, o8, hb8⟩
  rw [HL.out] at o8
  have hbw8 := hbw7.trans (hb8.mono hbw7.size)
  have hdx : X.data.toList.length = X.size := by rw [Array.length_toList]; rfl
  have hdy : Y.data.toList.length = Y.size := by rw [Array.length_toList]; rfl
  have hlx := lines_length X.data.toList
  have hly := lines_length Y.data.toList
  have hlL : (lines X.data.toList ++ lines Y.data.toList).length ≤ 9223372036854775807 := by rw [List.length_append]; omega
  have S8 := Lib.hid (o8.ssl hlL)
  clear o8 hb8 hbw7
  have nE : Below w8.heap.size w8 (w8.alloc (.cells #[] 9)) := (Below.refl _ _).alloc (Nat.le_refl _) _
  have OE := Lib.hid (own_empty w8 9 w8.heap.size (Nat.le_refl _))
  have NE := Lib.hid nE
  clear nE
  go_wp2_with fail
  refine (lines_any X _ (by omega)).mono ?_
  rintro e w9 ⟨v9, rfl, o9, hb9⟩
  have n9 := NE.out.trans (hb9.mono (by simp))
  have S9 := o9.ssl (by omega)
  obtain ⟨v10, w10, e10, o10, b10⟩ := app_strs w9 w8.heap.size _ v9 [] (lines X.data.toList) (own_below OE.out hb9) S9 (by simp; omega) n9.size
  have n10 := n9.trans b10
  have E10 := Lib.hid e10
  have O10 := Lib.hid o10
  have N10 := Lib.hid n10
  clear e10 o9 hb9 n9 S9 b10 n10
  go_wp2_with (first
    | (at_builtin; refine wpList_app_run rfl (.tmp 45) (.tmp 47) 28 rfl rfl _ _ v10 w10 rfl rfl E10.out ?_))
  refine (lines_any Y _ (by omega)).mono ?_
  rintro e w11 ⟨v11, rfl, o11, hb11⟩
  have n11 := N10.out.trans (hb11.mono N10.out.size)
  have S11 := o11.ssl (by omega)
  obtain ⟨v12, w12, e12, o12, b12⟩ := app_strs w11 w8.heap.size _ v11 ([] ++ lines X.data.toList) (lines Y.data.toList) (own_below O10.out hb11) S11 (by simp; omega) n11.size
  have n12 := n11.trans b12
  have E12 := Lib.hid e12
  have S12 := Lib.hid (OwnL.ssl (B := w8.heap.size) (w := w12) (v := v12) (L := [] ++ lines X.data.toList ++ lines Y.data.toList) o12 (by rw [List.nil_append]; exact hlL))
  have S8' := Lib.hid (S8.out.below n12)
  have hbw12 := hbw8.trans (n12.mono hbw8.size)
  clear e12 o11 hb11 n11 S11 b12 n12 o12
  go_wp2_with (first
    | (at_builtin; refine wpList_app_run rfl (.tmp 48) (.tmp 50) 28 rfl rfl _ _ v12 w12 rfl rfl E12.out ?_))
  refine (same_any _ _ _ _ _ S8'.out S12.out).mono ?_
  rintro e w13 ⟨rfl, n, hw13⟩
  have hbw13 : Below w.heap.size w w13 := by rw [hw13]; exact below_drewN hbw12 n
  clear hw13
  rw [List.nil_append, decide_eq_true (Eq.refl (lines X.data.toList ++ lines Y.data.toList))]
  go_wp2
  go_ret
  exact ⟨rfl, hbw13⟩
end TextJoins
end Go.Proofs.YtopaohficfdhhaaDoor
