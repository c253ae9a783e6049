/- DelimNone: the law's walk. -/
import Derived.Test.YtbdcbeghiglfgaaDoorDlCopy
namespace Go.Proofs.YtbdcbeghiglfgaaDoor
open Go Go.RowKit
namespace DelimNone
open Dl
set_option maxRecDepth 100000
set_option linter.unusedVariables false
set_option linter.unusedSimpArgs false

theorem rn_far {l : List Rn} {j : Nat} (h : l.length ≤ j) : rn l j = Rn.none := by
  unfold rn; rw [List.getD_eq_getElem?_getD, List.getElem?_eq_none h]; rfl
/-- The rows, so far. -/
structure Far (o : Bool) (N i : Nat) (X Y : List Rn) : Prop where
  lx : X.length = N
  ly : Y.length = N
  x : ∀ j, j < i → (rn X j).o = o ∧ (rn X j).k = !o
  y : ∀ j, j < i → (rn Y j).c = UInt8.ofNat j
  okx : ∀ j, RnOk (rn X j)
  oky : ∀ j, RnOk (rn Y j)
theorem ok_all {l : List Rn} (h : ∀ r ∈ l, RnOk r) (j : Nat) : RnOk (rn l j) := by
  by_cases hj : j < l.length
  · exact h _ (List.mem_of_getElem? (rn_at hj))
  · rw [rn_far (by omega)]; exact ⟨by decide, by decide⟩
theorem ok_back {l : List Rn} (h : ∀ j, RnOk (rn l j)) : ∀ r ∈ l, RnOk r := by
  intro r hr
  obtain ⟨j, hj⟩ := List.getElem?_of_mem hr
  have := h j
  rwa [rn_of hj] at this
theorem Far.next {o : Bool} {N i : Nat} {X Y : List Rn} (h : Far o N i X Y) (hi : i < N) :
    Far o N (i + 1) ((X.set i { rn X i with o := o }).set i { rn X i with o := o, k := !o }) (Y.set i { rn Y i with c := UInt8.ofNat i }) := by
  have hx := h.lx
  have hy := h.ly
  have ex : ∀ j, rn ((X.set i { rn X i with o := o }).set i { rn X i with o := o, k := !o }) j = if j = i then { rn X i with o := o, k := !o } else rn X j := fun j => by
    rw [rn_set (by rw [List.length_set]; omega), rn_set (by omega)]
    by_cases e : j = i
    · rw [if_pos e, if_pos e]
    · rw [if_neg e, if_neg e, if_neg e]
  have ey : ∀ j, rn (Y.set i { rn Y i with c := UInt8.ofNat i }) j = if j = i then { rn Y i with c := UInt8.ofNat i } else rn Y j := fun j => rn_set (by omega)
  refine ⟨by rw [List.length_set, List.length_set]; exact hx, by rw [List.length_set]; exact hy, fun j hj => ?_, fun j hj => ?_, fun j => ?_, fun j => ?_⟩
  · rw [ex]; split
    · exact ⟨rfl, rfl⟩
    · exact h.x j (by omega)
  · rw [ey]; split
    · rename_i e; rw [e]
    · exact h.y j (by omega)
  · rw [ex]; split
    · exact h.okx i
    · exact h.okx j
  · rw [ey]; split
    · exact h.oky i
    · exact h.oky j
theorem none_x {o : Bool} {N : Nat} {X Y : List Rn} (h : Far o N N X Y) : pairs X = [] := by
  unfold pairs
  cases o with
  | true =>
    refine none_close (fun j => ?_) _ _
    by_cases hj : j < N
    · exact (h.x j hj).2
    · rw [rn_far (by rw [h.lx]; omega)]; rfl
  | false =>
    refine none_fit (fun j i m n hji hi => ?_) _ _
    have := (h.x j (by have := h.lx; omega)).1
    unfold fit
    rw [this]; simp
theorem none_y {o : Bool} {N : Nat} {X Y : List Rn} (h : Far o N N X Y) (hN : N ≤ 60) : pairs Y = [] := by
  unfold pairs
  refine none_fit (fun j i m n hji hi => ?_) _ _
  have hl := h.ly
  have h1 := h.y j (by omega)
  have h2 := h.y i (by omega)
  unfold fit
  rw [h1, h2, decide_eq_false (fun e => ?_)]
  · simp
  · have := congrArg UInt8.toNat e
    rw [UInt8.toNat_ofNat', UInt8.toNat_ofNat'] at this
    omega

set_option maxHeartbeats 8000000 in
theorem law_any (l : List Rn) (v : Value) (o : Bool) (w : World) (hP : Prog13 w) (hR : RunsIn w v l) (hok : ∀ r ∈ l, RnOk r) :
    Calls Tryd.prog 9 #[v, .bool o] w fun e w' => e = .returned (.bool true) ∧ Below w.heap.size w w' := by
  have HA := Lib.hid (awake_any w hP)
  have HM : Hid (∀ (L : List Rn) (u : Value) (W : World), Below w.heap.size w W → Runs W u L → L.length ≤ 100 → (∀ j, RnOk (rn L j)) → pairs L = [] → Calls Tryd.prog 15 #[u] W fun e w' => (∃ a c, e = .returned (.slice a 0 c)) ∧ Below W.heap.size W w') := Lib.hid (fun L u W hW hV h1 h2 h3 =>
    (hP.mtch L u W hW hV h1 (ok_back h2) (by rw [h3]; decide)).mono (by
      rintro e w' ⟨u2, rfl, hu, hb⟩
      rw [h3] at hu
      obtain ⟨a, c, rfl, _⟩ := hu
      exact ⟨⟨a, c, rfl⟩, hb⟩))
  have HR := Lib.hid hR
  have HOk := Lib.hid (ok_all hok)
  have hb0 := Below.refl w.heap.size w
  obtain ⟨⟨a, cap, rfl, hlm, hk⟩, _⟩ := hR
  unfold maxLen at hlm
  obtain ⟨N, hN⟩ : ∃ N, l.length = N := ⟨_, rfl⟩
  have HN := Lib.hid hN
  rw [hN] at hlm HR ⊢
  clear hN hk hP hok
  by_cases hbig : 60 < N
  · have hb' : (60 : Int) < (N : Int) := by omega
    go_enter Tryd.func9, Tryd.ntmps9
    go_wp2_with fail
    refine HA.out.mono ?_
    rintro e w1 ⟨rfl, hb1⟩
    go_wp2
    go_ret
    exact ⟨rfl, hb1⟩
  have hb' : ¬ (60 : Int) < (N : Int) := by omega
  go_enter Tryd.func9, Tryd.ntmps9
  go_wp2_with fail
  refine HA.out.mono ?_
  rintro e w1 ⟨rfl, hb1⟩
  have s1 := hb1.size
  go_wp2_with (at_builtin; refine wp_copy rfl _ _ rfl w.heap.size _ [] rfl (own_empty w1 s1) _ l rfl ?r1 ?r2 ?r3 ?_)
  case r1 => exact ⟨(HR.out.1.keep hb1).keep ((Below.refl _ _).alloc (Nat.le_refl _) _), HR.out.2⟩
  case r2 => have := HN.out; simp; omega
  case r3 => simp; omega
  intro u6 w2 ho2 hg2
  have hb2 : Below w.heap.size w w2 := (hb1.alloc s1 _).grown hg2 (by simp; omega) (fun k hk => by simp [Value.ownBlock] at hk; omega)
  obtain ⟨a6, c6, rfl⟩ := ho2.form
  have s2 := hb2.size
  have HO2 := Lib.hid ho2
  clear hg2 ho2
  go_wp2_with (at_builtin; refine wp_copy rfl _ _ rfl w2.heap.size _ [] rfl (own_empty w2 (Nat.le_refl _)) _ l rfl ?r1 ?r2 ?r3 ?_)
  case r1 => exact ⟨(HR.out.1.keep hb2).keep ((Below.refl _ _).alloc (Nat.le_refl _) _), HR.out.2⟩
  case r2 => have := HN.out; simp; omega
  case r3 => simp
  intro u7 w3 ho3 hg3
  have hb3 : Below w2.heap.size w2 w3 := ((Below.refl _ w2).alloc (Nat.le_refl _) _).grown hg3 (by simp) (fun k hk => by simp [Value.ownBlock] at hk; omega)
  obtain ⟨a7, c7, rfl⟩ := ho3.form
  have HO3 : Hid (OwnR w3 w2.heap.size (.slice a7 N c7) l) := Lib.hid (by rw [← HN.out]; exact ho3)
  have HO2' : Hid (OwnR w3 w.heap.size (.slice a6 N c6) l) := Lib.hid (by rw [← HN.out]; exact HO2.out.keep hb3)
  have HLt : Hid (∀ g, (Value.slice a6 N c6).ownBlock = some g → g < w2.heap.size) := Lib.hid (fun g hg => (World.ownsRow.lt HO2.out g (by rw [HN.out]; exact hg)).2)
  have HB3 := Lib.hid (below_later hb2 hb3)
  obtain ⟨B2, hB2⟩ : ∃ B2, w2.heap.size = B2 := ⟨_, rfl⟩
  rw [hB2] at HO3 HLt
  have hB3 : w.heap.size ≤ B2 := by omega
  rw [HN.out]
  clear hg3 ho3 HO2 hb3 hb2 hB2
  go_wp2_with fail
  go_loopg [8] N (fun G s8 wr => ∃ (i : Nat) (X Y : List Rn), i + G = N ∧ s8 = .int .i64 (i : Int) ∧ Hid (Far o N i X Y) ∧ Hid (OwnR wr w.heap.size (.slice a6 N c6) X) ∧ Hid (OwnR wr B2 (.slice a7 N c7) Y) ∧ Hid (Below w.heap.size w wr))
  case atStart => exact ⟨0, l, l, by omega, rfl, Lib.hid ⟨HN.out, HN.out, fun j hj => by omega, fun j hj => by omega, HOk.out, HOk.out⟩, HO2', HO3, HB3⟩
  case round =>
    clear HO2' HO3 HB3
    obtain ⟨i, X, Y, hig, rfl, HF, HX, HY, HB⟩ := hrel
    cases gk with
    | zero =>
      obtain rfl : i = N := by omega
      have hlt : ¬ (i : Int) < (i : Int) := by omega
      go_wp2_with fail
      refine (HM.out X _ _ HB.out (by have h1 := RowsG.of_owns runE_len HX.out; exact h1) (by rw [HF.out.lx]; omega) HF.out.okx (none_x HF.out)).mono ?_
      rintro e w5 ⟨⟨a5, c5, rfl⟩, hb5⟩
      have hB5 := below_later HB.out hb5
      go_wp2_with fail
      refine (HM.out Y _ _ hB5 (by have h1 := (RowsG.of_owns runE_len HY.out).keep hb5; exact h1) (by rw [HF.out.ly]; omega) HF.out.oky (none_y HF.out (by omega))).mono ?_
      rintro e w6 ⟨⟨a9, c9, rfl⟩, hb6⟩
      have hB6 := below_later hB5 hb6
      go_wp2
      go_ret
      exact ⟨rfl, hB6⟩
    | succ G =>
      have hlt : (i : Int) < (N : Int) := by omega
      have hii : (0 : Int) ≤ (i : Int) := by omega
      have hiN : i < N := by omega
      have hi6 : (i : Int) ≤ 60 := by omega
      obtain ⟨g6, rfl, hg6, hg6'⟩ := OwnR.first HX.out (by rw [HF.out.lx]; omega)
      obtain ⟨g7, rfl, hg7, hg7'⟩ := OwnR.first HY.out (by rw [HF.out.ly]; omega)
      have hlt6 := HLt.out g6 rfl
      have hxa := rn_at (L := X) (i := i) (by rw [HF.out.lx]; exact hiN)
      have hya := rn_at (L := Y) (i := i) (by rw [HF.out.ly]; exact hiN)
      have X1 := HX.out.put HF.out.lx hxa 2 (by decide) (.bool o) { rn X i with o := o } rfl
      have Y1 := HY.out.other (a := ⟨g6, i * 4 + 2, none⟩) (.inl hlt6) (.bool o)
      have B1 := HB.out.setCell (p := ⟨g6, i * 4 + 2, none⟩) hg6 (.bool o)
      have X2 := X1.put (x := { rn X i with o := o }) (by rw [List.length_set]; exact HF.out.lx) (by rw [List.getElem?_set_self (by rw [HF.out.lx]; exact hiN)]) 3 (by decide) (.bool (!o)) { rn X i with o := o, k := !o } rfl
      have Y2 := Y1.other (a := ⟨g6, i * 4 + 3, none⟩) (.inl hlt6) (.bool (!o))
      have B2' := B1.setCell (p := ⟨g6, i * 4 + 3, none⟩) hg6 (.bool (!o))
      have hw8 : IntKind.u8.wrap (i : Int) = (i : Int) := by simp only [IntKind.wrap, IntKind.bits, IntKind.signed]; simp; omega
      have hu : (((UInt8.ofNat i).toNat : Nat) : Int) = (i : Int) := by rw [UInt8.toNat_ofNat']; omega
      have Y3 := Y2.put HF.out.ly hya 0 (by decide) (.int .u8 (i : Int)) { rn Y i with c := UInt8.ofNat i } (by unfold runE; rw [hu]; rfl)
      have X3 := X2.other (a := ⟨g7, i * 4 + 0, none⟩) (.inr (by intro e; simp [Value.ownBlock] at e; omega)) (.int .u8 (i : Int))
      have B3 := B2'.setCell (p := ⟨g7, i * 4 + 0, none⟩) (by show w.heap.size ≤ g7; omega) (.int .u8 (i : Int))
      have F1 := Lib.hid (HF.out.next hiN)
      have f6 := World.ownsRow.frozenAt (by have h1 := HX.out; unfold OwnR OwnG at h1; rw [HF.out.lx] at h1; exact h1) (i * 4 + 2)
      have f6' := World.ownsRow.frozenAt (by have h1 := X1; unfold OwnR OwnG at h1; rw [List.length_set, HF.out.lx] at h1; exact h1) (i * 4 + 3)
      have f7 := World.ownsRow.frozenAt (by have h1 := Y2; unfold OwnR OwnG at h1; rw [HF.out.ly] at h1; exact h1) (i * 4 + 0)
      have f7w := World.ownsRow.frozenAt (by have h1 := HY.out; unfold OwnR OwnG at h1; rw [HF.out.ly] at h1; exact h1) (i * 4)
      have k7w := (HY.out.cellsAt hya).1
      have k6 := (HX.out.cellsAt hxa).2.2.1
      have k6' := (X1.cellsAt (i := i) (x := { rn X i with o := o }) (by rw [List.getElem?_set_self (by rw [HF.out.lx]; exact hiN)])).2.2.2
      have k7 := (Y2.cellsAt hya).1
      rw [Nat.add_zero] at f7 Y3 X3 B3
      have HX3 := Lib.hid X3
      have HY3 := Lib.hid Y3
      have HB3 := Lib.hid B3
      clear X1 X2 X3 Y1 Y2 Y3 B1 B2' B3 hxa hya
      go_wp2
      go_roundg G
      case rel => exact ⟨i + 1, _, _, by omega, by go_num, F1, HX3, HY3, HB3⟩
      case measure => omega
end DelimNone
end Go.Proofs.YtbdcbeghiglfgaaDoor
