import Derived.Test.YtkiipaaaakhhfaaGreatDoorCBkEa1
import Derived.Test.YtkiipaaaakhhfaaGreatDoorCBk4
import Derived.Laws.AppendOwn
import Derived.Deep.AppendLies
import Derived.Deep.Upon
import Derived.Test.YtkiipaaaakhhfaaGreatDoorCBk1
section
namespace Go.Proofs.YtkiipaaaakhhfaaGreatDoor
open Go Go.RowKit
namespace Bk
set_option maxRecDepth 100000
set_option linter.unusedVariables false
set_option linter.unusedSimpArgs false
theorem unblank_snoc (t : List Str) (x : Str) : unblank (t ++ [x]) = if blank x = true then unblank t else t ++ [x] := by
 unfold unblank
 rw [List.reverse_append, List.reverse_singleton, List.singleton_append, List.dropWhile_cons]
 split
 ·rfl
 ·rw [List.reverse_cons, List.reverse_reverse]
theorem RowW.sslTake {w : World} {lv : Value} {ls : List Str} {la : Option Addr} {n lc : Nat} (h : RowW w 9 lv (ls.map str)) (e : lv = .slice la n lc) {k : Nat} (hk : k ≤ ls.length) : SSl w (.slice la k lc) (ls.take k) := by
 subst e
 obtain ⟨la', lc', e, h1, h2⟩ := h.form
 injection e with e1 e2 e3
 subst e1 e3
 rw [List.length_map] at h1
 have hml : maxLen = 9223372036854775807 := rfl
 rw [hml] at h2
 refine ⟨la, lc, by rw [List.length_take, Nat.min_eq_left hk], by rw [List.length_take]; omega, fun hne => ?_⟩
 have hl : ls ≠ [] := fun e => by rw [e] at hne; simp at hne
 obtain ⟨g, cap, e4, -, -, hc⟩ := h.at (by simpa using hl)
 injection e4 with e4 _ _
 refine ⟨g, 0, e4, fun i hi => ?_⟩
 rw [Nat.zero_add]
 have hi2 : i < ls.length := by rw [List.length_take] at hi; omega
 refine hc i _ ?_
 rw [List.getElem?_map, List.getElem?_eq_getElem hi2]
 simp
section
variable {w0 w : World} {X : Scan Rf.Rb}
set_option maxHeartbeats 4000000 in
theorem fenced_raw {a k : Nat} (d : w.cell? ⟨a, 13, none⟩ = some (.int .i64 (k : Nat))) : Reads w 57 #[ptr a] (.bool (decide (0 < k))) := by
 unfold ptr Reads at *
 have e : decide ((k : Int) > 0) = decide (0 < k) := by rw [decide_eq_decide]; omega
 have e' : decide ((0 : Int) < (k : Int)) = decide (0 < k) := by rw [decide_eq_decide]; omega
 go_enter Tryz.func57, Tryz.ntmps57
 go_wp2
 go_ret
 exact ⟨by first | rfl | exact retB e | exact retB e', 0, rfl⟩
set_option maxHeartbeats 8000000 in
theorem codeLines_any (HL : Low w0 X) (hb : Below w0.heap.size w0 w) {a cnt : Nat} {ls : List Str} {lv : Value} (h10 : w.cell? ⟨a, 10, none⟩ = some lv) (h13 : w.cell? ⟨a, 13, none⟩ = some (.int .i64 (cnt : Nat))) (hr : RowW w 9 lv (ls.map str)) (hls : ∀ s ∈ ls, s.length ≤ 4000) (hn : ls.length ≤ 1000000) :
  Calls Tryz.prog 80 #[ptr a] w fun e w' => ∃ v, e = .returned v ∧ SSl w' v (if 0 < cnt then ls else unblank ls) ∧ Below w.heap.size w w' := by
 have HF := Lib.hid (fun W (hW : Below w.heap.size w W) => (fenced_raw (a := a) (k := cnt) (keep_cell hW h13)).at hW)
 obtain ⟨la, lc, hpv, h1, h2⟩ := hr.form
 have HR := Lib.hid hr
 have HSS := Lib.hid (fun k (hk : k ≤ ls.length) => hr.sslTake hpv hk)
 have HB := Lib.hid (fun W (hW : Below w.heap.size w W) (s : Str) (hs : s ∈ ls) => (HL.blank s (by have := hls s hs; omega)).at hb hW)
 rw [List.length_map] at hpv h1
 subst hpv
 obtain ⟨n, hnn⟩ : ∃ n, ls.length = n := ⟨_, rfl⟩
 have HN := Lib.hid hnn
 rw [hnn] at h1 hn HR h10 HSS
 unfold maxLen at h2
 have H10 := Lib.hid (fun W (hW : Below w.heap.size w W) => (keep_cell hW h10 : W.cell? ⟨a, 10, none⟩ = some (.slice la n lc)))
 by_cases hc : 0 < cnt
 ·rw [if_pos hc]
  rw [decide_eq_true hc] at HF
  clear hr hnn hls h13 hb HL hc HB
  unfold ptr at *
  go_enter Tryz.func80, Tryz.ntmps80
  go_wp2_with fail
  go_loopg [3] 0 (fun G s3 wr => s3 = .int .i64 (n : Int) ∧ Below w.heap.size w wr)
  case atStart => exact ⟨rfl, Below.refl _ _⟩
  case round =>
   obtain ⟨rfl, hb1⟩ := hrel
   go_wp2_with fail
   refine (HF.out _ hb1).mono ?_
   rintro e w2 ⟨rfl, hb2⟩
   have HB2 := Lib.hid hb2
   have c10 := H10.out _ hb2
   have s2 : (n : Int) ≤ (lc : Int) := by omega
   clear hb1 hb2
   go_wp2
   go_ret
   refine ⟨_, rfl, ?_, HB2.out⟩
   have := HSS.out n (Nat.le_refl _)
   rw [List.take_of_length_le (by rw [HN.out]; exact Nat.le_refl _)] at this
   exact SSl.keep this HB2.out
 ·rw [if_neg hc]
  rw [decide_eq_false hc] at HF
  obtain ⟨RES, hRES⟩ : ∃ r, unblank ls = r := ⟨_, rfl⟩
  have HRES := Lib.hid hRES
  rw [hRES]
  have HUN := Lib.hid (show ∀ k, n - k = 0 → k ≤ n → True from fun _ _ _ => trivial)
  clear hr hnn hls h13 hb HL hc hRES HUN
  unfold ptr str at *
  go_enter Tryz.func80, Tryz.ntmps80
  go_wp2_with fail
  go_loopg [3] n (fun G s3 wr => s3 = .int .i64 (G : Int) ∧ G ≤ n ∧ Hid (RES = unblank (ls.take G)) ∧ Below w.heap.size w wr)
  case atStart => exact ⟨rfl, Nat.le_refl _, Lib.hid (by rw [List.take_of_length_le (by rw [HN.out]; exact Nat.le_refl _), HRES.out]), Below.refl _ _⟩
  case round =>
   obtain ⟨rfl, hgn, HA, hb1⟩ := hrel
   cases gk with
   | zero =>
    go_wp2_with fail
    refine (HF.out _ hb1).mono ?_
    rintro e w2 ⟨rfl, hb2⟩
    have HB2 := Lib.hid hb2
    have c10 := H10.out _ hb2
    clear hb1 hb2
    go_wp2
    go_ret
    refine ⟨_, rfl, ?_, HB2.out⟩
    have := HSS.out 0 (Nat.zero_le _)
    rw [HA.out]
    exact SSl.keep this HB2.out
   | succ G =>
    have hl := HN.out
    have a1 : G < ls.length := by omega
    obtain ⟨g, cap, e1, -, -, hcc⟩ := HR.out.at (fun e => by rw [List.map_eq_nil_iff] at e; rw [e] at a1; exact absurd a1 (Nat.not_lt_zero _))
    injection e1 with e1 e2 e3
    clear e2 e3
    subst e1
    obtain ⟨x, hx⟩ : ∃ x, ls[G] = x := ⟨_, rfl⟩
    have hxm : x ∈ ls := by rw [← hx]; exact List.getElem_mem a1
    have kx := hcc G (str x) (by rw [List.getElem?_map, List.getElem?_eq_getElem a1, hx]; rfl)
    have htk : ls.take (G + 1) = ls.take G ++ [x] := by rw [List.take_add_one, List.getElem?_eq_getElem a1, hx]; rfl
    have hun : RES = if blank x = true then unblank (ls.take G) else ls.take (G + 1) := by rw [HA.out, htk, unblank_snoc]
    have HX := Lib.hid (fun W (hW : Below w.heap.size w W) => (keep_cell hW kx : W.cell? ⟨g, G, none⟩ = some (str x)))
    have HBX := Lib.hid (fun W (hW : Below w.heap.size w W) => HB.out W hW x hxm)
    obtain ⟨xq, hxq⟩ : ∃ q, blank x = q := ⟨_, rfl⟩
    rw [hxq] at HBX hun
    have HUN := Lib.hid hun
    clear hcc hx hxm kx htk hun hxq a1 hl
    unfold str at HX
    have s1 : IntKind.i64.wrap (((G + 1 : Nat) : Int) - 1) = (G : Int) := by rw [IntWalk.i64_in _ (by omega)]; omega
    obtain ⟨k, hk⟩ : ∃ k, G + 1 = k := ⟨_, rfl⟩
    have HK := Lib.hid hk
    rw [hk] at s1 hgn ⊢
    have s2 : (0 : Int) < (k : Int) := by omega
    have s2' : (k : Int) > 0 := s2
    have s3 : (G : Int) < (n : Int) := by omega
    have s4 : (k : Int) ≤ (lc : Int) := by omega
    have s5 : (0 : Int) ≤ (G : Int) := by omega
    have s6 : (0 : Int) ≤ (k : Int) := by omega
    clear hk
    go_wp2_with fail
    refine (HF.out _ hb1).mono ?_
    rintro e w2 ⟨rfl, hb2⟩
    have HB2 := Lib.hid hb2
    have c10 := H10.out _ hb2
    have kx := HX.out _ hb2
    clear hb1 hb2
    go_wp2_with fail
    refine (HBX.out _ HB2.out).mono ?_
    rintro e w3 ⟨rfl, hb3⟩
    have HB3 := Lib.hid hb3
    have c10' := H10.out _ hb3
    clear hb3 c10 kx
    cases xq with
    | true =>
     have HV : Hid (RES = unblank (ls.take G)) := Lib.hid HUN.out
     go_wp2
     go_roundg G
     case rel => exact ⟨rfl, by omega, HV, HB3.out⟩
     case measure => have := HK.out; omega
    | false =>
     have HV : Hid (RES = ls.take k) := Lib.hid (by rw [← HK.out]; exact HUN.out)
     go_wp2
     go_ret
     refine ⟨_, rfl, ?_, HB3.out⟩
     have := HSS.out k hgn
     rw [HV.out]
     exact SSl.keep this HB3.out
end
end Bk
end Go.Proofs.YtkiipaaaakhhfaaGreatDoor
end
section
namespace Go.Proofs.YtkiipaaaakhhfaaGreatDoor
open Go Go.RowKit
namespace Bk
set_option maxRecDepth 100000
set_option linter.unusedVariables false
set_option linter.unusedSimpArgs false
theorem refs_cells {w : World} {l : List Rf.Rb} {b off : Nat} (h : ∀ (i : Nat) (c : Rf.Rb), l[i]? = some c → Rf.CellsAt w b (off + i * 3) c) : ∀ (j : Nat) (u : Value), (Rf.rowC l)[j]? = some u → w.cell? ⟨b, off + j, none⟩ = some u := by
 intro j u hu
 have hj : j < l.length * 3 := by
  have := (List.getElem?_eq_some_iff.1 hu).1
  rw [Rf.rowC_len] at this
  exact this
 obtain ⟨i, r, e, hr⟩ : ∃ i r, j = i * 3 + r ∧ r < 3 := ⟨j / 3, j % 3, by omega, by omega⟩
 have hi : i < l.length := by omega
 obtain ⟨c, hc⟩ : ∃ c, l[i]? = some c := ⟨_, List.getElem?_eq_getElem hi⟩
 have hx := h i c hc
 subst e
 have key : ∀ v, (Rf.refC c)[r]? = some v → u = v := fun v hv => by
  have := Rf.rowC_get hc r v hv
  rw [hu] at this
  injection this
 rcases (by omega : r = 0 ∨ r = 1 ∨ r = 2) with rfl | rfl | rfl
 ·rw [key _ rfl]; exact hx.c0
 ·rw [key _ rfl, ← Nat.add_assoc]; exact hx.c1
 ·rw [key _ rfl, ← Nat.add_assoc]; exact hx.c2
theorem wpList_append_refs {w : World} {ops : Array Oper} {rest : List Oper} {o : Oper} {a : Act} {Q : Exit → Act → World → Prop} (hgd : o.guard = none) (s x : Operand)
  (ho : o.op = .call { callee := .builtin .append, args := #[s, x], argTypes := #[26, 26] }) (B : Nat) (u v : Value) (L l : List Rf.Rb) (hs : a.eval s = u) (hx : a.eval x = v)
  (hown : Rf.Own w B u L) (hl : Rf.Refs w v l) (hz : L.length + l.length ≤ 1000000) (hB : B ≤ w.heap.size)
  (h : ∀ u' w', Rf.Own w' B u' (L ++ l) → Only (fun k => some k = u.ownBlock) w w' → (∀ k, u'.ownBlock = some k → u.ownBlock = some k ∨ w.heap.size ≤ k) → wpList Tryz.prog ops Q rest (a.put o.dst u') w') : wpList Tryz.prog ops Q (o :: rest) a w := by
 obtain ⟨i0, hi, hz0, hz1, hz2⟩ := info_parts Rf.refInfo
 obtain ⟨ao, cap, rfl, hlm, hk⟩ := hl
 have nothing : l = [] → wpList Tryz.prog ops Q (o :: rest) a w := by
  intro hl0
  subst hl0
  have hu : ∃ g c, u = .slice g L.length c ∧ L.length ≤ c := by
   rcases hown.2 with ⟨rfl, e⟩ | ⟨g, c, cur, rfl, _, _, hle, _⟩
   ·exact ⟨none, 0, by rw [e], by rw [e]; exact Nat.le_refl 0⟩
   ·exact ⟨_, c, rfl, hle⟩
  obtain ⟨g, c, rfl, hle⟩ := hu
  have hund : Tryz.prog.underlying 26 = some (.slice 75) := Tryz.underlying26
  refine wpList_plain hgd fun K hK => ?_
  cases ao with
  | none =>
   have hr := run_append_nothing (P := Tryz.prog) w 26 26 o.type 75 i0 hund hi g L.length c hle _ (Src.ofNil (w := w) hund cap)
   unfold Oper.wp execOp
   simp only [ho, resolve, invoke, builtin, Sem.run_bind, Sem.run_pure, Result.andThen_ok, List.map_toArray, List.map_cons, List.map_nil, hs, hx, List.length_nil, hr]
   exact hK _ _ (h _ _ (by rw [List.append_nil]; exact hown) (Only.refl _ _) (fun k hk => .inl hk))
  | some ad =>
   have hr := run_append_nothing (P := Tryz.prog) w 26 26 o.type 75 i0 hund hi g L.length c hle _ (Src.ofSlice (w := w) hund ad 0 cap [] (by simp) (fun j u h => by simp at h) (fun u h => by cases h))
   unfold Oper.wp execOp
   simp only [ho, resolve, invoke, builtin, Sem.run_bind, Sem.run_pure, Result.andThen_ok, List.map_toArray, List.map_cons, List.map_nil, hs, hx, List.length_nil, hr]
   exact hK _ _ (h _ _ (by rw [List.append_nil]; exact hown) (Only.refl _ _) (fun k hk => .inl hk))
 cases ao with
 | none =>
  refine nothing ?_
  rcases hk with h0 | ⟨b, off, e, _⟩
  ·exact h0
  ·cases e
 | some ad =>
  rcases hk with h0 | ⟨b, off, e, hc⟩
  ·exact nothing h0
  ·injection e with e
   subst e
   by_cases hl0 : l = []
   ·exact nothing hl0
   refine wpList_append_lies w hgd s x 26 ho B 75 i0 (.agg (Rf.refC Rf.nilB)) 3 48 Tryz.underlying26 hi hz0 hz1 hz2 rfl (by decide) u L.length (Rf.rowC L) hs hown ⟨b, off, none⟩ l.length cap (Rf.rowC l) hx (Rf.rowC_len l) ?_ (Rf.rowC_one l) (List.length_pos_iff.2 hl0) (by unfold maxLen; omega) (by omega) hB w.heap.size rfl ?_
   ·intro j y hy
    rw [Rf.add_off]
    exact refs_cells hc j y hy
   ·intro g cp w' h1 h2 h3 _
    refine h _ w' ?_ (Only.of_grown h2) (fun k hk => ?_)
    ·unfold Rf.Own
     rw [List.length_append, Rf.rowC_append]
     exact h1
    ·have hk : some g = some k := hk
     injection hk with hk
     subst hk
     exact h3.imp id fun e => by rw [e]; exact Nat.le_refl _
section
variable {w0 w : World} {X : Scan Rf.Rb}
set_option maxHeartbeats 8000000 in
theorem define_any (HL : Low w0 X) (hw : Below w0.heap.size w0 w) {E B : Nat} {fv : Value} {R : List Rf.Rb} (hE : Hb w E #[fv] 61) (hf : Rf.Own w B fv R) (hB : B ≤ w.heap.size) (hEB : E < B) (s : Str) (hs : s.length ≤ 100000) (hR : R.length + (X.defs s).1.length ≤ 1000000) :
  Calls Tryz.prog 81 #[ptr E, str s] w fun e w' => e = .returned (str (X.defs s).2) ∧ ∃ fv', Hb w' E #[fv'] 61 ∧ Rf.Own w' B fv' (R ++ (X.defs s).1) ∧ Only (fun k => k = E ∨ some k = fv.ownBlock) w w' ∧ (∀ k, fv'.ownBlock = some k → fv.ownBlock = some k ∨ w.heap.size ≤ k) := by
 have HA := Lib.hid (HL.all s w hs hw)
 have HE := Lib.hid hE
 have HF := Lib.hid hf
 obtain ⟨fa, fc, hfv⟩ := Rf.owns_form hf
 have HBB := Lib.hid hB
 have HEB := Lib.hid hEB
 have HFV := Lib.hid hfv
 have HRL := Lib.hid hR
 obtain ⟨ds, hds⟩ : ∃ ds, X.defs s = ds := ⟨_, rfl⟩
 rw [hds] at HA HRL ⊢
 obtain ⟨d1, d2⟩ := ds
 dsimp only at HA HRL ⊢
 clear hE hf hB hEB hs hR hw HL hds hfv
 unfold ptr str at *
 go_enter Tryz.func81, Tryz.ntmps81
 go_wp2_with fail
 refine HA.out.mono ?_
 rintro e w1 ⟨v1, rfl, h1, hb1⟩
 have HD := Lib.hid h1
 obtain ⟨da, dc, hdv, -, -⟩ := h1
 have HDV := Lib.hid hdv
 have HB1 := Lib.hid hb1
 have c0 := (HE.out.below hb1).cell 0 rfl
 have ff := (HE.out.below hb1).fr 0
 rw [HFV.out] at c0
 rw [hdv]
 clear hdv hb1
 have HOW := Lib.hid (Rf.owns_keep HF.out HB1.out)
 rw [HFV.out] at HOW
 have hz : R.length + d1.length ≤ 1000000 := HRL.out
 have hB1 : B ≤ w1.heap.size := Nat.le_trans HBB.out HB1.out.size
 have HD2 := HD.out
 rw [HDV.out] at HD2
 have HD3 := Lib.hid HD2
 have HZ := Lib.hid hz
 have HB2 := Lib.hid hB1
 clear HD2 hz hB1
 have HEK : Hid (∀ w2, Only (fun k => some k = (Value.slice fa R.length fc).ownBlock) w1 w2 → Hb w2 E #[fv] 61) := Lib.hid (fun w2 h2 => by
  have h1 := HE.out.below HB1.out
  refine h1.keep (h2.block E h1.lt (fun e => ?_))
  have h3 := (HOW.out.lt E e.symm).1
  have := HEB.out
  omega)
 go_wp2_with (at_builtin; refine wpList_append_refs rfl _ _ rfl B _ _ R d1 rfl rfl HOW.out HD3.out HZ.out HB2.out ?_; intro u' w2 ho2 hw2 hk2; obtain ⟨ua, uc, rfl⟩ := Rf.owns_form ho2; have HK2 := Lib.hid hk2; have ff2 := (HEK.out _ hw2).fr 0; have cc2 := (HEK.out _ hw2).cell 0 rfl; have HO2 := Lib.hid ho2; have HW2 := Lib.hid hw2; clear ho2 hw2 hk2)
 go_ret
 have hE2 := HEK.out _ HW2.out
 have hb2 : B ≤ w2.heap.size := Nat.le_trans HB2.out HW2.out.size
 refine ⟨rfl, _, hE2.set 0 _ rfl, ?_, ?_, fun k hk => ?_⟩
 ·have ho := HO2.out
  unfold Rf.Own at ho ⊢
  rw [List.length_append] at ho ⊢
  refine Rf.owns_block ho fun k hk => Below.heap_setCell _ _ _ _ (fun e => ?_)
  have h3 := (ho.lt k hk).1
  have := HEB.out
  rw [e] at h3
  have h3 : B ≤ E := h3
  omega
 ·refine Only.setCell ?_ (Or.inl rfl) _
  refine (Only.of_below HB1.out).trans (HW2.out.mono fun i _ hi => Or.inr ?_)
  rw [HFV.out]
  exact hi
 ·rw [HFV.out]
  exact (HK2.out k (by rw [List.length_append]; exact hk)).imp id fun e => Nat.le_trans HB1.out.size e
end
end Bk
end Go.Proofs.YtkiipaaaakhhfaaGreatDoor
end
section
namespace Go.Proofs.YtkiipaaaakhhfaaGreatDoor
namespace Bk
set_option maxRecDepth 100000
set_option linter.unusedVariables false
set_option linter.unusedSimpArgs false
mutual
def zI : B → Int
 | .mk k s t n m fen stx ls a z kids => zK kids (zOf k ls z)
def zK : List B → Int → Int
 | [] => fun acc => acc
 | b :: l => fun acc => zK l (max acc (zI b))
end
theorem zI_mk (k : Nat) (s t : Str) (n m : Nat) (fen stx : Bool) (ls : List Str) (a z : Nat) (kids : List B) : zI (.mk k s t n m fen stx ls a z kids) = zK kids (zOf k ls z) := by rw [zI]
theorem zK_nil (acc : Int) : zK [] acc = acc := by rw [zK]
theorem zK_cons (b : B) (l : List B) (acc : Int) : zK (b :: l) acc = zK l (max acc (zI b)) := by rw [zK]
theorem zK_max : ∀ (l : List B) (x y : Int), zK l (max x y) = max x (zK l y)
 | [], x, y => by rw [zK_nil, zK_nil]
 | b :: l, x, y => by
  rw [zK_cons, zK_cons, show max (max x y) (zI b) = max x (max y (zI b)) by omega]
  exact zK_max l x _
theorem zK_snoc (l : List B) (b : B) (acc : Int) : zK (l ++ [b]) acc = max (zK l acc) (zI b) := by
 induction l generalizing acc with
 | nil => rw [List.nil_append, zK_cons, zK_nil, zK_nil]
 | cons c l ih => rw [List.cons_append, zK_cons, zK_cons, ih]
theorem white_k {k : Nat} {ls : List Str} (h : white k ls = true) : k = 7 := by
 unfold white at h
 rw [Bool.and_eq_true, beq_iff_eq] at h
 exact h.1
mutual
theorem zB_zI : ∀ {b : B} {a n p : Nat}, wOne b a n p → ∀ acc : Nat, (zB b acc : Int) = max (acc : Int) (zI b) ∧ -1 ≤ zI b ∧ zI b < n
 | .mk k s t m1 m2 f x ls a0 z kids, a, n, p, h, acc => by
  rw [wOne_mk] at h
  obtain ⟨h1, h2, h3, h4, h5, h6⟩ := h
  rw [zB_mk, zI_mk]
  unfold zOf
  by_cases hw : white k ls = true
  ·have hk := white_k hw
   have hkids : kids = [] := by
    rcases h5 with h5 | h5
    ·unfold okc at h5; omega
    ·exact h5.2.2.2
   subst hkids
   rw [if_pos hw, if_pos hw, zK_nil]
   omega
  ·rw [if_neg hw, if_neg hw]
   obtain ⟨e1, e2⟩ := zL_zK h6 (max acc z)
   obtain ⟨e3, e4⟩ := zL_zK h6 z
   have e5 : ((max acc z : Nat) : Int) = max (acc : Int) (z : Int) := by omega
   have hm := zK_max kids (acc : Int) (z : Int)
   rw [← e5] at hm
   have e6 := e4 (by omega)
   refine ⟨by rw [e1, hm], ?_, ?_⟩
   ·rw [← e3]; omega
   ·rw [← e3]; omega
theorem zL_zK : ∀ {l : List B} {a n p : Nat}, wAll l a n p → ∀ acc : Nat, (zL l acc : Int) = zK l (acc : Int) ∧ (acc < n → zL l acc < n)
 | [], a, n, p, h, acc => by
  rw [zL_nil, zK_nil]
  exact ⟨rfl, fun h => h⟩
 | b :: l, a, n, p, h, acc => by
  rw [wAll_cons] at h
  obtain ⟨h1, h2⟩ := h
  obtain ⟨e1, e2, e3⟩ := zB_zI h1 acc
  obtain ⟨e4, e5⟩ := zL_zK h2 (zB b acc)
  rw [zL_cons, zK_cons, ← e1]
  exact ⟨e4, fun hh => e5 (by omega)⟩
end
theorem apart_gap : ∀ {l : List B} {a n p : Nat}, wAll l a n p → apart l = gapI (l.map fun b => (b.a, zI b))
 | [], a, n, p, h => rfl
 | [b], a, n, p, h => rfl
 | x :: y :: l, a, n, p, h => by
  rw [wAll_cons] at h
  obtain ⟨h1, h2⟩ := h
  obtain ⟨e1, e2, e3⟩ := zB_zI h1 x.a
  show (decide (zB x x.a + 1 < y.a) || apart (y :: l)) = (decide (max (x.a : Int) (zI x) + 1 < (y.a : Int)) || gapI ((y :: l).map fun b => (b.a, zI b)))
  rw [apart_gap h2, ← e1]
  congr 1
  rw [decide_eq_decide]
  omega
end Bk
end Go.Proofs.YtkiipaaaakhhfaaGreatDoor
end
