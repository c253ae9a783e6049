import Derived.Test.YtkiipaaaakhhfaaGreatDoorCRf2
import Derived.Test.YtkiipaaaakhhfaaGreatDoorCRf1
import Derived.Maps.OwnSet
import Derived.MapKept
import Derived.StringKeys
import Derived.Deep.CutBlock
section
namespace Go.Proofs.YtkiipaaaakhhfaaGreatDoor
open Go Go.RowKit Go.ChangeMaps
namespace Rf
open Lk Es
set_option maxRecDepth 100000
set_option linter.unusedVariables false
set_option linter.unusedSimpArgs false
theorem run_makeMapN {P : Program} {t k e : TypeId} (hu : P.underlying t = some (.map k e)) (q : IntKind) (n : Int) (w : World) : (Instr.makeMap t (some (.int q n))).run P w = .ok (.map (some w.heap.size)) (w.alloc (.map #[] 0)) := by
 simp [Instr.makeMap, run_underlying hu, asInt, asIntOf, Result.andThen]
abbrev DN := DataW Unit
theorem keyS : Go.Maps.Keyed Tryz.prog 9 := Go.Maps.string_keyed Tryz.underlying9
theorem key_string {s : ByteArray} (h : s.size ≤ 281474976710656) : keyOf Tryz.prog 9 (.string s) = some (.string s.data.toList) := WideMaps.keyOf_string_mk Tryz.underlying9 (by unfold maxLen; omega)
theorem zeroU (W : World) : (zeroValue 83).run Tryz.prog W = .ok (.agg #[]) W := by kernel_rfl
def labIn (o : List Rb) (x : ByteArray) : Bool := o.any fun q => decide (q.lab = x)
structure HSet (w : World) (M n : Nat) (D : DN) (o : List Rb) : Prop where
 own : w.ownsMap Tryz.prog 9 (unitElem (H := Unit)) M n D
 has : ∀ x : ByteArray, Maps.has D (.string x.data.toList) = labIn o x
theorem HSet.made (w : World) : HSet (w.alloc (.map #[] 0)) w.heap.size 0 (.map []) [] := ⟨World.ownsMap_made w _ _ _, fun x => rfl⟩
theorem HSet.kept {w w' : World} {M n : Nat} {D : DN} {o : List Rb} {row : Option Nat} (h : HSet w M n D o) (hg : w.grownBy w' row) (hne : some M ≠ row) : HSet w' M n D o := ⟨h.own.kept hg hne, h.has⟩
theorem HSet.alloc {w : World} {M n : Nat} {D : DN} {o : List Rb} (h : HSet w M n D o) (ob : Obj) : HSet (w.alloc ob) M n D o := ⟨h.own.alloc ob, h.has⟩
theorem HSet.below {w w' : World} {M n : Nat} {D : DN} {o : List Rb} (h : HSet w M n D o) (hb : Below w.heap.size w w') : HSet w' M n D o := by
 have hlt := h.own.lt
 obtain ⟨⟨es, clock, h1, rest⟩, h2⟩ := h
 exact ⟨⟨es, clock, (hb.block M hlt).trans h1, rest⟩, h2⟩
theorem HSet.put {w w' : World} {M n n' : Nat} {D : DN} {o : List Rb} (h : HSet w M n D o) {c : Rb}
  (ho : w'.ownsMap Tryz.prog 9 (unitElem (H := Unit)) M n' (D.put (.string c.lab.data.toList) (.agg []))) : HSet w' M n' (D.put (.string c.lab.data.toList) (.agg [])) (o ++ [c]) := by
 have hm := h.own.isMap
 refine ⟨ho, fun x => ?_⟩
 unfold labIn
 rw [List.any_append]
 by_cases e : c.lab = x
 ·subst e
  rw [Maps.has_put_same hm (show WideAt.IsKeyLit (.string _) from by simp [WideAt.IsKeyLit])]
  simp
 ·rw [Maps.has_put_other (fun e2 => e (by injection e2 with e2; exact bytes_ext e2.symm)), h.has]
  simp [labIn, e]
theorem row_ne_map {w : World} {base : Nat} {e : TypeId} {size n : Nat} {v : Value} {xs : List Value} {M m : Nat} {D : DN} {o : List Rb}
  (h : w.ownsRow base e size v n xs) (hm : HSet w M m D o) : some M ≠ v.ownBlock := by
 intro e1
 rcases h.2 with ⟨rfl, _⟩ | ⟨g, cap, cur, rfl, _, hc, _⟩
 ·cases e1
 ·have : g = M := by simpa [Value.ownBlock] using e1.symm
  subst this
  obtain ⟨es, clock, hb, _⟩ := hm.own
  rw [hc] at hb
  cases hb
structure Two (w : World) (W : World) (M n : Nat) (v : Value) (o : List Rb) : Prop where
 row : Own W w.heap.size v o
 set : ∃ D, HSet W M n D o
 low : Below w.heap.size w W
theorem Two.below {w W W' : World} {M n : Nat} {v : Value} {o : List Rb} (h : Two w W M n v o) (hb : Below W.heap.size W W') : Two w W' M n v o := by
 obtain ⟨h1, ⟨D, h2⟩, h3⟩ := h
 exact ⟨h1.keep hb, ⟨D, h2.below hb⟩, below_later h3 hb⟩
theorem Two.grown {w W W' : World} {M n m : Nat} {v v' : Value} {o : List Rb} {c : Rb} {ob : Obj} (h : Two w W M n v o) (hm : o.length = m)
  (hown' : W'.ownsRow w.heap.size 75 3 v' (m + 1) (rowC o ++ (refC c).toList)) (hgrow : (W.alloc ob).grownBy W' v.ownBlock) :
  Own W' w.heap.size v' (o ++ [c]) ∧ (∃ D, HSet W' M n D o) ∧ Below w.heap.size w W' := by
 subst hm
 obtain ⟨h1, ⟨D, h2⟩, h3⟩ := h
 obtain ⟨h4, h5⟩ := Own.more (Nat.le_refl _) h1 h3 hown' hgrow
 refine ⟨h4, ⟨D, (h2.alloc ob).kept hgrow ?_⟩, h5⟩
 exact row_ne_map h1 h2
theorem Two.put {w W W' : World} {M n : Nat} {D : DN} {v : Value} {o : List Rb} {c : Rb} (h1 : Own W w.heap.size v (o ++ [c])) (h2 : HSet W M n D o) (h3 : Below w.heap.size w W) (hM : w.heap.size ≤ M)
  (ho : W'.ownsMap Tryz.prog 9 (unitElem (H := Unit)) M (n + 1) (D.put (.string c.lab.data.toList) (.agg []))) (hg : W.grownBy W' (some M)) : Two w W' M (n + 1) v (o ++ [c]) := by
 refine ⟨?_, ⟨_, h2.put ho⟩, h3.grown hg h3.size (fun k e => by cases e; exact hM)⟩
 have hne := row_ne_map h1 h2
 unfold Own at h1 ⊢
 exact h1.kept hg (.inr hne.symm)
theorem own_lt {W : World} {B : Nat} {v : Value} {o : List Rb} (h : Own W B v o) : ∀ k, v.ownBlock = some k → k < W.heap.size := fun k hk => by
 unfold Own at h
 exact (h.lt k hk).2
theorem Blk.grown {W W' : World} {N : Nat} {cs : Array Value} {t : TypeId} {v : Value} {ob : Obj} (h : Blk W N cs t) (hg : (W.alloc ob).grownBy W' v.ownBlock) (hne : ∀ k, v.ownBlock = some k → k < N) : Blk W' N cs t := by
 refine (hg.block N (h.alloc ob).lt ?_).trans (h.alloc ob)
 intro e
 have := hne N e.symm
 omega
set_option maxHeartbeats 16000000 in
theorem zadd_any (l m : List Rb) (v v' : Value) (w : World) (h : Refs w v l) (h' : Refs w v' m) (hl : l.length ≤ 1000000) (hm : m.length ≤ 1000000) (hzl : ∀ r ∈ l, RefZ r) (hzm : ∀ r ∈ m, RefZ r) :
  Calls Tryz.prog 27 #[v, v'] w fun e w' => ∃ u, e = .returned u ∧ Refs w' u (addB l m) ∧ Below w.heap.size w w' := by
 obtain ⟨i0, hi, hz0, hz1, hz2⟩ := info_parts refInfo
 have hmm := fun n w => run_makeMapN (P := Tryz.prog) Tryz.underlying81 .i64 n w
 obtain ⟨a', cap', rfl, _, hk'⟩ := h'
 obtain ⟨a, cap, rfl, _, hk⟩ := h
 have HM := Lib.hid hk'
 have HK := Lib.hid hk
 have HZl := Lib.hid hzl
 have HZm := Lib.hid hzm
 have HCl := Lib.hid (fun (c : Rb) (W : World) (hc : Room c) => zclone_any c hc W)
 unfold refV refC at HCl
 obtain ⟨nm, hn⟩ : ∃ n, m.length = n := ⟨_, rfl⟩
 rw [hn] at hm ⊢
 have HN := Lib.hid hn
 obtain ⟨nl, hll⟩ : ∃ ll, l.length = ll := ⟨_, rfl⟩
 rw [hll] at hl ⊢
 have HLL := Lib.hid hll
 have hnn := Lib.hid (show (nl : Int) + (nm : Int) = ((nl + nm : Nat) : Int) by omega)
 have hsum0 : (0 : Int) ≤ (nl : Int) + (nm : Int) := by omega
 have hsum : (nl : Int) + (nm : Int) ≤ 2000000 := by omega
 clear hk hk' hn hll hzl hzm
 go_enter Tryz.func27, Tryz.ntmps27
 go_wp2_with (at_make; refine wpList_make_own _ rfl _ _ 26 rfl w.heap.size 75 i0 (.agg (refC nilB)) 3 Tryz.underlying26 hi hz0 hz1 .i64 .i64 _ (nl + nm) rfl rfl hnn.out (by rw [hz2]; omega) (by unfold maxLen; omega) (Nat.le_refl _) ?_)
 intro w1 hown1 hgrow1
 have HO1 : Hid (Own w1 w.heap.size (.slice (some ⟨w.heap.size, 0, none⟩) 0 (nl + nm)) []) := Lib.hid hown1
 have HB1 : Hid (Below w.heap.size w w1) := Lib.hid ((Below.refl _ w).grown hgrow1 (Nat.le_refl _) (fun k e => by cases e))
 have HM1 : Hid (w.heap.size ≤ w1.heap.size) := Lib.hid HB1.out.size
 have HT0 : Hid (Two w (w1.alloc (.map #[] 0)) w1.heap.size 0 (.slice (some ⟨w.heap.size, 0, none⟩) 0 (nl + nm)) []) := Lib.hid ⟨HO1.out.keep ((Below.refl _ w1).alloc (Nat.le_refl _) _), ⟨_, HSet.made w1⟩, HB1.out.alloc HB1.out.size _⟩
 clear hown1 hgrow1 HO1 HB1
 obtain ⟨M, hM⟩ : ∃ M, w1.heap.size = M := ⟨_, rfl⟩
 rw [hM] at HM1 HT0
 go_wp2_with fail
 clear hM hmm
 go_loopg [5, 27] nl (fun G s5 s27 wr => ∃ i : Nat, i + G = nl ∧ s27 = .int .i64 (i : Int) ∧ Hid (Two w wr M i s5 (l.take i)))
 case atStart => exact ⟨0, by omega, rfl, HT0⟩
 case round =>
  obtain ⟨i, hig, rfl, HT⟩ := hrel
  clear HT0
  cases gk with
  | succ G =>
   have hlt : (i : Int) < (nl : Int) := by omega
   obtain ⟨c, hc⟩ : ∃ c, l[i]? = some c := ⟨_, List.getElem?_eq_getElem (by have := HLL.out; omega)⟩
   rcases HK.out with rfl | ⟨bb, off, rfl, hcell⟩
   ·simp at hc
   have q := ((hcell i c hc).keep (show Below w.heap.size w wr from HT.out.low))
   have q0 := q.c0
   have q1 := q.c1
   have q2 := q.c2
   have HRm := Lib.hid (HZl.out c (List.mem_of_getElem? hc)).room
   have hlen : (l.take i).length = i := by rw [List.length_take, HLL.out]; omega
   have htk : l.take (i + 1) = l.take i ++ [c] := by rw [List.take_add_one, hc]; rfl
   have HTk := Lib.hid htk
   have HLn := Lib.hid hlen
   have HLt := Lib.hid (own_lt HT.out.row)
   have KN : Hid (Blk (wr.alloc (.cells (refC c) 75)) wr.heap.size (refC c) 75) := Lib.hid (Blk.new _ _ _)
   have T1 : Hid (Two w (wr.alloc (.cells (refC c) 75)) M i _ (l.take i)) := Lib.hid (HT.out.below ((Below.refl _ wr).alloc (Nat.le_refl _) _))
   have d0 : (wr.alloc (.cells (refC c) 75)).cell? ⟨wr.heap.size, 0, none⟩ = some (.string c.lab) := KN.out.cell 0 rfl
   have d1 : (wr.alloc (.cells (refC c) 75)).cell? ⟨wr.heap.size, 1, none⟩ = some (.string c.dst) := KN.out.cell 1 rfl
   have d2 : (wr.alloc (.cells (refC c) 75)).cell? ⟨wr.heap.size, 2, none⟩ = some (.string c.tit) := KN.out.cell 2 rfl
   unfold refC at d0 d1 d2 KN T1
   clear hcell hc q htk hlen HT
   go_wp2_with fail
   refine (HCl.out c _ HRm.out).mono ?_
   rintro e w2 ⟨rfl, hb2⟩
   have T2 := Lib.hid (T1.out.below hb2)
   have KN2 := Lib.hid (KN.out.below hb2)
   obtain ⟨a5, c5, rfl⟩ := T2.out.row.form
   have HOn : Hid (w2.ownsRow w.heap.size 75 3 (.slice a5 i c5) i (rowC (l.take i))) := Lib.hid (by
    have h2 := T2.out.row
    unfold Own at h2
    rw [HLn.out] at h2; exact h2)
   rw [HLn.out] at T2 HLt ⊢
   have hw2 := T2.out.low.size
   clear hb2 T1 KN d0 d1 d2 q0 q1 q2
   go_wp2_with (at_builtin; refine wpList_append_own _ rfl _ _ 26 rfl w.heap.size 75 i0 (.agg (refC nilB)) 3 48 Tryz.underlying26 hi hz0 hz1 hz2 rfl (by decide) _ _ _ rfl (owns_keep HOn.out ((Below.refl _ _).alloc (Nat.le_refl _) _)) ⟨w2.heap.size, 0, none⟩ 1 1 (refC c).toList rfl rfl ?a1 ?a2 ?a3 ?a4 ?a5 ?_)
   case a1 =>
    intro j u hu
    first
     | (rw [add_off, Nat.zero_add, World.cell?_alloc_new]; simpa [refC] using hu)
     | (simpa [refC] using hu)
   case a2 => first | exact refC_one c | (intro u hu; exact refC_one c u (by simpa using hu))
   case a3 => unfold maxLen; omega
   case a4 => omega
   case a5 => first | (simp; omega) | omega
   intro v4 w4 hown' hgrow _
   obtain ⟨ho4, ⟨D, hs4⟩, hb4⟩ := T2.out.grown HLn.out hown' hgrow
   have KN4 := Lib.hid (KN2.out.grown hgrow HLt.out)
   have d0 := KN4.out.cell 0 rfl
   have HO4 := Lib.hid ho4
   have HS4 := Lib.hid hs4
   have HB4 := Lib.hid hb4
   have hkey := key_string (s := c.lab) HRm.out.1
   obtain ⟨a6, c6, e6⟩ := ho4.form
   have hl1 : (l.take i ++ [c]).length = i + 1 := by rw [List.length_append, HLn.out]; rfl
   rw [hl1] at e6
   subst e6
   clear hown' hgrow ho4 hs4 hb4 T2 KN2 HOn hl1
   go_wp2_with (at_mapUpdate; refine wpList_mapUpdate_own _ rfl _ _ _ 81 rfl 9 83 keyS Tryz.underlying81 (unitElem (H := Unit)) M i D rfl HS4.out.own (by unfold maxLen; omega) _ _ _ rfl rfl hkey (.agg []) [] unitElem_mk ?_)
   intro w5 hown5 hgrow5
   have HT5 : Hid (Two w w5 M (i + 1) (.slice a6 (i + 1) c6) (l.take (i + 1))) := Lib.hid (by rw [HTk.out]; exact Two.put HO4.out HS4.out HB4.out HM1.out hown5 hgrow5)
   clear hown5 hgrow5 HO4 HS4 HB4 d0 KN4
   go_wp2
   go_roundg G
   case rel => exact ⟨i + 1, by omega, by go_num, HT5⟩
   case measure => omega
  | zero =>
   have hlt : ¬ (i : Int) < (nl : Int) := by omega
   have hil : l.take i = l := List.take_of_length_le (by rw [HLL.out]; omega)
   rw [hil] at HT
   have hi9 : i ≤ 1000000 := by omega
   have HA0 : Hid (addB l m = addB l (m.drop 0)) := Lib.hid (by rw [List.drop_zero])
   clear hil
   go_wp2_with fail
   go_loopg [5, 43] nm (fun G s5 s43 wr2 => ∃ (j n : Nat) (o : List Rb), j + G = nm ∧ s43 = .int .i64 (j : Int) ∧ n ≤ 1000000 + j ∧ o.length ≤ 1000000 + j ∧ Hid (Two w wr2 M n s5 o) ∧ Hid (addB l m = addB o (m.drop j)))
   case atStart => exact ⟨0, i, l, by omega, rfl, by omega, by rw [HLL.out]; omega, HT, HA0⟩
   case round =>
    obtain ⟨j, n, o, hjg, rfl, hnj, hoj, HT2, HA⟩ := hrel
    clear HT HA0
    cases gk with
    | zero =>
     have hlt2 : ¬ (j : Int) < (nm : Int) := by omega
     have HV : Hid (addB l m = o) := Lib.hid (by rw [HA.out, List.drop_eq_nil_of_le (by rw [HN.out]; omega)]; rfl)
     obtain ⟨a5, c5, rfl⟩ := HT2.out.row.form
     go_wp2
     go_ret
     exact ⟨_, rfl, by rw [HV.out]; exact Refs.of_owns HT2.out.row, HT2.out.low⟩
    | succ G =>
     have hlt2 : (j : Int) < (nm : Int) := by omega
     obtain ⟨c, hc⟩ : ∃ c, m[j]? = some c := ⟨_, List.getElem?_eq_getElem (by have := HN.out; omega)⟩
     rcases HM.out with rfl | ⟨bb, off, rfl, hcell⟩
     ·simp at hc
     have q := ((hcell j c hc).keep (show Below w.heap.size w wr from HT2.out.low))
     have q0 := q.c0
     have q1 := q.c1
     have q2 := q.c2
     have HRm := Lib.hid (HZm.out c (List.mem_of_getElem? hc)).room
     have hdr : m.drop j = c :: m.drop (j + 1) := by
      obtain ⟨h1, h2⟩ := List.getElem?_eq_some_iff.1 hc
      rw [← h2]; exact List.drop_eq_getElem_cons h1
     have HA2 : Hid (addB l m = addB (if labIn o c.lab = true then o else o ++ [c]) (m.drop (j + 1))) := Lib.hid (by rw [HA.out, hdr, addB_cons]; rfl)
     obtain ⟨no, hno⟩ : ∃ no, o.length = no := ⟨_, rfl⟩
     have HNo := Lib.hid hno
     rw [hno] at hoj
     have HLt := Lib.hid (own_lt HT2.out.row)
     obtain ⟨D, hs⟩ := HT2.out.set
     have hhas := hs.has c.lab
     have HS1 := Lib.hid (hs.alloc (.cells (refC c) 75))
     have hkey := key_string (s := c.lab) HRm.out.1
     have KN : Hid (Blk (wr.alloc (.cells (refC c) 75)) wr.heap.size (refC c) 75) := Lib.hid (Blk.new _ _ _)
     have T1 : Hid (Two w (wr.alloc (.cells (refC c) 75)) M n _ o) := Lib.hid (HT2.out.below ((Below.refl _ wr).alloc (Nat.le_refl _) _))
     have d0 : (wr.alloc (.cells (refC c) 75)).cell? ⟨wr.heap.size, 0, none⟩ = some (.string c.lab) := KN.out.cell 0 rfl
     have d1 : (wr.alloc (.cells (refC c) 75)).cell? ⟨wr.heap.size, 1, none⟩ = some (.string c.dst) := KN.out.cell 1 rfl
     have d2 : (wr.alloc (.cells (refC c) 75)).cell? ⟨wr.heap.size, 2, none⟩ = some (.string c.tit) := KN.out.cell 2 rfl
     unfold refC at d0 d1 d2 KN T1 HS1
     obtain ⟨a5, c5, rfl⟩ := HT2.out.row.form
     clear hcell hc q hdr HT2 hno hs HA
     generalize labIn o c.lab = tw at *
     cases tw with
     | true =>
      rw [if_pos rfl] at HA2
      go_wp2_with (first
       | (at_lookup; refine wpList_lookup_own_unit _ rfl _ _ 81 rfl 9 83 keyS Tryz.underlying81 (zeroU _) M n D rfl HS1.out.own _ _ rfl hkey ?_))
      go_roundg G
      case rel => exact ⟨j + 1, n, o, by omega, by go_num, by omega, by rw [HNo.out]; omega, Lib.hid (T1.out.below ((Below.refl _ _).alloc (Nat.le_refl _) _)), HA2⟩
      case measure => omega
     | false =>
      rw [if_neg (by simp)] at HA2
      have KB := KN.out.alloc (.cells #[] 83)
      have e0 := KB.cell 0 rfl
      have e1 := KB.cell 1 rfl
      have e2 := KB.cell 2 rfl
      have T1' := Lib.hid (T1.out.below ((Below.refl _ _).alloc (Nat.le_refl _) (.cells #[] 83)))
      have KB := Lib.hid KB
      go_wp2_with (first
       | (at_lookup; refine wpList_lookup_own_unit _ rfl _ _ 81 rfl 9 83 keyS Tryz.underlying81 (zeroU _) M n D rfl HS1.out.own _ _ rfl hkey ?_))
      refine (HCl.out c _ HRm.out).mono ?_
      rintro e w2 ⟨rfl, hb2⟩
      have T2 := Lib.hid (T1'.out.below hb2)
      have KN2 := Lib.hid (KB.out.below hb2)
      have HOn : Hid (w2.ownsRow w.heap.size 75 3 (.slice a5 no c5) no (rowC o)) := Lib.hid (by
       have h2 := T2.out.row
       unfold Own at h2
       rw [HNo.out] at h2; exact h2)
      rw [HNo.out] at T2 HLt ⊢
      have hw2 := T2.out.low.size
      clear hb2 T1 T1' KN KB d0 d1 d2 e0 e1 e2 q0 q1 q2 HS1 hhas
      go_wp2_with (at_builtin; refine wpList_append_own _ rfl _ _ 26 rfl w.heap.size 75 i0 (.agg (refC nilB)) 3 48 Tryz.underlying26 hi hz0 hz1 hz2 rfl (by decide) _ _ _ rfl (owns_keep HOn.out ((Below.refl _ _).alloc (Nat.le_refl _) _)) ⟨w2.heap.size, 0, none⟩ 1 1 (refC c).toList rfl rfl ?a1 ?a2 ?a3 ?a4 ?a5 ?_)
      case a1 =>
       intro j u hu
       first
        | (rw [add_off, Nat.zero_add, World.cell?_alloc_new]; simpa [refC] using hu)
        | (simpa [refC] using hu)
      case a2 => first | exact refC_one c | (intro u hu; exact refC_one c u (by simpa using hu))
      case a3 => unfold maxLen; omega
      case a4 => omega
      case a5 => first | (simp; omega) | omega
      intro v4 w4 hown' hgrow _
      obtain ⟨ho4, ⟨D4, hs4⟩, hb4⟩ := T2.out.grown HNo.out hown' hgrow
      have KN4 := Lib.hid (KN2.out.grown hgrow HLt.out)
      have d0 := KN4.out.cell 0 rfl
      have HO4 := Lib.hid ho4
      have HS4 := Lib.hid hs4
      have HB4 := Lib.hid hb4
      obtain ⟨a6, c6, e6⟩ := ho4.form
      have hl1 : (o ++ [c]).length = no + 1 := by rw [List.length_append, HNo.out]; rfl
      rw [hl1] at e6
      subst e6
      have HL1 := Lib.hid hl1
      clear hown' hgrow ho4 hs4 hb4 T2 KN2 HOn hl1
      go_wp2_with (at_mapUpdate; refine wpList_mapUpdate_own _ rfl _ _ _ 81 rfl 9 83 keyS Tryz.underlying81 (unitElem (H := Unit)) M n D4 rfl HS4.out.own (by unfold maxLen; omega) _ _ _ rfl rfl hkey (.agg []) [] unitElem_mk ?_)
      intro w5 hown5 hgrow5
      have HT5 : Hid (Two w w5 M (n + 1) (.slice a6 (no + 1) c6) (o ++ [c])) := Lib.hid (Two.put HO4.out HS4.out HB4.out HM1.out hown5 hgrow5)
      clear hown5 hgrow5 HO4 HS4 HB4 d0 KN4
      go_wp2
      go_roundg G
      case rel => exact ⟨j + 1, n + 1, o ++ [c], by omega, by go_num, by omega, by rw [HL1.out]; omega, HT5, HA2⟩
      case measure => omega
end Rf
end Go.Proofs.YtkiipaaaakhhfaaGreatDoor
end
