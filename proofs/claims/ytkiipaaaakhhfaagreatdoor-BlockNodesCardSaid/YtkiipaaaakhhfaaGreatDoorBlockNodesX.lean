import Derived.Test.YtkiipaaaakhhfaaGreatDoorCBk1
import Derived.Test.YtkiipaaaakhhfaaGreatDoorProg
import Derived.WalkKit
import Derived.BigCall
import Derived.BigQuiet
import Derived.Below
import Derived.WideShapes
import Derived.Deep.LoopGhost
import Derived.OwnWalk
import Derived.Lib.Hide
import Derived.RegionTactic
import Derived.Laws.ResultCell
import Derived.Laws.Rows
import Derived.Test.YtkiipaaaakhhfaaGreatDoorCBk2
import Derived.Deep.Upon
import Derived.Maps.AppendAt
import Derived.Deep.QuietTactic
import Derived.Deep.CutBlock
import Derived.Test.YtkiipaaaakhhfaaGreatDoorCBkL1
import Derived.Deep.AppendLies
import Derived.Deep.DrawnRows
import Derived.Deep.RegionHeld3
import Derived.Test.YtkiipaaaakhhfaaGreatDoorCRf1
import Derived.Test.YtkiipaaaakhhfaaGreatDoorCKit1
import Derived.ChangeArms
import Derived.ChangeSlices
import Derived.SizedLaws
import Derived.Test.YtkiipaaaakhhfaaGreatDoorCBk13
import Derived.Test.YtkiipaaaakhhfaaGreatDoorCRf2
import Derived.SliceStrings
import Derived.Lib.LaidU8
import Derived.Test.YtkiipaaaakhhfaaGreatDoorCBk11
import Derived.Test.YtkiipaaaakhhfaaGreatDoorCCol1
import Derived.Test.YtkiipaaaakhhfaaGreatDoorCBk9
import Derived.Test.YtkiipaaaakhhfaaGreatDoorCBk3
import Derived.Test.YtkiipaaaakhhfaaGreatDoorCSc1
import Derived.Test.YtkiipaaaakhhfaaGreatDoorCBk8
section
namespace Go.Proofs.YtkiipaaaakhhfaaGreatDoor
open Go Go.RowKit
namespace Bk
set_option maxRecDepth 100000
set_option linter.unusedVariables false
set_option linter.unusedSimpArgs false
theorem cnt_len : ∀ l : List Blk, l.length ≤ cntK l
 | [] => Nat.zero_le _
 | b :: l => by rw [cntK_cons, cntB_eq, List.length_cons]; have := cnt_len l; omega
theorem cnt_mem : ∀ {l : List Blk} {b : Blk}, b ∈ l → cntK b.kids ≤ cntK l
 | x :: l, b, h => by
  rw [cntK_cons]
  rcases List.mem_cons.1 h with rfl | h
  ·rw [cntB_eq]; omega
  ·have := cnt_mem h; omega
end Bk
end Go.Proofs.YtkiipaaaakhhfaaGreatDoor
end
section
namespace Go.Proofs.YtkiipaaaakhhfaaGreatDoor
open Go Go.RowKit
namespace Bk
set_option maxRecDepth 100000
set_option linter.unusedVariables false
set_option linter.unusedSimpArgs false
set_option maxHeartbeats 4000000 in
theorem few_any (l : List Str) (v : Value) (w : World) (h : SSl w v l) :
  Calls Tryz.prog 12 #[v] w fun e w' => (e = .returned (.bool false) ∨ (e = .returned (.bool true) ∧ FewS l)) ∧ w = w' := by
 obtain ⟨a, cap, rfl, hlm, hk⟩ := h
 unfold maxLen at hlm
 have HK := Lib.hid hk
 clear hk
 obtain ⟨n, hn⟩ : ∃ n, l.length = n := ⟨_, rfl⟩
 rw [hn] at hlm ⊢
 have HN := Lib.hid hn
 clear hn
 by_cases h40 : (40 : Int) < (n : Int)
 ·go_enter Tryz.func12, Tryz.ntmps12
  go_wp2
  go_ret
  exact ⟨.inl rfl, rfl⟩
 go_enter Tryz.func12, Tryz.ntmps12
 go_wp2
 go_loopg [3] n (fun G s3 wr => ∃ i : Nat, i + G = n ∧ s3 = .int .i64 (i : Int) ∧ Hid (∀ j s, j < i → l[j]? = some s → s.length ≤ 80) ∧ w = wr)
 case atStart => exact ⟨0, by omega, rfl, Lib.hid (fun j s hj => by omega), rfl⟩
 case round =>
  obtain ⟨i, hig, rfl, HA, rfl⟩ := hrel
  cases gk with
  | zero =>
   have hlt : ¬ (i : Int) < (n : Int) := by omega
   have hin : i = n := by omega
   have HV : Hid (FewS l) := Lib.hid ⟨by rw [HN.out]; omega, fun s hs => by
    obtain ⟨j, hj⟩ := List.mem_iff_getElem?.1 hs
    have := (List.getElem?_eq_some_iff.1 hj).1
    exact HA.out j s (by rw [hin, ← HN.out]; exact this) hj⟩
   clear hin
   go_wp2
   go_ret
   exact ⟨.inr ⟨rfl, HV.out⟩, rfl⟩
  | succ G =>
   have hlt : (i : Int) < (n : Int) := by omega
   have hil : i < l.length := by have := HN.out; omega
   obtain ⟨s, hs⟩ : ∃ s, l[i] = s := ⟨_, rfl⟩
   have HS : Hid (l[i]? = some s) := Lib.hid (by rw [List.getElem?_eq_getElem hil, hs])
   obtain ⟨b, off, rfl, hcell⟩ := HK.out (fun e => by rw [e] at hil; exact absurd hil (Nat.not_lt_zero _))
   have q0 := hcell i hil
   rw [hs] at q0
   unfold str at q0
   obtain ⟨S, hS⟩ : ∃ S : ByteArray, ⟨s.toArray⟩ = S := ⟨_, rfl⟩
   have HZ : Hid (S.size = s.length) := Lib.hid (by rw [← hS]; rfl)
   rw [hS] at q0
   clear hcell hs hS hil
   by_cases hbig : (80 : Int) < (S.size : Int)
   ·go_wp2
    go_ret
    exact ⟨.inl rfl, rfl⟩
   ·have HA2 : Hid (∀ j r, j < i + 1 → l[j]? = some r → r.length ≤ 80) := Lib.hid (fun j r hj hr => by
     rcases Nat.lt_or_ge j i with h | h
     ·exact HA.out j r h hr
     ·have : j = i := by omega
      subst this
      have := HS.out
      rw [hr] at this
      injection this with this
      subst this
      have := HZ.out
      omega)
    go_wp2
    go_roundg G
    case rel => exact ⟨i + 1, by omega, by go_num, HA2, rfl⟩
    case measure => omega
end Bk
end Go.Proofs.YtkiipaaaakhhfaaGreatDoor
end
section
namespace Go.Proofs.YtkiipaaaakhhfaaGreatDoor
open Go Go.RowKit
namespace Bk
set_option maxRecDepth 100000
set_option linter.unusedVariables false
set_option linter.unusedSimpArgs false
def nilO : Ow := ⟨0, [], [], 0, 0, false, 0, 0⟩
theorem blkInfo : (Tryz.prog.info? 73).map (fun i => (i.zero, i.size, i.bytes)) = some (some (.agg (ar9 nilO (.slice none 0 0))), 9, 104) := by kernel_rfl
theorem cells9_one (o : Ow) (a : Option Addr) (n c : Nat) : ∀ u ∈ (ar9 o (.slice a n c)).toList, u.oneCell' = true := by
 intro u hu
 simp [ar9] at hu
 rcases hu with rfl | rfl | rfl | rfl | rfl | rfl | rfl | rfl | rfl <;> rfl
set_option maxHeartbeats 16000000 in
theorem theirs_blk (C : Nat → Prop) (b : Blk) : ∀ (w : World) (v : Value), InS w C b.kids v → cntK b.kids ≤ 1000000000 →
  Calls Tryz.prog 19 #[v] w fun e w' => ∃ u, e = .returned u ∧ InS w' (fun g => w.heap.size ≤ g) b.kids u ∧ Below w.heap.size w w' := by
 induction b using Blk.ind with
 | h k s t n m f a z kids ih =>
  intro w v hin hcnt
  have hin : InS w C kids v := hin
  have hcnt : cntK kids ≤ 1000000000 := hcnt
  show Calls _ _ _ _ fun e w' => ∃ u, e = .returned u ∧ InS w' (fun g => w.heap.size ≤ g) kids u ∧ Below w.heap.size w w'
  obtain ⟨iN, hi, hz0, hz1, hz2⟩ := info_parts blkInfo
  obtain ⟨a1, cap, rfl, hlm, hk⟩ := hin
  unfold maxLen at hlm
  have hlen := cnt_len kids
  have HK := Lib.hid hk
  have IH := Lib.hid ih
  have HCn := Lib.hid hcnt
  obtain ⟨N, hN⟩ : ∃ N, kids.length = N := ⟨_, rfl⟩
  rw [hN] at hlm hlen ⊢
  have hN9 : N ≤ 1000000000 := by omega
  have HN := Lib.hid hN
  clear hN hk ih hcnt hlen
  go_enter Tryz.func19, Tryz.ntmps19
  go_wp2
  go_loopg [3, 4] N (fun G s3 s4 wr => ∃ (i : Nat) (l : List (Blk × Value)), i + G = N ∧ s4 = .int .i64 (i : Int) ∧ Hid (l.map Prod.fst = kids.take i) ∧ l.length = i ∧ Hid (OwnT wr w.heap.size 73 s3 l) ∧ Below w.heap.size w wr)
  case atStart => exact ⟨0, [], by omega, rfl, Lib.hid rfl, rfl, Lib.hid (OwnT.nil _ _ _), Below.refl _ _⟩
  case round =>
   obtain ⟨i, l, hig, rfl, HM, hli, HO, hbw⟩ := hrel
   obtain ⟨a3, c3, e3⟩ := HO.out.form
   rw [hli] at e3
   subst e3
   have HLi := Lib.hid hli
   clear hli
   cases gk with
   | zero =>
    have hlt : ¬ (i : Int) < (N : Int) := by omega
    have HE : Hid (InS wr (fun g => w.heap.size ≤ g) kids (.slice a3 i c3)) := Lib.hid (by
     have h1 := HO.out.inS
     rw [HM.out, List.take_of_length_le (by rw [HN.out]; omega)] at h1
     exact h1)
    go_wp2
    go_ret
    exact ⟨_, rfl, HE.out, hbw⟩
   | succ G =>
    have hlt : (i : Int) < (N : Int) := by omega
    obtain ⟨c, hc⟩ : ∃ c, kids[i]? = some c := ⟨_, List.getElem?_eq_getElem (by have := HN.out; omega)⟩
    rcases HK.out with rfl | ⟨bb, off, rfl, _, hcell⟩
    ·simp at hc
    obtain ⟨L1, q, g1⟩ := hcell.get hc
    obtain ⟨c0, c1, c2, c3', c4, c5, c6, c7, c8⟩ := q.keep hbw
    have G1 := Lib.hid (g1.kids.keep hbw)
    have HTk : Hid (kids.take (i + 1) = kids.take i ++ [c]) := Lib.hid (by rw [List.take_add_one, hc]; rfl)
    have hcn : cntK c.kids ≤ 1000000000 := Nat.le_trans (cnt_mem (List.mem_of_getElem? hc)) HCn.out
    have HC := Lib.hid (fun W (hW : Below wr.heap.size wr W) => IH.out c (List.mem_of_getElem? hc) W L1 (G1.out.keep hW) hcn)
    obtain ⟨ao, cpo, e1, _⟩ := G1.out.form
    subst e1
    unfold str at c1 c2
    have HBw := Lib.hid hbw
    have hX := Box.new wr (ar9 c.ow (.slice ao c.kids.length cpo)) 41
    have HB2 : Hid (Below wr.heap.size wr (wr.alloc (.cells (ar9 c.ow (.slice ao c.kids.length cpo)) 41))) := Lib.hid ((Below.refl _ wr).alloc (Nat.le_refl _) _)
    obtain ⟨W2, hW2⟩ : ∃ W2, wr.alloc (.cells (ar9 c.ow (.slice ao c.kids.length cpo)) 41) = W2 := ⟨_, rfl⟩
    rw [hW2] at hX HB2
    have x0 := hX.cell 0 rfl
    have x1 := hX.cell 1 rfl
    have x2 := hX.cell 2 rfl
    have x3 := hX.cell 3 rfl
    have x4 := hX.cell 4 rfl
    have x5 := hX.cell 5 rfl
    have x6 := hX.cell 6 rfl
    have x7 := hX.cell 7 rfl
    have x8 := hX.cell 8 rfl
    have HW2 := Lib.hid hW2
    have HOw : Hid (c.ow = c.ow) := Lib.hid rfl
    have hsW : W2.heap.size = wr.heap.size + 1 := by rw [← hW2, World.size_alloc]
    have HBx := Lib.hid hX
    have hvb := HO.out.row.lt
    have HVB := Lib.hid hvb
    have HC2 := Lib.hid (HC.out W2.drew HB2.out.drew)
    obtain ⟨o, ho⟩ : ∃ o, c.ow = o := ⟨_, rfl⟩
    obtain ⟨kl, hkl⟩ : ∃ n, c.kids.length = n := ⟨_, rfl⟩
    rw [ho] at c0 c1 c2 c3' c4 c5 c6 c7 x0 x1 x2 x3 x4 x5 x6 x7 HW2 HBx
    rw [hkl] at c8 x8 HW2 HBx HC2
    have HO2 := Lib.hid ho
    have HS : Hid (∀ W, Box W wr.heap.size (ar9 o (.slice ao kl cpo)) 41 → W.cell? ⟨wr.heap.size, 0, none⟩ = some (.int .i64 (o.k : Int)) ∧ W.cell? ⟨wr.heap.size, 1, none⟩ = some (.string ⟨o.s.toArray⟩) ∧ W.cell? ⟨wr.heap.size, 2, none⟩ = some (.string ⟨o.t.toArray⟩) ∧ W.cell? ⟨wr.heap.size, 3, none⟩ = some (.int .i64 (o.n : Int)) ∧ W.cell? ⟨wr.heap.size, 4, none⟩ = some (.int .i64 (o.m : Int)) ∧ W.cell? ⟨wr.heap.size, 5, none⟩ = some (.bool o.f) ∧ W.cell? ⟨wr.heap.size, 6, none⟩ = some (.int .i64 (o.a : Int)) ∧ W.cell? ⟨wr.heap.size, 7, none⟩ = some (.int .i64 (o.z : Int)) ∧ W.cell? ⟨wr.heap.size, 8, none⟩ = some (.slice ao kl cpo)) := Lib.hid (fun W hW =>
     ⟨hW.cell 0 rfl, hW.cell 1 rfl, hW.cell 2 rfl, hW.cell 3 rfl, hW.cell 4 rfl, hW.cell 5 rfl, hW.cell 6 rfl, hW.cell 7 rfl, hW.cell 8 rfl⟩)
    have HKp : Hid (∀ W, Below (wr.heap.size + 1) W2 W → Box W wr.heap.size (ar9 o (.slice ao kl cpo)) 41) := Lib.hid (fun W hW => HBx.out.keep (by rw [hsW]; exact hW))
    have HNr : Hid ((Value.slice a3 i c3).ownBlock ≠ some wr.heap.size) := Lib.hid (fun e => absurd (HVB.out _ e).2 (Nat.lt_irrefl _))
    have HB3 : Hid (Below (wr.heap.size + 1) W2 W2.drew) := Lib.hid (Below.refl _ _).drew
    have HX3 : Hid (∀ W, Below W2.heap.size W2.drew W → Below (wr.heap.size + 1) W2 W) := Lib.hid (fun W h => HB3.out.trans (by rw [← hsW]; exact h))
    have HRow := Lib.hid (fun W (hW : Below wr.heap.size wr W) => owns_block HO.out.row fun k hk => hW.block k (HVB.out k hk).2)
    have HLc : Hid (l.length ≤ 1000000000) := Lib.hid (by rw [HLi.out]; omega)
    clear hcell hc q g1 G1 hX hbw IH hW2 hvb HC HOw ho hkl
    unfold ar9 at HW2
    go_wp2_with fail
    rw [HW2.out]
    go_region_held3 (fun W => W.cell? ⟨wr.heap.size, 0, none⟩ = some (.int .i64 (o.k : Int)) ∧ W.cell? ⟨wr.heap.size, 1, none⟩ = some (.string ⟨o.s.toArray⟩) ∧ W.cell? ⟨wr.heap.size, 2, none⟩ = some (.string ⟨o.t.toArray⟩) ∧ W.cell? ⟨wr.heap.size, 3, none⟩ = some (.int .i64 (o.n : Int)) ∧ W.cell? ⟨wr.heap.size, 4, none⟩ = some (.int .i64 (o.m : Int)) ∧ W.cell? ⟨wr.heap.size, 5, none⟩ = some (.bool o.f) ∧ W.cell? ⟨wr.heap.size, 6, none⟩ = some (.int .i64 (o.a : Int)) ∧ W.cell? ⟨wr.heap.size, 7, none⟩ = some (.int .i64 (o.z : Int)) ∧ W.cell? ⟨wr.heap.size, 8, none⟩ = some (.slice ao kl cpo))
     (first | exact HS.out _ HBx.out | exact HS.out _ (HKp.out _ HB3.out) | exact HS.out _ (by assumption) | exact HS.out _ (HKp.out _ (by assumption)))
     (first
      | (go_at_call 19; refine HC2.out.mono ?_; rintro e w3 ⟨u, rfl, hin3, hb3⟩; obtain ⟨a2, cp2, rfl, _⟩ := hin3.form; have hx3 := HX3.out _ hb3; have HIN := Lib.hid hin3; have HX4 := Lib.hid hx3; have hxA := HX4.out.alloc (by have := hx3.size; omega) (.cells (ar9 o (.slice a2 c.kids.length cp2)) 73); unfold ar9 at hxA)
      | (refine step_append_lies _ rfl (.tmp 16) (.tmp 37) 35 rfl w.heap.size 73 iN (.agg (ar9 nilO (.slice none 0 0))) 9 104 Tryz.underlying35 hi hz0 hz1 hz2 rfl (by decide) (.slice a3 i c3) l.length (rowC l) (by simp [Act.eval, Act.put]) (HRow.out _ (HB2.out.trans (hxA.mono (Nat.le_succ _)))) ⟨w3.heap.size, 0, none⟩ 1 1 (cells9 o (.slice a2 c.kids.length cp2)) (by simp [Act.eval, Act.put]) rfl (World.news_of_block (heap_alloc_new w3 _)) (cells9_one _ _ _ _) (by decide) (by have := HLc.out; unfold maxLen; omega) (by have := HLc.out; omega) (Nat.le_trans HBw.out.size (HB2.out.trans (hxA.mono (Nat.le_succ _))).size) _ rfl ?_; intro g' cap' w4 hown4 hgrow4 hat4 hlt4; have hb4 := (HKp.out _ hxA).grown hgrow4 HNr.out))
    all_goals
     have hw3 : Below wr.heap.size wr w3 := HB2.out.trans (HX4.out.mono (Nat.le_succ _))
     have hM := OwnT.more (w := w) (w1 := w3) (w2 := w4) (x := (c, .slice a2 c.kids.length cp2)) (Nat.le_refl _) (HO.out.keep hw3)
      (HIN.out.carry (fun b off v (h : W2.heap.size ≤ b) _ => ⟨fun e => by have := (HVB.out b e).2; omega, by have := HBw.out.size; omega⟩) fun _ _ _ _ h => h)
      (below_later HBw.out hw3) (by rw [show ((c, (.slice a2 c.kids.length cp2)) : Blk × Value).1.ow = o from HO2.out]; exact hown4) hgrow4
      (fun k e => by injection e with e; subst e; exact hat4.imp id (fun e => by show w3.heap.size ≤ g'; rw [e, World.size_alloc]; exact Nat.le_succ _))
     have HM2 := Lib.hid hM.1
     have HB4 := Lib.hid hM.2
     have HLL : Hid ((l ++ [(c, Value.slice a2 c.kids.length cp2)]).length = i + 1) := Lib.hid (by simp [HLi.out])
     clear hM hw3 hgrow4 hown4 hat4 hlt4 hb4 hxA hx3 hb3 hin3
     go_wp2
     go_roundg G
     case rel => exact ⟨i + 1, l ++ [(c, .slice a2 c.kids.length cp2)], by omega, rfl, Lib.hid (by rw [List.map_append, HM.out, HTk.out]; rfl), HLL.out, HM2, HB4.out⟩
     case measure => omega
end Bk
end Go.Proofs.YtkiipaaaakhhfaaGreatDoor
end
section
namespace Go.Proofs.YtkiipaaaakhhfaaGreatDoor
open Go Go.RowKit
namespace Bk
set_option maxRecDepth 100000
set_option linter.unusedVariables false
set_option linter.unusedSimpArgs false
theorem theirs_any (C : Nat → Prop) (l : List Blk) (w : World) (v : Value) (hi : InS w C l v) (h : cntK l ≤ 1000000000) :
  Calls Tryz.prog 19 #[v] w fun e w' => ∃ u, e = .returned u ∧ InS w' (fun g => w.heap.size ≤ g) l u ∧ Below w.heap.size w w' :=
 theirs_blk C (.mk 0 [] [] 0 0 false 0 0 l) w v hi h
end Bk
end Go.Proofs.YtkiipaaaakhhfaaGreatDoor
end
section
namespace Go.Proofs.YtkiipaaaakhhfaaGreatDoor
open Go Go.ChangeShapes Go.WideShapes Go.ChangeAt Go.ChangeMaps Go.RowKit
namespace Rf
set_option maxRecDepth 100000
set_option linter.unusedVariables false
set_option linter.unusedSimpArgs false
section
variable {H : Type} {enc : TypeId × Value → H} {W : World} {sp : Nat → Bool} {hd : Bool}
theorem len_of {s : ByteArray} {y : DataW H} (r : y = .lit (.string s.data.toList)) (hw : ∀ n ∈ y.weights Tryz.prog 9, n ≤ reachBytes) : s.size ≤ 140737488355328 := by
 have := hw s.data.toList.length (by rw [r]; simp [DataW.weights])
 unfold reachBytes at this
 rw [szR] at this
 omega
theorem open_str {v : Value} {d : DataW H} {ps : List MemPlace} {r : Reach} {b0 : Nat} (hval : Value.okWide Tryz.prog W r b0 9 v)
  (h : DataW.Trod enc Tryz.prog W 0 sp hd 9 v d ps) (hw : ∀ y ∈ d.weights Tryz.prog 9, y ≤ reachBytes) : ∃ s : ByteArray, v = .string s ∧ s.size ≤ 140737488355328 := by
 obtain ⟨s, h1, h2, _, _⟩ := open_string Tryz.underlying9 hval h
 exact ⟨s, h1, len_of h2 hw⟩
end
end Rf
end Go.Proofs.YtkiipaaaakhhfaaGreatDoor
end
section
namespace Go.Proofs.YtkiipaaaakhhfaaGreatDoor
open Go Go.ChangeShapes Go.WideShapes Go.ChangeAt Go.RowKit
namespace Bk
set_option maxRecDepth 100000
theorem open_texts {H : Type} {enc : TypeId × Value → H} {W : World} {v : Value} {d : DataW H} {ps : List MemPlace} {r : Reach} {b0 : Nat} (hval : Value.okWide Tryz.prog W r b0 22 v)
  (h : DataW.Trod enc Tryz.prog W 0 (fun _ => true) true 22 v d ps) : ∃ L : List Str, SSl W v L := by
 obtain ⟨a0, len, cap, rfl⟩ := okWide_slice Tryz.underlying22 hval
 obtain ⟨fuel, hf⟩ := h
 rcases open_strings Tryz.underlying22 Tryz.underlying9 (by kernel_rfl) hf with ⟨hcs, hx⟩ | ⟨a, len', cap', ss, hcs, _, hl, hm, hz, hx, hcell, hws⟩
 ·simp [Value.cells] at hcs
  obtain ⟨rfl, rfl, rfl⟩ := hcs
  exact ⟨[], none, 0, rfl, Nat.zero_le _, fun hne => absurd rfl hne⟩
 ·simp [Value.cells] at hcs
  obtain ⟨rfl, rfl, rfl⟩ := hcs
  simp only [if_true] at hz
  have hlen : ((ss.take len).map (fun s => s.data.toList)).length = len := by simp; omega
  refine ⟨(ss.take len).map (fun s => s.data.toList), some a, cap, by rw [hlen], by rw [hlen]; omega, fun hne => ?_⟩
  have hpos : 0 < len := by rw [← hlen]; exact List.length_pos_iff.2 hne
  obtain ⟨b, off, spot⟩ := a
  have hspot : spot = none := by simpa [Addr.add] using World.cell?_spot (hcell 0 (by omega))
  subst hspot
  refine ⟨b, off, rfl, fun i hi => ?_⟩
  have hi2 : i < len := by rw [hlen] at hi; exact hi
  have hc := hcell i (by omega)
  rw [add_off] at hc
  rw [hc, List.getD, List.getElem?_eq_getElem (by omega)]
  simp [str]
end Bk
end Go.Proofs.YtkiipaaaakhhfaaGreatDoor
end
section
namespace Go.Proofs.YtkiipaaaakhhfaaGreatDoor
open Go Go.RowKit
namespace Bk
set_option maxRecDepth 100000
set_option linter.unusedVariables false
set_option linter.unusedSimpArgs false
def cells7 (o : Ow) (L : Value) : List Value := [.int .i64 (o.k : Nat), str o.s, str o.t, .int .i64 (o.n : Nat), .int .i64 (o.m : Nat), .bool o.f, L]
structure Cells7 (w : World) (b off : Nat) (o : Ow) (L : Value) : Prop where
 c0 : w.cell? ⟨b, off, none⟩ = some (.int .i64 (o.k : Nat))
 c1 : w.cell? ⟨b, off + 1, none⟩ = some (str o.s)
 c2 : w.cell? ⟨b, off + 2, none⟩ = some (str o.t)
 c3 : w.cell? ⟨b, off + 3, none⟩ = some (.int .i64 (o.n : Nat))
 c4 : w.cell? ⟨b, off + 4, none⟩ = some (.int .i64 (o.m : Nat))
 c5 : w.cell? ⟨b, off + 5, none⟩ = some (.bool o.f)
 c6 : w.cell? ⟨b, off + 6, none⟩ = some L
theorem Cells7.carry {w w' : World} {b off : Nat} {o : Ow} {L : Value} (h : Cells7 w b off o L) (hc : ∀ off v, w.cell? ⟨b, off, none⟩ = some v → w'.cell? ⟨b, off, none⟩ = some v) : Cells7 w' b off o L :=
 ⟨hc _ _ h.c0, hc _ _ h.c1, hc _ _ h.c2, hc _ _ h.c3, hc _ _ h.c4, hc _ _ h.c5, hc _ _ h.c6⟩
theorem Cells7.keep {w w' : World} {b off : Nat} {o : Ow} {L : Value} (h : Cells7 w b off o L) (hb : Below w.heap.size w w') : Cells7 w' b off o L := h.carry fun off v hc => keep_cell hb hc
mutual
def JnB (w : World) (C : Nat → Prop) : Blk → Value → Prop
 | .mk _ _ _ _ _ _ _ _ kids, L => ∃ a cap, L = .slice a kids.length cap ∧ kids.length ≤ maxLen ∧ (kids = [] ∨ ∃ b off, a = some ⟨b, off, none⟩ ∧ C b ∧ JnK w C kids b off)
def JnK (w : World) (C : Nat → Prop) : List Blk → Nat → Nat → Prop
 | [], _, _ => True
 | t :: ts, b, off => (∃ L, Cells7 w b off t.ow L ∧ JnB w C t L) ∧ JnK w C ts b (off + 7)
end
def JnS (w : World) (C : Nat → Prop) (l : List Blk) (L : Value) : Prop := ∃ a cap, L = .slice a l.length cap ∧ l.length ≤ maxLen ∧ (l = [] ∨ ∃ b off, a = some ⟨b, off, none⟩ ∧ C b ∧ JnK w C l b off)
theorem JnB.kids {w : World} {C : Nat → Prop} {t : Blk} {L : Value} (h : JnB w C t L) : JnS w C t.kids L := by
 cases t
 rw [JnB] at h
 exact h
theorem JnB.of {w : World} {C : Nat → Prop} {t : Blk} {L : Value} (h : JnS w C t.kids L) : JnB w C t L := by
 cases t
 rw [JnB]
 exact h
theorem JnB.carry {w w' : World} {C C' : Nat → Prop} (hB : ∀ b off v, C b → w.cell? ⟨b, off, none⟩ = some v → C' b) (hc : ∀ b off v, C b → w.cell? ⟨b, off, none⟩ = some v → w'.cell? ⟨b, off, none⟩ = some v) (T : Blk) : ∀ {L}, JnB w C T L → JnB w' C' T L := by
 induction T using Blk.ind with
 | h k s t n m f a z kids ih =>
  intro L hin
  rw [JnB] at hin ⊢
  obtain ⟨a, cap, h1, h2, h4⟩ := hin
  refine ⟨a, cap, h1, h2, ?_⟩
  rcases h4 with e | ⟨b, off, h5, h6, h7⟩
  ·exact .inl e
  by_cases hk : kids = []
  ·exact .inl hk
  refine .inr ⟨b, off, h5, ?_, ?_⟩
  ·cases kids with
   | nil => exact absurd rfl hk
   | cons t ts => rw [JnK] at h7; obtain ⟨⟨L1, g1, _⟩, _⟩ := h7; exact hB _ _ _ h6 g1.c0
  clear h1 h2 h5 hk
  induction kids generalizing off with
  | nil => rw [JnK]; trivial
  | cons t ts ih2 =>
   rw [JnK] at h7 ⊢
   obtain ⟨⟨L1, g1, g2⟩, g3⟩ := h7
   exact ⟨⟨L1, g1.carry (fun o v => hc b o v h6), ih t (by simp) g2⟩, ih2 (fun t ht => ih t (by simp [ht])) _ g3⟩
theorem JnK.carry {w w' : World} {C C' : Nat → Prop} (hB : ∀ b off v, C b → w.cell? ⟨b, off, none⟩ = some v → C' b) (hc : ∀ b off v, C b → w.cell? ⟨b, off, none⟩ = some v → w'.cell? ⟨b, off, none⟩ = some v) {b : Nat} (hb : C b) : ∀ {l : List Blk} {off : Nat}, JnK w C l b off → JnK w' C' l b off
 | [], off, h => by rw [JnK]; trivial
 | t :: ts, off, h => by
  rw [JnK] at h ⊢
  obtain ⟨⟨L1, g1, g2⟩, g3⟩ := h
  exact ⟨⟨L1, g1.carry (fun o v => hc b o v hb), g2.carry hB hc⟩, JnK.carry hB hc hb g3⟩
theorem JnS.carry {w w' : World} {C C' : Nat → Prop} (hB : ∀ b off v, C b → w.cell? ⟨b, off, none⟩ = some v → C' b) (hc : ∀ b off v, C b → w.cell? ⟨b, off, none⟩ = some v → w'.cell? ⟨b, off, none⟩ = some v) {l : List Blk} {L : Value} (h : JnS w C l L) : JnS w' C' l L := by
 obtain ⟨a, cap, h1, h2, h3⟩ := h
 refine ⟨a, cap, h1, h2, ?_⟩
 rcases h3 with e | ⟨b, off, h5, h6, h7⟩
 ·exact .inl e
 cases l with
 | nil => exact .inl rfl
 | cons t ts =>
  have h8 := h7
  rw [JnK] at h8
  obtain ⟨⟨L1, g1, _⟩, _⟩ := h8
  exact .inr ⟨b, off, h5, hB _ _ _ h6 g1.c0, h7.carry hB hc h6⟩
theorem JnS.keep {w w' : World} {C : Nat → Prop} {l : List Blk} {L : Value} (h : JnS w C l L) (hb : Below w.heap.size w w') : JnS w' C l L := h.carry (fun _ _ _ h _ => h) fun b off v _ hc => keep_cell hb hc
theorem JnB.keep {w w' : World} {C : Nat → Prop} {t : Blk} {L : Value} (h : JnB w C t L) (hb : Below w.heap.size w w') : JnB w' C t L := h.carry (fun _ _ _ h _ => h) fun b off v _ hc => keep_cell hb hc
theorem JnK.get {w : World} {C : Nat → Prop} {b : Nat} : ∀ {l : List Blk} {off : Nat}, JnK w C l b off → ∀ {i : Nat} {t : Blk}, l[i]? = some t → ∃ L, Cells7 w b (off + i * 7) t.ow L ∧ JnB w C t L
 | [], off, h, i, t, e => by simp at e
 | u :: us, off, h, i, t, e => by
  rw [JnK] at h
  cases i with
  | zero => simp at e; subst e; simpa using h.1
  | succ i =>
   obtain ⟨L, h1, h2⟩ := JnK.get h.2 (i := i) (by simpa using e)
   refine ⟨L, ?_, h2⟩
   rw [show off + (i + 1) * 7 = off + 7 + i * 7 by omega]
   exact h1
theorem JnK.mk {w : World} {C : Nat → Prop} {b : Nat} : ∀ {l : List Blk} {off : Nat}, (∀ i t, l[i]? = some t → ∃ L, Cells7 w b (off + i * 7) t.ow L ∧ JnB w C t L) → JnK w C l b off
 | [], off, h => by rw [JnK]; trivial
 | u :: us, off, h => by
  rw [JnK]
  refine ⟨by simpa using h 0 u rfl, JnK.mk fun i t ht => ?_⟩
  obtain ⟨L, h1, h2⟩ := h (i + 1) t (by simpa using ht)
  refine ⟨L, ?_, h2⟩
  rw [show off + 7 + i * 7 = off + (i + 1) * 7 by omega]
  exact h1
theorem JnS.nil (w : World) (C : Nat → Prop) : JnS w C [] (.slice none 0 0) := ⟨none, 0, rfl, by decide, .inl rfl⟩
theorem JnS.form {w : World} {C : Nat → Prop} {l : List Blk} {L : Value} (h : JnS w C l L) : ∃ a cap, L = .slice a l.length cap ∧ l.length ≤ maxLen := by
 obtain ⟨a, cap, h1, h2, _⟩ := h; exact ⟨a, cap, h1, h2⟩
def rowN : List (Blk × Value) → List Value
 | [] => []
 | x :: r => cells7 x.1.ow x.2 ++ rowN r
theorem rowN_app : ∀ l m : List (Blk × Value), rowN (l ++ m) = rowN l ++ rowN m
 | [], m => rfl
 | x :: l, m => by rw [List.cons_append, rowN, rowN, rowN_app l m, List.append_assoc]
theorem rowN_get : ∀ {l : List (Blk × Value)} {i : Nat} {x : Blk × Value}, l[i]? = some x → ∀ j v, (cells7 x.1.ow x.2)[j]? = some v → (rowN l)[i * 7 + j]? = some v
 | [], i, x, e, _, _, _ => by simp at e
 | y :: r, 0, x, e, j, v, hj => by
  simp at e; subst e
  rw [Nat.zero_mul, Nat.zero_add, rowN, List.getElem?_append_left (List.getElem?_eq_some_iff.1 hj).1]
  exact hj
 | y :: r, i + 1, x, e, j, v, hj => by
  rw [rowN, List.getElem?_append_right (by simp [cells7]; omega)]
  rw [show (i + 1) * 7 + j - (cells7 y.1.ow y.2).length = i * 7 + j by simp [cells7]; omega]
  exact rowN_get (by simpa using e) j v hj
structure OwnN (w : World) (base : Nat) (t : TypeId) (v : Value) (l : List (Blk × Value)) : Prop where
 row : w.ownsRow base t 7 v l.length (rowN l)
 kids : ∀ x ∈ l, JnB w (NotOf v base) x.1 x.2
theorem OwnN.nil (w : World) (base : Nat) (t : TypeId) : OwnN w base t (.slice none 0 0) [] := ⟨World.ownsRow_nil _ _ _ _, fun x hx => by cases hx⟩
theorem OwnN.form {w : World} {base : Nat} {t : TypeId} {v : Value} {l : List (Blk × Value)} (h : OwnN w base t v l) : ∃ a c, v = .slice a l.length c := by
 rcases h.row.2 with ⟨rfl, e⟩ | ⟨g, cap, cur, rfl, _⟩
 ·exact ⟨none, 0, by rw [e]⟩
 ·exact ⟨_, _, rfl⟩
theorem OwnN.keep {w w' : World} {base : Nat} {t : TypeId} {v : Value} {l : List (Blk × Value)} (h : OwnN w base t v l) (hb : Below w.heap.size w w') : OwnN w' base t v l :=
 ⟨owns_block h.row fun k hk => hb.block k (h.row.lt k hk).2, fun x hx => (h.kids x hx).keep hb⟩
theorem OwnN.jnS {w : World} {base : Nat} {t : TypeId} {v : Value} {l : List (Blk × Value)} (h : OwnN w base t v l) : JnS w (fun b => base ≤ b) (l.map Prod.fst) v := by
 have hrow := h.row
 have hc := fun g => hrow.cells (g := g)
 rcases hrow.2 with ⟨rfl, h0⟩ | ⟨g, cap, cur, rfl, hgb, _, hle, hm, _⟩
 ·have : l = [] := List.length_eq_zero_iff.1 h0
  subst this
  exact JnS.nil w _
 ·refine ⟨some ⟨g, 0, none⟩, cap, by rw [List.length_map], by rw [List.length_map]; exact Nat.le_trans hle hm, .inr ⟨g, 0, rfl, hgb, JnK.mk fun i b hb => ?_⟩⟩
  rw [List.getElem?_map] at hb
  obtain ⟨x, hx, rfl⟩ := Option.map_eq_some_iff.1 hb
  have := fun j v hj => hc g rfl _ _ (rowN_get hx j v hj)
  refine ⟨x.2, ?_, (h.kids x (List.mem_of_getElem? hx)).carry (fun _ _ _ h _ => h.2) fun _ _ _ _ h => h⟩
  rw [Nat.zero_add]
  refine ⟨?_, ?_, ?_, ?_, ?_, ?_, ?_⟩
  ·have := this 0 _ rfl; rwa [add_off, Nat.zero_add, Nat.add_zero] at this
  all_goals first
   | (have := this 1 _ rfl; rwa [add_off, Nat.zero_add] at this; done)
   | (have := this 2 _ rfl; rwa [add_off, Nat.zero_add] at this; done)
   | (have := this 3 _ rfl; rwa [add_off, Nat.zero_add] at this; done)
   | (have := this 4 _ rfl; rwa [add_off, Nat.zero_add] at this; done)
   | (have := this 5 _ rfl; rwa [add_off, Nat.zero_add] at this; done)
   | (have := this 6 _ rfl; rwa [add_off, Nat.zero_add] at this; done)
theorem OwnN.more {w w1 w2 : World} {B : Nat} {t : TypeId} {l : List (Blk × Value)} {x : Blk × Value} {u v' : Value} {o : Obj} (hB : w.heap.size ≤ B) (hown : OwnN w1 B t u l) (hx : JnS w1 (NotOf u B) x.1.kids x.2) (hbw : Below w.heap.size w w1)
  (hown' : w2.ownsRow B t 7 v' (l.length + 1) (rowN l ++ cells7 x.1.ow x.2)) (hgrow : (w1.alloc o).grownBy w2 u.ownBlock) (hnew : ∀ k, v'.ownBlock = some k → u.ownBlock = some k ∨ w1.heap.size ≤ k) : OwnN w2 B t v' (l ++ [x]) ∧ Below w.heap.size w w2 := by
 have hsz := hbw.size
 refine ⟨⟨by rw [rowN_app]; simpa [rowN] using hown', fun y hy => ?_⟩, (hbw.alloc (by omega) _).grown hgrow (by simp; omega) (fun k hk => Nat.le_trans hB (hown.row.lt k hk).1)⟩
 have hy1 : JnB w1 (NotOf u B) y.1 y.2 := by
  rcases List.mem_append.1 hy with h | h
  ·exact hown.kids y h
  ·rw [List.mem_singleton.1 h]; exact JnB.of hx
 have hN : ∀ (b off : Nat) (v : Value), NotOf u B b → w1.cell? ⟨b, off, none⟩ = some v → NotOf v' B b := fun b off v hb hc => ⟨fun e => by
  rcases hnew b e with h | h
  ·exact hb.1 h
  ·have := World.block_lt_of_cell? w1 _ hc
   have : b < w1.heap.size := this
   omega, hb.2⟩
 refine hy1.carry hN (fun b off v hb hc => ?_)
 ·have hlt : b < w1.heap.size := World.block_lt_of_cell? w1 _ hc
  have h1 := keep_cell ((Below.refl _ w1).alloc (Nat.le_refl _) o) hc
  have h2 : w2.heap[b]? = (w1.alloc o).heap[b]? := hgrow.block b (by rw [World.size_alloc]; omega) (fun e => hb.1 e.symm)
  unfold World.cell? at h1 ⊢
  rw [h2]; exact h1
end Bk
end Go.Proofs.YtkiipaaaakhhfaaGreatDoor
end
section
namespace Go.Proofs.YtkiipaaaakhhfaaGreatDoor
open Go Go.RowKit
namespace Bk
set_option maxRecDepth 100000
set_option linter.unusedVariables false
set_option linter.unusedSimpArgs false
def ar7 (o : Ow) (L : Value) : Array Value := #[.int .i64 (o.k : Nat), .string ⟨o.s.toArray⟩, .string ⟨o.t.toArray⟩, .int .i64 (o.n : Nat), .int .i64 (o.m : Nat), .bool o.f, L]
theorem nodeInfo : (Tryz.prog.info? 71).map (fun i => (i.zero, i.size, i.bytes)) = some (some (.agg (ar7 nilO (.slice none 0 0))), 7, 88) := by kernel_rfl
theorem cells7_one (o : Ow) (a : Option Addr) (n c : Nat) : ∀ u ∈ (ar7 o (.slice a n c)).toList, u.oneCell' = true := by
 intro u hu
 simp [ar7] at hu
 rcases hu with rfl | rfl | rfl | rfl | rfl | rfl | rfl <;> rfl
set_option maxHeartbeats 16000000 in
theorem rnodes_blk (C : Nat → Prop) (b : Blk) : ∀ (w : World) (v : Value), InS w C b.kids v → cntK b.kids ≤ 1000000000 →
  Calls Tryz.prog 18 #[v] w fun e w' => ∃ u, e = .returned u ∧ JnS w' (fun g => w.heap.size ≤ g) b.kids u ∧ Below w.heap.size w w' := by
 induction b using Blk.ind with
 | h k s t n m f a z kids ih =>
  intro w v hin hcnt
  have hin : InS w C kids v := hin
  have hcnt : cntK kids ≤ 1000000000 := hcnt
  show Calls _ _ _ _ fun e w' => ∃ u, e = .returned u ∧ JnS w' (fun g => w.heap.size ≤ g) kids u ∧ Below w.heap.size w w'
  obtain ⟨iN, hi, hz0, hz1, hz2⟩ := info_parts nodeInfo
  obtain ⟨a1, cap, rfl, hlm, hk⟩ := hin
  unfold maxLen at hlm
  have hlen := cnt_len kids
  have HK := Lib.hid hk
  have IH := Lib.hid ih
  have HCn := Lib.hid hcnt
  obtain ⟨N, hN⟩ : ∃ N, kids.length = N := ⟨_, rfl⟩
  rw [hN] at hlm hlen ⊢
  have hN9 : N ≤ 1000000000 := by omega
  have HN := Lib.hid hN
  clear hN hk ih hcnt hlen
  go_enter Tryz.func18, Tryz.ntmps18
  go_wp2
  go_loopg [3, 4] N (fun G s3 s4 wr => ∃ (i : Nat) (l : List (Blk × Value)), i + G = N ∧ s4 = .int .i64 (i : Int) ∧ Hid (l.map Prod.fst = kids.take i) ∧ l.length = i ∧ Hid (OwnN wr w.heap.size 71 s3 l) ∧ Below w.heap.size w wr)
  case atStart => exact ⟨0, [], by omega, rfl, Lib.hid rfl, rfl, Lib.hid (OwnN.nil _ _ _), Below.refl _ _⟩
  case round =>
   obtain ⟨i, l, hig, rfl, HM, hli, HO, hbw⟩ := hrel
   obtain ⟨a3, c3, e3⟩ := HO.out.form
   rw [hli] at e3
   subst e3
   have HLi := Lib.hid hli
   clear hli
   cases gk with
   | zero =>
    have hlt : ¬ (i : Int) < (N : Int) := by omega
    have HE : Hid (JnS wr (fun g => w.heap.size ≤ g) kids (.slice a3 i c3)) := Lib.hid (by
     have h1 := HO.out.jnS
     rw [HM.out, List.take_of_length_le (by rw [HN.out]; omega)] at h1
     exact h1)
    go_wp2
    go_ret
    exact ⟨_, rfl, HE.out, hbw⟩
   | succ G =>
    have hlt : (i : Int) < (N : Int) := by omega
    obtain ⟨c, hc⟩ : ∃ c, kids[i]? = some c := ⟨_, List.getElem?_eq_getElem (by have := HN.out; omega)⟩
    rcases HK.out with rfl | ⟨bb, off, rfl, _, hcell⟩
    ·simp at hc
    obtain ⟨L1, q, g1⟩ := hcell.get hc
    obtain ⟨c0, c1, c2, c3', c4, c5, c6, c7, c8⟩ := q.keep hbw
    have G1 := Lib.hid (g1.kids.keep hbw)
    have HTk : Hid (kids.take (i + 1) = kids.take i ++ [c]) := Lib.hid (by rw [List.take_add_one, hc]; rfl)
    have hcn : cntK c.kids ≤ 1000000000 := Nat.le_trans (cnt_mem (List.mem_of_getElem? hc)) HCn.out
    have HC := Lib.hid (fun W (hW : Below wr.heap.size wr W) => IH.out c (List.mem_of_getElem? hc) W L1 (G1.out.keep hW) hcn)
    obtain ⟨ao, cpo, e1, _⟩ := G1.out.form
    subst e1
    unfold str at c1 c2
    have HBw := Lib.hid hbw
    have hX := Box.new wr (ar9 c.ow (.slice ao c.kids.length cpo)) 73
    have HB2 : Hid (Below wr.heap.size wr (wr.alloc (.cells (ar9 c.ow (.slice ao c.kids.length cpo)) 73))) := Lib.hid ((Below.refl _ wr).alloc (Nat.le_refl _) _)
    obtain ⟨W2, hW2⟩ : ∃ W2, wr.alloc (.cells (ar9 c.ow (.slice ao c.kids.length cpo)) 73) = W2 := ⟨_, rfl⟩
    rw [hW2] at hX HB2
    have x0 := hX.cell 0 rfl
    have x1 := hX.cell 1 rfl
    have x2 := hX.cell 2 rfl
    have x3 := hX.cell 3 rfl
    have x4 := hX.cell 4 rfl
    have x5 := hX.cell 5 rfl
    have x6 := hX.cell 6 rfl
    have x7 := hX.cell 7 rfl
    have x8 := hX.cell 8 rfl
    have HW2 := Lib.hid hW2
    have HOw : Hid (c.ow = c.ow) := Lib.hid rfl
    have hsW : W2.heap.size = wr.heap.size + 1 := by rw [← hW2, World.size_alloc]
    have HBx := Lib.hid hX
    have hvb := HO.out.row.lt
    have HVB := Lib.hid hvb
    have HC2 := Lib.hid (HC.out W2.drew HB2.out.drew)
    obtain ⟨o, ho⟩ : ∃ o, c.ow = o := ⟨_, rfl⟩
    obtain ⟨kl, hkl⟩ : ∃ n, c.kids.length = n := ⟨_, rfl⟩
    rw [ho] at c0 c1 c2 c3' c4 c5 c6 c7 x0 x1 x2 x3 x4 x5 x6 x7 HW2 HBx
    rw [hkl] at c8 x8 HW2 HBx HC2
    have HO2 := Lib.hid ho
    have HS : Hid (∀ W, Box W wr.heap.size (ar9 o (.slice ao kl cpo)) 73 → W.cell? ⟨wr.heap.size, 0, none⟩ = some (.int .i64 (o.k : Int)) ∧ W.cell? ⟨wr.heap.size, 1, none⟩ = some (.string ⟨o.s.toArray⟩) ∧ W.cell? ⟨wr.heap.size, 2, none⟩ = some (.string ⟨o.t.toArray⟩) ∧ W.cell? ⟨wr.heap.size, 3, none⟩ = some (.int .i64 (o.n : Int)) ∧ W.cell? ⟨wr.heap.size, 4, none⟩ = some (.int .i64 (o.m : Int)) ∧ W.cell? ⟨wr.heap.size, 5, none⟩ = some (.bool o.f) ∧ W.cell? ⟨wr.heap.size, 6, none⟩ = some (.int .i64 (o.a : Int)) ∧ W.cell? ⟨wr.heap.size, 7, none⟩ = some (.int .i64 (o.z : Int)) ∧ W.cell? ⟨wr.heap.size, 8, none⟩ = some (.slice ao kl cpo)) := Lib.hid (fun W hW =>
     ⟨hW.cell 0 rfl, hW.cell 1 rfl, hW.cell 2 rfl, hW.cell 3 rfl, hW.cell 4 rfl, hW.cell 5 rfl, hW.cell 6 rfl, hW.cell 7 rfl, hW.cell 8 rfl⟩)
    have HKp : Hid (∀ W, Below (wr.heap.size + 1) W2 W → Box W wr.heap.size (ar9 o (.slice ao kl cpo)) 73) := Lib.hid (fun W hW => HBx.out.keep (by rw [hsW]; exact hW))
    have HNr : Hid ((Value.slice a3 i c3).ownBlock ≠ some wr.heap.size) := Lib.hid (fun e => absurd (HVB.out _ e).2 (Nat.lt_irrefl _))
    have HB3 : Hid (Below (wr.heap.size + 1) W2 W2.drew) := Lib.hid (Below.refl _ _).drew
    have HX3 : Hid (∀ W, Below W2.heap.size W2.drew W → Below (wr.heap.size + 1) W2 W) := Lib.hid (fun W h => HB3.out.trans (by rw [← hsW]; exact h))
    have HRow := Lib.hid (fun W (hW : Below wr.heap.size wr W) => owns_block HO.out.row fun k hk => hW.block k (HVB.out k hk).2)
    have HLc : Hid (l.length ≤ 1000000000) := Lib.hid (by rw [HLi.out]; omega)
    clear hcell hc q g1 G1 hX hbw IH hW2 hvb HC HOw ho hkl
    unfold ar9 at HW2
    go_wp2_with fail
    rw [HW2.out]
    go_region_held3 (fun W => W.cell? ⟨wr.heap.size, 0, none⟩ = some (.int .i64 (o.k : Int)) ∧ W.cell? ⟨wr.heap.size, 1, none⟩ = some (.string ⟨o.s.toArray⟩) ∧ W.cell? ⟨wr.heap.size, 2, none⟩ = some (.string ⟨o.t.toArray⟩) ∧ W.cell? ⟨wr.heap.size, 3, none⟩ = some (.int .i64 (o.n : Int)) ∧ W.cell? ⟨wr.heap.size, 4, none⟩ = some (.int .i64 (o.m : Int)) ∧ W.cell? ⟨wr.heap.size, 5, none⟩ = some (.bool o.f) ∧ W.cell? ⟨wr.heap.size, 6, none⟩ = some (.int .i64 (o.a : Int)) ∧ W.cell? ⟨wr.heap.size, 7, none⟩ = some (.int .i64 (o.z : Int)) ∧ W.cell? ⟨wr.heap.size, 8, none⟩ = some (.slice ao kl cpo))
     (first | exact HS.out _ HBx.out | exact HS.out _ (HKp.out _ HB3.out) | exact HS.out _ (by assumption) | exact HS.out _ (HKp.out _ (by assumption)))
     (first
      | (go_at_call 18; refine HC2.out.mono ?_; rintro e w3 ⟨u, rfl, hin3, hb3⟩; obtain ⟨a2, cp2, rfl, _⟩ := hin3.form; have hx3 := HX3.out _ hb3; have HIN := Lib.hid hin3; have HX4 := Lib.hid hx3; have hxA := HX4.out.alloc (by have := hx3.size; omega) (.cells (ar7 o (.slice a2 c.kids.length cp2)) 71); unfold ar7 at hxA)
      | (refine step_append_lies _ rfl (.tmp 16) (.tmp 33) 32 rfl w.heap.size 71 iN (.agg (ar7 nilO (.slice none 0 0))) 7 88 Tryz.underlying32 hi hz0 hz1 hz2 rfl (by decide) (.slice a3 i c3) l.length (rowN l) (by simp [Act.eval, Act.put]) (HRow.out _ (HB2.out.trans (hxA.mono (Nat.le_succ _)))) ⟨w3.heap.size, 0, none⟩ 1 1 (cells7 o (.slice a2 c.kids.length cp2)) (by simp [Act.eval, Act.put]) rfl (World.news_of_block (heap_alloc_new w3 _)) (cells7_one _ _ _ _) (by decide) (by have := HLc.out; unfold maxLen; omega) (by have := HLc.out; omega) (Nat.le_trans HBw.out.size (HB2.out.trans (hxA.mono (Nat.le_succ _))).size) _ rfl ?_; intro g' cap' w4 hown4 hgrow4 hat4 hlt4; have hb4 := (HKp.out _ hxA).grown hgrow4 HNr.out))
    all_goals
     have hw3 : Below wr.heap.size wr w3 := HB2.out.trans (HX4.out.mono (Nat.le_succ _))
     have hM := OwnN.more (w := w) (w1 := w3) (w2 := w4) (x := (c, .slice a2 c.kids.length cp2)) (Nat.le_refl _) (HO.out.keep hw3)
      (HIN.out.carry (fun b off v (h : W2.heap.size ≤ b) _ => ⟨fun e => by have := (HVB.out b e).2; omega, by have := HBw.out.size; omega⟩) fun _ _ _ _ h => h)
      (below_later HBw.out hw3) (by rw [show ((c, (.slice a2 c.kids.length cp2)) : Blk × Value).1.ow = o from HO2.out]; exact hown4) hgrow4
      (fun k e => by injection e with e; subst e; exact hat4.imp id (fun e => by show w3.heap.size ≤ g'; rw [e, World.size_alloc]; exact Nat.le_succ _))
     have HM2 := Lib.hid hM.1
     have HB4 := Lib.hid hM.2
     have HLL : Hid ((l ++ [(c, Value.slice a2 c.kids.length cp2)]).length = i + 1) := Lib.hid (by simp [HLi.out])
     clear hM hw3 hgrow4 hown4 hat4 hlt4 hb4 hxA hx3 hb3 hin3
     go_wp2
     go_roundg G
     case rel => exact ⟨i + 1, l ++ [(c, .slice a2 c.kids.length cp2)], by omega, rfl, Lib.hid (by rw [List.map_append, HM.out, HTk.out]; rfl), HLL.out, HM2, HB4.out⟩
     case measure => omega
end Bk
end Go.Proofs.YtkiipaaaakhhfaaGreatDoor
end
section
namespace Go.Proofs.YtkiipaaaakhhfaaGreatDoor
namespace Bk
set_option maxRecDepth 100000
set_option linter.unusedVariables false
set_option linter.unusedSimpArgs false
mutual
def okB : B → Prop
 | .mk k s t n m fen stx ls a z kids => s.length ≤ 16000 ∧ t.length ≤ 16000 ∧ okL kids
def okL : List B → Prop
 | [] => True
 | b :: l => okB b ∧ okL l
end
theorem okB_mk (k : Nat) (s t : Str) (n m : Nat) (fen stx : Bool) (ls : List Str) (a z : Nat) (kids : List B) : okB (.mk k s t n m fen stx ls a z kids) = (s.length ≤ 16000 ∧ t.length ≤ 16000 ∧ okL kids) := by rw [okB]
theorem okL_nil : okL [] := by rw [okL]; trivial
theorem okL_cons (b : B) (l : List B) : okL (b :: l) = (okB b ∧ okL l) := by rw [okL]
theorem okL_one {b : B} (h : okB b) : okL [b] := by rw [okL_cons]; exact ⟨h, okL_nil⟩
theorem okL_app : ∀ {l m : List B}, okL l → okL m → okL (l ++ m)
 | [], m, _, h => h
 | b :: l, m, h, h2 => by
  rw [okL_cons] at h
  rw [List.cons_append, okL_cons]
  exact ⟨h.1, okL_app h.2 h2⟩
def okF (f : Fr) : Prop := f.s.length ≤ 16000 ∧ okL f.kids
def okFs (l : List Fr) : Prop := ∀ f ∈ l, okF f
def okO : Option Lf → Prop
 | none => True
 | some l => l.t.length ≤ 16000
def okN (L : Ln) : Prop := okFs L.ms ∧ okFs L.us ∧ okO L.leaf
theorem okFs.cons {f : Fr} {l : List Fr} (h : okF f) (h2 : okFs l) : okFs (f :: l) := fun g hg => by
 rcases List.mem_cons.1 hg with rfl | hg
 ·exact h
 ·exact h2 g hg
theorem okFs.hd {f : Fr} {l : List Fr} (h : okFs (f :: l)) : okF f := h f (by simp)
theorem okFs.tl {f : Fr} {l : List Fr} (h : okFs (f :: l)) : okFs l := fun g hg => h g (List.mem_cons_of_mem _ hg)
theorem okFs.nil : okFs [] := fun f hf => by cases hf
theorem okFs.app {l m : List Fr} (h : okFs l) (h2 : okFs m) : okFs (l ++ m) := fun f hf => (List.mem_append.1 hf).elim (h f) (h2 f)
theorem ok_frb {f : Fr} {bs : List B} (h : okF f) (h2 : okL bs) : okB (f.b bs) := by
 unfold Fr.b
 rw [okB_mk]
 exact ⟨h.1, Nat.zero_le _, okL_app h.2 h2⟩
theorem ok_shut : ∀ {fs : List Fr} {leaf : Option Lf}, okFs fs → okO leaf → okL (shut fs leaf)
 | [], none, _, _ => okL_nil
 | [], some l, _, h => by
  rw [shut]
  refine okL_one ?_
  unfold Lf.b
  rw [okB_mk]
  exact ⟨Nat.zero_le _, h, okL_nil⟩
 | f :: fs, leaf, h, h2 => by
  rw [shut]
  exact okL_one (ok_frb h.hd (ok_shut h.tl h2))
theorem ok_grow {f : Fr} {bs : List B} (h : okF f) (h2 : okL bs) : okF (grow bs f) := ⟨h.1, okL_app h.2 h2⟩
theorem ok_last {bs : List B} (h2 : okL bs) : ∀ {ms : List Fr}, okFs ms → okFs (onLast (grow bs) ms)
 | [], h => h
 | f :: fs, h => by
  rw [onLast_cons]
  split
  ·exact okFs.cons (ok_grow h.hd h2) okFs.nil
  ·exact okFs.cons h.hd (ok_last h2 h.tl)
theorem ok_pop : ∀ {l : List Fr}, okFs l → okFs (popList l)
 | [], h => h
 | [f], h => by rw [popList_one]; exact h
 | f :: g :: fs, h => by
  rw [popList_two]
  split
  ·exact okFs.cons (ok_grow h.hd (okL_one (ok_frb h.tl.hd okL_nil))) okFs.nil
  ·exact okFs.cons h.hd (ok_pop h.tl)
section
variable {i : Nat} {L : Ln}
theorem ok_all (h : okN L) : okFs (onLast (grow (Bk.shut L.us L.leaf)) L.ms) := ok_last (ok_shut h.2.1 h.2.2) h.1
theorem ok_close (h : okN L) : okN L.shut := ⟨ok_all h, okFs.nil, trivial⟩
theorem ok_place (h : okN L) (item : Bool) : okFs (L.place item) := by
 unfold Ln.place
 split
 ·exact ok_all h
 ·exact ok_pop (ok_all h)
theorem ok_contain (h : okN L) (f : Fr) (hf : f.s.length ≤ 16000) (item : Bool) : okN (L.contain i f item) :=
 ⟨(ok_place h item).app (okFs.cons ⟨hf, okL_nil⟩ okFs.nil), okFs.nil, trivial⟩
theorem ok_open (h : okN L) (l : Lf) (hl : l.t.length ≤ 16000) : okN (L.open i l) := ⟨ok_place h false, okFs.nil, hl⟩
theorem ok_lay (h : okN L) (b : Nat → B) (hb : okB (b i)) : okN (L.lay i b) := ⟨ok_last (okL_one hb) (ok_place h false), okFs.nil, trivial⟩
theorem ok_add (h : okN L) (s : Str) : okN (L.add i s) := by
 refine ⟨h.1, h.2.1, ?_⟩
 show okO (L.leaf.map (Lf.take i s))
 have := h.2.2
 cases hl : L.leaf with
 | none => trivial
 | some l =>
  rw [hl] at this
  show (Lf.take i s l).t.length ≤ 16000
  unfold Lf.take
  split <;> exact this
structure ScZ {ρ : Type} (X : Scan ρ) : Prop where
 atx : ∀ s : Str, s.length ≤ 800 → (X.atx s).2.length ≤ 4000
 fence : ∀ s : Str, s.length ≤ 800 → (X.une (X.fence s).2.2).length ≤ 16000
 defs : ∀ s : Str, (X.defs s).2.length ≤ s.length
section
variable {X : Scan Rf.Rb}
theorem ok_takes (h : okN L) : okN (takes X i L).2 := by
 unfold takes
 cases hu : L.us with
 | cons f fs => exact h
 | nil =>
  cases hl : L.leaf with
  | none => exact h
  | some l =>
   have hlo : l.t.length ≤ 16000 := by have := h.2.2; rw [hl] at this; exact this
   dsimp only
   split
   ·split
    ·exact ok_close (L := ⟨L.ms, [], some { l with z := i }, L.r⟩) ⟨h.1, okFs.nil, hlo⟩
    ·exact ok_add h _
   ·split
    ·split
     ·split
      ·exact ok_close h
      ·exact ok_close (ok_add h _)
     ·exact ok_add h _
    ·exact h
theorem ok_text (h : okN L) : okN (text i L) := by
 unfold text
 split
 ·split
  ·exact ok_add h _
  ·exact ok_close h
 ·split
  ·exact ok_add h _
  ·exact ok_add (ok_open h _ (Nat.zero_le _)) _
theorem lab_len (s : Str) : (labelP s).1.length ≤ s.length := by
 unfold labelP
 split
 ·rename_i t
  have ht := tw_le nlab t
  split
  ·split
   ·exact Nat.zero_le _
   ·simp only [List.length_cons]
    omega
  ·exact Nat.zero_le _
 ·exact Nat.zero_le _
theorem aft_W (r : Rest) : r.aft.length ≤ W4 r.s := by
 unfold Rest.aft
 have := W4_len r.s
 rw [List.length_drop]
 omega
theorem ok_step (hX : ScZ X) (foot : Bool) (h : okN L) (hr : W4 L.r.s ≤ 800) : okN (stepB X foot i L).2 := by
 have ha := aft_W L.r
 unfold stepB
 split
 ·split
  ·exact h
  ·show okN (indented i L)
   unfold indented
   split
   ·exact ok_add h _
   ·exact ok_add (ok_open h _ (Nat.zero_le _)) _
 ·split
  ·exact ok_contain (L := { L with r := (L.r.past 1).skip 1 }) h { nilF with k := 2 } (Nat.zero_le _) false
  ·split
   ·refine ok_lay h _ ?_
    rw [okB_mk]
    have h1 := Cl.rgt_len (X.atx L.r.aft).2
    have h2 := hX.atx L.r.aft (by omega)
    exact ⟨by omega, Nat.zero_le _, okL_nil⟩
   ·split
    ·exact ok_open h _ (hX.fence L.r.aft (by omega))
    ·split
     ·show okN (if _ then _ else _ : Ln)
      split
      ·refine ok_lay h _ ?_
       rw [okB_mk]
       exact ⟨Nat.zero_le _, Nat.zero_le _, okL_nil⟩
      ·exact ok_open h _ (Nat.zero_le _)
     ·split
      ·show okN (headed X i L)
       unfold headed
       split
       ·exact h
       ·refine ⟨ok_last (okL_one ?_) h.1, h.2.1, trivial⟩
        rw [okB_mk]
        exact ⟨Nat.zero_le _, Nat.zero_le _, okL_nil⟩
      ·split
       ·refine ok_lay h _ ?_
        rw [okB_mk]
        exact ⟨Nat.zero_le _, Nat.zero_le _, okL_nil⟩
       ·split
        ·rename_i L2 hn
         unfold note at hn
         split at hn
         ·cases hn
         ·injection hn with hn
          subst hn
          have := lab_len L.r.aft
          exact ok_contain (L := { L with r := (L.r.past (labelP L.r.aft).2).skip (L.r.past (labelP L.r.aft).2).ind }) h { nilF with k := 13, s := (labelP L.r.aft).1 } (by show (labelP L.r.aft).1.length ≤ _; omega) false
        ·split
         ·rename_i L2 hn
          show okN L2
          by_cases h0 : (sign X L.r.aft).2.2 = 0
          ·rw [item_no (.inl h0)] at hn; cases hn
          ·cases hs : staysB L (sign X L.r.aft).1 (sign X L.r.aft).2.1.toNat (L.r.aft.drop (sign X L.r.aft).2.2) with
           | true => rw [item_no (.inr hs)] at hn; cases hn
           | false =>
            rw [item_yes h0 hs] at hn
            injection hn with hn
            subst hn
            have hm : okN (itemL i L (sign X L.r.aft).1 (sign X L.r.aft).2.1 (sign X L.r.aft).2.2) := by
             unfold itemL
             split
             ·exact h
             ·exact ok_contain (L := itemR L _) h _ (Nat.zero_le _) false
            show okN (Ln.contain i _ true (itemL i L _ _ _))
            exact ok_contain hm _ (Nat.zero_le _) true
         ·exact h
theorem ok_tail (hX : ScZ X) (foot : Bool) : ∀ (n : Nat) (L : Ln), L.ms ≠ [] → okN L → W4 L.r.s ≤ 800 → okN (tail X foot i n L)
 | 0, L, hm, h, hr => ok_text h
 | n + 1, L, hm, h, hr => by
  cases hb : blank L.r.s with
  | true =>
   have h1 : tail X foot i (n + 1) L = text i L := by
    unfold tail
    have e2 : begins X foot i (n + 1) L = (false, L) := if_pos hb
    rw [e2]
    rfl
   rw [h1]
   exact ok_text h
  | false =>
   have hs := begins_step (X := X) (foot := foot) (i := i) (n := n) hb
   obtain ⟨⟨c, L1⟩, hc⟩ : ∃ c, stepB X foot i L = c := ⟨_, rfl⟩
   have hle := step_le (X := X) (foot := foot) (i := i) (L := L)
   have hok := ok_step (X := X) (i := i) hX foot h hr
   obtain ⟨m1, m2, m3⟩ := mu_step (w := 0) foot hm hc
   rw [hc] at hs hle hok
   have hle : c ≤ 2 := hle
   rcases (by omega : c = 0 ∨ c = 1 ∨ c = 2) with rfl | rfl | rfl
   ·have h1 : tail X foot i (n + 1) L = text i L1 := by
     unfold tail
     rw [hs]
     rfl
    have e := step_none hc
    subst e
    rw [h1]
    exact ok_text h
   ·have h1 : tail X foot i (n + 1) L = tail X foot i n L1 := by
     unfold tail
     rw [hs]
     rfl
    obtain ⟨a, b⟩ := m2 rfl
    rw [h1]
    exact ok_tail hX foot n L1 m1 hok (Nat.le_trans b hr)
   ·have h1 : tail X foot i (n + 1) L = L1 := by
     unfold tail
     rw [hs]
     rfl
    rw [h1]
    exact hok
theorem ok_meets (leaf : Option Lf) : ∀ (fs : List Fr) (r : Rest), okFs fs → okFs (meets i leaf fs r).1 ∧ okFs (meets i leaf fs r).2.1
 | [], r, _ => ⟨okFs.nil, okFs.nil⟩
 | f :: fs, r, h => by
  rw [meets]
  cases hm : meet1 f (hasKid f fs leaf) r with
  | none => exact ⟨okFs.nil, h⟩
  | some r1 =>
   obtain ⟨a, b⟩ := ok_meets leaf fs r1 h.tl
   refine ⟨okFs.cons ?_ a, b⟩
   unfold met
   split
   ·exact h.hd
   ·exact h.hd
def okSt (st : St) : Prop := okFs st.fs ∧ okO st.leaf
theorem ok_line (hX : ScZ X) (foot : Bool) {st : St} (h : okSt st) (s : Str) (hs : s.length ≤ 200) : okSt (line X foot i st s) := by
 obtain ⟨f0, leaf⟩ := st
 cases f0 with
 | nil => exact h
 | cons b fs =>
  rw [line_cons]
  obtain ⟨m1, m2⟩ := ok_meets (i := i) leaf fs ⟨s, 0⟩ h.1.tl
  have hw := W4_le s
  obtain ⟨_, k2⟩ := mu_meets (w := 0) (i := i) leaf fs ⟨s, 0⟩
  obtain ⟨L0, hL0⟩ : ∃ L0, lineL i b fs leaf ⟨s, 0⟩ = L0 := ⟨_, rfl⟩
  have k1 : okN L0 := by rw [← hL0]; exact ⟨okFs.cons h.1.hd m1, m2, h.2⟩
  have k3 : W4 L0.r.s ≤ 800 := by
   rw [← hL0]
   refine Nat.le_trans k2 ?_
   show W4 s ≤ 800
   omega
  have k4 : L0.ms ≠ [] := by rw [← hL0]; unfold lineL; simp
  rw [hL0]
  have hst : ∀ L : Ln, okN L → okSt L.st := fun L h => ⟨h.1.app h.2.1, h.2.2⟩
  obtain ⟨t1, t2, t3⟩ := mu_takes (w := 0) (i := i) (X := X) k4
  have t4 := ok_takes (X := X) (i := i) k1
  rw [rest_eq]
  refine hst _ ?_
  cases hq : (takes X i L0).1 with
  | true =>
   rw [if_pos rfl]
   exact t4
  | false =>
   obtain ⟨t5, t6⟩ := t3 hq
   rw [if_neg Bool.false_ne_true]
   exact ok_tail hX foot _ _ t2 t4 (by rw [t6]; exact k3)
theorem ok_go (hX : ScZ X) (foot : Bool) : ∀ (l : List Str) (i : Nat) (st : St), okSt st → (∀ s ∈ l, s.length ≤ 200) → okSt (go X foot i st l)
 | [], i, st, h, hl => h
 | s :: l, i, st, h, hl => ok_go hX foot l (i + 1) _ (ok_line hX foot h s (hl s (by simp))) (fun s hs => hl s (List.mem_cons_of_mem _ hs))
theorem ok_doc : okSt doc0 := ⟨okFs.cons ⟨Nat.zero_le _, okL_nil⟩ okFs.nil, trivial⟩
theorem ok_kids {st : St} (h : okSt st) : okL st.kids := by
 unfold St.kids
 split
 ·exact okL_nil
 ·rename_i b fs hf
  have h1 := h.1
  rw [hf] at h1
  exact okL_app h1.hd.2 (ok_shut h1.tl h.2)
end
end
mutual
def okT : Blk → Prop
 | .mk k s t n m f a z kids => s.length ≤ 100000 ∧ t.length ≤ 100000 ∧ okTs kids
def okTs : List Blk → Prop
 | [] => True
 | b :: l => okT b ∧ okTs l
end
theorem okT_mk (k : Nat) (s t : Str) (n m : Nat) (f : Bool) (a z : Nat) (kids : List Blk) : okT (.mk k s t n m f a z kids) = (s.length ≤ 100000 ∧ t.length ≤ 100000 ∧ okTs kids) := by rw [okT]
theorem okTs_nil : okTs [] := by rw [okTs]; trivial
theorem okTs_cons (b : Blk) (l : List Blk) : okTs (b :: l) = (okT b ∧ okTs l) := by rw [okTs]
theorem okTs_app : ∀ {l m : List Blk}, okTs l → okTs m → okTs (l ++ m)
 | [], m, _, h => h
 | b :: l, m, h, h2 => by
  rw [okTs_cons] at h
  rw [List.cons_append, okTs_cons]
  exact ⟨h.1, okTs_app h.2 h2⟩
theorem okTs_mem : ∀ {l : List Blk} {b : Blk}, okTs l → b ∈ l → okT b
 | c :: l, b, h, hb => by
  rw [okTs_cons] at h
  rcases List.mem_cons.1 hb with rfl | hb
  ·exact h.1
  ·exact okTs_mem h.2 hb
theorem okT_parts {b : Blk} (h : okT b) : b.ow.s.length ≤ 100000 ∧ b.ow.t.length ≤ 100000 ∧ okTs b.kids := by
 cases b
 rw [okT_mk] at h
 exact h
theorem ended_le : ∀ ls : List Str, (ended ls).length = muS ls
 | [] => rfl
 | s :: l => by
  have := ended_le l
  have e : muS (s :: l) = s.length + 1 + muS l := by simp [muS]
  show (s ++ 10 :: ended l).length = _
  rw [e, List.length_append, List.length_cons]
  omega
theorem muS_sub {l m : List Str} (h : l.Sublist m) : muS l ≤ muS m := by
 induction h with
 | slnil => exact Nat.le_refl _
 | cons a _ ih => simp only [muS, List.map_cons, List.sum_cons] at ih ⊢; omega
 | cons_cons a _ ih => simp only [muS, List.map_cons, List.sum_cons] at ih ⊢; omega
theorem unblank_sub (l : List Str) : (unblank l).Sublist l := by
 unfold unblank
 have := (List.dropWhile_sublist (l := l.reverse) blank).reverse
 rwa [List.reverse_reverse] at this
section
variable {X : Scan Rf.Rb}
theorem sOf_len (hX : ScZ X) (k : Nat) (s : Str) (fen stx : Bool) (ls : List Str) (hs : s.length ≤ 16000) (hl : muS ls ≤ 90000) : (sOf X k s fen stx ls).length ≤ 100000 := by
 unfold sOf
 split
 ·rw [ended_le]
  split
  ·omega
  ·have := muS_sub (unblank_sub ls)
   omega
 ·split
  ·rw [ended_le]; omega
  ·split
   ·have h1 := hX.defs (bodyT ls)
    have h2 : (bodyT ls).length ≤ (lines ls).length := Cl.rgt_len _
    have h3 := lines_mu ls
    omega
   ·omega
mutual
theorem ok_out (hX : ScZ X) : ∀ b : B, okB b → muB 0 b ≤ 90000 → okTs (out X b)
 | .mk k s t n m fen stx ls a z kids, h, hm => by
  rw [okB_mk] at h
  rw [muB_mk] at hm
  rw [out]
  split
  ·exact okTs_nil
  ·rw [okTs_cons, okT_mk]
   refine ⟨⟨sOf_len hX k s fen stx ls h.1 (by omega), by omega, ok_outL hX kids h.2.2 (by omega)⟩, okTs_nil⟩
theorem ok_outL (hX : ScZ X) : ∀ l : List B, okL l → muL 0 l ≤ 90000 → okTs (outL X l)
 | [], _, _ => by rw [outL]; exact okTs_nil
 | b :: l, h, hm => by
  rw [okL_cons] at h
  rw [muL_cons] at hm
  rw [outL]
  exact okTs_app (ok_out hX b h.1 (by omega)) (ok_outL hX l h.2 (by omega))
end
theorem ok_parse (hX : ScZ X) (foot : Bool) {l : List Str} (h1 : l.length ≤ 100) (h2 : ∀ s ∈ l, s.length ≤ 200) : okTs (parse X foot l).1 := by
 refine ok_outL hX _ (ok_kids (ok_go hX foot l 0 doc0 ok_doc h2)) ?_
 refine Nat.le_trans (kids_mu _ 0) ?_
 obtain ⟨a, _⟩ := mu_go (X := X) (w := 0) foot 200 l 0 doc0 doc_ne doc_tn h2
 rw [mu_doc] at a
 have h5 : l.length * (2 * 0 * (200 + 1) + 0 + 4 * 200 + 1) ≤ 100 * 801 := Nat.mul_le_mul h1 (by decide)
 omega
end
end Bk
end Go.Proofs.YtkiipaaaakhhfaaGreatDoor
end
section
namespace Go.Proofs.YtkiipaaaakhhfaaGreatDoor
open Go Go.RowKit
namespace Bk
set_option maxRecDepth 100000
set_option linter.unusedVariables false
set_option linter.unusedSimpArgs false
def ClOk (s : ByteArray) : Prop := s.size ≤ 281474976710656
set_option maxHeartbeats 16000000 in
theorem bnodes_blk (C : Nat → Prop) (b : Blk) : ∀ (w : World) (v : Value), InS w C b.kids v → cntK b.kids ≤ 1000000000 → okTs b.kids →
  Calls Tryz.prog 17 #[v] w fun e w' => ∃ u, e = .returned u ∧ JnS w' (fun g => w.heap.size ≤ g) b.kids u ∧ Below w.heap.size w w' := by
 induction b using Blk.ind with
 | h k s t n m f a z kids ih =>
  intro w v hin hcnt hok
  have hok : okTs kids := hok
  have hin : InS w C kids v := hin
  have hcnt : cntK kids ≤ 1000000000 := hcnt
  show Calls _ _ _ _ fun e w' => ∃ u, e = .returned u ∧ JnS w' (fun g => w.heap.size ≤ g) kids u ∧ Below w.heap.size w w'
  obtain ⟨iN, hi, hz0, hz1, hz2⟩ := info_parts nodeInfo
  obtain ⟨a1, cap, rfl, hlm, hk⟩ := hin
  unfold maxLen at hlm
  have hlen := cnt_len kids
  have HK := Lib.hid hk
  have IH := Lib.hid ih
  have HCn := Lib.hid hcnt
  have HOk := Lib.hid hok
  clear hok
  obtain ⟨N, hN⟩ : ∃ N, kids.length = N := ⟨_, rfl⟩
  rw [hN] at hlm hlen ⊢
  have hN9 : N ≤ 1000000000 := by omega
  have HN := Lib.hid hN
  clear hN hk ih hcnt hlen
  go_enter Tryz.func17, Tryz.ntmps17
  go_wp2
  go_loopg [3, 8] N (fun G s3 s4 wr => ∃ (i : Nat) (l : List (Blk × Value)), i + G = N ∧ s4 = .int .i64 (i : Int) ∧ Hid (l.map Prod.fst = kids.take i) ∧ l.length = i ∧ Hid (OwnN wr w.heap.size 71 s3 l) ∧ Below w.heap.size w wr)
  case atStart => exact ⟨0, [], by omega, rfl, Lib.hid rfl, rfl, Lib.hid (OwnN.nil _ _ _), Below.refl _ _⟩
  case round =>
   obtain ⟨i, l, hig, rfl, HM, hli, HO, hbw⟩ := hrel
   obtain ⟨a3, c3, e3⟩ := HO.out.form
   rw [hli] at e3
   subst e3
   have HLi := Lib.hid hli
   clear hli
   cases gk with
   | zero =>
    have hlt : ¬ (i : Int) < (N : Int) := by omega
    have HE : Hid (JnS wr (fun g => w.heap.size ≤ g) kids (.slice a3 i c3)) := Lib.hid (by
     have h1 := HO.out.jnS
     rw [HM.out, List.take_of_length_le (by rw [HN.out]; omega)] at h1
     exact h1)
    go_wp2
    go_ret
    exact ⟨_, rfl, HE.out, hbw⟩
   | succ G =>
    have hlt : (i : Int) < (N : Int) := by omega
    obtain ⟨c, hc⟩ : ∃ c, kids[i]? = some c := ⟨_, List.getElem?_eq_getElem (by have := HN.out; omega)⟩
    rcases HK.out with rfl | ⟨bb, off, rfl, _, hcell⟩
    ·simp at hc
    obtain ⟨L1, q, g1⟩ := hcell.get hc
    obtain ⟨c0, c1, c2, c3', c4, c5, c6, c7, c8⟩ := q.keep hbw
    have G1 := Lib.hid (g1.kids.keep hbw)
    have HTk : Hid (kids.take (i + 1) = kids.take i ++ [c]) := Lib.hid (by rw [List.take_add_one, hc]; rfl)
    have hcn : cntK c.kids ≤ 1000000000 := Nat.le_trans (cnt_mem (List.mem_of_getElem? hc)) HCn.out
    obtain ⟨hks, hkt, hko⟩ := okT_parts (okTs_mem HOk.out (List.mem_of_getElem? hc))
    have HC := Lib.hid (fun W (hW : Below wr.heap.size wr W) => IH.out c (List.mem_of_getElem? hc) W L1 (G1.out.keep hW) hcn hko)
    obtain ⟨ao, cpo, e1, _⟩ := G1.out.form
    subst e1
    unfold str at c1 c2
    have HBw := Lib.hid hbw
    have hX := Box.new wr (ar9 c.ow (.slice ao c.kids.length cpo)) 41
    have HB2 : Hid (Below wr.heap.size wr (wr.alloc (.cells (ar9 c.ow (.slice ao c.kids.length cpo)) 41))) := Lib.hid ((Below.refl _ wr).alloc (Nat.le_refl _) _)
    obtain ⟨W2, hW2⟩ : ∃ W2, wr.alloc (.cells (ar9 c.ow (.slice ao c.kids.length cpo)) 41) = W2 := ⟨_, rfl⟩
    rw [hW2] at hX HB2
    have x0 := hX.cell 0 rfl
    have x1 := hX.cell 1 rfl
    have x2 := hX.cell 2 rfl
    have x3 := hX.cell 3 rfl
    have x4 := hX.cell 4 rfl
    have x5 := hX.cell 5 rfl
    have x6 := hX.cell 6 rfl
    have x7 := hX.cell 7 rfl
    have x8 := hX.cell 8 rfl
    have HW2 := Lib.hid hW2
    have HOw : Hid (c.ow = c.ow) := Lib.hid rfl
    have hsW : W2.heap.size = wr.heap.size + 1 := by rw [← hW2, World.size_alloc]
    have HBx := Lib.hid hX
    have hvb := HO.out.row.lt
    have HVB := Lib.hid hvb
    have HC2 := Lib.hid (fun W (h : Below (wr.heap.size + 1) W2 W) => HC.out W (HB2.out.trans (h.mono (Nat.le_succ _))))
    have hs9 : ClOk ⟨c.ow.s.toArray⟩ := by show c.ow.s.length ≤ _; omega
    have ht9 : ClOk ⟨c.ow.t.toArray⟩ := by show c.ow.t.length ≤ _; omega
    have HCl : Hid (∀ (s : ByteArray) (W : World), ClOk s → Calls Tryz.prog 31 #[.string s] W fun e w' => e = .returned (.string s) ∧ Below W.heap.size W w') := Lib.hid (fun s W h => Cl.clone_any s W h)
    obtain ⟨o, ho⟩ : ∃ o, c.ow = o := ⟨_, rfl⟩
    obtain ⟨kl, hkl⟩ : ∃ n, c.kids.length = n := ⟨_, rfl⟩
    rw [ho] at c0 c1 c2 c3' c4 c5 c6 c7 x0 x1 x2 x3 x4 x5 x6 x7 HW2 HBx hs9 ht9
    rw [hkl] at c8 x8 HW2 HBx HC2
    have HO2 := Lib.hid ho
    have HS : Hid (∀ W, Box W wr.heap.size (ar9 o (.slice ao kl cpo)) 41 → W.cell? ⟨wr.heap.size, 0, none⟩ = some (.int .i64 (o.k : Int)) ∧ W.cell? ⟨wr.heap.size, 1, none⟩ = some (.string ⟨o.s.toArray⟩) ∧ W.cell? ⟨wr.heap.size, 2, none⟩ = some (.string ⟨o.t.toArray⟩) ∧ W.cell? ⟨wr.heap.size, 3, none⟩ = some (.int .i64 (o.n : Int)) ∧ W.cell? ⟨wr.heap.size, 4, none⟩ = some (.int .i64 (o.m : Int)) ∧ W.cell? ⟨wr.heap.size, 5, none⟩ = some (.bool o.f) ∧ W.cell? ⟨wr.heap.size, 6, none⟩ = some (.int .i64 (o.a : Int)) ∧ W.cell? ⟨wr.heap.size, 7, none⟩ = some (.int .i64 (o.z : Int)) ∧ W.cell? ⟨wr.heap.size, 8, none⟩ = some (.slice ao kl cpo)) := Lib.hid (fun W hW =>
     ⟨hW.cell 0 rfl, hW.cell 1 rfl, hW.cell 2 rfl, hW.cell 3 rfl, hW.cell 4 rfl, hW.cell 5 rfl, hW.cell 6 rfl, hW.cell 7 rfl, hW.cell 8 rfl⟩)
    have HKp : Hid (∀ W, Below (wr.heap.size + 1) W2 W → Box W wr.heap.size (ar9 o (.slice ao kl cpo)) 41) := Lib.hid (fun W hW => HBx.out.keep (by rw [hsW]; exact hW))
    have HNr : Hid ((Value.slice a3 i c3).ownBlock ≠ some wr.heap.size) := Lib.hid (fun e => absurd (HVB.out _ e).2 (Nat.lt_irrefl _))
    have HB3 : Hid (Below (wr.heap.size + 1) W2 W2.drew) := Lib.hid (Below.refl _ _).drew
    have hB3 := HB3.out
    have HG : Hid (∀ W, Below (wr.heap.size + 1) W2 W → ∀ b, W.heap.size ≤ b → wr.heap.size ≤ b) := Lib.hid (fun W h b hb => by have := h.size; omega)
    have HX3 : Hid (∀ W W', Below (wr.heap.size + 1) W2 W → Below W.heap.size W W' → Below (wr.heap.size + 1) W2 W') := Lib.hid (fun W W' h h' => h.trans (h'.mono (by have := h.size; omega)))
    have HRow := Lib.hid (fun W (hW : Below wr.heap.size wr W) => owns_block HO.out.row fun k hk => hW.block k (HVB.out k hk).2)
    have HLc : Hid (l.length ≤ 1000000000) := Lib.hid (by rw [HLi.out]; omega)
    clear hcell hc q g1 G1 hX hbw IH hW2 hvb HC HOw ho hkl hks hkt hko
    unfold ar9 at HW2
    go_wp2_with fail
    rw [HW2.out]
    go_region_held3 (fun W => W.cell? ⟨wr.heap.size, 0, none⟩ = some (.int .i64 (o.k : Int)) ∧ W.cell? ⟨wr.heap.size, 1, none⟩ = some (.string ⟨o.s.toArray⟩) ∧ W.cell? ⟨wr.heap.size, 2, none⟩ = some (.string ⟨o.t.toArray⟩) ∧ W.cell? ⟨wr.heap.size, 3, none⟩ = some (.int .i64 (o.n : Int)) ∧ W.cell? ⟨wr.heap.size, 4, none⟩ = some (.int .i64 (o.m : Int)) ∧ W.cell? ⟨wr.heap.size, 5, none⟩ = some (.bool o.f) ∧ W.cell? ⟨wr.heap.size, 6, none⟩ = some (.int .i64 (o.a : Int)) ∧ W.cell? ⟨wr.heap.size, 7, none⟩ = some (.int .i64 (o.z : Int)) ∧ W.cell? ⟨wr.heap.size, 8, none⟩ = some (.slice ao kl cpo))
     (first | exact HS.out _ HBx.out | exact HS.out _ (HKp.out _ HB3.out) | exact HS.out _ (by assumption) | exact HS.out _ (HKp.out _ (by assumption)))
     (first
      | (go_at_call 17; refine (HC2.out _ (by assumption)).mono ?_; rintro e w3 ⟨u, rfl, hin3, hb3⟩; obtain ⟨a2, cp2, rfl, _⟩ := hin3.form; have hx3 := HX3.out _ _ (by assumption) hb3; have HIN := Lib.hid (hin3.carry (C' := fun g => wr.heap.size ≤ g) (fun b off v h _ => HG.out _ (by assumption) b h) fun _ _ _ _ h => h); have HX4 := Lib.hid hx3; have hxA := HX4.out.alloc (by have := HX4.out.size; omega) (.cells (ar7 o (.slice a2 c.kids.length cp2)) 71); unfold ar7 at hxA; clear hb3 hin3)
      | (go_at_call 31; refine (HCl.out _ _ (by assumption)).mono ?_; rintro e w3 ⟨rfl, hb3⟩; have hx3 := HX3.out _ _ (by assumption) hb3; have HX4 := Lib.hid hx3; (try (replace HIN := Lib.hid (HIN.out.keep hb3); have hxA := HX4.out.alloc (by have := HX4.out.size; omega) (.cells (ar7 o (.slice a2 c.kids.length cp2)) 71); unfold ar7 at hxA)); clear hb3)
      | (refine step_append_lies _ rfl (.tmp 12) (.tmp 31) 32 rfl w.heap.size 71 iN (.agg (ar7 nilO (.slice none 0 0))) 7 88 Tryz.underlying32 hi hz0 hz1 hz2 rfl (by decide) (.slice a3 i c3) l.length (rowN l) (by simp [Act.eval, Act.put]) (HRow.out _ (HB2.out.trans (hxA.mono (Nat.le_succ _)))) ⟨w3.heap.size, 0, none⟩ 1 1 (cells7 o (.slice a2 c.kids.length cp2)) (by simp [Act.eval, Act.put]) rfl (World.news_of_block (heap_alloc_new w3 _)) (cells7_one _ _ _ _) (by decide) (by have := HLc.out; unfold maxLen; omega) (by have := HLc.out; omega) (Nat.le_trans HBw.out.size (HB2.out.trans (hxA.mono (Nat.le_succ _))).size) _ rfl ?_; intro g' cap' w4 hown4 hgrow4 hat4 hlt4; have hb4 := (HKp.out _ hxA).grown hgrow4 HNr.out))
    all_goals
     have hw3 : Below wr.heap.size wr w3 := HB2.out.trans (HX4.out.mono (Nat.le_succ _))
     have hM := OwnN.more (w := w) (w1 := w3) (w2 := w4) (x := (c, .slice a2 c.kids.length cp2)) (Nat.le_refl _) (HO.out.keep hw3)
      (HIN.out.carry (fun b off v (h : wr.heap.size ≤ b) _ => ⟨fun e => by have := (HVB.out b e).2; omega, by have := HBw.out.size; omega⟩) fun _ _ _ _ h => h)
      (below_later HBw.out hw3) (by rw [show ((c, (.slice a2 c.kids.length cp2)) : Blk × Value).1.ow = o from HO2.out]; exact hown4) hgrow4
      (fun k e => by injection e with e; subst e; exact hat4.imp id (fun e => by show w3.heap.size ≤ g'; rw [e, World.size_alloc]; exact Nat.le_succ _))
     have HM2 := Lib.hid hM.1
     have HB4 := Lib.hid hM.2
     have HLL : Hid ((l ++ [(c, Value.slice a2 c.kids.length cp2)]).length = i + 1) := Lib.hid (by simp [HLi.out])
     clear hM hw3 hgrow4 hown4 hat4 hlt4 hb4 hxA hx3
     go_wp2
     go_roundg G
     case rel => exact ⟨i + 1, l ++ [(c, .slice a2 c.kids.length cp2)], by omega, rfl, Lib.hid (by rw [List.map_append, HM.out, HTk.out]; rfl), HLL.out, HM2, HB4.out⟩
     case measure => omega
end Bk
end Go.Proofs.YtkiipaaaakhhfaaGreatDoor
end
section
namespace Go.Proofs.YtkiipaaaakhhfaaGreatDoor
open Go Go.RowKit
namespace Bk
set_option maxRecDepth 100000
set_option linter.unusedVariables false
set_option linter.unusedSimpArgs false
theorem box7 (w : World) (o : Ow) (L : Value) (t : TypeId) : Cells7 (w.alloc (.cells (ar7 o L) t)) w.heap.size 0 o L :=
 have h := Box.new w (ar7 o L) t
 ⟨h.cell 0 rfl, h.cell 1 rfl, h.cell 2 rfl, h.cell 3 rfl, h.cell 4 rfl, h.cell 5 rfl, h.cell 6 rfl⟩
set_option maxHeartbeats 4000000 in
theorem rown_same (o : Ow) (L L' : Value) (w : World) :
  Calls Tryz.prog 51 #[.agg (ar7 o L), .agg (ar7 o L')] w fun e w' => e = .returned (.bool true) ∧ Below w.heap.size w w' := by
 unfold ar7
 go_enter Tryz.func51, Tryz.ntmps51
 go_wp2
 all_goals go_ret
 all_goals exact ⟨rfl, ((Below.refl _ w).alloc (Nat.le_refl _) _).alloc (by simp) _⟩
set_option maxHeartbeats 8000000 in
theorem rsame7_blk (T : Blk) : ∀ (C C' : Nat → Prop) (w : World) (L L' : Value), JnB w C T L → JnB w C' T L' →
  Calls Tryz.prog 32 #[.agg (ar7 T.ow L), .agg (ar7 T.ow L')] w fun e w' => e = .returned (.bool true) ∧ Below w.heap.size w w' := by
 induction T using Blk.ind with
 | h k s t n m f a z kids ih =>
  intro C C' w L L' hin hin'
  rw [JnB] at hin hin'
  obtain ⟨a1, cap, rfl, hcm, hk⟩ := hin
  obtain ⟨a2, cap', rfl, hcm', hk'⟩ := hin'
  unfold maxLen at hcm hcm'
  have HK := Lib.hid hk
  have HK' := Lib.hid hk'
  have IH := Lib.hid ih
  clear hk hk' ih
  obtain ⟨o, ho⟩ : ∃ o, Blk.ow (.mk k s t n m f a z kids) = o := ⟨_, rfl⟩
  rw [ho]
  clear ho
  have HA := Lib.hid (fun L L' W => rown_same o L L' W)
  have HB1 := Lib.hid (fun W L => box7 W o L 71)
  have HCar := Lib.hid (fun (W W' : World) (b : Nat) (L : Value) (h : Cells7 W b 0 o L) (hb : Below W.heap.size W W') => h.keep hb)
  unfold ar7 at HA HB1 ⊢
  go_enter Tryz.func32, Tryz.ntmps32
  go_wp2_with fail
  refine (HA.out _ _ _).mono ?_
  rintro e w1 ⟨rfl, hb1⟩
  clear HA
  have hx1 := HCar.out _ _ _ _ (HCar.out _ _ _ _ (HB1.out w (.slice a1 kids.length cap)) ((Below.refl _ _).alloc (Nat.le_refl _) (.cells #[.int .i64 (o.k : Nat), .string ⟨o.s.toArray⟩, .string ⟨o.t.toArray⟩, .int .i64 (o.n : Nat), .int .i64 (o.m : Nat), .bool o.f, .slice a2 kids.length cap'] 71))) hb1
  have hx2 := HCar.out _ _ _ _ (HB1.out (w.alloc (.cells #[.int .i64 (o.k : Nat), .string ⟨o.s.toArray⟩, .string ⟨o.t.toArray⟩, .int .i64 (o.n : Nat), .int .i64 (o.m : Nat), .bool o.f, .slice a1 kids.length cap] 71)) (.slice a2 kids.length cap')) hb1
  rw [World.size_alloc] at hx2
  have hbw0 : Below w.heap.size w w1 := (((Below.refl _ w).alloc (Nat.le_refl _) _).alloc (by simp) _).trans (hb1.mono (by simp; omega))
  have b6 : w1.cell? ⟨w.heap.size, 6, none⟩ = _ := hx1.c6
  have d6 : w1.cell? ⟨w.heap.size + 1, 6, none⟩ = _ := hx2.c6
  have HX1 := Lib.hid hx1
  have HX2 := Lib.hid hx2
  clear hx1 hx2 hb1
  go_wp2
  clear b6 d6
  go_loopg [5] kids.length (fun g s22 wr => ∃ (i : Nat), i + g = kids.length ∧ s22 = .int .i64 i ∧ Below w.heap.size w wr ∧ Cells7 wr w.heap.size 0 o (.slice a1 kids.length cap) ∧ Cells7 wr (w.heap.size + 1) 0 o (.slice a2 kids.length cap'))
  case atStart => exact ⟨0, by omega, rfl, hbw0, HX1.out, HX2.out⟩
  case round =>
   obtain ⟨i, hig, rfl, hbw, hx1, hx2⟩ := hrel
   have b6 : wr.cell? ⟨w.heap.size, 6, none⟩ = _ := hx1.c6
   have d6 : wr.cell? ⟨w.heap.size + 1, 6, none⟩ = _ := hx2.c6
   have HX1 := Lib.hid hx1
   have HX2 := Lib.hid hx2
   have hsz := hbw.size
   clear hx1 hx2 hbw0
   cases gk with
   | zero =>
    have hlt : ¬ ((i : Int) < (kids.length : Int)) := by omega
    go_wp2
    go_ret
    exact ⟨rfl, hbw⟩
   | succ g =>
    obtain ⟨c, hc⟩ : ∃ c, kids[i]? = some c := ⟨_, List.getElem?_eq_getElem (by omega)⟩
    rcases HK.out with rfl | ⟨b, off, rfl, _, hkl⟩
    ·simp at hc
    rcases HK'.out with rfl | ⟨b', off', rfl, _, hkl'⟩
    ·simp at hc
    obtain ⟨L1, hcell, hin1⟩ := hkl.get hc
    obtain ⟨L2, hcell', hin2⟩ := hkl'.get hc
    obtain ⟨x1, cap1, e1, _⟩ := hin1.kids.form
    obtain ⟨x2, cap2, e2, _⟩ := hin2.kids.form
    subst e1 e2
    have hmem := List.mem_of_getElem? hc
    obtain ⟨c0, c1, c2, c3, c4, c5, c6⟩ := hcell.carry fun off v h => keep_cell hbw h
    obtain ⟨e0, e1, e2, e3, e4, e5, e6⟩ := hcell'.carry fun off v h => keep_cell hbw h
    have hi1 := hin1.keep hbw
    have hi2 := hin2.keep hbw
    have hlt : (i : Int) < (kids.length : Int) := by omega
    have HC := Lib.hid (fun W (hW : Below wr.heap.size wr W) => IH.out c hmem C C' W _ _ (hi1.keep hW) (hi2.keep hW))
    obtain ⟨q, hq⟩ : ∃ q, c.ow = q := ⟨_, rfl⟩
    rw [hq] at c0 c1 c2 c3 c4 c5 e0 e1 e2 e3 e4 e5 HC
    obtain ⟨kl, hkl9⟩ : ∃ n, c.kids.length = n := ⟨_, rfl⟩
    rw [hkl9] at c6 e6 HC
    unfold ar7 at HC
    unfold str at c1 c2 e1 e2
    clear hc HK HK' hkl hkl' hcell hcell' hin1 hin2 hi1 hi2 IH hmem hq hkl9
    go_wp2_with fail
    have HS0 : Hid (∀ W, Below wr.heap.size wr W → (Below wr.heap.size wr W ∧ W.cell? ⟨w.heap.size, 6, none⟩ = some (.slice (some ⟨b, off, none⟩) kids.length cap) ∧ W.cell? ⟨w.heap.size + 1, 6, none⟩ = some (.slice (some ⟨b', off', none⟩) kids.length cap') ∧ W.cell? ⟨b, off + i * 7, none⟩ = some (.int .i64 (q.k : Nat)) ∧ W.cell? ⟨b, off + i * 7 + 1, none⟩ = some (.string ⟨q.s.toArray⟩) ∧ W.cell? ⟨b, off + i * 7 + 2, none⟩ = some (.string ⟨q.t.toArray⟩) ∧ W.cell? ⟨b, off + i * 7 + 3, none⟩ = some (.int .i64 (q.n : Nat)) ∧ W.cell? ⟨b, off + i * 7 + 4, none⟩ = some (.int .i64 (q.m : Nat)) ∧ W.cell? ⟨b, off + i * 7 + 5, none⟩ = some (.bool q.f) ∧ W.cell? ⟨b, off + i * 7 + 6, none⟩ = some (.slice x1 kl cap1) ∧ W.cell? ⟨b', off' + i * 7, none⟩ = some (.int .i64 (q.k : Nat)) ∧ W.cell? ⟨b', off' + i * 7 + 1, none⟩ = some (.string ⟨q.s.toArray⟩) ∧ W.cell? ⟨b', off' + i * 7 + 2, none⟩ = some (.string ⟨q.t.toArray⟩) ∧ W.cell? ⟨b', off' + i * 7 + 3, none⟩ = some (.int .i64 (q.n : Nat)) ∧ W.cell? ⟨b', off' + i * 7 + 4, none⟩ = some (.int .i64 (q.m : Nat)) ∧ W.cell? ⟨b', off' + i * 7 + 5, none⟩ = some (.bool q.f) ∧ W.cell? ⟨b', off' + i * 7 + 6, none⟩ = some (.slice x2 kl cap2))) := Lib.hid (fun W hW => ⟨hW, keep_cell hW b6, keep_cell hW d6, keep_cell hW c0, keep_cell hW c1, keep_cell hW c2, keep_cell hW c3, keep_cell hW c4, keep_cell hW c5, keep_cell hW c6, keep_cell hW e0, keep_cell hW e1, keep_cell hW e2, keep_cell hW e3, keep_cell hW e4, keep_cell hW e5, keep_cell hW e6⟩)
    clear b6 d6 c0 c1 c2 c3 c4 c5 c6 e0 e1 e2 e3 e4 e5 e6
    go_region_held3 (fun W => Below wr.heap.size wr W ∧ W.cell? ⟨w.heap.size, 6, none⟩ = some (.slice (some ⟨b, off, none⟩) kids.length cap) ∧ W.cell? ⟨w.heap.size + 1, 6, none⟩ = some (.slice (some ⟨b', off', none⟩) kids.length cap') ∧ W.cell? ⟨b, off + i * 7, none⟩ = some (.int .i64 (q.k : Nat)) ∧ W.cell? ⟨b, off + i * 7 + 1, none⟩ = some (.string ⟨q.s.toArray⟩) ∧ W.cell? ⟨b, off + i * 7 + 2, none⟩ = some (.string ⟨q.t.toArray⟩) ∧ W.cell? ⟨b, off + i * 7 + 3, none⟩ = some (.int .i64 (q.n : Nat)) ∧ W.cell? ⟨b, off + i * 7 + 4, none⟩ = some (.int .i64 (q.m : Nat)) ∧ W.cell? ⟨b, off + i * 7 + 5, none⟩ = some (.bool q.f) ∧ W.cell? ⟨b, off + i * 7 + 6, none⟩ = some (.slice x1 kl cap1) ∧ W.cell? ⟨b', off' + i * 7, none⟩ = some (.int .i64 (q.k : Nat)) ∧ W.cell? ⟨b', off' + i * 7 + 1, none⟩ = some (.string ⟨q.s.toArray⟩) ∧ W.cell? ⟨b', off' + i * 7 + 2, none⟩ = some (.string ⟨q.t.toArray⟩) ∧ W.cell? ⟨b', off' + i * 7 + 3, none⟩ = some (.int .i64 (q.n : Nat)) ∧ W.cell? ⟨b', off' + i * 7 + 4, none⟩ = some (.int .i64 (q.m : Nat)) ∧ W.cell? ⟨b', off' + i * 7 + 5, none⟩ = some (.bool q.f) ∧ W.cell? ⟨b', off' + i * 7 + 6, none⟩ = some (.slice x2 kl cap2)) (first | exact HS0.out _ (Below.refl _ _).drew | exact HS0.out _ (below_later (Below.refl _ _).drew (by assumption))) ((go_at_call 32; refine (HC.out _ (Below.refl _ _).drew).mono ?_; rintro e w2 ⟨rfl, hb2⟩))
    clear HS0
    have hb3 : Below wr.heap.size wr w2 := below_later (Below.refl _ _).drew hb2
    have hbw2 : Below w.heap.size w w2 := hbw.trans (hb3.mono hsz)
    have HX1' := Lib.hid (HX1.out.keep hb3)
    have HX2' := Lib.hid (HX2.out.keep hb3)
    go_wp2
    go_roundg g
    case rel => exact ⟨i + 1, by omega, by go_num, hbw2, HX1'.out, HX2'.out⟩
    case measure => omega
set_option maxHeartbeats 4000000 in
theorem rall_any {C C' : Nat → Prop} (l : List Blk) (w : World) (u v : Value) (hu : JnS w C l u) (hv : JnS w C' l v) :
  Calls Tryz.prog 16 #[u, v] w fun e w' => e = .returned (.bool true) ∧ Below w.heap.size w w' := by
 have H := Lib.hid (rsame7_blk (.mk 0 [] [] 0 0 false 0 0 l) C C' w u v (JnB.of (t := .mk 0 [] [] 0 0 false 0 0 l) hu) (JnB.of (t := .mk 0 [] [] 0 0 false 0 0 l) hv))
 obtain ⟨a, cap, rfl, _⟩ := hu
 obtain ⟨a', cap', rfl, _⟩ := hv
 change Hid (Calls _ _ #[.agg #[.int .i64 (0 : Nat), .string ⟨#[]⟩, .string ⟨#[]⟩, .int .i64 (0 : Nat), .int .i64 (0 : Nat), .bool false, .slice a l.length cap], .agg #[.int .i64 (0 : Nat), .string ⟨#[]⟩, .string ⟨#[]⟩, .int .i64 (0 : Nat), .int .i64 (0 : Nat), .bool false, .slice a' l.length cap']] _ _) at H
 go_enter Tryz.func16, Tryz.ntmps16
 go_wp2_with fail
 refine H.out.mono ?_
 rintro e w1 ⟨rfl, hb1⟩
 go_wp2
 go_ret
 exact ⟨rfl, hb1⟩
end Bk
end Go.Proofs.YtkiipaaaakhhfaaGreatDoor
end
section
namespace Go.Proofs.YtkiipaaaakhhfaaGreatDoor
open Go Go.RowKit
namespace Bk
set_option maxRecDepth 100000
set_option linter.unusedVariables false
set_option linter.unusedSimpArgs false
theorem at_cons {S : ByteArray} {k : Nat} (h : k < S.size) : ∃ c t, S.data.toList.drop k = c :: t ∧ S[k] = c ∧ S.data.toList.drop (k + 1) = t := by
 have hl : S.data.toList.length = S.size := by rw [Array.length_toList]; rfl
 refine ⟨S[k], S.data.toList.drop (k + 1), ?_, rfl, rfl⟩
 rw [List.drop_eq_getElem_cons (by omega), Array.getElem_toList]
 rfl
theorem neqU (c : UInt8) (n : Nat) (hn : n < 256) : ((c.toNat : Int) != (n : Int)) = !(c == UInt8.ofNat n) := by
 have h : ((c.toNat : Int) == (n : Int)) = (c == UInt8.ofNat n) := by
  rw [Bool.eq_iff_iff]
  simp only [beq_iff_eq]
  constructor
  ·intro e
   have e2 : c.toNat = n := by omega
   rw [← e2, UInt8.ofNat_toNat]
  ·intro e
   subst e
   have : (UInt8.ofNat n).toNat = n := by rw [UInt8.toNat_ofNat', Nat.mod_eq_of_lt hn]
   omega
 rw [bne, h]
theorem tw_get (p : UInt8 → Bool) : ∀ (t : Str) (k : Nat) (c : UInt8) (u : Str), k < (t.takeWhile p).length → t.drop k = c :: u → p c = true
 | [], k, c, u, h, _ => by simp at h
 | d :: t, k, c, u, h, hd => by
  rw [List.takeWhile_cons] at h
  cases hp : p d with
  | false => rw [hp] at h; simp at h
  | true =>
   rw [hp, if_pos rfl] at h
   cases k with
   | zero => rw [List.drop_zero] at hd; injection hd with h1 h2; rw [← h1]; exact hp
   | succ k => exact tw_get p t k c u (by simpa using h) (by simpa using hd)
theorem tw_stop (p : UInt8 → Bool) : ∀ (t : Str) (c : UInt8) (u : Str), t.drop (t.takeWhile p).length = c :: u → p c = false
 | [], c, u, h => by simp at h
 | d :: t, c, u, h => by
  rw [List.takeWhile_cons] at h
  cases hp : p d with
  | false =>
   rw [hp] at h
   simp only [Bool.false_eq_true, if_false, List.length_nil, List.drop_zero] at h
   injection h with h1 h2
   rw [← h1]; exact hp
  | true =>
   rw [hp, if_pos rfl, List.length_cons, List.drop_succ_cons] at h
   exact tw_stop p t c u h
theorem lab_eq (t : Str) : labelP (91 :: 94 :: t) = match t.drop (t.takeWhile nlab).length with
  | 93 :: 58 :: _ => if t.takeWhile nlab = [] then ([], 0) else (t.takeWhile nlab, (t.takeWhile nlab).length + 4)
  | _ => ([], 0) := rfl
theorem lab_no {t : Str} (h : ∀ u, t.drop (t.takeWhile nlab).length ≠ 93 :: 58 :: u) : labelP (91 :: 94 :: t) = ([], 0) := by
 rw [lab_eq]
 split
 ·rename_i u hu
  exact absurd hu (h u)
 ·rfl
theorem lab_zero {t : Str} (h : (t.takeWhile nlab).length = 0) : labelP (91 :: 94 :: t) = ([], 0) := by
 rw [lab_eq]
 split
 ·rw [if_pos (List.length_eq_zero_iff.1 h)]
 ·rfl
theorem lab_yes {t u : Str} (h : t.drop (t.takeWhile nlab).length = 93 :: 58 :: u) (h0 : (t.takeWhile nlab).length ≠ 0) : labelP (91 :: 94 :: t) = (t.takeWhile nlab, (t.takeWhile nlab).length + 4) := by
 rw [lab_eq, h]
 exact if_neg fun e => h0 (by rw [e]; rfl)
theorem lab_head {s : Str} (h : ∀ t, s ≠ 91 :: 94 :: t) : labelP s = ([], 0) := by
 unfold labelP
 split
 ·rename_i t
  exact absurd rfl (h t)
 ·rfl
theorem tw_take (p : UInt8 → Bool) : ∀ t : Str, t.take (t.takeWhile p).length = t.takeWhile p
 | [] => rfl
 | d :: t => by
  rw [List.takeWhile_cons]
  cases hp : p d with
  | false => rfl
  | true => rw [if_pos rfl, List.length_cons, List.take_succ_cons, tw_take p t]
set_option maxHeartbeats 8000000 in
theorem rlab_any (s : Str) (w : World) (hs : s.length ≤ 4000) : Calls Tryz.prog 15 #[str s] w fun e w' => e = .returned (.tuple #[str (labelP s).1, .int .i64 ((labelP s).2 : Nat)]) ∧ w = w' := by
 obtain ⟨r, hr⟩ : ∃ r, labelP s = r := ⟨_, rfl⟩
 rw [hr]
 obtain ⟨S, hS⟩ : ∃ S : ByteArray, ⟨s.toArray⟩ = S := ⟨_, rfl⟩
 have hSd : S.data.toList = s := by rw [← hS]
 have hSs : S.size = s.length := by rw [← hS]; rfl
 show Calls _ _ #[.string ⟨s.toArray⟩] w _
 rw [hS]
 by_cases h2 : S.size < 2
 ·have HV : Hid (r = ([], 0)) := Lib.hid (by
   rw [← hr]
   refine lab_head fun t e => ?_
   rw [hSs, e] at h2
   simp at h2
   omega)
  have h3 : (S.size : Int) < 2 := by omega
  clear hr hS hSd hSs hs h2
  go_enter Tryz.func15, Tryz.ntmps15
  go_wp2
  go_ret2
  exact ⟨by rw [HV.out]; rfl, rfl⟩
 have k0 : 0 < S.size := by omega
 have k1 : 1 < S.size := by omega
 obtain ⟨c, t0, hd0, hc0, ht0⟩ := at_cons k0
 obtain ⟨d, t, hd1, hc1, ht1⟩ := at_cons k1
 rw [List.drop_zero] at hd0
 have hs2 : s = c :: d :: t := by rw [← hSd, hd0, ← ht0, hd1]
 have g0 : ¬ (S.size : Int) < 2 := by omega
 have g1 : (0 : Int) < (S.size : Int) := by omega
 have g2 : (1 : Int) < (S.size : Int) := by omega
 by_cases hcd : c = 91 ∧ d = 94
 ·obtain ⟨rfl, rfl⟩ := hcd
  subst hs2
  obtain ⟨n, hn⟩ : ∃ n, (t.takeWhile nlab).length = n := ⟨_, rfl⟩
  have hnt := tw_le nlab t
  simp only [List.length_cons] at hSs hs
  have hsz : S.size = t.length + 2 := by omega
  have HD : Hid (∀ k, S.data.toList.drop (k + 2) = t.drop k) := Lib.hid (fun k => by rw [hSd]; rfl)
  have HR := Lib.hid hr
  have HN := Lib.hid hn
  have HT := Lib.hid (show n ≤ t.length by omega)
  have hnS : n + 2 ≤ S.size := by omega
  have hmx : S.size ≤ 4000 := by omega
  have HE : Hid (S.extract 2 (n + 2) = ⟨(t.take n).toArray⟩) := Lib.hid (by
   refine bytes_ext ?_
   rw [ByteArray.data_extract, Array.toList_extract, hSd]
   show (t.drop 0).take (n + 2 - 2) = _
   rw [List.drop_zero, Nat.add_sub_cancel])
  clear hr hS hSd hSs hs hd0 hd1 ht0 ht1 hn hnt hsz h2
  go_enter Tryz.func15, Tryz.ntmps15
  go_wp2_with fail
  go_loopg [4] n (fun g s4 wr => ∃ i : Nat, i + g = n + 2 ∧ 2 ≤ i ∧ s4 = .int .i64 (i : Int) ∧ w = wr)
  case atStart => exact ⟨2, by omega, by omega, rfl, rfl⟩
  case round =>
   obtain ⟨i, hig, hi2, rfl, rfl⟩ := hrel
   cases gk with
   | succ g =>
    have hlt : (i : Int) < (S.size : Int) := by omega
    obtain ⟨q, u, hd, hck, _⟩ := at_cons (show i < S.size by omega)
    have hp : nlab q = true := tw_get nlab t (i - 2) q u (by rw [HN.out]; omega) (by rw [← HD.out, show i - 2 + 2 = i by omega]; exact hd)
    have e1 := neqU q 32 (by decide)
    have e2 := neqU q 9 (by decide)
    have e3 := neqU q 10 (by decide)
    have e4 := neqU q 91 (by decide)
    have e5 := neqU q 93 (by decide)
    unfold nlab at hp
    have f1 : (q == 32) = false := by simp_all
    have f2 : (q == 9) = false := by simp_all
    have f3 : (q == 10) = false := by simp_all
    have f4 : (q == 91) = false := by simp_all
    have f5 : (q == 93) = false := by simp_all
    replace e1 : ((q.toNat : Int) != 32) = true := by rw [show ((32 : Int)) = ((32 : Nat) : Int) from rfl, e1]; show (!(q == 32)) = true; rw [f1]; rfl
    replace e2 : ((q.toNat : Int) != 9) = true := by rw [show ((9 : Int)) = ((9 : Nat) : Int) from rfl, e2]; show (!(q == 9)) = true; rw [f2]; rfl
    replace e3 : ((q.toNat : Int) != 10) = true := by rw [show ((10 : Int)) = ((10 : Nat) : Int) from rfl, e3]; show (!(q == 10)) = true; rw [f3]; rfl
    replace e4 : ((q.toNat : Int) != 91) = true := by rw [show ((91 : Int)) = ((91 : Nat) : Int) from rfl, e4]; show (!(q == 91)) = true; rw [f4]; rfl
    replace e5 : ((q.toNat : Int) != 93) = true := by rw [show ((93 : Int)) = ((93 : Nat) : Int) from rfl, e5]; show (!(q == 93)) = true; rw [f5]; rfl
    clear hp hd f1 f2 f3 f4 f5
    go_wp2
    go_roundg g
    case rel => exact ⟨i + 1, by omega, by omega, by go_num, rfl⟩
    case measure => omega
   | zero =>
    have HIn := Lib.hid (show i = n + 2 by omega)
    obtain ⟨j, hj⟩ : ∃ j, i + 1 = j := ⟨_, rfl⟩
    obtain ⟨k, hk⟩ : ∃ k, i + 2 = k := ⟨_, rfl⟩
    have w1 : IntKind.i64.wrap ((i : Int) + 1) = (j : Int) := by rw [IntWalk.i64_in _ (by omega)]; omega
    have w2 : IntKind.i64.wrap ((i : Int) + 2) = (k : Int) := by rw [IntWalk.i64_in _ (by omega)]; omega
    have b0 : (0 : Int) ≤ (i : Int) := by omega
    have b1 : (2 : Int) ≤ (i : Int) := by omega
    have b2 : (i : Int) ≤ (S.size : Int) := by omega
    have b3 : (0 : Int) ≤ (j : Int) := by omega
    have HJ := Lib.hid hj
    have HKk := Lib.hid hk
    replace HE : Hid (S.extract 2 i = ⟨(t.take n).toArray⟩) := Lib.hid (by rw [HIn.out]; exact HE.out)
    clear hj hk hig
    by_cases hlt2 : i < S.size
    ·have hlt : (i : Int) < (S.size : Int) := by omega
     obtain ⟨q, u, hd, hck, hu⟩ := at_cons hlt2
     have hdt : t.drop n = q :: u := by rw [← HD.out, ← HIn.out]; exact hd
     have hp : nlab q = false := tw_stop nlab t q u (by rw [HN.out]; exact hdt)
     by_cases hq : q = 93
     ·subst hq
      by_cases hn0 : n = 0
      ·have HV : Hid (r = ([], 0)) := Lib.hid (by rw [← HR.out]; exact lab_zero (by rw [HN.out]; exact hn0))
       obtain rfl : i = 2 := by have := HIn.out; omega
       have hlt' : (2 : Int) < (S.size : Int) := hlt
       clear hd hdt hp hu hlt
       go_wp2
       all_goals go_ret2
       all_goals exact ⟨by rw [HV.out]; rfl, rfl⟩
      ·have hi9 := HIn.out
       have m1 : ¬ (i : Int) = 2 := by omega
       have m2 : ((i : Int) == 2) = false := by simp; omega
       clear hi9
       by_cases h3 : j < S.size
       ·obtain ⟨p, v, hd3, hck3, _⟩ := at_cons h3
        have hup : u = p :: v := by rw [← hu, HJ.out]; exact hd3
        have m3 : ¬ (j : Int) ≥ (S.size : Int) := by omega
        have m4 : (j : Int) < (S.size : Int) := by omega
        by_cases hp8 : p = 58
        ·subst hp8
         have HV : Hid (r = (t.take n, n + 4)) := Lib.hid (by
          rw [← HR.out, lab_yes (u := v) (by rw [HN.out, hdt, hup]) (by rw [HN.out]; exact hn0), HN.out, ← HN.out, tw_take])
         clear hd hdt hp hu hd3 hup
         go_wp2
         go_ret2
         exact ⟨by rw [HV.out, HE.out, show k = n + 4 by have := HKk.out; have := HIn.out; omega]; rfl, rfl⟩
        ·have HV : Hid (r = ([], 0)) := Lib.hid (by
          rw [← HR.out]
          refine lab_no fun x e => hp8 ?_
          rw [HN.out, hdt, hup] at e
          injection e with _ e
          injection e with e _)
         have m5 : ((p.toNat : Int) != 58) = true := by
          rw [show ((58 : Int)) = ((58 : Nat) : Int) from rfl, neqU p 58 (by decide)]
          show (!(p == 58)) = true
          rw [beq_eq_false_iff_ne.2 hp8]; rfl
         clear hd hdt hp hu hd3 hup hp8
         go_wp2
         all_goals go_ret2
         all_goals exact ⟨by rw [HV.out]; rfl, rfl⟩
       ·have HV : Hid (r = ([], 0)) := Lib.hid (by
         rw [← HR.out]
         refine lab_no fun x e => h3 ?_
         rw [HN.out] at e
         have := congrArg List.length e
         rw [List.length_drop] at this
         simp only [List.length_cons] at this
         have hz := congrArg List.length (HD.out n)
         rw [List.length_drop, List.length_drop, Array.length_toList] at hz
         have : S.data.size = S.size := rfl
         have := HIn.out
         have := HJ.out
         omega)
        have m3 : (j : Int) ≥ (S.size : Int) := by omega
        clear hd hdt hp hu
        go_wp2
        all_goals go_ret2
        all_goals exact ⟨by rw [HV.out]; rfl, rfl⟩
     ·have HV : Hid (r = ([], 0)) := Lib.hid (by
       rw [← HR.out]
       refine lab_no fun x e => hq ?_
       rw [HN.out, hdt] at e
       injection e with e _)
      have m5 : ((q.toNat : Int) != 93) = true := by
       rw [show ((93 : Int)) = ((93 : Nat) : Int) from rfl, neqU q 93 (by decide)]
       show (!(q == 93)) = true
       rw [beq_eq_false_iff_ne.2 hq]; rfl
      have h4 : q = 32 ∨ q = 9 ∨ q = 10 ∨ q = 91 := by
       unfold nlab at hp
       simp at hp
       by_cases a1 : q = 32
       ·exact .inl a1
       ·by_cases a2 : q = 9
        ·exact .inr (.inl a2)
        ·by_cases a3 : q = 10
         ·exact .inr (.inr (.inl a3))
         ·by_cases a4 : q = 91
          ·exact .inr (.inr (.inr a4))
          ·exact absurd (hp a1 a2 a3 a4) hq
      clear hd hdt hp hu hq
      rcases h4 with rfl | rfl | rfl | rfl
      all_goals
       go_wp2
       all_goals go_ret2
       all_goals exact ⟨by rw [HV.out]; rfl, rfl⟩
    ·have hlt : ¬ (i : Int) < (S.size : Int) := by omega
     have m3 : (j : Int) ≥ (S.size : Int) := by have := HJ.out; omega
     have HV : Hid (r = ([], 0)) := Lib.hid (by
      rw [← HR.out]
      refine lab_no fun x e => ?_
      rw [HN.out] at e
      have := congrArg List.length e
      rw [List.length_drop] at this
      simp only [List.length_cons] at this
      have hz := congrArg List.length (HD.out n)
      rw [List.length_drop, List.length_drop, Array.length_toList] at hz
      have : S.data.size = S.size := rfl
      have := HIn.out
      omega)
     go_wp2
     all_goals go_ret2
     all_goals exact ⟨by rw [HV.out]; rfl, rfl⟩
 ·have HV : Hid (r = ([], 0)) := Lib.hid (by
   rw [← hr]
   refine lab_head fun t' e => hcd ?_
   rw [hs2] at e
   injection e with e1 e2
   injection e2 with e2 e3
   exact ⟨e1, e2⟩)
  clear hr hS hSd hSs hs hd0 hd1 ht0 ht1 hs2 h2
  by_cases hc : c = 91
  ·subst hc
   have hd' : d ≠ 94 := fun e => hcd ⟨rfl, e⟩
   have m5 : ((d.toNat : Int) != 94) = true := by
    rw [show ((94 : Int)) = ((94 : Nat) : Int) from rfl, neqU d 94 (by decide)]
    show (!(d == 94)) = true
    rw [beq_eq_false_iff_ne.2 hd']; rfl
   clear hcd hd'
   go_enter Tryz.func15, Tryz.ntmps15
   go_wp2
   all_goals go_ret2
   all_goals exact ⟨by rw [HV.out]; rfl, rfl⟩
  ·have m5 : ((c.toNat : Int) != 91) = true := by
    rw [show ((91 : Int)) = ((91 : Nat) : Int) from rfl, neqU c 91 (by decide)]
    show (!(c == 91)) = true
    rw [beq_eq_false_iff_ne.2 hc]; rfl
   clear hcd hc
   go_enter Tryz.func15, Tryz.ntmps15
   go_wp2
   all_goals go_ret2
   all_goals exact ⟨by rw [HV.out]; rfl, rfl⟩
end Bk
end Go.Proofs.YtkiipaaaakhhfaaGreatDoor
end
section
namespace Go.Proofs.YtkiipaaaakhhfaaGreatDoor
open Go Go.RowKit
namespace Bk
set_option maxRecDepth 100000
set_option linter.unusedVariables false
set_option linter.unusedSimpArgs false
theorem InS.any7 {w : World} {C : Nat → Prop} {l : List Blk} {v : Value} (h : InS w C l v) : InS w (fun _ => True) l v := h.carry (fun _ _ _ _ _ => trivial) fun _ _ _ _ h => h
theorem JnS.any7 {w : World} {C : Nat → Prop} {l : List Blk} {v : Value} (h : JnS w C l v) : JnS w (fun _ => True) l v := h.carry (fun _ _ _ _ _ => trivial) fun _ _ _ _ h => h
theorem defsZ_sub (s : Str) : (defsZ s).2.length ≤ s.length := by
 obtain ⟨k, h1, h3, _⟩ := Rf.all_rest s.length s (Nat.le_refl _)
 show (Rf.allP s).2.length ≤ _
 rw [h3, List.length_drop]
 omega
theorem scz : ScZ (XS defsZ) where
 atx := fun s hs => by
  have h1 := (atx_le s).2
  show (Sc.atxP s).2.length ≤ _
  omega
 fence := fun s hs => by
  have h1 := (fence_le s).2
  have h2 := Es.une_len (Sc.fenceP s).2.2
  show (Es.une (Sc.fenceP s).2.2).length ≤ _
  omega
 defs := defsZ_sub
set_option maxHeartbeats 16000000 in
theorem nodes_law (w : World) (P : Prog11 w (XS defsZ)) (hX : ScZ (XS defsZ)) (v : Value) (l : List Str) (m : Int) (S : ByteArray) (hl : SSl w v l) :
  Calls Tryz.prog 3 #[v, .int .i64 m, .string S] w fun e w' => e = .returned (.bool true) ∧ Below w.heap.size w w' := by
 have HA := Lib.hid P.awake
 have HF := Lib.hid (fun W (hW : Below w.heap.size w W) => few_any l v W (hl.keep hW))
 have HP := Lib.hid (fun W (hW : Below w.heap.size w W) (hf : FewS l) => P.parse W hW v l m (hl.keep hW) hf.fit)
 have HOK := Lib.hid (fun (hf : FewS l) => ok_parse hX (P.foot m) hf.fit.1 hf.fit.2)
 obtain ⟨ao, cap, e0, hlm, _⟩ := hl
 subst e0
 obtain ⟨N, hN⟩ : ∃ N, l.length = N := ⟨_, rfl⟩
 rw [hN] at hlm HF HP ⊢
 clear hN
 unfold maxLen at hlm
 by_cases h1000 : (1000 : Int) < (S.size : Int)
 ·go_enter Tryz.func3, Tryz.ntmps3
  go_wp2_with fail
  refine HA.out.mono ?_
  rintro e w1 ⟨rfl, hb1⟩
  go_wp2_with fail
  refine (HF.out w1 hb1).mono ?_
  rintro e w2 ⟨he, rfl⟩
  rcases he with rfl | ⟨rfl, hf⟩
  ·go_wp2
   go_ret
   exact ⟨rfl, hb1⟩
  ·go_wp2
   go_ret
   exact ⟨rfl, hb1⟩
 have hsz : S.data.toList.length ≤ 4000 := by
  rw [Array.length_toList]
  have : S.data.size = S.size := rfl
  omega
 have HL := Lib.hid (fun W => label_any S.data.toList W hsz)
 have HR := Lib.hid (fun W => rlab_any S.data.toList W hsz)
 obtain ⟨lb, hlb⟩ : ∃ r, labelP S.data.toList = r := ⟨_, rfl⟩
 rw [hlb] at HL HR
 change Hid (∀ W, Calls _ _ #[.string ⟨S.data.toList.toArray⟩] W _) at HL
 change Hid (∀ W, Calls _ _ #[.string ⟨S.data.toList.toArray⟩] W _) at HR
 have hS : (⟨S.data.toList.toArray⟩ : ByteArray) = S := by rw [Array.toArray_toList]
 rw [hS] at HL HR
 obtain ⟨l1, l2⟩ := lb
 unfold str at HL HR
 clear hS hlb hsz
 go_enter Tryz.func3, Tryz.ntmps3
 go_wp2_with fail
 refine HA.out.mono ?_
 rintro e w1 ⟨rfl, hb1⟩
 go_wp2_with fail
 refine (HF.out w1 hb1).mono ?_
 rintro e w2 ⟨he, rfl⟩
 rcases he with rfl | ⟨rfl, hf⟩
 ·go_wp2
  go_ret
  exact ⟨rfl, hb1⟩
 go_wp2_with fail
 refine (HP.out w1 hb1 hf).mono ?_
 rintro e w2 ⟨u, r, rfl, hin, hcn, hr, hb2, _⟩
 obtain ⟨au, cu, rfl, _⟩ := hin.form
 obtain ⟨ar, cr, rfl⟩ := P.formR hr
 have HB2 := Lib.hid (below_later hb1 hb2)
 have hok := HOK.out hf
 obtain ⟨pa, hpa⟩ : ∃ pa, (parse (XS defsZ) (P.foot m) l).1 = pa := ⟨_, rfl⟩
 obtain ⟨pd, hpd⟩ : ∃ pd, (parse (XS defsZ) (P.foot m) l).2 = pd := ⟨_, rfl⟩
 rw [hpa] at hin hcn hok ⊢
 rw [hpd]
 obtain ⟨n, hn⟩ : ∃ n, pa.length = n := ⟨_, rfl⟩
 rw [hn] at hin ⊢
 have HIN := Lib.hid hin
 have HNd := Lib.hid (fun W (hW : Below w2.heap.size w2 W) => bnodes_blk _ (.mk 0 [] [] 0 0 false 0 0 pa) W _ (HIN.out.keep hW) hcn hok)
 have HTh := Lib.hid (fun W (hW : Below w2.heap.size w2 W) => theirs_any _ pa W _ (HIN.out.keep hW) hcn)
 have HRn := Lib.hid (fun W u (h : InS W (fun _ => True) pa u) => rnodes_blk (fun _ => True) (.mk 0 [] [] 0 0 false 0 0 pa) W u h hcn)
 have HSa := Lib.hid (fun W u v (hu : JnS W (fun _ => True) pa u) (hv : JnS W (fun _ => True) pa v) => rall_any pa W u v hu hv)
 change Hid (∀ W, Below w2.heap.size w2 W → Calls _ _ _ _ fun e w' => ∃ u, e = .returned u ∧ JnS w' (fun g => W.heap.size ≤ g) pa u ∧ Below W.heap.size W w') at HNd
 change Hid (∀ W u, InS W (fun _ => True) pa u → Calls _ _ _ _ fun e w' => ∃ u, e = .returned u ∧ JnS w' (fun g => W.heap.size ≤ g) pa u ∧ Below W.heap.size W w') at HRn
 obtain ⟨dl, hdl⟩ : ∃ d, P.len pd = d := ⟨_, rfl⟩
 rw [hdl]
 clear hin hcn hr hf hok hn hpa hpd hb2 hdl
 go_wp2_with fail
 refine (HL.out w2).mono ?_
 rintro e w3 ⟨rfl, hb3⟩
 have HB3 := Lib.hid hb3
 clear hb3
 go_wp2_with fail
 refine (HR.out w3).mono ?_
 rintro e w4 ⟨rfl, rfl⟩
 go_wp2_with fail
 refine (HNd.out w3 HB3.out).mono ?_
 rintro e w5 ⟨u5, rfl, j5, hb5⟩
 have HJ5 := Lib.hid j5.any7
 have HB5 := Lib.hid (below_later HB3.out hb5)
 obtain ⟨a5, c5, rfl, _⟩ := j5.form
 clear j5 hb5
 go_wp2_with fail
 refine (HTh.out w5 HB5.out).mono ?_
 rintro e w6 ⟨u6, rfl, i6, hb6⟩
 have HI6 := Lib.hid i6.any7
 have HB6 := Lib.hid (below_later HB5.out hb6)
 have HJ6 := Lib.hid (HJ5.out.keep hb6)
 obtain ⟨a6, c6, rfl, _⟩ := i6.form
 clear i6 hb6
 go_wp2_with fail
 refine (HRn.out w6 _ HI6.out).mono ?_
 rintro e w7 ⟨u7, rfl, j7, hb7⟩
 have HJ7 := Lib.hid j7.any7
 have HB7 := Lib.hid (below_later HB6.out hb7)
 have HJ8 := Lib.hid (HJ6.out.keep hb7)
 obtain ⟨a7, c7, rfl, _⟩ := j7.form
 clear j7 hb7
 go_wp2_with fail
 refine (HSa.out w7 _ _ HJ8.out HJ7.out).mono ?_
 rintro e w8 ⟨rfl, hb8⟩
 have HB8 := Lib.hid (below_later HB2.out (below_later HB7.out hb8))
 clear hb8
 go_wp2
 go_ret
 exact ⟨rfl, HB8.out⟩
end Bk
end Go.Proofs.YtkiipaaaakhhfaaGreatDoor
end
