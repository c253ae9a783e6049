import Derived.Test.YtkiipaaaakhhfaaGreatDoorBlockNodesX
import Derived.Test.YtkiipaaaakhhfaaGreatDoorCBk3
import Derived.Test.YtkiipaaaakhhfaaGreatDoorCBk2
import Derived.Test.YtkiipaaaakhhfaaGreatDoorCBkL1
import Derived.Test.YtkiipaaaakhhfaaGreatDoorCBk11
import Derived.Test.YtkiipaaaakhhfaaGreatDoorCCol1
import Derived.Deep.RegionHeld3
import Derived.Deep.DrawnRows
import Derived.Test.YtkiipaaaakhhfaaGreatDoorCBk9
import Derived.Test.YtkiipaaaakhhfaaGreatDoorCBk1
import Derived.Test.YtkiipaaaakhhfaaGreatDoorCSc1
import Derived.Test.YtkiipaaaakhhfaaGreatDoorCBk8
import Derived.Test.YtkiipaaaakhhfaaGreatDoorCBk13
import Derived.Test.YtkiipaaaakhhfaaGreatDoorCKit1
import Derived.Test.YtkiipaaaakhhfaaGreatDoorCRf1
import Derived.ChangeArms
import Derived.ChangeSlices
import Derived.SizedLaws
import Derived.Test.YtkiipaaaakhhfaaGreatDoorCards
import Derived.Test.YtkiipaaaakhhfaaGreatDoorTie
namespace Go.Proofs.YtkiipaaaakhhfaaGreatDoor
open Go Go.ChangeShapes Go.WideShapes Go.ChangeAt Go.ChangeMaps Go.RowKit
namespace BlockNodes
set_option maxRecDepth 100000 in
theorem lifted (os : Os) (started : os.Started) (H : Type) (enc : TypeId × Value → H) :
  ReturnsInHanded {} Tryz.checked os 3 .any (fun w args => (Rows.blockNodesSpec.pre enc Tryz.prog Tryz.f3 Rows.blockNodesRow.domain false w args ∧ laidMetH Tryz.prog Rows.blockNodesRow.laid w) ∧ sizedMet enc Tryz.prog Tryz.f3 (OpenSpec.ofChange Rows.blockNodesSpec) false w args)
   (Rows.blockNodesSpec.post enc Tryz.prog Tryz.f3 false true false false) := by
 refine Kit.handed_sized (C := Tryz.checked) (X := fun w _ => laidMetH Tryz.prog Rows.blockNodesRow.laid w) (fun _ _ _ hh h => h.of_heap hh) Kit.own started (by kernel_rfl) Tryz.func3
  (ChangeSpec.witness_shaped (enc := enc) (C := Tryz.checked) (os := os) (X := fun w _ => laidMetH Tryz.prog Rows.blockNodesRow.laid w) false (World.laidAll Tryz.prog os Rows.blockNodesRow.laid) #[.slice none 0 0, .int .i64 0, .string ⟨#[]⟩] 8 (World.laidAll_os _ _ _)
   (World.shaped_of_ZipB (by kernel_rfl) (by kernel_rfl)) (by kernel_rfl) (by kernel_rfl) (by kernel_rfl)
   (by rw [MakeChecks.laidMetH_plain _ _ _ (by kernel_rfl)]; exact laidMet_laidAll _ (by kernel_rfl) (by kernel_rfl))) ?_
 intro W base args ds gs before hval0 hW hL hsh hsz0
 have hval : ∀ (j : Nat) t v, Tryz.f3.params[j]? = some t → args[j]? = some v → Value.okWide Tryz.prog W .any base t v := hval0
 have hsz : (DataW.weightsEach Tryz.prog (Tryz.f3.params.toList ++ Rows.blockNodesSpec.plain.varTypes Tryz.prog) (ds ++ gs)).all (· ≤ reachBytes) = true := hsz0
 have hW' := hW
 obtain ⟨p, q, hA0, hV, _, _, _⟩ := hW
 have hA : DataW.TrodAll enc Tryz.prog W 0 (fun _ => true) true Tryz.f3.params.toList args.toList ds p := hA0
 rw [Tryz.params3] at hA hval hsz
 obtain ⟨v0, v1, v2, d0, d1, d2, p0, p1, p2, rfl, rfl, hpp, h0, h1, h2⟩ := trodAll_three hA
 obtain ⟨l0, hl0⟩ := Bk.open_texts (hval 0 22 v0 rfl rfl) h0
 obtain ⟨x1, rfl, rfl, _, wx1⟩ := open_int Tryz.underlying3 (hval 1 3 v1 rfl rfl) h1
 have hw2 : ∀ y ∈ d2.weights Tryz.prog 9, y ≤ reachBytes := fun y hy => by simpa using List.all_eq_true.1 hsz y (DataW.weights_mem_each (j := 2) (t := 9) (d := d2) rfl rfl y hy)
 obtain ⟨s2, rfl, ws2⟩ := Rf.open_str (hval 2 9 v2 rfl rfl) h2 hw2
 have hLd := Bk.laid11_of hL hsh
 refine (Bk.nodes_law W (Bk.prog11 hLd) Bk.scz _ l0 x1 s2 hl0).mono fun e W' ⟨he, hb⟩ => ?_
 subst he
 refine ⟨_, rfl, Kit.law_post (bt := 4) Kit.laidOut ?_ hW' rfl rfl (by kernel_rfl) Tryz.underlying4 hb⟩
 rw [Tryz.params3]
 intro t ht
 have hall : (#[22, 3, 9].toList.all fun t => Tryz.prog.readableRec t && decide (t < Tryz.prog.types.size)) = true := by kernel_rfl
 have := List.all_eq_true.1 hall t ht
 simpa using this
theorem holds : Rows.BlockNodesSaid :=
 OpenClaim.holds_of_wide 3 Tryz.f3 rfl rfl rfl rfl rfl rfl rfl ⟨rfl, rfl, rfl, rfl, rfl⟩ rfl rfl rfl rfl rfl (by kernel_rfl) Tryz.func3 (by kernel_rfl)
  (of_decide_eq_true (by kernel_rfl)) (by unfold Func.isWrapper; first | (rw [if_pos (by decide +kernel)]; kernel_rfl) | (rw [if_neg (by decide +kernel)]; exact ⟨rfl, rfl⟩))
  (fun os started H enc _ => lifted os started H enc)
theorem card_holds : Rows.BlockNodesCardSaid :=
 Claim7.holds_tied_plain_at .later [] _ _ _ _ holds (fun _ h => by cases h) (by kernel_rfl) (fun _ h => by cases h) blockNodes_row_tie rfl ⟨rfl, rfl⟩ (by kernel_rfl) rfl
  (fun f fn hf hfn => by
   obtain rfl : f = 3 := Option.some.inj ((show Tryz.prog.funcNamed "incipit/incipitlaw11.BlockNodes" = some 3 by kernel_rfl).symm.trans hf) |>.symm
   obtain rfl : fn = Tryz.f3 := (Option.some.inj (Tryz.func3.symm.trans hfn)).symm
   exact ⟨by kernel_rfl, fun j t ht => by
    rw [Tryz.params3] at ht
    have hm : t ∈ [22, 3, 9] := by simpa using Array.mem_of_getElem? ht
    have hall : ([22, 3, 9].all fun u => !Tryz.prog.wantsStandIn u) = true := by kernel_rfl
    exact (show Tryz.prog.wantsStandIn t = false by simpa using List.all_eq_true.1 hall t hm)⟩)
  (by kernel_rfl)
end BlockNodes
end Go.Proofs.YtkiipaaaakhhfaaGreatDoor
