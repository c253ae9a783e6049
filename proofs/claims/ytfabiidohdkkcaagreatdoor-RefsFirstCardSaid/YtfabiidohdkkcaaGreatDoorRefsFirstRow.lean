/- RefsFirst: the law holds for every input (true is returned, and nothing that was there has turned): the row and its tied card. -/
import Derived.Test.YtfabiidohdkkcaaGreatDoorRefsFirstLaw
import Derived.Test.YtfabiidohdkkcaaGreatDoorRfXc
import Derived.Test.YtfabiidohdkkcaaGreatDoorRfXd
import Derived.Test.YtfabiidohdkkcaaGreatDoorRfXe
import Derived.Test.YtfabiidohdkkcaaGreatDoorCards
import Derived.Test.YtfabiidohdkkcaaGreatDoorTie
namespace Go.Proofs.YtfabiidohdkkcaaGreatDoor
open Go Go.ChangeShapes Go.WideShapes Go.ChangeAt Go.ChangeMaps Go.RowKit
namespace RefsFirst

set_option maxRecDepth 100000 in
theorem lifted (os : Os) (started : os.Started) (H : Type) (enc : TypeId × Value → H) :
    ReturnsInHanded {} Tryz.checked os 6 .any (fun w args => (Rows.refsFirstSpec.pre enc Tryz.prog Tryz.f6 Rows.refsFirstRow.domain false w args ∧ laidMetH Tryz.prog Rows.refsFirstRow.laid w) ∧ sizedMet enc Tryz.prog Tryz.f6 (OpenSpec.ofChange Rows.refsFirstSpec) false w args)
      (Rows.refsFirstSpec.post enc Tryz.prog Tryz.f6 false true false false) := by
  refine Kit.handed_sized (C := Tryz.checked) (X := fun w _ => laidMetH Tryz.prog Rows.refsFirstRow.laid w) (fun _ _ _ hh h => h.of_heap hh) Kit.own started (by kernel_rfl) Tryz.func6
    (ChangeSpec.witness_shaped (enc := enc) (C := Tryz.checked) (os := os) (X := fun w _ => laidMetH Tryz.prog Rows.refsFirstRow.laid w) false (World.laidAll Tryz.prog os Rows.refsFirstRow.laid) #[.slice none 0 0, .slice none 0 0, .string ⟨#[]⟩] 8 (World.laidAll_os _ _ _)
      (World.shaped_of_ZipB (by kernel_rfl) (by kernel_rfl)) (by kernel_rfl) (by kernel_rfl) (by kernel_rfl)
      (by rw [MakeChecks.laidMetH_plain _ _ _ (by kernel_rfl)]; exact laidMet_laidAll _ (by kernel_rfl) (by kernel_rfl))) ?_
  intro W base args ds gs before hval0 hW hL hsh hsz0
  have hval : ∀ (j : Nat) t v, Tryz.f6.params[j]? = some t → args[j]? = some v → Value.okWide Tryz.prog W .any base t v := hval0
  have hsz : (DataW.weightsEach Tryz.prog (Tryz.f6.params.toList ++ Rows.refsFirstSpec.plain.varTypes Tryz.prog) (ds ++ gs)).all (· ≤ reachBytes) = true := hsz0
  have hW' := hW
  obtain ⟨p, q, hA0, hV, _, _, _⟩ := hW
  have hA : DataW.TrodAll enc Tryz.prog W 0 (fun _ => true) true Tryz.f6.params.toList args.toList ds p := hA0
  rw [Tryz.params6] at hA hval hsz
  obtain ⟨v0, v1, v2, d0, d1, d2, p0, p1, p2, rfl, rfl, hpp, h0, h1, h2⟩ := trodAll_three hA
  have hw0 : ∀ y ∈ d0.weights Tryz.prog 27, y ≤ reachBytes := fun y hy => by simpa using List.all_eq_true.1 hsz y (DataW.weights_mem_each (j := 0) (t := 27) (d := d0) rfl rfl y hy)
  obtain ⟨l0, hl0, gl0⟩ := Rf.open_refs (hval 0 27 v0 rfl rfl) h0 hw0
  have hw1 : ∀ y ∈ d1.weights Tryz.prog 27, y ≤ reachBytes := fun y hy => by simpa using List.all_eq_true.1 hsz y (DataW.weights_mem_each (j := 1) (t := 27) (d := d1) rfl rfl y hy)
  obtain ⟨l1, hl1, gl1⟩ := Rf.open_refs (hval 1 27 v1 rfl rfl) h1 hw1
  have hw2 : ∀ y ∈ d2.weights Tryz.prog 9, y ≤ reachBytes := fun y hy => by simpa using List.all_eq_true.1 hsz y (DataW.weights_mem_each (j := 2) (t := 9) (d := d2) rfl rfl y hy)
  obtain ⟨s2, rfl, ws2⟩ := Rf.open_str (hval 2 9 v2 rfl rfl) h2 hw2
  have hLd := Rf.laid_of hL hsh
  refine (law_any l0 l1 _ _ s2 W hl0 gl0 hl1 gl1 ws2 (Rf.prog_of hLd) (Rf.add_of hLd)).mono fun e W' ⟨he, hb⟩ => ?_
  subst he
  refine ⟨_, rfl, Kit.law_post (bt := 4) Kit.laidOut ?_ hW' rfl rfl (by kernel_rfl) Tryz.underlying4 hb⟩
  rw [Tryz.params6]
  intro t ht
  have hall : (#[27, 27, 9].toList.all fun t => Tryz.prog.readableRec t && decide (t < Tryz.prog.types.size)) = true := by kernel_rfl
  have := List.all_eq_true.1 hall t ht
  simpa using this

theorem holds : Rows.RefsFirstSaid :=
  OpenClaim.holds_of_wide 6 Tryz.f6 rfl rfl rfl rfl rfl rfl rfl ⟨rfl, rfl, rfl, rfl, rfl⟩ rfl rfl rfl rfl rfl (by kernel_rfl) Tryz.func6 (by kernel_rfl)
    (of_decide_eq_true (by kernel_rfl)) (by unfold Func.isWrapper; first | (rw [if_pos (by decide +kernel)]; kernel_rfl) | (rw [if_neg (by decide +kernel)]; exact ⟨rfl, rfl⟩))
    (fun os started H enc _ => lifted os started H enc)

theorem card_holds : Rows.RefsFirstCardSaid :=
  Claim7.holds_tied_plain_at .later [] _ _ _ _ holds (fun _ h => by cases h) (by kernel_rfl) (fun _ h => by cases h) refsFirst_row_tie rfl ⟨rfl, rfl⟩ (by kernel_rfl) rfl
    (fun f fn hf hfn => by
      obtain rfl : f = 6 := Option.some.inj ((show Tryz.prog.funcNamed "incipit/incipitlaw10.RefsFirst" = some 6 by kernel_rfl).symm.trans hf) |>.symm
      obtain rfl : fn = Tryz.f6 := (Option.some.inj (Tryz.func6.symm.trans hfn)).symm
      exact ⟨by kernel_rfl, fun j t ht => by
        rw [Tryz.params6] at ht
        have hm : t ∈ [27, 27, 9] := by simpa using Array.mem_of_getElem? ht
        have hall : ([27, 27, 9].all fun u => !Tryz.prog.wantsStandIn u) = true := by kernel_rfl
        exact (show Tryz.prog.wantsStandIn t = false by simpa using List.all_eq_true.1 hall t hm)⟩)
    (by kernel_rfl)
end RefsFirst
end Go.Proofs.YtfabiidohdkkcaaGreatDoor
