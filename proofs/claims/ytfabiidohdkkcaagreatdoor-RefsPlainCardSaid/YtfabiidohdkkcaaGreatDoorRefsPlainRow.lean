/- RefsPlain: the law holds for every input (true is returned, and nothing that was there has turned): the row and its tied card. -/
import Derived.Test.YtfabiidohdkkcaaGreatDoorRefsPlainLaw
import Derived.Test.YtfabiidohdkkcaaGreatDoorRfXc
import Derived.Test.YtfabiidohdkkcaaGreatDoorRfXd
import Derived.Test.YtfabiidohdkkcaaGreatDoorCards
import Derived.Test.YtfabiidohdkkcaaGreatDoorTie
namespace Go.Proofs.YtfabiidohdkkcaaGreatDoor
open Go Go.ChangeShapes Go.WideShapes Go.ChangeAt Go.ChangeMaps Go.RowKit
namespace RefsPlain

set_option maxRecDepth 100000 in
theorem lifted (os : Os) (started : os.Started) (H : Type) (enc : TypeId × Value → H) :
    ReturnsInHanded {} Tryz.checked os 7 .any (fun w args => (Rows.refsPlainSpec.pre enc Tryz.prog Tryz.f7 Rows.refsPlainRow.domain false w args ∧ laidMetH Tryz.prog Rows.refsPlainRow.laid w) ∧ sizedMet enc Tryz.prog Tryz.f7 (OpenSpec.ofChange Rows.refsPlainSpec) false w args)
      (Rows.refsPlainSpec.post enc Tryz.prog Tryz.f7 false true false false) := by
  refine Kit.handed_sized (C := Tryz.checked) (X := fun w _ => laidMetH Tryz.prog Rows.refsPlainRow.laid w) (fun _ _ _ hh h => h.of_heap hh) Kit.own started (by kernel_rfl) Tryz.func7
    (ChangeSpec.witness_shaped (enc := enc) (C := Tryz.checked) (os := os) (X := fun w _ => laidMetH Tryz.prog Rows.refsPlainRow.laid w) false (World.laidAll Tryz.prog os Rows.refsPlainRow.laid) #[.string ⟨#[]⟩, .string ⟨#[]⟩, .string ⟨#[]⟩, .int .i64 0] 8 (World.laidAll_os _ _ _)
      (World.shaped_of_ZipB (by kernel_rfl) (by kernel_rfl)) (by kernel_rfl) (by kernel_rfl) (by kernel_rfl)
      (by rw [MakeChecks.laidMetH_plain _ _ _ (by kernel_rfl)]; exact laidMet_laidAll _ (by kernel_rfl) (by kernel_rfl))) ?_
  intro W base args ds gs before hval0 hW hL hsh hsz0
  have hval : ∀ (j : Nat) t v, Tryz.f7.params[j]? = some t → args[j]? = some v → Value.okWide Tryz.prog W .any base t v := hval0
  have hsz : (DataW.weightsEach Tryz.prog (Tryz.f7.params.toList ++ Rows.refsPlainSpec.plain.varTypes Tryz.prog) (ds ++ gs)).all (· ≤ reachBytes) = true := hsz0
  have hW' := hW
  obtain ⟨p, q, hA0, hV, _, _, _⟩ := hW
  have hA : DataW.TrodAll enc Tryz.prog W 0 (fun _ => true) true Tryz.f7.params.toList args.toList ds p := hA0
  rw [Tryz.params7] at hA hval hsz
  obtain ⟨v0, v1, v2, v3, d0, d1, d2, d3, p0, p1, p2, p3, rfl, rfl, hpp, h0, h1, h2, h3⟩ := trodAll_four hA
  have hw0 : ∀ y ∈ d0.weights Tryz.prog 9, y ≤ reachBytes := fun y hy => by simpa using List.all_eq_true.1 hsz y (DataW.weights_mem_each (j := 0) (t := 9) (d := d0) rfl rfl y hy)
  obtain ⟨s0, rfl, ws0⟩ := Rf.open_str (hval 0 9 v0 rfl rfl) h0 hw0
  have hw1 : ∀ y ∈ d1.weights Tryz.prog 9, y ≤ reachBytes := fun y hy => by simpa using List.all_eq_true.1 hsz y (DataW.weights_mem_each (j := 1) (t := 9) (d := d1) rfl rfl y hy)
  obtain ⟨s1, rfl, ws1⟩ := Rf.open_str (hval 1 9 v1 rfl rfl) h1 hw1
  have hw2 : ∀ y ∈ d2.weights Tryz.prog 9, y ≤ reachBytes := fun y hy => by simpa using List.all_eq_true.1 hsz y (DataW.weights_mem_each (j := 2) (t := 9) (d := d2) rfl rfl y hy)
  obtain ⟨s2, rfl, ws2⟩ := Rf.open_str (hval 2 9 v2 rfl rfl) h2 hw2
  obtain ⟨x3, rfl, rfl, _, wx3⟩ := open_int Tryz.underlying3 (hval 3 3 v3 rfl rfl) h3
  have hLd := Rf.laid_of hL hsh
  refine (law_any s0 s1 s2 x3 W (Rf.prog_of hLd) ws0 ws1 ws2 wx3).mono fun e W' ⟨he, hb⟩ => ?_
  subst he
  refine ⟨_, rfl, Kit.law_post (bt := 4) Kit.laidOut ?_ hW' rfl rfl (by kernel_rfl) Tryz.underlying4 hb⟩
  rw [Tryz.params7]
  intro t ht
  have hall : (#[9, 9, 9, 3].toList.all fun t => Tryz.prog.readableRec t && decide (t < Tryz.prog.types.size)) = true := by kernel_rfl
  have := List.all_eq_true.1 hall t ht
  simpa using this

theorem holds : Rows.RefsPlainSaid :=
  OpenClaim.holds_of_wide 7 Tryz.f7 rfl rfl rfl rfl rfl rfl rfl ⟨rfl, rfl, rfl, rfl, rfl⟩ rfl rfl rfl rfl rfl (by kernel_rfl) Tryz.func7 (by kernel_rfl)
    (of_decide_eq_true (by kernel_rfl)) (by unfold Func.isWrapper; first | (rw [if_pos (by decide +kernel)]; kernel_rfl) | (rw [if_neg (by decide +kernel)]; exact ⟨rfl, rfl⟩))
    (fun os started H enc _ => lifted os started H enc)

theorem card_holds : Rows.RefsPlainCardSaid :=
  Claim7.holds_tied_plain_at .later [] _ _ _ _ holds (fun _ h => by cases h) (by kernel_rfl) (fun _ h => by cases h) refsPlain_row_tie rfl ⟨rfl, rfl⟩ (by kernel_rfl) rfl
    (fun f fn hf hfn => by
      obtain rfl : f = 7 := Option.some.inj ((show Tryz.prog.funcNamed "incipit/incipitlaw10.RefsPlain" = some 7 by kernel_rfl).symm.trans hf) |>.symm
      obtain rfl : fn = Tryz.f7 := (Option.some.inj (Tryz.func7.symm.trans hfn)).symm
      exact ⟨by kernel_rfl, fun j t ht => by
        rw [Tryz.params7] at ht
        have hm : t ∈ [9, 9, 9, 3] := by simpa using Array.mem_of_getElem? ht
        have hall : ([9, 9, 9, 3].all fun u => !Tryz.prog.wantsStandIn u) = true := by kernel_rfl
        exact (show Tryz.prog.wantsStandIn t = false by simpa using List.all_eq_true.1 hall t hm)⟩)
    (by kernel_rfl)
end RefsPlain
end Go.Proofs.YtfabiidohdkkcaaGreatDoor
