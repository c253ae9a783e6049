/- Layer 6: Children. -/
import Derived.Test.YtlpfffioidbkeaaTreeDD
import Derived.Deep.LoopGhost
namespace Go.Proofs.Ytlpfffioidbkeaa
open Go Go.RowKit
namespace Tr
set_option maxRecDepth 100000
set_option linter.unusedVariables false
set_option linter.unusedSimpArgs false

def ints (l : List Nat) : List Value := l.map fun (c : Nat) => Value.int .i64 (c : Int)
theorem ints_get {l : List Nat} {i c : Nat} (h : l[i]? = some c) : (ints l)[i]? = some (.int .i64 c) := by unfold ints; rw [List.getElem?_map, h]; rfl
theorem intInfo : (Try.prog.info? 3).map (fun i => (i.zero, i.size, i.bytes)) = some (some (.int .i64 0), 1, 8) := by kernel_rfl
theorem children_out {w : World} {pv : Value} {id : Int} (HL : Hid (Calls Try.prog 44 #[pv, .int .i64 id] w fun e w' => e = .returned (.bool false) ∧ w = w')) (hp : ∃ a, pv = .pointer a) :
    Calls Try.prog 27 #[pv, .int .i64 id] w fun e w' => e = .returned (.slice none 0 0) ∧ w = w' := by
  obtain ⟨a, rfl⟩ := hp
  go_enter Try.func27, Try.ntmps27
  go_wp2_with fail
  refine HL.out.mono ?_
  rintro e w1 ⟨rfl, rfl⟩
  go_wp2
  go_ret
  exact ⟨rfl, rfl⟩
set_option maxHeartbeats 4000000 in
theorem children_in {S : Ar} {ch : Nat → List Nat} (K : Kids S ch) {w : World} {A g cap : Nat} (h : AR w A g cap S) {id : Nat} (hid : id < S.n) :
    Calls Try.prog 27 #[ptr A, .int .i64 id] w fun e w' => ∃ v, e = .returned v ∧ w'.ownsRow w.heap.size 3 1 v (ch id).length (ints (ch id)) ∧ Below w.heap.size w w' := by
  have HL := Lib.hid (has_any h id)
  rw [in_true ⟨by omega, by omega⟩] at HL
  obtain ⟨cs, hcs⟩ : ∃ cs, cs = ch id := ⟨_, rfl⟩
  have Hfirst : Hid (S.first id = opt cs[0]?) := Lib.hid (by rw [hcs]; exact K.first id hid)
  have Hbeh : Hid (∀ i c, cs[i]? = some c → S.behind c = opt cs[i + 1]?) := Lib.hid (by rw [hcs]; exact K.behind id hid)
  have Hlt : Hid (∀ c ∈ cs, c < S.n) := Lib.hid (by rw [hcs]; exact K.lt id hid)
  have hfew : cs.length ≤ 1000000000 := by rw [hcs]; exact K.few id hid
  rw [← hcs]
  have cA := h.cellA
  have c8 : w.cell? ⟨g, id * 12 + 8, none⟩ = some (.int .i64 (opt cs[0]?)) := by rw [h.cellg hid (by omega)]; show some (Value.int _ (S.first id)) = _; rw [Hfirst.out]
  have b1 : (id : Int) < (S.n : Int) := by omega
  have HAR := Lib.hid h
  clear hcs h
  obtain ⟨i0, hi, hz0, hz1, hz2⟩ := info_parts intInfo
  unfold ptr at *
  go_enter Try.func27, Try.ntmps27
  go_wp2_with fail
  refine HL.out.mono ?_
  rintro e w1 ⟨rfl, rfl⟩
  go_wp2
  go_loopg [5, 6] cs.length (fun G s5 s6 wr => ∃ i : Nat, i + G = cs.length ∧ s6 = .int .i64 (opt cs[i]?) ∧ wr.ownsRow w.heap.size 3 1 s5 i (ints (cs.take i)) ∧ Below w.heap.size w wr)
  case atStart => exact ⟨0, by omega, rfl, World.ownsRow_nil _ _ _ _, Below.refl _ _⟩
  case round =>
    obtain ⟨i, hig, rfl, hown, hbw⟩ := hrel
    clear cA c8
    have hsz := hbw.size
    cases gk with
    | zero =>
      have hnone : cs[i]? = none := List.getElem?_eq_none (by omega)
      rw [hnone, show opt none = -1 from rfl]
      have HO := Lib.hid hown
      have hil : Hid (i = cs.length) := Lib.hid (by omega)
      clear hown
      go_wp2
      go_ret
      refine ⟨_, rfl, ?_, hbw⟩
      have := HO.out
      rw [List.take_of_length_le (by have := hil.out; omega), hil.out] at this
      exact this
    | succ G =>
      obtain ⟨c, hci⟩ : ∃ c, cs[i]? = some c := ⟨_, List.getElem?_eq_getElem (by omega)⟩
      have hmem : c ∈ cs := List.mem_of_getElem? hci
      have HB := Lib.hid (Hbeh.out i c hci)
      have HTK : Hid (ints (cs.take i) ++ [.int .i64 (c : Int)] = ints (cs.take (i + 1))) := Lib.hid (by unfold ints; rw [List.take_add_one, hci]; simp)
      have hcl := Hlt.out c hmem
      have hi9 : i < 1000000000 := by omega
      rw [hci, show opt (some c) = (c : Int) from rfl]
      have hc1 : ((c : Int) != -1) = true := by simp
      have hc2 : ¬ (c : Int) = -1 := by omega
      clear hci hmem
      go_wp2_with (at_builtin; refine wpList_append_own _ rfl _ _ 44 rfl w.heap.size 3 i0 (.int .i64 0) 1 8 Try.underlying44 hi hz0 hz1 hz2 rfl (by decide) _ _ _ rfl (hown.alloc _) ⟨wr.heap.size, 0, none⟩ 1 1 [.int .i64 (c : Int)] rfl rfl ?c1 ?c2 ?c3 ?c4 ?c5 ?_)
      case c1 => exact World.news_of_block (heap_alloc_new wr _)
      case c2 => intro u hu; simp at hu; subst hu; rfl
      case c3 => unfold maxLen; omega
      case c4 => omega
      case c5 => simp; omega
      intro v' w3 hown3 hgrow3 _
      have hbw3 : Below w.heap.size w w3 := (hbw.alloc hsz _).grown hgrow3 (by simp; omega) (fun k hk => (hown.lt k hk).1)
      have h3 := HAR.out.below hbw3
      have cA := h3.cellA
      have b2 : (c : Int) < (S.n : Int) := by omega
      have c10 : w3.cell? ⟨g, c * 12 + 10, none⟩ = some (.int .i64 (opt cs[i + 1]?)) := by rw [h3.cellg hcl (by omega)]; show some (Value.int _ (S.behind c)) = _; rw [HB.out]
      have HO3 := Lib.hid hown3
      have HB3 := Lib.hid hbw3
      clear hown3 hgrow3 hbw3 h3 hown
      go_wp2
      go_roundg G
      case rel => exact ⟨i + 1, by omega, rfl, by have := HO3.out; rwa [HTK.out] at this, HB3.out⟩
      case measure => omega
end Tr
end Go.Proofs.Ytlpfffioidbkeaa
