/- Walks of layer 4, the third part: Named, Names. -/
import Derived.Test.YtfabiidohdkkcaaGreatDoorEntB
import Derived.Great.Walk
import Derived.Deep.WholeRow
namespace Go.Proofs.YtfabiidohdkkcaaGreatDoor
open Go Go.RowKit Go.Great
namespace En
set_option maxRecDepth 100000
set_option linter.unusedVariables false
set_option linter.unusedSimpArgs false

attribute [local irreducible] cellsT zerosT

/-- What a look-up of a name answers. -/
def namedV (l : List UInt8) : Value := match namedF rowsT l with
  | some c => .tuple #[.string (Utf8.encode c), .bool true]
  | none => .tuple #[.string ⟨#[]⟩, .bool false]
theorem namedV_some {l : List UInt8} {c : Int} (h : namedF rowsT l = some c) : namedV l = .tuple #[.string (Utf8.encode c), .bool true] := by unfold namedV; rw [h]
theorem namedV_none {l : List UInt8} (h : namedF rowsT l = none) : namedV l = .tuple #[.string ⟨#[]⟩, .bool false] := by unfold namedV; rw [h]
theorem ret_val {a b : Value} (h : a = b) : Ending.returned a = .returned b := by rw [h]

theorem tab_info : (Tryz.prog.info? 141).map (·.size) = some cellsT.size := by kernel_rfl
theorem tab_zero : zerosT.size = cellsT.size := by kernel_rfl
theorem tab_one : cellsT.all (·.oneCell') = true := by kernel_rfl

set_option maxHeartbeats 2000000 in
theorem named_any (s : ByteArray) (w : World) :
    Calls Tryz.prog 128 #[.string s] w fun e w' => e = .returned (namedV s.data.toList) ∧ Below w.heap.size w w' := by
  have HTab := Lib.hid (fun w => table_any w)
  go_enter Tryz.func128, Tryz.ntmps128
  go_wp2_with fail
  refine (HTab.out _).mono ?_
  rintro e w1 ⟨rfl, hw1⟩
  have hb1 : Below w.heap.size w w1 := by rw [hw1]; exact (Below.refl _ w).alloc (Nat.le_refl _) _
  clear hw1
  rename_i K1 hK1 K2 hK2
  show K2 _ _
  refine hK2 _ _ ?_
  refine wpList_allocTo rfl (some 4) rfl (.pointer (some ⟨w1.heap.size, 0, none⟩)) (.cells zerosT 141) (by kernel_rfl) ?_
  refine wpList_store_rowTo rfl 141 _ _ rfl rfl w1.heap.size cellsT rfl rfl 141 zerosT (heap_alloc_last w1 _) tab_info tab_zero tab_one ?_
  rw [World.setRow_alloc_new]
  apply wpList_nil
  refine hK1 _ _ ?_
  clear hK1 hK2 K1 K2
  have HT2 := Lib.hid (tab_new w1 141)
  have HB2 := Lib.hid (hb1.alloc (hb1.size) (.cells cellsT 141))
  have HG := Lib.hid (show w1.heap.size < (w1.alloc (.cells cellsT 141)).heap.size by simp)
  clear hb1
  generalize w1.alloc (.cells cellsT 141) = w2 at *
  generalize w1.heap.size = g at *
  go_wp2_with fail
  refine (search_any s g 183 w2 HT2.out).mono ?_
  rintro e w3 ⟨hf, hb3⟩
  obtain ⟨i, b, ⟨hi183, hy, hn⟩, rfl⟩ := hf
  have hbw := HB2.out.trans (hb3.mono HB2.out.size)
  cases b
  · have HV := Lib.hid (namedV_none (hn rfl))
    clear hy hn hb3
    go_wp2
    go_ret2
    exact ⟨ret_val HV.out.symm, hbw⟩
  · obtain ⟨hi, hx⟩ := hy rfl
    have HV := Lib.hid (namedV_some hx)
    obtain ⟨hc1, hc2⟩ := HT2.out.below HG.out hb3 i hi
    clear hy hn hb3 hx
    go_wp2
    go_ret2
    exact ⟨ret_val HV.out.symm, hbw⟩
end En
end Go.Proofs.YtfabiidohdkkcaaGreatDoor
