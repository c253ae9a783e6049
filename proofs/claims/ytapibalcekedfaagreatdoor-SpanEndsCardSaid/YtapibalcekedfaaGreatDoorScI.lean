/- Walks of layer 8, the ninth part: runs, ends, trim, Closes, Setext, Bullet, Rule. -/
import Derived.Test.YtapibalcekedfaaGreatDoorScH
import Derived.Test.YtapibalcekedfaaGreatDoorScPurB
namespace Go.Proofs.YtapibalcekedfaaGreatDoor
open Go Go.RowKit
namespace Sc
set_option maxRecDepth 100000
set_option linter.unusedVariables false
set_option linter.unusedSimpArgs false

theorem clone_any (s : ByteArray) (w : World) (hs : s.size ≤ 281474976710656) :
    Calls Tryz.prog 25 #[.string s] w fun e w' => e = .returned (.string s) ∧ Below w.heap.size w w' := by
  go_enter Tryz.func25, Tryz.ntmps25
  go_wp2_with (go_at_call 44; refine (Tryz.stringslite_Clone s w hs).mono ?_; rintro e w1 ⟨rfl, hb⟩)
  go_ret
  exact ⟨rfl, hb⟩
theorem ascii_cut (cs : List UInt8) (h : cs.all (fun c => decide (c.toNat < 128)) = true) : ∀ (j : Nat) b, cs[j]? = some b → b.toNat < 128 := by
  intro j b hb
  have := List.all_eq_true.1 h b (List.mem_of_getElem? hb)
  simpa using this
theorem trim_any (s : ByteArray) (w : World) (hs : s.size ≤ 1000000) :
    Calls Tryz.prog 41 #[.string s, .string ⟨#[32, 9]⟩] w fun e w' => e = .returned (.string ⟨(trimB s.data.toList).toArray⟩) ∧ Below w.heap.size w w' := by
  have := Tryz.strings_Trim_ascii s ⟨#[32, 9]⟩ w (by omega) (by decide) (ascii_cut [32, 9] (by decide))
  rw [lib_trimB] at this
  exact this
theorem mk_empty (l : List UInt8) : (⟨l.toArray⟩ : ByteArray).toList.isEmpty = l.isEmpty := by rw [toList_eq]
theorem last_of {S : ByteArray} (h : 0 < S.size) : ∃ M c t, S.size = M + 1 ∧ S.data.toList = t ++ [c] ∧ (∃ h2 : M < S.size, S[M] = c) ∧ (S.extract 0 M).data.toList = t ∧ (S.extract 0 M).size = M := by
  obtain ⟨M, hM⟩ : ∃ M, S.size = M + 1 := ⟨S.size - 1, by omega⟩
  have hlt : M < S.size := by omega
  obtain ⟨c, t, hd, hck, ht⟩ := cons_at hlt
  have ht2 : t = [] := by
    rw [← ht]; exact drop_all (by omega)
  subst ht2
  refine ⟨M, c, S.data.toList.take M, hM, ?_, ⟨hlt, hck⟩, ext_to S _, by simp; omega⟩
  rw [← hd, List.take_append_drop]

end Sc
end Go.Proofs.YtapibalcekedfaaGreatDoor
