/- Walks of layer 5, the fifth part: the reference's Sign, Html, plain, Href. -/
import Derived.Test.YtfabiidohdkkcaaGreatDoorEscCs
import Derived.Laws.DeepStrings4
namespace Go.Proofs.YtfabiidohdkkcaaGreatDoor
open Go Go.RowKit
namespace Es
open En
set_option maxRecDepth 100000
set_option linter.unusedVariables false
set_option linter.unusedSimpArgs false

theorem rsign_any (b : Int) (w : World) :
    Calls Tryz.prog 73 #[.int .u8 b] w fun e w' => e = .returned (.bool (sgI b)) ∧ w = w' := by
  go_enter Tryz.func73, Tryz.ntmps73
  go_wp2
  all_goals (go_ret; refine ⟨ret_bool' ?_, rfl⟩; unfold sgI; rw [Bool.eq_iff_iff]; simp <;> omega)

theorem mk_app (a b : List UInt8) : (⟨a.toArray⟩ : ByteArray) ++ ⟨b.toArray⟩ = ⟨(a ++ b).toArray⟩ := by
  apply ByteArray.ext
  rw [ByteArray.data_append]
  simp
theorem ext_ofE (s : ByteArray) (a b : Nat) (l : List UInt8) (h : (s.data.toList.drop a).take (b - a) = l) : s.extract a b = ⟨l.toArray⟩ := by
  have := Lib.extract_data s a b
  rw [h] at this
  cases hx : s.extract a b with
  | mk d => rw [hx] at this; simp at this; rw [← this]
theorem app_to {acc : ByteArray} {a b r : List UInt8} (h : acc = ⟨a.toArray⟩) (hr : r = a ++ b) : acc ++ ⟨b.toArray⟩ = ⟨r.toArray⟩ := by rw [h, mk_app, hr]

end Es
end Go.Proofs.YtfabiidohdkkcaaGreatDoor
