/- Walks of layer 5, the fifth part: the reference's Sign, Html, plain, Href. -/
import Derived.Test.YtimmifoicihadaaDoorEscC
import Derived.Laws.DeepStrings4
namespace Go.Proofs.YtimmifoicihadaaDoor
open Go Go.RowKit
namespace Es
open En
set_option maxRecDepth 100000
set_option linter.unusedVariables false
set_option linter.unusedSimpArgs false

theorem rsign_any (b : Int) (w : World) :
    Calls Tryd.prog 18 #[.int .u8 b] w fun e w' => e = .returned (.bool (sgI b)) ∧ w = w' := by
  go_enter Tryd.func18, Tryd.ntmps18
  go_wp2
  all_goals (go_ret; refine ⟨ret_bool' ?_, rfl⟩; unfold sgI; rw [Bool.eq_iff_iff]; simp <;> omega)

theorem mk_app (a b : List UInt8) : (⟨a.toArray⟩ : ByteArray) ++ ⟨b.toArray⟩ = ⟨(a ++ b).toArray⟩ := by
  apply ByteArray.ext
  rw [ByteArray.data_append]
  simp
theorem ext_ofE (s : ByteArray) (a b : Nat) (l : List UInt8) (h : (s.data.toList.drop a).take (b - a) = l) : s.extract a b = ⟨l.toArray⟩ := by
  have := Lib.extract_data s a b
  rw [h] at this
  cases hx : s.extract a b with
  | mk d => rw [hx] at this; simp at this; rw [← this]
theorem app_to {acc : ByteArray} {a b r : List UInt8} (h : acc = ⟨a.toArray⟩) (hr : r = a ++ b) : acc ++ ⟨b.toArray⟩ = ⟨r.toArray⟩ := by rw [h, mk_app, hr]

set_option maxHeartbeats 2000000 in
theorem rhtml_any (s : ByteArray) (w : World) (hs : s.size ≤ 1000000) :
    Calls Tryd.prog 12 #[.string s] w fun e w' => e = .returned (str (html s.data.toList)) ∧ w = w' := by
  have hdl := Lib.hid (sz s)
  go_enter Tryd.func12, Tryd.ntmps12
  go_wp2
  go_loopg [3, 4] s.size (fun g s3 s4 wr => ∃ (k : Nat) (acc : ByteArray), k + g = s.size ∧ s4 = .int .i64 k ∧ s3 = .string acc ∧ Hid (acc = ⟨(html (s.data.toList.take k)).toArray⟩) ∧ w = wr)
  case atStart => exact ⟨0, ⟨#[]⟩, by omega, rfl, rfl, Lib.hid rfl, rfl⟩
  case round =>
    obtain ⟨k, acc, hkg, rfl, rfl, HA, rfl⟩ := hrel
    cases gk with
    | zero =>
      have hkl : ¬ ((k : Int) < (s.size : Int)) := by omega
      have hk2 : s.data.toList.length ≤ k := by rw [hdl.out]; omega
      go_wp2
      go_ret
      rw [HA.out, List.take_of_length_le hk2]
      exact ⟨rfl, rfl⟩
    | succ g =>
      have hkl : (k : Int) < (s.size : Int) := by omega
      have hk2 : k < s.size := by omega
      obtain ⟨c, t, hd, hck, _⟩ := cons_at hk2
      have HT : Hid (html (s.data.toList.take (k + 1)) = html (s.data.toList.take k) ++ htB c) := Lib.hid (by
        rw [take_html _ _ (by rw [hdl.out]; exact hk2)]
        congr 2)
      have hlen : acc.size ≤ 6000000 := by
        have := (html_len (s.data.toList.take k)).2
        rw [List.length_take, hdl.out] at this
        rw [HA.out, size_mk]
        omega
      have HE : Hid (s.extract k (k + 1) = ⟨[c].toArray⟩) := Lib.hid (ext_ofE s k (k + 1) [c] (by rw [hd, show k + 1 - k = 1 by omega]; rfl))
      clear hd
      by_cases h1 : c = 38
      · subst h1
        go_wp2
        go_roundg g
        case rel => exact ⟨k + 1, _, by omega, by go_num, rfl, Lib.hid (app_to HA.out HT.out), rfl⟩
        case measure => omega
      have e1 : ((c.toNat : Int) == 38) = false := u8_ne (n := 38) (by decide) h1
      by_cases h2 : c = 60
      · subst h2
        clear h1 e1
        go_wp2
        go_roundg g
        case rel => exact ⟨k + 1, _, by omega, by go_num, rfl, Lib.hid (app_to HA.out HT.out), rfl⟩
        case measure => omega
      have e2 : ((c.toNat : Int) == 60) = false := u8_ne (n := 60) (by decide) h2
      by_cases h3 : c = 62
      · subst h3
        clear h1 h2 e1 e2
        go_wp2
        go_roundg g
        case rel => exact ⟨k + 1, _, by omega, by go_num, rfl, Lib.hid (app_to HA.out HT.out), rfl⟩
        case measure => omega
      have e3 : ((c.toNat : Int) == 62) = false := u8_ne (n := 62) (by decide) h3
      by_cases h4 : c = 34
      · subst h4
        clear h1 h2 h3 e1 e2 e3
        go_wp2
        go_roundg g
        case rel => exact ⟨k + 1, _, by omega, by go_num, rfl, Lib.hid (app_to HA.out HT.out), rfl⟩
        case measure => omega
      have e4 : ((c.toNat : Int) == 34) = false := u8_ne (n := 34) (by decide) h4
      have HN := Lib.hid (htB_self h1 h2 h3 h4)
      have hkle : (k : Int) + 1 ≤ (s.size : Int) := by omega
      clear h1 h2 h3 h4
      go_wp2
      go_roundg g
      case rel => exact ⟨k + 1, _, by omega, by go_num, rfl, Lib.hid (by rw [HE.out]; exact app_to HA.out (by rw [HT.out, HN.out])), rfl⟩
      case measure => omega
end Es
end Go.Proofs.YtimmifoicihadaaDoor
