/- EscapeCuts: the law's walk. -/
import Derived.Test.YtimmifoicihadaaDoorEscI
namespace Go.Proofs.YtimmifoicihadaaDoor
open Go Go.RowKit
namespace EscapeCuts
open En Es
set_option maxRecDepth 100000
set_option linter.unusedVariables false
set_option linter.unusedSimpArgs false

set_option maxHeartbeats 2000000 in
theorem law_any (a b : ByteArray) (w : World) (hL : LaidK w) (ha : a.size ≤ maxLen) (hb : b.size ≤ maxLen) :
    Calls Tryd.prog 9 #[.string a, .string b] w fun e w' => e = .returned (.bool true) ∧ Below w.heap.size w w' := by
  unfold maxLen at ha hb
  have HA := Lib.hid (Es.frm_awake hL)
  have hb0 := Below.refl w.heap.size w
  by_cases h1 : 1000 < a.size
  · have h1' : (1000 : Int) < (a.size : Int) := by omega
    clear hL
    go_enter Tryd.func9, Tryd.ntmps9
    go_wp2_with fail
    refine (HA.out _ hb0).mono ?_
    rintro e w1 ⟨rfl, hb1⟩
    go_wp2
    go_ret
    exact ⟨rfl, hb1⟩
  have h1' : (a.size : Int) ≤ 1000 := by omega
  by_cases h2 : 1000 < b.size
  · have h2' : (1000 : Int) < (b.size : Int) := by omega
    clear hL
    go_enter Tryd.func9, Tryd.ntmps9
    go_wp2_with fail
    refine (HA.out _ hb0).mono ?_
    rintro e w1 ⟨rfl, hb1⟩
    go_wp2
    go_ret
    exact ⟨rfl, hb1⟩
  have h2' : (b.size : Int) ≤ 1000 := by omega
  have hla : a.data.toList.length ≤ 1000 := by rw [sz]; omega
  have hlb : b.data.toList.length ≤ 1000 := by rw [sz]; omega
  have hlab : (a.data.toList ++ b.data.toList).length ≤ 100000 := by rw [List.length_append]; omega
  have F1 := Lib.hid (frm_une hL (s := b) rfl rfl (by omega))
  have F2 := Lib.hid (fun (h : ∀ c ∈ a.data.toList, c ≠ 92 ∧ c ≠ 38) => frm_str (s := a ++ ⟨(une b.data.toList).toArray⟩) (frm_une hL (s := a ++ b) (app_data a b) (une_cuts _ _ h) hlab) (by rw [← mk_app, mk_self]))
  have hs1 : (⟨(une b.data.toList).toArray⟩ : ByteArray).size ≤ 4000 := by rw [size_mk]; have := une_len b.data.toList; omega
  have hdl := Lib.hid (sz a)
  clear hL h1 h2 hla hlb hlab
  generalize (⟨(une b.data.toList).toArray⟩ : ByteArray) = x1 at *
  go_enter Tryd.func9, Tryd.ntmps9
  go_wp2_with fail
  refine (HA.out _ hb0).mono ?_
  rintro e w1 ⟨rfl, hb1⟩
  have HB := Lib.hid hb1
  clear hb1 hb0 HA
  go_wp2
  go_loop [6] (fun v6 => ∃ (k : Nat), k ≤ a.size ∧ v6 = .int .i64 (k : Int) ∧ Hid (AllTo (fun c => c ≠ 92 ∧ c ≠ 38) a.data.toList k)) (fun v6 => a.size - (intOf v6).toNat)
  case atStart => exact ⟨0, by omega, rfl, Lib.hid (allTo_zero _ _)⟩
  case round =>
    obtain ⟨k, hk, rfl, HS⟩ := hrel
    by_cases hlt : k < a.size
    · obtain ⟨c, t, hd, hck, ht⟩ := cons_at hlt
      by_cases h1 : c = 92
      · subst h1
        clear hd ht
        go_wp2
        go_ret
        exact ⟨rfl, HB.out⟩
      have e1 : ((c.toNat : Int) == 92) = false := Es.u8_ne (n := 92) (by decide) h1
      by_cases h2 : c = 38
      · subst h2
        clear hd ht h1 e1
        go_wp2
        go_ret
        exact ⟨rfl, HB.out⟩
      · have e2 : ((c.toNat : Int) == 38) = false := Es.u8_ne (n := 38) (by decide) h2
        have HS2 := Lib.hid (HS.out.step hd ⟨h1, h2⟩)
        clear hd ht h1 h2
        go_wp2
        go_round
        case rel => exact ⟨k + 1, by omega, by go_num, HS2⟩
        case measure => simp [intOf]; omega
    · have F2' := Lib.hid (F2.out (HS.out.all (by rw [hdl.out]; omega)))
      go_wp2_with fail
      refine (F2'.out _ HB.out).mono ?_
      rintro e w2 ⟨rfl, hb2⟩
      go_wp2_with fail
      refine (F1.out _ hb2).mono ?_
      rintro e w3 ⟨rfl, hb3⟩
      go_wp2
      go_ret
      exact ⟨rfl, hb3⟩
end EscapeCuts
end Go.Proofs.YtimmifoicihadaaDoor
