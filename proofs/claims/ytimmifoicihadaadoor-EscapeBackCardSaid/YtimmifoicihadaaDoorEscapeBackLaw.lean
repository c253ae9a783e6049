/- EscapeBack: the law's walk. -/
import Derived.Test.YtimmifoicihadaaDoorEscI
namespace Go.Proofs.YtimmifoicihadaaDoor
open Go Go.RowKit
namespace EscapeBack
open En Es
set_option maxRecDepth 100000
set_option linter.unusedVariables false
set_option linter.unusedSimpArgs false

set_option maxHeartbeats 2000000 in
theorem law_any (s : ByteArray) (w : World) (hL : LaidK w) (hs : s.size ≤ maxLen) :
    Calls Tryd.prog 5 #[.string s] w fun e w' => e = .returned (.bool true) ∧ Below w.heap.size w w' := by
  unfold maxLen at hs
  have HA := Lib.hid (Es.frm_awake hL)
  have hb0 := Below.refl w.heap.size w
  by_cases hbig : 2000 < s.size
  · have hb' : (2000 : Int) < (s.size : Int) := by omega
    clear hL
    go_enter Tryd.func5, Tryd.ntmps5
    go_wp2_with fail
    refine (HA.out _ hb0).mono ?_
    rintro e w1 ⟨rfl, hb1⟩
    go_wp2
    go_ret
    exact ⟨rfl, hb1⟩
  · have hb' : (s.size : Int) ≤ 2000 := by omega
    have hl : s.data.toList.length ≤ 2000 := by rw [sz]; omega
    have hl2 := (html_len s.data.toList).2
    have F1 := Lib.hid (frm_html hL (s := s) rfl rfl (by omega))
    have F2 := Lib.hid (fun (h : ∀ c ∈ s.data.toList, c ≠ 92) => frm_str (s := s) (frm_une hL (s := ⟨(html s.data.toList).toArray⟩) rfl (une_html _ (fun e => h 92 e rfl)) (by show (html s.data.toList).length ≤ _; omega)) (mk_self s))
    have hdl := Lib.hid (sz s)
    clear hL hbig hl hl2
    generalize (⟨(html s.data.toList).toArray⟩ : ByteArray) = x1 at *
    go_enter Tryd.func5, Tryd.ntmps5
    go_wp2_with fail
    refine (HA.out _ hb0).mono ?_
    rintro e w1 ⟨rfl, hb1⟩
    have HB := Lib.hid hb1
    clear hb1 hb0 HA
    go_wp2
    go_loop [4] (fun v4 => ∃ (k : Nat), k ≤ s.size ∧ v4 = .int .i64 (k : Int) ∧ Hid (AllTo (fun c => c ≠ 92) s.data.toList k)) (fun v4 => s.size - (intOf v4).toNat)
    case atStart => exact ⟨0, by omega, rfl, Lib.hid (allTo_zero _ _)⟩
    case round =>
      obtain ⟨k, hk, rfl, HS⟩ := hrel
      by_cases hlt : k < s.size
      · obtain ⟨c, t, hd, hck, ht⟩ := cons_at hlt
        by_cases h1 : c = 92
        · subst h1
          clear hd ht
          go_wp2
          go_ret
          exact ⟨rfl, HB.out⟩
        · have e1 : ((c.toNat : Int) == 92) = false := Es.u8_ne (n := 92) (by decide) h1
          have HS2 := Lib.hid (HS.out.step hd h1)
          clear hd ht h1
          go_wp2
          go_round
          case rel => exact ⟨k + 1, by omega, by go_num, HS2⟩
          case measure => simp [intOf]; omega
      · have F2' := Lib.hid (F2.out (HS.out.all (by rw [hdl.out]; omega)))
        go_wp2_with fail
        refine (F1.out _ HB.out).mono ?_
        rintro e w2 ⟨rfl, hb2⟩
        go_wp2_with fail
        refine (F2'.out _ hb2).mono ?_
        rintro e w3 ⟨rfl, hb3⟩
        go_wp2
        go_ret
        exact ⟨rfl, hb3⟩
end EscapeBack
end Go.Proofs.YtimmifoicihadaaDoor
