/- Walks of layer 5, the sixth part: the reference's plain, Href. -/
import Derived.Test.YtimmifoicihadaaDoorEscE
import Derived.Deep.RegionHeld3
import Derived.Deep.DrawnRows
namespace Go.Proofs.YtimmifoicihadaaDoor
open Go Go.RowKit
namespace Es
open En
set_option maxRecDepth 100000
set_option linter.unusedVariables false
set_option linter.unusedSimpArgs false

def asIsS : ByteArray := ⟨#[33, 35, 36, 37, 40, 41, 42, 43, 44, 45, 46, 47, 58, 59, 61, 63, 64, 95, 126]⟩
theorem asIs_at (k : Nat) (h : k < asIsS.size) : asIs[k]? = some asIsS[k] := by
  have : ∀ k, (h : k < asIsS.size) → asIs[k]? = some asIsS[k] := by decide +kernel
  exact this k h
theorem seen_none {c : UInt8} (h : ∀ j : Nat, j < 19 → asIs[j]? ≠ some c) : asIs.contains c = false := by
  cases hc : asIs.contains c with
  | false => rfl
  | true =>
    exfalso
    have hm : c ∈ asIs := by simpa using hc
    obtain ⟨i, hi, he⟩ := List.getElem_of_mem hm
    exact h i hi (by rw [List.getElem?_eq_getElem hi, he])
theorem seen_some {c : UInt8} {k : Nat} (h : asIs[k]? = some c) : asIs.contains c = true := by
  have := List.mem_of_getElem? h
  simpa using this

set_option maxHeartbeats 2000000 in
theorem rplain_any (c : UInt8) (w : World) :
    Calls Tryd.prog 26 #[.int .u8 (c.toNat : Int)] w fun e w' => e = .returned (.bool (okB c)) ∧ w = w' := by
  have hc256 := c.toNat_lt
  obtain ⟨x, hx⟩ : ∃ x : Int, (c.toNat : Int) = x := ⟨_, rfl⟩
  have hr : (48 ≤ x ∧ x ≤ 57) ∨ (97 ≤ x ∧ x ≤ 122) ∨ (65 ≤ x ∧ x ≤ 90) ∨ (x < 48 ∨ (57 < x ∧ x < 65) ∨ (90 < x ∧ x < 97) ∨ 122 < x) := by omega
  have HX := Lib.hid hx
  rcases hr with h | h | h | h
  · have HV : Hid (okB c = true) := Lib.hid (okB_digit (by rw [hx]; unfold digi; rw [decide_eq_true h.1, decide_eq_true h.2]; rfl))
    obtain ⟨h1, h2⟩ := h
    rw [hx]
    clear hx hc256
    go_enter Tryd.func26, Tryd.ntmps26
    go_wp2
    go_ret
    exact ⟨ret_bool' HV.out.symm, rfl⟩
  · have HV : Hid (okB c = true) := Lib.hid (okB_letter (by rw [hx]; unfold lett; rw [decide_eq_true h.1, decide_eq_true h.2]; rfl))
    obtain ⟨h1, h2⟩ := h
    rw [hx]
    clear hx hc256
    go_enter Tryd.func26, Tryd.ntmps26
    go_wp2
    go_ret
    exact ⟨ret_bool' HV.out.symm, rfl⟩
  · have HV : Hid (okB c = true) := Lib.hid (okB_letter (by rw [hx]; unfold lett; rw [decide_eq_true h.1, decide_eq_true h.2, Bool.and_self, Bool.or_true]))
    obtain ⟨h1, h2⟩ := h
    rw [hx]
    clear hx hc256
    go_enter Tryd.func26, Tryd.ntmps26
    go_wp2
    go_ret
    exact ⟨ret_bool' HV.out.symm, rfl⟩
  · have HA : Hid (okB c = asIs.contains c) := Lib.hid (by
      unfold okB isAl
      rw [hx]
      have e1 : lett x = false := by unfold lett; rw [Bool.eq_false_iff]; simp; omega
      have e2 : digi x = false := by unfold digi; rw [Bool.eq_false_iff]; simp; omega
      rw [e1, e2]
      rfl)
    rw [hx]
    clear hx hc256
    rcases h with h | h | h | h <;>
    (go_enter Tryd.func26, Tryd.ntmps26
     go_wp2
     go_loop [4] (fun i => ∃ k : Nat, k ≤ 19 ∧ i = .int .i64 k ∧ Hid (∀ j : Nat, j < k → asIs[j]? ≠ some c)) (fun i => 19 - (intOf i).toNat)
     case atStart => exact ⟨0, by omega, rfl, Lib.hid (fun j hj => absurd hj (by omega))⟩
     case round =>
       obtain ⟨k, hk, rfl, HK⟩ := hrel
       by_cases hlt : k < 19
       · have hlt' : (k : Int) < 19 := by omega
         obtain ⟨y, hy⟩ : ∃ y, asIsS[k]'hlt = y := ⟨_, rfl⟩
         have HY : Hid (asIs[k]? = some y) := Lib.hid (by rw [← hy]; exact asIs_at k hlt)
         unfold asIsS at hy
         by_cases hyc : y = c
         · have HV : Hid (okB c = true) := Lib.hid (by rw [HA.out]; exact seen_some (hyc ▸ HY.out))
           have hyx : (y.toNat : Int) = x := by rw [hyc]; exact HX.out
           clear hyc
           go_wp2
           go_ret
           exact ⟨ret_bool' HV.out.symm, rfl⟩
         · have hyx : ((y.toNat : Int) == x) = false := by
             rw [← HX.out]
             simp only [beq_eq_false_iff_ne]
             intro e
             exact hyc (UInt8.toNat_inj.1 (Int.ofNat.inj e))
           have HK2 : Hid (∀ j : Nat, j < k + 1 → asIs[j]? ≠ some c) := Lib.hid (fun j hj => by
             by_cases e : j = k
             · rw [e, HY.out]
               intro e2
               exact hyc (Option.some.inj e2)
             · exact HK.out j (by omega))
           clear hyc
           go_wp2
           go_round
           case rel => exact ⟨k + 1, by omega, by go_num, HK2⟩
           case measure => simp [intOf]; omega
       · obtain rfl : k = 19 := by omega
         have HV : Hid (okB c = false) := Lib.hid (by rw [HA.out]; exact seen_none HK.out)
         go_wp2
         go_ret
         exact ⟨ret_bool' HV.out.symm, rfl⟩)

attribute [local go_sem ↓] Go.wp_at_zero Go.wp_at_succ
theorem hex_ext (j : Nat) (h : j < 16) : hexS.extract j (j + 1) = ⟨[hxD j].toArray⟩ := by
  have : ∀ j, j < 16 → (hexS.data.toList.drop j).take (j + 1 - j) = [hxD j] := by decide +kernel
  exact ext_ofE hexS j (j + 1) [hxD j] (this j h)

theorem below_drewN {B : Nat} {a w : World} (h : Below B a w) (n : Nat) : Below B a (w.drewN n) := h.trans ⟨rfl, rfl, rfl, Nat.le_refl _, fun _ _ => rfl⟩
theorem app3 {acc u v : ByteArray} {a r : List UInt8} {x y z : UInt8} (h : acc = ⟨a.toArray⟩) (hu : u = ⟨[y].toArray⟩) (hv : v = ⟨[z].toArray⟩) (hr : r = a ++ ([x] ++ [y] ++ [z])) : acc ++ ⟨#[x]⟩ ++ u ++ v = ⟨r.toArray⟩ := by
  subst h hu hv hr
  rw [show (⟨#[x]⟩ : ByteArray) = ⟨[x].toArray⟩ from rfl, mk_app, mk_app, mk_app]
  simp

set_option maxHeartbeats 4000000 in
theorem rhref_any (s : ByteArray) (w : World) (hs : s.size ≤ 1000000) :
    Calls Tryd.prog 14 #[.string s] w fun e w' => e = .returned (str (href s.data.toList)) ∧ Below w.heap.size w w' := by
  have hdl := Lib.hid (sz s)
  have HP := Lib.hid (fun (c : UInt8) W => rplain_any c W)
  go_enter Tryd.func14, Tryd.ntmps14
  go_wp2
  go_loopg [3, 5] s.size (fun g s3 s5 wr => ∃ (k : Nat) (acc : ByteArray), k + g = s.size ∧ s5 = .int .i64 k ∧ s3 = .string acc ∧ Hid (acc = ⟨(href (s.data.toList.take k)).toArray⟩) ∧ Below w.heap.size w wr)
  case atStart => exact ⟨0, ⟨#[]⟩, by omega, rfl, rfl, Lib.hid rfl, Below.refl _ _⟩
  case round =>
    obtain ⟨k, acc, hkg, rfl, rfl, HA, hbw⟩ := hrel
    cases gk with
    | zero =>
      have hkl : ¬ ((k : Int) < (s.size : Int)) := by omega
      have hk2 : s.data.toList.length ≤ k := by rw [hdl.out]; omega
      go_wp2
      go_ret
      rw [HA.out, List.take_of_length_le hk2]
      exact ⟨rfl, hbw⟩
    | succ g =>
      have hkl : (k : Int) < (s.size : Int) := by omega
      have hk2 : k < s.size := by omega
      obtain ⟨c, t, hd, hck, _⟩ := cons_at hk2
      have HT : Hid (href (s.data.toList.take (k + 1)) = href (s.data.toList.take k) ++ hrB c) := Lib.hid (by
        rw [take_href _ _ (by rw [hdl.out]; exact hk2)]
        congr 2)
      have hlen : acc.size ≤ 5000000 := by
        have := (href_len (s.data.toList.take k)).2
        rw [List.length_take, hdl.out] at this
        rw [HA.out, size_mk]
        omega
      have HE : Hid (s.extract k (k + 1) = ⟨[c].toArray⟩) := Lib.hid (ext_ofE s k (k + 1) [c] (by rw [hd, show k + 1 - k = 1 by omega]; rfl))
      have HPc := Lib.hid (HP.out c)
      have hkle : (k : Int) + 1 ≤ (s.size : Int) := by omega
      clear hd
      cases hok : okB c with
      | true =>
        have HN := Lib.hid (hrB_ok hok)
        rw [hok] at HPc
        clear hok
        go_wp2_with fail
        refine (HPc.out _).mono ?_
        rintro e w' ⟨rfl, rfl⟩
        go_wp2
        go_roundg g
        case rel => exact ⟨k + 1, _, by omega, by go_num, rfl, Lib.hid (by rw [HE.out]; exact app_to HA.out (by rw [HT.out, HN.out])), hbw⟩
        case measure => omega
      | false =>
      rw [hok] at HPc
      by_cases h1 : c = 38
      · subst h1
        clear hok
        go_wp2_with fail
        refine (HPc.out _).mono ?_
        rintro e w' ⟨rfl, rfl⟩
        go_wp2
        go_roundg g
        case rel => exact ⟨k + 1, _, by omega, by go_num, rfl, Lib.hid (app_to HA.out (by rw [HT.out, hrB_amp]; rfl)), hbw⟩
        case measure => omega
      have e1 : ((c.toNat : Int) == 38) = false := u8_ne (n := 38) (by decide) h1
      by_cases h2 : c = 39
      · subst h2
        clear hok h1 e1
        go_wp2_with fail
        refine (HPc.out _).mono ?_
        rintro e w' ⟨rfl, rfl⟩
        go_wp2
        go_roundg g
        case rel => exact ⟨k + 1, _, by omega, by go_num, rfl, Lib.hid (app_to HA.out (by rw [HT.out, hrB_apos]; rfl)), hbw⟩
        case measure => omega
      have e2 : ((c.toNat : Int) == 39) = false := u8_ne (n := 39) (by decide) h2
      have HN := Lib.hid (hrB_pct hok h1 h2)
      clear hok h1 h2
      go_wp2_with fail
      refine (HPc.out _).mono ?_
      rintro e w' ⟨rfl, rfl⟩
      have hc256 := c.toNat_lt
      have hd16 : (c.toNat : Int).tdiv 16 = ((c.toNat / 16 : Nat) : Int) := by rw [Int.tdiv_eq_ediv_of_nonneg (by omega)]; omega
      have hm16 : (c.toNat : Int).tmod 16 = ((c.toNat % 16 : Nat) : Int) := by rw [Int.tmod_eq_emod_of_nonneg (by omega)]; omega
      have hj1 : c.toNat / 16 < 16 := by omega
      have hj2 : c.toNat % 16 < 16 := by omega
      have X1 := Lib.hid (hex_ext (c.toNat / 16) hj1)
      have X2 := Lib.hid (hex_ext (c.toNat % 16) hj2)
      unfold hexS at X1 X2
      have HQ : Hid (pctB c = [37] ++ [hxD (c.toNat / 16)] ++ [hxD (c.toNat % 16)]) := Lib.hid rfl
      generalize hxD (c.toNat / 16) = x1 at *
      generalize hxD (c.toNat % 16) = x2 at *
      generalize c.toNat / 16 = j1 at *
      generalize c.toNat % 16 = j2 at *
      go_wp2_with fail
      go_quiet (fail)
      go_wp2
      go_roundg g
      case rel => exact ⟨k + 1, _, by omega, by go_num, rfl, Lib.hid (app3 HA.out X1.out X2.out (by rw [HT.out, HN.out, HQ.out])), below_drewN hbw _⟩
      case measure => omega
end Es
end Go.Proofs.YtimmifoicihadaaDoor
