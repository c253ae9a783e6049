/- EntityNone: the law's walk. -/
import Derived.Test.YtgdgaagfambliaaEntJ
namespace Go.Proofs.Ytgdgaagfambliaa
open Go Go.RowKit
namespace EntityNone
open En
set_option maxRecDepth 100000
set_option linter.unusedVariables false
set_option linter.unusedSimpArgs false

/-- Does that byte stand among the first k? -/
def Seen (x : UInt8) (l : List UInt8) (k : Nat) (b : Bool) : Prop := b = true ↔ x ∈ l.take k
theorem seen_start (x : UInt8) (l : List UInt8) : Seen x l 0 false := by unfold Seen; simp
theorem seen_step {x : UInt8} {l : List UInt8} {k : Nat} {b : Bool} {c : UInt8} {t : List UInt8} (h : Seen x l k b) (hd : l.drop k = c :: t) : Seen x l (k + 1) (b || decide (c = x)) := by
  have hget : l[k]? = some c := by
    have := congrArg (fun x => x[0]?) hd
    simpa using this
  obtain ⟨hlt, hge⟩ := List.getElem?_eq_some_iff.1 hget
  unfold Seen at *
  rw [List.take_succ_eq_append_getElem hlt, hge, List.mem_append, Bool.or_eq_true, h]
  simp [eq_comm]
theorem seen_end {x : UInt8} {l : List UInt8} {k : Nat} {b : Bool} (h : Seen x l k b) (hk : l.length ≤ k) : b = true ↔ x ∈ l := by
  unfold Seen at h
  rwa [List.take_of_length_le hk] at h

set_option maxHeartbeats 2000000 in
theorem law_any (s : ByteArray) (w : World) (hs : s.size ≤ maxLen) :
    Calls Try.prog 8 #[.string s] w fun e w' => e = .returned (.bool true) ∧ Below w.heap.size w w' := by
  unfold maxLen at hs
  have HA := Lib.hid (frm_awake w)
  have hb0 := Below.refl w.heap.size w
  by_cases hbig : 500 < s.size
  · have hb' : (500 : Int) < (s.size : Int) := by omega
    go_enter Try.func8, Try.ntmps8
    go_wp2_with fail
    refine (HA.out _ hb0).mono ?_
    rintro e w1 ⟨rfl, hb1⟩
    go_wp2
    go_ret
    exact ⟨rfl, hb1⟩
  · have hb' : (s.size : Int) ≤ 500 := by omega
    have H1 := Lib.hid (frm_read w (s := s) rfl rfl (by rw [sz]; omega))
    clear hbig
    go_enter Try.func8, Try.ntmps8
    go_wp2_with fail
    refine (HA.out _ hb0).mono ?_
    rintro e w1 ⟨rfl, hb1⟩
    have HB := Lib.hid hb1
    clear hb1 hb0 HA
    go_wp2
    go_loop [4, 5, 6] (fun v4 v5 v6 => ∃ (k : Nat) (A E : Bool), k ≤ s.size ∧ v4 = .bool A ∧ v5 = .bool E ∧ v6 = .int .i64 (k : Int) ∧ Hid (Seen 38 s.data.toList k A) ∧ Hid (Seen 59 s.data.toList k E)) (fun _ _ v6 => s.size - (intOf v6).toNat)
    case atStart => exact ⟨0, false, false, by omega, rfl, rfl, rfl, Lib.hid (seen_start _ _), Lib.hid (seen_start _ _)⟩
    case round =>
      obtain ⟨k, A, E, hk, rfl, rfl, rfl, HSA, HSE⟩ := hrel
      by_cases hlt : k < s.size
      · obtain ⟨c, t, hd, hck, ht⟩ := cons_at hlt
        have HA2 := Lib.hid (seen_step HSA.out hd)
        have HE2 := Lib.hid (seen_step HSE.out hd)
        clear hd ht
        by_cases h1 : c = 38
        · subst h1
          rw [decide_eq_true rfl, Bool.or_true] at HA2
          rw [decide_eq_false (by decide), Bool.or_false] at HE2
          cases A <;> cases E <;>
          (go_wp2
           go_round
           case rel => exact ⟨k + 1, _, _, by omega, rfl, rfl, by go_num, HA2, HE2⟩
           case measure => simp [intOf]; omega)
        · have hb1 : ((c.toNat : Int) == 38) = false := u8_ne (n := 38) (by decide) h1
          rw [decide_eq_false h1, Bool.or_false] at HA2
          by_cases h2 : c = 59
          · subst h2
            rw [decide_eq_true rfl, Bool.or_true] at HE2
            clear h1 hb1
            cases A <;> cases E <;>
            (go_wp2
             go_round
             case rel => exact ⟨k + 1, _, _, by omega, rfl, rfl, by go_num, HA2, HE2⟩
             case measure => simp [intOf]; omega)
          · have hb2 : ((c.toNat : Int) == 59) = false := u8_ne (n := 59) (by decide) h2
            rw [decide_eq_false h2, Bool.or_false] at HE2
            clear h1 h2
            cases A <;> cases E <;>
            (go_wp2
             go_round
             case rel => exact ⟨k + 1, _, _, by omega, rfl, rfl, by go_num, HA2, HE2⟩
             case measure => simp [intOf]; omega)
      · have hA := seen_end HSA.out (by rw [sz]; omega)
        have hE := seen_end HSE.out (by rw [sz]; omega)
        cases hr : rread s.data.toList with
        | none =>
          rw [hr] at H1
          unfold resV at H1
          clear hr hA hE
          cases A <;> cases E <;>
          (go_wp2_with fail
           refine (H1.out _ HB.out).mono ?_
           rintro e w2 ⟨rfl, hb2⟩
           go_wp2
           go_ret
           exact ⟨rfl, hb2⟩)
        | some x =>
          obtain ⟨z, n⟩ := x
          obtain ⟨h1, h2, h3⟩ := rread_le hr
          have hn : (n : Int) ≤ (s.size : Int) := by rw [sz] at h1; omega
          obtain rfl := hA.2 h2
          obtain rfl := hE.2 h3
          rw [hr] at H1
          unfold resV at H1
          clear hr hA hE h1 h2 h3
          go_wp2_with fail
          refine (H1.out _ HB.out).mono ?_
          rintro e w2 ⟨rfl, hb2⟩
          go_wp2
          go_ret
          exact ⟨rfl, hb2⟩
end EntityNone
end Go.Proofs.Ytgdgaagfambliaa
