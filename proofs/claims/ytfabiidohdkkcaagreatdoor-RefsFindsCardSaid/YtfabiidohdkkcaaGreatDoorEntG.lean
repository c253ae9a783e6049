/- Walks of layer 4, the seventh part: the reference's Named, its first semicolon. -/
import Derived.Test.YtfabiidohdkkcaaGreatDoorEntF
import Derived.Test.YtfabiidohdkkcaaGreatDoorEntTab
namespace Go.Proofs.YtfabiidohdkkcaaGreatDoor
open Go Go.RowKit
namespace En
set_option maxRecDepth 100000
set_option linter.unusedVariables false
set_option linter.unusedSimpArgs false
attribute [local irreducible] cellsT

theorem drop_rw {k : Nat} (h : k < 183) : rowsT.drop k = rw k :: rowsT.drop (k + 1) := by
  have hl : k < rowsT.length := by rw [rows_len]; exact h
  have e := rw_some h
  rw [List.getElem?_eq_getElem hl] at e
  rw [List.drop_eq_getElem_cons hl, Option.some.inj e]
def FRel (l : List UInt8) (k : Nat) : Prop := namedF (rowsT.drop k) l = namedF rowsT l
theorem frel_hit {l : List UInt8} {k : Nat} (h : FRel l k) (hk : k < 183) (he : (rw k).1 = l) : namedF rowsT l = some (rw k).2 := by
  unfold FRel at h
  rw [← h, drop_rw hk]
  generalize rw k = p at *
  obtain ⟨n, c⟩ := p
  unfold namedF
  rw [if_pos he]
theorem frel_step {l : List UInt8} {k : Nat} (h : FRel l k) (hk : k < 183) (he : ¬ (rw k).1 = l) : FRel l (k + 1) := by
  unfold FRel at *
  rw [← h, drop_rw hk]
  generalize rw k = p at *
  obtain ⟨n, c⟩ := p
  conv => rhs; unfold namedF
  rw [if_neg he]
theorem frel_end {l : List UInt8} (h : FRel l 183) : namedF rowsT l = none := by
  unfold FRel at h
  rw [← h, List.drop_eq_nil_of_le (by rw [rows_len]; exact Nat.le_refl _)]
  rfl
theorem eqs {a : List UInt8} {s : ByteArray} (h : a = s.data.toList) : (a == s.toList) = true := by
  rw [Lib.toList_data, h]; simp
theorem neqs {a : List UInt8} {s : ByteArray} (h : ¬ a = s.data.toList) : (a == s.toList) = false := by
  rw [Lib.toList_data]; simpa using h

set_option maxHeartbeats 2000000 in
theorem rnamed_any (s : ByteArray) (w : World) :
    Calls Tryz.prog 94 #[.string s] w fun e w' => e = .returned (namedV s.data.toList) ∧ Below w.heap.size w w' := by
  have HTab := Lib.hid (fun w => rtable_any w)
  have HT := Lib.hid (tab_new w 124)
  have HB := Lib.hid ((Below.refl w.heap.size w).alloc (Nat.le_refl _) (.cells cellsT 124))
  go_enter Tryz.func94, Tryz.ntmps94
  go_wp2_with fail
  refine (HTab.out _).mono ?_
  rintro e w1 ⟨rfl, hw1⟩
  rw [← hw1] at HT HB
  clear hw1 HTab
  go_wp2
  go_loop [5] (fun v5 => ∃ k : Nat, k ≤ 183 ∧ v5 = .int .i64 (k : Int) ∧ Hid (FRel s.data.toList k)) (fun v5 => 183 - (intOf v5).toNat)
  case atStart => exact ⟨0, by decide, rfl, Lib.hid rfl⟩
  case round =>
    obtain ⟨k, hk, rfl, HR⟩ := hrel
    by_cases hlt : k < 183
    · obtain ⟨hc1, hc2⟩ := HT.out k hlt
      by_cases he : (rw k).1 = s.data.toList
      · have HV := Lib.hid (namedV_some (frel_hit HR.out hlt he))
        have hq := eqs he
        clear he
        go_wp2
        go_ret2
        exact ⟨ret_val HV.out.symm, HB.out⟩
      · have HS := Lib.hid (frel_step HR.out hlt he)
        have hq := neqs he
        clear he
        go_wp2
        go_round
        case rel => exact ⟨k + 1, by omega, by go_num, HS⟩
        case measure => simp [intOf]; omega
    · obtain rfl : k = 183 := by omega
      have HV := Lib.hid (namedV_none (frel_end HR.out))
      go_wp2
      go_ret2
      exact ⟨ret_val HV.out.symm, HB.out⟩

/-- The place of the first semicolon; -1: there is none. -/
def endI (l : List UInt8) : Int := match cutS l with
  | none => -1
  | some b => (b.length : Int)
theorem endI_at {l : List UInt8} {k : Nat} (h : l[k]? = some 59) (hn : 59 ∉ l.take k) : endI l = k := by
  unfold endI
  rw [cutS_at h hn]
  have := (List.getElem?_eq_some_iff.1 h).1
  simp
  omega
theorem endI_no {l : List UInt8} (h : 59 ∉ l) : endI l = -1 := by unfold endI; rw [cutS_none h]
theorem notin_step {l : List UInt8} {k : Nat} {c : UInt8} {t : List UInt8} (h : 59 ∉ l.take k) (hd : l.drop k = c :: t) (hc : c ≠ 59) : 59 ∉ l.take (k + 1) := by
  have hget : l[k]? = some c := by
    have := congrArg (fun x => x[0]?) hd
    simpa using this
  obtain ⟨hlt, hge⟩ := List.getElem?_eq_some_iff.1 hget
  rw [List.take_succ_eq_append_getElem hlt, hge]
  intro hm
  rcases List.mem_append.1 hm with hm | hm
  · exact h hm
  · simp at hm; exact hc hm.symm
theorem u8_ne {c : UInt8} {n : Nat} (hn : n < 256) (h : c ≠ UInt8.ofNat n) : ((c.toNat : Int) == (n : Int)) = false := by
  have : c.toNat ≠ n := fun e => h (UInt8.toNat_inj.1 (by rw [e]; simp; omega))
  simp; omega

set_option maxHeartbeats 1000000 in
theorem end_any (s : ByteArray) (w : World) (hs : s.size ≤ 1000000) :
    Calls Tryz.prog 93 #[.string s] w fun e w' => e = .returned (.int .i64 (endI s.data.toList)) ∧ w = w' := by
  go_enter Tryz.func93, Tryz.ntmps93
  go_wp2
  go_loop [3] (fun v3 => ∃ k : Nat, k ≤ s.size ∧ v3 = .int .i64 (k : Int) ∧ Hid (59 ∉ s.data.toList.take k)) (fun v3 => s.size - (intOf v3).toNat)
  case atStart => exact ⟨0, by omega, rfl, Lib.hid (by simp)⟩
  case round =>
    obtain ⟨k, hk, rfl, HR⟩ := hrel
    by_cases hlt : k < s.size
    · obtain ⟨c, t, hd, hck, ht⟩ := cons_at hlt
      by_cases hc : c = 59
      · have HV := Lib.hid (endI_at (k := k) (by rw [get_at hlt, hck, hc]) HR.out)
        subst hc
        clear hd ht
        go_wp2
        go_ret
        exact ⟨ret_int' HV.out.symm, rfl⟩
      · have HS := Lib.hid (notin_step HR.out hd hc)
        have hb := u8_ne (n := 59) (by decide) hc
        clear hd ht hc
        go_wp2
        go_round
        case rel => exact ⟨k + 1, by omega, by go_num, HS⟩
        case measure => simp [intOf]; omega
    · have HV := Lib.hid (endI_no (l := s.data.toList) (by have := HR.out; rwa [List.take_of_length_le (by rw [sz]; omega)] at this))
      go_wp2
      go_ret
      exact ⟨ret_int' HV.out.symm, rfl⟩
end En
end Go.Proofs.YtfabiidohdkkcaaGreatDoor
