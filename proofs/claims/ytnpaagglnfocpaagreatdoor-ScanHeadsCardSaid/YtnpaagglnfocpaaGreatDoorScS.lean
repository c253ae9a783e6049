/- Walks of layer 8, the seventeenth part: the reference's Lower, among, Begins, Within. -/
import Derived.Test.YtnpaagglnfocpaaGreatDoorScR
namespace Go.Proofs.YtnpaagglnfocpaaGreatDoor
open Go Go.RowKit
namespace Sc
set_option maxRecDepth 100000
set_option linter.unusedVariables false
set_option linter.unusedSimpArgs false

/-- Bytes of the call's own. -/
def BA (w : World) (g : Nat) (l : List UInt8) : Prop := ∃ (cs : Array Value) (lo hi : Nat), w.heap[g]? = some (.cells cs 5 (lo, hi)) ∧ l.length ≤ lo ∧ ∀ i (h : i < l.length), cs[i]? = some (.int .u8 (l[i].toNat : Int))
theorem BA.cell {w : World} {g : Nat} {l : List UInt8} (h : BA w g l) {i : Nat} {c : UInt8} (hi : l[i]? = some c) : w.cell? ⟨g, i, none⟩ = some (.int .u8 (c.toNat : Int)) := by
  obtain ⟨cs, lo, hi2, hb, _, hc⟩ := h
  obtain ⟨h1, h2⟩ := List.getElem?_eq_some_iff.1 hi
  have := hc i h1
  rw [h2] at this
  simp [World.cell?, hb, this]
theorem BA.fr {w : World} {g : Nat} {l : List UInt8} (h : BA w g l) {i : Nat} (hi : i < l.length) : w.frozen? ⟨g, i, none⟩ = false := by
  obtain ⟨cs, lo, hi2, hb, hlo, _⟩ := h
  simp [World.frozen?, hb]
  omega
theorem BA.set {w : World} {g : Nat} {l : List UInt8} (h : BA w g l) (i : Nat) (c : UInt8) (hi : i < l.length) : BA (w.setCell ⟨g, i, none⟩ (.int .u8 (c.toNat : Int))) g (l.set i c) := by
  obtain ⟨cs, lo, hi2, hb, hlo, hc⟩ := h
  refine ⟨cs.setIfInBounds i (.int .u8 (c.toNat : Int)), lo, hi2, ?_, by rw [List.length_set]; exact hlo, ?_⟩
  · simp only [World.setCell, Array.getElem?_modify, if_pos, hb, Option.map_some]
    rfl
  · intro j hj
    rw [List.length_set] at hj
    have hcs : i < cs.size := (Array.getElem?_eq_some_iff.1 (hc i hi)).1
    by_cases hij : i = j
    · subst hij
      rw [Array.getElem?_setIfInBounds_self_of_lt hcs]
      simp
    · rw [Array.getElem?_setIfInBounds_ne hij, hc j hj]
      simp [List.getElem_set_ne hij]
theorem BA.lt {w : World} {g : Nat} {l : List UInt8} (h : BA w g l) : g < w.heap.size := by
  obtain ⟨cs, lo, hi2, hb, _⟩ := h
  exact lt_of_block hb
theorem conv_ba (s : ByteArray) (w : World) : ∃ cap W', (convert 9 62 (.string s)).run Tryz.prog w = .ok (.slice (some ⟨w.heap.size, 0, none⟩) s.size cap) W' ∧ BA W' w.heap.size s.data.toList ∧ Below w.heap.size w W' := by
  refine ⟨_, _, run_bytes_of_string w 9 62 5 s Tryz.underlying9 Tryz.underlying62 Tryz.underlying5, ?_, (Below.refl _ w).drew.alloc (Nat.le_refl _) _⟩
  refine ⟨_, _, _, new_block w.drew _, ?_, ?_⟩
  · rw [sz]; simp [bytesRow]
  · intro i hi
    have hi2 : i < s.data.size := by simpa using hi
    rw [bytesRow_at s _ i hi2]
    simp
theorem conv_back {w : World} {g cap n : Nat} {l : List UInt8} (h : BA w g l) (hn : l.length = n) : (convert 62 9 (.slice (some ⟨g, 0, none⟩) n cap)).run Tryz.prog w = .ok (.string ⟨l.toArray⟩) w := by
  subst hn
  refine run_convert_bytes_back w 62 9 5 ⟨g, 0, none⟩ cap l Tryz.underlying62 Tryz.underlying5 Tryz.underlying9 ?_
  intro j hj
  have h1 : (⟨g, 0, none⟩ : Addr).add j = ⟨g, j, none⟩ := by
    unfold Addr.add
    split
    · subst_vars; rfl
    · simp
  rw [h1]
  exact h.cell (List.getElem?_eq_getElem hj)

theorem low_step {l : List UInt8} {i : Nat} {c : UInt8} (h : l[i]? = some c) : (low (l.take i) ++ l.drop i).set i (lowB c) = low (l.take (i + 1)) ++ l.drop (i + 1) ∧ (low (l.take i) ++ l.drop i)[i]? = some c := by
  obtain ⟨h1, h2⟩ := List.getElem?_eq_some_iff.1 h
  have hd : l.drop i = c :: l.drop (i + 1) := by rw [← h2]; exact List.drop_eq_getElem_cons h1
  have hlen : (low (l.take i)).length = i := by rw [low_len, List.length_take]; omega
  have ht : l.take (i + 1) = l.take i ++ [c] := by rw [List.take_succ_eq_append_getElem h1, h2]
  constructor
  · rw [hd, List.set_append_right _ _ (by omega), hlen, Nat.sub_self, List.set_cons_zero, ht]
    unfold low
    simp
  · rw [List.getElem?_append_right (by omega), hlen, Nat.sub_self, hd]
    rfl
theorem low_keep {l : List UInt8} {i : Nat} {c : UInt8} (h : l[i]? = some c) (hc : lowB c = c) : low (l.take i) ++ l.drop i = low (l.take (i + 1)) ++ l.drop (i + 1) := by
  have h1 := low_step h
  rw [← h1.1, hc]
  obtain ⟨g1, g2⟩ := List.getElem?_eq_some_iff.1 h1.2
  conv => rhs; rw [← g2]
  exact (List.set_getElem_self g1).symm

set_option maxHeartbeats 2000000 in
theorem rlower_any (s : ByteArray) (w : World) (hs : s.size ≤ 1000000) :
    Calls Tryz.prog 57 #[.string s] w fun e w' => e = .returned (.string ⟨(low s.data.toList).toArray⟩) ∧ Below w.heap.size w w' := by
  obtain ⟨cap, w1, hcv, hba, hb1⟩ := conv_ba s w
  have HB0 := Lib.hid hba
  have HBel := Lib.hid hb1
  clear hba hb1
  go_enter Tryz.func57, Tryz.ntmps57
  go_wp2_with fail
  go_loopg [4] s.size (fun G v4 wr => ∃ i : Nat, i + G = s.size ∧ v4 = .int .i64 (i : Int) ∧ Hid (BA wr w.heap.size (low (s.data.toList.take i) ++ s.data.toList.drop i)) ∧ Hid (Below w.heap.size w wr))
  case atStart => exact ⟨0, by omega, rfl, by rw [List.take_zero, List.drop_zero]; exact HB0, HBel⟩
  case round =>
    obtain ⟨i, hi, rfl, HBA, HB⟩ := hrel
    clear hcv
    have hlen : (low (s.data.toList.take i) ++ s.data.toList.drop i).length = s.size := by
      rw [List.length_append, low_len, List.length_take, List.length_drop, sz]; omega
    by_cases hlt : i < s.size
    · have hlt' : (i : Int) < (s.size : Int) := by omega
      obtain ⟨c, hc⟩ : ∃ c, s.data.toList[i]? = some c := ⟨_, List.getElem?_eq_getElem (by rw [sz]; exact hlt)⟩
      obtain ⟨q1, q2⟩ := low_step hc
      have c0 := HBA.out.cell q2
      have f0 := HBA.out.fr (i := i) (by rw [hlen]; exact hlt)
      by_cases hcap : 65 ≤ c.toNat ∧ c.toNat ≤ 90
      · have h1 : (65 : Int) ≤ (c.toNat : Int) := by omega
        have h2 : (c.toNat : Int) ≤ 90 := by omega
        have e1 : (((c + 32 : UInt8)).toNat : Int) = (c.toNat : Int) + 32 := by
          rw [UInt8.toNat_add]
          have : (32 : UInt8).toNat = 32 := rfl
          omega
        have HY : Hid (BA (_root_.Go.World.setCell _ ⟨w.heap.size, i, none⟩ (.int .u8 ((c.toNat : Int) + 32))) w.heap.size (low (s.data.toList.take (i + 1)) ++ s.data.toList.drop (i + 1))) := Lib.hid (by
          have := HBA.out.set i (c + 32) (by rw [hlen]; exact hlt)
          rw [e1] at this
          have hl : lowB c = c + 32 := by unfold lowB; rw [if_pos hcap]
          rw [← hl, q1] at this
          exact this)
        have HZ := Lib.hid (HB.out.setCell (p := ⟨w.heap.size, i, none⟩) (Nat.le_refl _) (.int .u8 ((c.toNat : Int) + 32)))
        clear hc q1 q2 hcap e1
        generalize (c.toNat : Int) = X at *
        go_wp2
        go_roundg (gk - 1)
        case rel => exact ⟨i + 1, by omega, by go_num, HY, HZ⟩
        case measure => omega
      · have HY : Hid (low (s.data.toList.take i) ++ s.data.toList.drop i = low (s.data.toList.take (i + 1)) ++ s.data.toList.drop (i + 1)) := Lib.hid (low_keep hc (by unfold lowB; rw [if_neg hcap]))
        rw [HY.out] at HBA
        have AL : Hid ((c.toNat : Int) < 65 ∨ (65 : Int) ≤ (c.toNat : Int) ∧ (90 : Int) < (c.toNat : Int)) := Lib.hid (by omega)
        clear hc q1 q2 hcap
        generalize (c.toNat : Int) = X at *
        rcases AL.out with h1 | ⟨h1, h2⟩
        all_goals
        · go_wp2
          go_roundg (gk - 1)
          case rel => exact ⟨i + 1, by omega, by go_num, HBA, HB⟩
          case measure => omega
    · have hlt' : ¬ (i : Int) < (s.size : Int) := by omega
      have e1 : low (s.data.toList.take i) ++ s.data.toList.drop i = low s.data.toList := by
        rw [List.take_of_length_le (by rw [sz]; omega), drop_all (by omega), List.append_nil]
      rw [e1] at HBA
      have hbk := conv_back (cap := cap) HBA.out (by rw [low_len, sz])
      clear e1 hlen
      go_wp2
      go_ret
      exact ⟨rfl, HB.out⟩

/-- Texts in a block. -/
def SB (w : World) (g : Nat) (L : List (List UInt8)) (n : Nat) : Prop := L.length = n ∧ ∃ fr, w.heap[g]? = some (.cells (L.map (fun l => Value.string ⟨l.toArray⟩)).toArray 9 fr)
theorem SB.cell {w : World} {g n : Nat} {L : List (List UInt8)} (h : SB w g L n) {i : Nat} {l : List UInt8} (hi : L[i]? = some l) : w.cell? ⟨g, i, none⟩ = some (.string ⟨l.toArray⟩) := by
  obtain ⟨_, fr, hb⟩ := h
  simp [World.cell?, hb, hi]
theorem SB.below {w w' : World} {g n : Nat} {L : List (List UInt8)} (h : SB w g L n) (hB : Below w.heap.size w w') : SB w' g L n := by
  obtain ⟨hn, fr, hb⟩ := h
  exact ⟨hn, fr, (hB.block g (lt_of_block hb)).trans hb⟩

set_option maxHeartbeats 1000000 in
theorem among_any (s : ByteArray) {L : List (List UInt8)} {g n : Nat} (w : World) (h : SB w g L n) (hn2 : n ≤ 1000) :
    Calls Tryz.prog 58 #[.string s, .slice (some ⟨g, 0, none⟩) n n] w fun e w' => e = .returned (.bool (L.contains s.data.toList)) ∧ w = w' := by
  have HSB := Lib.hid h
  have hn := h.1
  have HN := Lib.hid hn
  clear h hn
  go_enter Tryz.func58, Tryz.ntmps58
  go_wp2_with fail
  go_loopg [5] n (fun G v5 wr => ∃ m : Nat, m + G = n ∧ v5 = .int .i64 (m : Int) ∧ w = wr ∧ Hid (L.contains s.data.toList = (L.drop m).contains s.data.toList))
  case atStart => exact ⟨0, by omega, rfl, rfl, Lib.hid rfl⟩
  case round =>
    obtain ⟨m, hm, rfl, rfl, HR⟩ := hrel
    by_cases hlt : m < n
    · have hlt' : (m : Int) < (n : Int) := by omega
      obtain ⟨x, hx⟩ : ∃ x, L[m]? = some x := ⟨_, List.getElem?_eq_getElem (by rw [HN.out]; exact hlt)⟩
      have hd : L.drop m = x :: L.drop (m + 1) := by
        obtain ⟨h1, h2⟩ := List.getElem?_eq_some_iff.1 hx
        rw [← h2]; exact List.drop_eq_getElem_cons h1
      have c0 := HSB.out.cell hx
      obtain ⟨A, hA⟩ : ∃ A : ByteArray, (⟨x.toArray⟩ : ByteArray) = A := ⟨_, rfl⟩
      rw [hA] at c0
      have hAl : A.toList = x := by rw [toList_eq, ← hA]
      by_cases hxs : x = s.data.toList
      · have he : (A.toList == s.toList) = true := by rw [hAl, hxs, toList_eq]; simp
        have HV : Hid (L.contains s.data.toList = true) := Lib.hid (by rw [HR.out, hd, hxs]; simp)
        clear hx hd hA hAl hxs
        go_wp2
        go_ret
        exact ⟨ret_bool' (by first | exact HV.out.symm | (have := HV.out; rw [List.contains_eq_mem] at this; exact this.symm)), rfl⟩
      · have he : (A.toList == s.toList) = false := by
          rw [hAl, toList_eq, beq_eq_false_iff_ne]; exact hxs
        have HY : Hid (L.contains s.data.toList = (L.drop (m + 1)).contains s.data.toList) := Lib.hid (by
          rw [HR.out, hd, List.contains_cons]
          have : (s.data.toList == x) = false := by rw [beq_eq_false_iff_ne]; exact Ne.symm hxs
          rw [this, Bool.false_or])
        clear hx hd hA hAl hxs
        go_wp2
        go_roundg (gk - 1)
        case rel => exact ⟨m + 1, by omega, by go_num, rfl, HY⟩
        case measure => omega
    · have hlt' : ¬ (m : Int) < (n : Int) := by omega
      have HV : Hid (L.contains s.data.toList = false) := Lib.hid (by rw [HR.out, List.drop_eq_nil_of_le (by rw [HN.out]; omega)]; rfl)
      go_wp2
      go_ret
      exact ⟨ret_bool' (by first | exact HV.out.symm | (have := HV.out; rw [List.contains_eq_mem] at this; exact this.symm)), rfl⟩

theorem raws_any (w : World) :
    Calls Tryz.prog 59 #[] w fun e w' => (∃ g, e = .returned (.slice (some ⟨g, 0, none⟩) 4 4) ∧ SB w' g rawsL 4) ∧ Below w.heap.size w w' := by
  go_enter Tryz.func59, Tryz.ntmps59
  go_wp2
  go_ret
  exact ⟨⟨_, rfl, rfl, _, new_block _ _⟩, (Below.refl _ _).alloc (Nat.le_refl _) _⟩
set_option maxHeartbeats 4000000 in
theorem blocks_any (w : World) :
    Calls Tryz.prog 62 #[] w fun e w' => (∃ g, e = .returned (.slice (some ⟨g, 0, none⟩) 62 62) ∧ SB w' g blocksL 62) ∧ Below w.heap.size w w' := by
  go_enter Tryz.func62, Tryz.ntmps62
  go_wp2
  go_ret
  exact ⟨⟨_, rfl, rfl, _, new_block _ _⟩, (Below.refl _ _).alloc (Nat.le_refl _) _⟩

theorem begins_any (s t : ByteArray) (w : World) (hs : s.size ≤ 1000000) (ht : t.size ≤ 1000000) :
    Calls Tryz.prog 60 #[.string s, .string t] w fun e w' => e = .returned (.bool (Lib.hasPrefix s.data.toList t.data.toList)) ∧ w = w' := by
  by_cases hle : t.size ≤ s.size
  · have hle' : (t.size : Int) ≤ (s.size : Int) := by omega
    have HV : Hid ((( s.extract 0 t.size).toList == t.toList) = Lib.hasPrefix s.data.toList t.data.toList) := Lib.hid (by
      rw [toList_eq, toList_eq, ext_to]
      unfold Lib.hasPrefix
      rw [Bool.eq_iff_iff, beq_iff_eq, List.isPrefixOf_iff_prefix, List.prefix_iff_eq_take, sz]
      exact eq_comm)
    go_enter Tryz.func60, Tryz.ntmps60
    go_wp2
    go_ret
    exact ⟨ret_bool' (by first | exact HV.out | (rw [← HV.out]; simp)), rfl⟩
  · have hle' : (s.size : Int) < (t.size : Int) := by omega
    have HV : Hid (Lib.hasPrefix s.data.toList t.data.toList = false) := Lib.hid (by
      unfold Lib.hasPrefix
      cases hp : t.data.toList.isPrefixOf s.data.toList with
      | false => rfl
      | true =>
        have := (List.isPrefixOf_iff_prefix.1 hp).length_le
        rw [sz, sz] at this
        omega)
    go_enter Tryz.func60, Tryz.ntmps60
    go_wp2
    go_ret
    exact ⟨ret_bool' HV.out.symm, rfl⟩

set_option maxHeartbeats 2000000 in
theorem within_any (s t : ByteArray) (w : World) (hs : s.size ≤ 1000000) (ht : t.size ≤ 1000000) (h0 : 0 < t.size) :
    Calls Tryz.prog 64 #[.string s, .string t] w fun e w' => e = .returned (.bool (Lib.contains s.data.toList t.data.toList)) ∧ w = w' := by
  go_enter Tryz.func64, Tryz.ntmps64
  go_wp2_with fail
  go_loopg [5] (s.size + 1) (fun G v5 wr => ∃ m : Nat, m + G = s.size + 1 ∧ m ≤ s.size ∧ v5 = .int .i64 (m : Int) ∧ w = wr ∧ Hid (Lib.contains s.data.toList t.data.toList = Lib.contains (s.data.toList.drop m) t.data.toList))
  case atStart => exact ⟨0, by omega, by omega, rfl, rfl, Lib.hid rfl⟩
  case round =>
    obtain ⟨m, hm, hms, rfl, rfl, HR⟩ := hrel
    by_cases hle : m + t.size ≤ s.size
    · have hle' : (m : Int) + (t.size : Int) ≤ (s.size : Int) := by omega
      have hlt : m < s.size := by omega
      obtain ⟨c, d, hd, hck, hdt⟩ := cons_at hlt
      obtain ⟨E, hE⟩ : ∃ E : ByteArray, s.extract m (m + t.size) = E := ⟨_, rfl⟩
      have hEl : E.toList = (s.data.toList.drop m).take t.size := by
        rw [toList_eq, ← hE, Lib.extract_data]
        congr 1
        omega
      have HP : Hid ((E.toList == t.toList) = t.data.toList.isPrefixOf (c :: d)) := Lib.hid (by
        rw [hEl, toList_eq, ← hd]
        rw [Bool.eq_iff_iff, beq_iff_eq, List.isPrefixOf_iff_prefix, List.prefix_iff_eq_take, sz]
        exact eq_comm)
      have HC : Hid (Lib.contains s.data.toList t.data.toList = ((E.toList == t.toList) || Lib.contains (s.data.toList.drop (m + 1)) t.data.toList)) := Lib.hid (by rw [HR.out, hd, contains_cons, HP.out, hdt])
      clear hd hdt hEl
      cases he : (E.toList == t.toList) with
      | true =>
        have HV : Hid (Lib.contains s.data.toList t.data.toList = true) := Lib.hid (by rw [HC.out, he]; rfl)
        go_wp2
        go_ret
        exact ⟨ret_bool' HV.out.symm, rfl⟩
      | false =>
        have HV : Hid (Lib.contains s.data.toList t.data.toList = Lib.contains (s.data.toList.drop (m + 1)) t.data.toList) := Lib.hid (by rw [HC.out, he]; rfl)
        go_wp2
        go_roundg (gk - 1)
        case rel => exact ⟨m + 1, by omega, by omega, by go_num, rfl, HV⟩
        case measure => omega
    · have hle' : (s.size : Int) < (m : Int) + (t.size : Int) := by omega
      have HV : Hid (Lib.contains s.data.toList t.data.toList = false) := Lib.hid (by rw [HR.out]; exact contains_short (by rw [List.length_drop, sz, sz]; omega))
      go_wp2
      go_ret
      exact ⟨ret_bool' HV.out.symm, rfl⟩
end Sc
end Go.Proofs.YtnpaagglnfocpaaGreatDoor
