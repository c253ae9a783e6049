/- Layer 6: the reference's Children, Unlink. -/
import Derived.Test.YtlpfffioidbkeaaTreeGG
namespace Go.Proofs.Ytlpfffioidbkeaa
open Go Go.RowKit
namespace Tr
set_option maxRecDepth 100000
set_option linter.unusedVariables false
set_option linter.unusedSimpArgs false

/-- The children by the links. -/
def under (K : List (Nat × Nat)) (id : Int) : List Nat := (K.filter fun p => (p.1 : Int) == id).map (·.2)
theorem under_len (K : List (Nat × Nat)) (id : Int) : (under K id).length ≤ K.length := by
  unfold under; rw [List.length_map]; exact List.length_filter_le _ _
section
variable {w : World} {R h cap n : Nat} {o : Nat → Own} {kv : Value} {K : List (Nat × Nat)}
set_option maxHeartbeats 4000000 in
theorem rchildren_any (H : RR w R h cap n o kv K) (hfew : K.length ≤ 1000000000) (id : Int) :
    Calls Try.prog 28 #[ptr R, .int .i64 id] w fun e w' => ∃ v, e = .returned v ∧ w'.ownsRow w.heap.size 3 1 v (under K id).length (ints (under K id)) ∧ Below w.heap.size w w' := by
  have HR := Lib.hid H
  obtain ⟨a, cp, hf⟩ := H.form
  obtain ⟨m, hm⟩ : ∃ m, K.length = m := ⟨_, rfl⟩
  have c1 : Hid (∀ W, Below w.heap.size w W → W.cell? ⟨R, 1, none⟩ = some (.slice a m cp)) := Lib.hid (fun W hW => by rw [(H.below hW).cell1, hf, hm])
  have HP : Hid (∀ W, Below w.heap.size w W → ∀ i p, K[i]? = some p → ∃ k, a = some ⟨k, 0, none⟩ ∧ W.cell? ⟨k, i * 2, none⟩ = some (.int .i64 (p.1 : Int)) ∧ W.cell? ⟨k, i * 2 + 1, none⟩ = some (.int .i64 (p.2 : Int))) := Lib.hid (fun W hW i p hi => by
    obtain ⟨k, cp', e1, q1, q2⟩ := (H.below hW).pair hi
    refine ⟨k, ?_, q1, q2⟩
    rw [hf] at e1; injection e1)
  have HM := Lib.hid hm
  rw [hm] at hfew
  clear H hf hm
  obtain ⟨i0, hi, hz0, hz1, hz2⟩ := info_parts intInfo
  unfold ptr
  go_enter Try.func28, Try.ntmps28
  go_wp2
  go_loopg [5, 6] m (fun G s5 s6 wr => ∃ i : Nat, i + G = m ∧ s6 = .int .i64 i ∧ wr.ownsRow w.heap.size 3 1 s5 (under (K.take i) id).length (ints (under (K.take i) id)) ∧ Below w.heap.size w wr)
  case atStart => exact ⟨0, by omega, rfl, World.ownsRow_nil _ _ _ _, Below.refl _ _⟩
  case round =>
    obtain ⟨i, hig, rfl, hown, hbw⟩ := hrel
    have hsz := hbw.size
    have c1' := c1.out _ hbw
    cases gk with
    | zero =>
      have hlt : ¬ (i : Int) < (m : Int) := by omega
      have HO := Lib.hid hown
      have hil : Hid (K.take i = K) := Lib.hid (List.take_of_length_le (by have := HM.out; omega))
      clear hown
      go_wp2
      go_ret
      refine ⟨_, rfl, ?_, hbw⟩
      have := HO.out
      rw [hil.out] at this
      exact this
    | succ G =>
      have hlt : (i : Int) < (m : Int) := by omega
      obtain ⟨p, hp⟩ : ∃ p, K[i]? = some p := ⟨_, List.getElem?_eq_getElem (by have := HM.out; omega)⟩
      obtain ⟨k, rfl, q1, q2⟩ := HP.out _ hbw i p hp
      have htk : K.take (i + 1) = K.take i ++ [p] := by rw [List.take_add_one, hp]; rfl
      have hle1 : (under (K.take i) id).length ≤ 1000000000 := Nat.le_trans (under_len _ _) (by rw [List.length_take]; omega)
      by_cases hc : (p.1 : Int) = id
      · have HTK : Hid (under (K.take (i + 1)) id = under (K.take i) id ++ [p.2]) := Lib.hid (by
          rw [htk]; unfold under; rw [List.filter_append, List.filter_cons_of_pos (by simpa using hc)]; simp)
        have hc1 : ((p.1 : Int) == id) = true := by simpa using hc
        clear htk hp hc
        generalize under (K.take i) id = us at *
        go_wp2_with (at_builtin; refine wpList_append_own _ rfl _ _ 44 rfl w.heap.size 3 i0 (.int .i64 0) 1 8 Try.underlying44 hi hz0 hz1 hz2 rfl (by decide) _ _ _ rfl (hown.alloc _) ⟨wr.heap.size, 0, none⟩ 1 1 [.int .i64 (p.2 : Int)] rfl rfl ?c1 ?c2 ?c3 ?c4 ?c5 ?_)
        case c1 => exact World.news_of_block (heap_alloc_new wr _)
        case c2 => intro u hu; simp at hu; subst hu; rfl
        case c3 => unfold maxLen; omega
        case c4 => omega
        case c5 => simp; omega
        intro v' w3 hown3 hgrow3 _
        have hbw3 : Below w.heap.size w w3 := (hbw.alloc hsz _).grown hgrow3 (by simp; omega) (fun k hk => (hown.lt k hk).1)
        have HO3 := Lib.hid hown3
        have HB3 := Lib.hid hbw3
        clear hown3 hgrow3 hbw3 hown
        go_wp2
        go_roundg G
        case rel => exact ⟨i + 1, by omega, by go_num, by have := HO3.out; rw [HTK.out]; simpa [ints] using this, HB3.out⟩
        case measure => omega
      · have HTK : Hid (under (K.take (i + 1)) id = under (K.take i) id) := Lib.hid (by
          rw [htk]; unfold under; rw [List.filter_append, List.filter_cons_of_neg (by simpa using hc)]; simp)
        have hc1 : ((p.1 : Int) == id) = false := by simpa using hc
        have HO := Lib.hid hown
        have HB := Lib.hid hbw
        clear htk hp hown hbw
        go_wp2
        go_roundg G
        case rel => exact ⟨i + 1, by omega, by go_num, by rw [HTK.out]; exact HO.out, HB.out⟩
        case measure => omega
end
end Tr
end Go.Proofs.Ytlpfffioidbkeaa
