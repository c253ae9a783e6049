/- Layer 6: the reference's Unlink. -/
import Derived.Test.YtlpfffioidbkeaaTreeHH
namespace Go.Proofs.Ytlpfffioidbkeaa
open Go Go.RowKit
namespace Tr
set_option maxRecDepth 100000
set_option linter.unusedVariables false
set_option linter.unusedSimpArgs false

theorem owns_other {W : World} {base n size : Nat} {e : TypeId} {v : Value} {xs : List Value} (hown : W.ownsRow base e size v n xs) {p : Addr} (u : Value) (hp : ∀ k, v.ownBlock = some k → k ≠ p.block) : (W.setCell p u).ownsRow base e size v n xs := by
  refine ⟨hown.1, ?_⟩
  rcases hown.2 with q | ⟨g, cap, cur, e1, e2, e3, e4⟩
  · exact .inl q
  · exact .inr ⟨g, cap, cur, e1, e2, by rw [heap_setCell_other _ _ _ _ (hp g (by rw [e1]; rfl))]; exact e3, e4⟩
theorem owns_base {W : World} {base n size : Nat} {e : TypeId} {v : Value} {xs : List Value} (hown : W.ownsRow base e size v n xs) : W.ownsRow 0 e size v n xs := by
  refine ⟨hown.1, ?_⟩
  rcases hown.2 with q | ⟨g, cap, cur, e1, e2, e3, e4⟩
  · exact .inl q
  · exact .inr ⟨g, cap, cur, e1, Nat.zero_le _, e3, e4⟩
/-- What a call on the reference's arena leaves. -/
def OpR (w w' : World) (R h : Nat) (kv : Value) (n : Nat) (o : Nat → Own) (K : List (Nat × Nat)) : Prop :=
  ∃ h' cap' kv', RR w' R h' cap' n o kv' K ∧ (h' = h ∨ w.heap.size ≤ h') ∧ (∀ k, kv'.ownBlock = some k → kv.ownBlock = some k ∨ w.heap.size ≤ k) ∧ Only (three R h kv) w w'
/-- The links without a node. -/
def without (K : List (Nat × Nat)) (id : Int) : List (Nat × Nat) := K.filter fun p => !((p.2 : Int) == id)
def UnEnd (w w' : World) (R h : Nat) (kv : Value) (n : Nat) (o : Nat → Own) (K : List (Nat × Nat)) (id : Int) (e : Ending) : Prop := (e = .returned (.bool false) ∧ above K id < 0 ∧ w = w') ∨ (e = .returned (.bool true) ∧ 0 ≤ above K id ∧ OpR w w' R h kv n o (without K id))
theorem pairInfo : (Try.prog.info? 53).map (fun i => (i.zero, i.size, i.bytes)) = some (some (.agg #[.int .i64 0, .int .i64 0]), 2, 16) := by kernel_rfl
section
variable {w W : World} {R h cap n : Nat} {o : Nat → Own} {kv kv' : Value} {K K' : List (Nat × Nat)}
theorem RR.relink (H : RR w R h cap n o kv K) (hS : Only (fun k => kv.ownBlock = some k) w W) (hown : W.ownsRow 0 53 2 kv' K'.length (prs K'))
    (hkv : ∀ k, kv'.ownBlock = some k → kv.ownBlock = some k ∨ w.heap.size ≤ k) : OpR w (W.setCell ⟨R, 1, none⟩ kv') R h kv n o K' := by
  have hne : ∀ k, kv'.ownBlock = some k → k ≠ R ∧ k ≠ h := fun k hk => by
    rcases hkv k hk with e | e
    · exact H.neK k e
    · have := H.ltR
      have := H.lth
      omega
  refine ⟨h, cap, kv', ⟨H.ne, ?_, H.hle, H.hcap, ?_, ?_, hne⟩, .inl rfl, hkv, ?_⟩
  · have := heap_setCell_same W R 1 #[.slice (some ⟨h, 0, none⟩) n cap, kv] 39 kv' ((hS.block R H.ltR (fun e => (H.neK R e).1 rfl)).trans H.hR)
    exact this
  · obtain ⟨cur, hc, r⟩ := H.hh
    refine ⟨cur, ?_, r⟩
    rw [heap_setCell_other _ _ _ _ (fun e => H.ne e.symm), hS.block h H.lth (fun e => (H.neK h e).2 rfl)]
    exact hc
  · exact owns_other hown _ fun k hk => (hne k hk).1
  · exact (Only.refl _ w |>.trans hS (fun i _ hi => .inr (.inr hi))).setCell (.inl rfl) _
end
section
variable {w : World} {R h cap n : Nat} {o : Nat → Own} {kv : Value} {K : List (Nat × Nat)}
set_option maxHeartbeats 4000000 in
theorem runlink_any (H : RR w R h cap n o kv K) (hfew : K.length ≤ 1000000000) (id : Int) :
    Calls Try.prog 19 #[ptr R, .int .i64 id] w fun e w' => UnEnd w w' R h kv n o K id e := by
  have HPa := Lib.hid (rparent_any H hfew id)
  unfold ptr at HPa
  by_cases hab : above K id < 0
  · have HE : Hid (UnEnd w w R h kv n o K id (.returned (.bool false))) := Lib.hid (.inl ⟨rfl, hab, rfl⟩)
    have hab' : decide (above K id < 0) = true := by simpa using hab
    unfold ptr
    clear H
    generalize above K id = ab at hab hab' HPa
    go_enter Try.func19, Try.ntmps19
    go_wp2_with fail
    refine HPa.out.mono ?_
    rintro e w1 ⟨rfl, rfl⟩
    go_wp2
    go_ret
    exact HE.out
  have hae : 0 ≤ above K id := by omega
  have HREL : Hid (∀ W kv', Below w.heap.size w W → W.ownsRow w.heap.size 53 2 kv' (without K id).length (prs (without K id)) → UnEnd w (W.setCell ⟨R, 1, none⟩ kv') R h kv n o K id (.returned (.bool true))) :=
    Lib.hid (fun W kv' hb hown => .inr ⟨rfl, hae, H.relink (Only.of_below hb) (owns_base hown) (fun k hk => .inr (hown.lt k hk).1)⟩)
  have HFr := Lib.hid (fun W (hW : Below w.heap.size w W) => (H.below hW).fr 1)
  have hltR := H.ltR
  obtain ⟨a, cp, hf⟩ := H.form
  obtain ⟨m, hm⟩ : ∃ m, K.length = m := ⟨_, rfl⟩
  have c1 : Hid (∀ W, Below w.heap.size w W → W.cell? ⟨R, 1, none⟩ = some (.slice a m cp)) := Lib.hid (fun W hW => by rw [(H.below hW).cell1, hf, hm])
  have HP : Hid (∀ W, Below w.heap.size w W → ∀ i p, K[i]? = some p → ∃ k, a = some ⟨k, 0, none⟩ ∧ W.cell? ⟨k, i * 2, none⟩ = some (.int .i64 (p.1 : Int)) ∧ W.cell? ⟨k, i * 2 + 1, none⟩ = some (.int .i64 (p.2 : Int))) := Lib.hid (fun W hW i p hi => by
    obtain ⟨k, cp', e1, q1, q2⟩ := (H.below hW).pair hi
    refine ⟨k, ?_, q1, q2⟩
    rw [hf] at e1; injection e1)
  have HM := Lib.hid hm
  rw [hm] at hfew
  clear H hf hm
  obtain ⟨i0, hi, hz0, hz1, hz2⟩ := info_parts pairInfo
  have hab' : decide (above K id < 0) = false := by simpa using hab
  clear hae
  generalize above K id = ab at hab hab' HPa
  unfold ptr
  go_enter Try.func19, Try.ntmps19
  go_wp2_with fail
  refine HPa.out.mono ?_
  rintro e w1 ⟨rfl, hw1⟩
  obtain rfl := hw1
  clear HPa
  go_wp2
  go_loopg [5, 6] m (fun G s5 s6 wr => ∃ i : Nat, i + G = m ∧ s6 = .int .i64 i ∧ wr.ownsRow w.heap.size 53 2 s5 (without (K.take i) id).length (prs (without (K.take i) id)) ∧ Below w.heap.size w wr)
  case atStart => exact ⟨0, by omega, rfl, World.ownsRow_nil _ _ _ _, Below.refl _ _⟩
  case round =>
    obtain ⟨i, hig, rfl, hown, hbw⟩ := hrel
    have hsz := hbw.size
    have c1' := c1.out _ hbw
    cases gk with
    | zero =>
      have hlt : ¬ (i : Int) < (m : Int) := by omega
      have hil : K.take i = K := List.take_of_length_le (by have := HM.out; omega)
      rw [hil] at hown
      have HO := Lib.hid hown
      have HB := Lib.hid hbw
      have f1 := HFr.out _ hbw
      obtain ⟨a5, c5, rfl⟩ := owns_form hown
      clear hown hil
      go_wp2
      go_ret
      exact HREL.out _ _ HB.out HO.out
    | succ G =>
      have hlt : (i : Int) < (m : Int) := by omega
      obtain ⟨p, hp⟩ : ∃ p, K[i]? = some p := ⟨_, List.getElem?_eq_getElem (by have := HM.out; omega)⟩
      obtain ⟨k, rfl, q1, q2⟩ := HP.out _ hbw i p hp
      have htk : K.take (i + 1) = K.take i ++ [p] := by rw [List.take_add_one, hp]; rfl
      have hle1 : (without (K.take i) id).length ≤ 1000000000 := Nat.le_trans (List.length_filter_le _ _) (by rw [List.length_take]; omega)
      by_cases hc : (p.2 : Int) = id
      · have HTK : Hid (without (K.take (i + 1)) id = without (K.take i) id) := Lib.hid (by
          rw [htk]; unfold without; rw [List.filter_append, List.filter_cons_of_neg (by simpa using hc)]; simp)
        have hc1 : ((p.2 : Int) != id) = false := by simpa using hc
        have HO := Lib.hid hown
        have HB := Lib.hid hbw
        clear htk hp hown hbw
        go_wp2
        go_roundg G
        case rel => exact ⟨i + 1, by omega, by go_num, by rw [HTK.out]; exact HO.out, HB.out⟩
        case measure => omega
      · have HTK : Hid (without (K.take (i + 1)) id = without (K.take i) id ++ [p]) := Lib.hid (by
          rw [htk]; unfold without; rw [List.filter_append, List.filter_cons_of_pos (by simpa using hc)]; simp)
        have hc1 : ((p.2 : Int) != id) = true := by simpa using hc
        clear htk hp
        generalize without (K.take i) id = us at *
        go_wp2_with (at_builtin; refine wpList_append_own _ rfl _ _ 37 rfl w.heap.size 53 i0 (.agg #[.int .i64 0, .int .i64 0]) 2 16 Try.underlying37 hi hz0 hz1 hz2 rfl (by decide) _ _ _ rfl (hown.alloc _) ⟨wr.heap.size, 0, none⟩ 1 1 [.int .i64 (p.1 : Int), .int .i64 (p.2 : Int)] rfl rfl ?c1 ?c2 ?c3 ?c4 ?c5 ?_)
        case c1 => exact World.news_of_block (heap_alloc_new wr _)
        case c2 => intro u hu; simp at hu; rcases hu with rfl | rfl <;> rfl
        case c3 => unfold maxLen; omega
        case c4 => omega
        case c5 => simp; omega
        intro v' w3 hown3 hgrow3 _
        have hbw3 : Below w.heap.size w w3 := (hbw.alloc hsz _).grown hgrow3 (by simp; omega) (fun k hk => (hown.lt k hk).1)
        have HO3 := Lib.hid hown3
        have HB3 := Lib.hid hbw3
        clear hown3 hgrow3 hbw3 hown
        go_wp2
        go_roundg G
        case rel => exact ⟨i + 1, by omega, by go_num, by have := HO3.out; rw [HTK.out, prs_append]; simpa [prs] using this, HB3.out⟩
        case measure => omega
end
end Tr
end Go.Proofs.Ytlpfffioidbkeaa
