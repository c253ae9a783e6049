/- Layer 6: the reference's Move. -/
import Derived.Test.YtlpfffioidbkeaaTreeMM
namespace Go.Proofs.Ytlpfffioidbkeaa
open Go Go.RowKit
namespace Tr
set_option maxRecDepth 100000
set_option linter.unusedVariables false
set_option linter.unusedSimpArgs false

theorem OpR.keepK {w : World} {R h cap n : Nat} {o : Nat → Own} {kv : Value} {K : List (Nat × Nat)} (H : RR w R h cap n o kv K) : OpR w w R h kv n o K := ⟨h, cap, kv, H, .inl rfl, fun k hk => .inl hk, Only.refl _ _⟩
theorem OpR.then_ {w wx w' : World} {R h h1 n : Nat} {o : Nat → Own} {kv kv1 : Value} {K : List (Nat × Nat)} (o1 : Only (three R h kv) w wx) (hh : h1 = h ∨ w.heap.size ≤ h1) (hk : ∀ k, kv1.ownBlock = some k → kv.ownBlock = some k ∨ w.heap.size ≤ k)
    (H : OpR wx w' R h1 kv1 n o K) : OpR w w' R h kv n o K := by
  obtain ⟨h', cap', kv', a1, a2, a3, a4⟩ := H
  have hs := o1.size
  refine ⟨h', cap', kv', a1, ?_, fun k hk' => ?_, o1.trans a4 fun k hk' hx => ?_⟩
  · rcases a2 with e | e
    · rw [e]; exact hh
    · exact .inr (by omega)
  · rcases a3 k hk' with e | e
    · exact hk k e
    · exact .inr (by omega)
  · rcases hx with e | e | e
    · exact .inl e
    · rcases hh with e2 | e2
      · exact .inr (.inl (e.trans e2))
      · omega
    · rcases hk k e with e2 | e2
      · exact .inr (.inr e2)
      · omega
theorem RR.afterK' {w : World} {R h cap n : Nat} {o : Nat → Own} {kv : Value} {K : List (Nat × Nat)} (H : RR w R h cap n o kv K) {w1 w3 : World} (hb : Below w.heap.size w w1) (hg : w1.grownBy w3 kv.ownBlock) : Only (fun k => kv.ownBlock = some k) w w3 ∧ Blk w3 R #[.slice (some ⟨h, 0, none⟩) n cap, kv] 39 := by
  have hA := H.ltR
  have hs := hb.size
  refine ⟨(Only.of_below hb).trans' ⟨hg.os, hg.tape, hg.output, hg.size, fun k hk hx => hg.block k hk (fun e => hx e.symm)⟩, ?_⟩
  show w3.heap[R]? = _
  rw [hg.block R (by omega) (fun e => (H.neK R e.symm).1 rfl), hb.block R hA]
  exact H.hR
theorem RR.pushK' {w : World} {R h cap n : Nat} {o : Nat → Own} {kv : Value} {K : List (Nat × Nat)} (H : RR w R h cap n o kv K) {w1 w3 : World} {g cp : Nat} {x y : Nat} (hb : Below w.heap.size w w1) (hg : w1.grownBy w3 kv.ownBlock)
    (hown : w3.ownsRow 0 53 2 (.slice (some ⟨g, 0, none⟩) (K.length + 1) cp) (K.length + 1) (prs K ++ [.int .i64 (x : Int), .int .i64 (y : Int)])) (hat : kv.ownBlock = some g ∨ g = w1.heap.size) :
    OpR w (w3.setCell ⟨R, 1, none⟩ (.slice (some ⟨g, 0, none⟩) (K.length + 1) cp)) R h kv n o (K ++ [(x, y)]) := by
  have hs := hb.size
  refine H.relink (H.afterK' hb hg).1 ?_ ?_
  · rw [prs_append, List.length_append]; exact hown
  · intro k hk
    simp only [Value.ownBlock] at hk
    injection hk with hk
    subst hk
    exact hat.imp id fun e => by omega
theorem without_len (K : List (Nat × Nat)) (id : Int) : (without K id).length ≤ K.length := List.length_filter_le _ _
/-- Who has no parent stands in no link. -/
theorem without_none {K : List (Nat × Nat)} {id : Int} (h : above K id < 0) : without K id = K := by
  unfold without
  rw [List.filter_eq_self]
  intro p hp
  unfold above at h
  cases hf : K.find? (fun p => (p.2 : Int) == id) with
  | none => have := List.find?_eq_none.1 hf p hp; simpa using this
  | some q => rw [hf] at h; simp at h; omega
section
variable {S : Ar} {ch : Nat → List Nat} {w : World} {R h cap n : Nat} {o : Nat → Own} {kv : Value} {K : List (Nat × Nat)}
/-- What Move leaves of the reference's arena. -/
def RMove (w w' : World) (R h : Nat) (kv : Value) (n : Nat) (o : Nat → Own) (K : List (Nat × Nat)) (id p : Nat) (e : Ending) : Prop := e = .returned (.bool true) ∧ OpR w w' R h kv n o (without K id ++ [(p, id)])
set_option maxHeartbeats 4000000 in
theorem rmove_true (hI : Inv S ch) {ht : Nat → Nat} (hr : ∀ p, p < S.n → ∀ c ∈ ch p, ht c < ht p) (HL : Lk S ch K) (H : RR w R h cap n o kv K) (hn : n = S.n) (hn9 : n ≤ 1000000000) (hfew : K.length ≤ 1000000000)
    {id p : Nat} (hid : id < n) (hp : p < n) (h0 : id ≠ 0) (hns : ¬ Sub S.n ch id p) :
    Calls Try.prog 21 #[ptr R, .int .i64 id, .int .i64 p] w fun e w' => RMove w w' R h kv n o K id p e := by
  have HA := Lib.hid (rhas_any H (id : Int))
  have HB := Lib.hid (rhas_any H (p : Int))
  rw [in_true ⟨by omega, by omega⟩] at HA HB
  have HW := Lib.hid (rbelow_any (b := false) hI hr HL H hn hn9 hfew (id := p) (top := id) (by omega) (by simpa using hns))
  have HU := Lib.hid (runlink_any H hfew (id : Int))
  have HR := Lib.hid H
  have HE : Hid (∀ w2 e, UnEnd w w2 R h kv n o K id e → (∃ b, e = .returned (.bool b)) ∧ OpR w w2 R h kv n o (without K id)) := Lib.hid (by
    rintro w2 e (⟨rfl, h1, rfl⟩ | ⟨rfl, h1, h2⟩)
    · exact ⟨⟨false, rfl⟩, by rw [without_none h1]; exact OpR.keepK H⟩
    · exact ⟨⟨true, rfl⟩, h2⟩)
  have e0 : ((id : Int) == 0) = false := by simpa using h0
  have e0' : ¬ (id : Int) = 0 := by omega
  obtain ⟨j0, hj, hy0, hy1, hy2⟩ := info_parts pairInfo
  have hle : (without K (id : Int)).length ≤ 1000000000 := Nat.le_trans (without_len _ _) hfew
  unfold RMove
  generalize without K (id : Int) = K2 at *
  clear hid hp h0 hr hI H HL hns hfew hn
  unfold ptr at *
  go_enter Try.func21, Try.ntmps21
  go_wp2_with fail
  refine HA.out.mono ?_
  rintro e w1 ⟨rfl, hw1⟩
  obtain rfl := hw1
  go_wp2_with fail
  refine HB.out.mono ?_
  rintro e w1 ⟨rfl, hw1⟩
  obtain rfl := hw1
  go_wp2_with fail
  refine HW.out.mono ?_
  rintro e w1 ⟨rfl, hw1⟩
  obtain rfl := hw1
  clear HA HB HW
  go_wp2_with fail
  refine HU.out.mono ?_
  rintro e w2 hun
  obtain ⟨⟨b, rfl⟩, hop⟩ := HE.out w2 e hun
  obtain ⟨h1, cap1, kv1, H1, hh1, hk1, o1⟩ := hop
  have HR1 := Lib.hid H1
  have HO1 := Lib.hid o1
  have HH1 := Lib.hid hh1
  have HK1 := Lib.hid hk1
  have c1 := H1.cell1
  have hown := H1.hk
  clear HU HE HR hun H1 hh1 hk1 o1
  go_wp2_with (at_builtin; refine wpList_append_lies _ rfl _ _ 37 rfl 0 53 j0 (.agg #[.int .i64 0, .int .i64 0]) 2 16 Try.underlying37 hj hy0 hy1 hy2 rfl (by decide) _ _ _ rfl (hown.alloc _) ⟨w2.heap.size, 0, none⟩ 1 1 [.int .i64 (p : Int), .int .i64 (id : Int)] rfl rfl ?c1 ?c2 ?c0 ?c3 ?c4 ?c5 _ rfl ?_)
  case c1 => exact World.news_of_block (heap_alloc_new w2 _)
  case c2 => intro u hu; simp at hu; rcases hu with rfl | rfl <;> rfl
  case c0 => decide
  case c3 => unfold maxLen; omega
  case c4 => omega
  case c5 => simp
  intro g' cap' w3 hown3 hgrow3 hat3 hlt3
  have hblk := (HR1.out.afterK' ((Below.refl _ _).alloc (Nat.le_refl _) _) hgrow3).2
  have cA3 := hblk.cell 1 rfl
  have fA3 := hblk.fr 1
  have HEnd := Lib.hid (HR1.out.pushK' ((Below.refl _ _).alloc (Nat.le_refl _) _) hgrow3 hown3 (by simpa using hat3))
  clear hown3 hgrow3 hat3 hown c1
  go_wp2
  go_ret
  exact ⟨rfl, OpR.then_ HO1.out HH1.out HK1.out HEnd.out⟩
set_option maxHeartbeats 4000000 in
theorem rmove_false (hI : Inv S ch) {ht : Nat → Nat} (hr : ∀ p, p < S.n → ∀ c ∈ ch p, ht c < ht p) (HL : Lk S ch K) (H : RR w R h cap n o kv K) (hn : n = S.n) (hn9 : n ≤ 1000000000) (hfew : K.length ≤ 1000000000)
    {id p : Int} (hno : ¬ can S ch id p) :
    Calls Try.prog 21 #[ptr R, .int .i64 id, .int .i64 p] w fun e w' => e = .returned (.bool false) ∧ w = w' := by
  have HA := Lib.hid (rhas_any H id)
  have HB := Lib.hid (rhas_any H p)
  rcases Classical.em (0 ≤ id ∧ id < (n : Int)) with hi | hi
  case inr =>
    rw [in_false hi] at HA
    clear hi HB hno H HL hI hr
    unfold ptr at *
    go_enter Try.func21, Try.ntmps21
    go_wp2_with fail
    refine HA.out.mono ?_
    rintro e w1 ⟨rfl, rfl⟩
    go_wp2
    go_ret
    exact ⟨rfl, rfl⟩
  rw [in_true hi] at HA
  rcases Classical.em (0 ≤ p ∧ p < (n : Int)) with hp | hp
  case inr =>
    rw [in_false hp] at HB
    clear hi hp hno H HL hI hr
    unfold ptr at *
    go_enter Try.func21, Try.ntmps21
    go_wp2_with fail
    refine HA.out.mono ?_
    rintro e w1 ⟨rfl, hw1⟩
    obtain rfl := hw1
    go_wp2_with fail
    refine HB.out.mono ?_
    rintro e w1 ⟨rfl, rfl⟩
    go_wp2
    go_ret
    exact ⟨rfl, rfl⟩
  rw [in_true hp] at HB
  by_cases h0 : id = 0
  · subst h0
    clear hi hp hno H HL hI hr
    unfold ptr at *
    go_enter Try.func21, Try.ntmps21
    go_wp2_with fail
    refine HA.out.mono ?_
    rintro e w1 ⟨rfl, hw1⟩
    obtain rfl := hw1
    go_wp2_with fail
    refine HB.out.mono ?_
    rintro e w1 ⟨rfl, rfl⟩
    go_wp2
    go_ret
    exact ⟨rfl, rfl⟩
  obtain ⟨i, rfl⟩ : ∃ i : Nat, id = i := ⟨id.toNat, by omega⟩
  obtain ⟨q, rfl⟩ : ∃ q : Nat, p = q := ⟨p.toNat, by omega⟩
  have hsub : Sub S.n ch i q := Classical.byContradiction fun hs => hno ⟨by omega, by omega, h0, by simpa using hs⟩
  have HW := Lib.hid (rbelow_any (b := true) hI hr HL H hn hn9 hfew (id := q) (top := i) (by omega) (by simpa using hsub))
  have e0 : ((i : Int) == 0) = false := by simpa using h0
  have e0' : ¬ (i : Int) = 0 := h0
  clear hi hp h0 hno H HL hI hr hsub
  unfold ptr at *
  go_enter Try.func21, Try.ntmps21
  go_wp2_with fail
  refine HA.out.mono ?_
  rintro e w1 ⟨rfl, hw1⟩
  obtain rfl := hw1
  go_wp2_with fail
  refine HB.out.mono ?_
  rintro e w1 ⟨rfl, hw1⟩
  obtain rfl := hw1
  go_wp2_with fail
  refine HW.out.mono ?_
  rintro e w1 ⟨rfl, rfl⟩
  go_wp2
  go_ret
  exact ⟨rfl, rfl⟩
end
end Tr
end Go.Proofs.Ytlpfffioidbkeaa
