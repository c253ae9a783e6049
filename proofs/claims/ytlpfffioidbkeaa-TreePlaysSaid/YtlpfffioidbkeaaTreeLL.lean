/- Layer 6: the reference's bare, New, Set. -/
import Derived.Test.YtlpfffioidbkeaaTreeKK
namespace Go.Proofs.Ytlpfffioidbkeaa
open Go Go.RowKit
namespace Tr
set_option maxRecDepth 100000
set_option linter.unusedVariables false
set_option linter.unusedSimpArgs false

set_option maxHeartbeats 4000000 in
theorem rbare_any (o : Own) (a : Option Addr) (len cap : Nat) (w : World) :
    Calls Try.prog 43 #[nodeV o (.slice a len cap)] w fun e w' => e = .returned (nodeV o (.slice none 0 0)) ∧ Below w.heap.size w w' := by
  obtain ⟨W, hW⟩ : ∃ W, W = (w.alloc (.cells #[.int .i64 o.kind, .string o.s, .string o.t, .int .i64 o.n, .int .i64 o.m, .bool o.flag, .slice a len cap] 24)).alloc (.cells #[.int .i64 0, .string ⟨#[]⟩, .string ⟨#[]⟩, .int .i64 0, .int .i64 0, .bool false, .slice none 0 0] 24) := ⟨_, rfl⟩
  have HB1 : Blk W w.heap.size (nodeC o (.slice a len cap)) 24 := by rw [hW]; exact (Blk.new _ _ _).alloc _
  have HB2 : Blk W (w.heap.size + 1) (nodeC nilO (.slice none 0 0)) 24 := by
    rw [hW]
    have := Blk.new (w.alloc (.cells (nodeC o (.slice a len cap)) 24)) (nodeC nilO (.slice none 0 0)) 24
    rwa [World.size_alloc] at this
  have hbw : Below w.heap.size w W := by rw [hW]; exact ((Below.refl _ w).alloc (Nat.le_refl _) _).alloc (by simp) _
  have HW := Lib.hid hbw
  unfold nodeV
  go_enter Try.func43, Try.ntmps43
  go_upto_region 1 with fail
  rw [← hW]
  clear hW hbw
  have c0 : W.cell? ⟨w.heap.size, 0, none⟩ = _ := HB1.node.c0
  have c1 : W.cell? ⟨w.heap.size, 1, none⟩ = _ := HB1.node.c1
  have c2 : W.cell? ⟨w.heap.size, 2, none⟩ = _ := HB1.node.c2
  have c3 : W.cell? ⟨w.heap.size, 3, none⟩ = _ := HB1.node.c3
  have c4 : W.cell? ⟨w.heap.size, 4, none⟩ = _ := HB1.node.c4
  have c5 : W.cell? ⟨w.heap.size, 5, none⟩ = _ := HB1.node.c5
  have c6 : W.cell? ⟨w.heap.size, 6, none⟩ = _ := HB1.node.c6
  have d0 : W.cell? ⟨w.heap.size + 1, 0, none⟩ = _ := HB2.node.c0
  have d1 : W.cell? ⟨w.heap.size + 1, 1, none⟩ = _ := HB2.node.c1
  have d2 : W.cell? ⟨w.heap.size + 1, 2, none⟩ = _ := HB2.node.c2
  have d3 : W.cell? ⟨w.heap.size + 1, 3, none⟩ = _ := HB2.node.c3
  have d4 : W.cell? ⟨w.heap.size + 1, 4, none⟩ = _ := HB2.node.c4
  have d5 : W.cell? ⟨w.heap.size + 1, 5, none⟩ = _ := HB2.node.c5
  have d6 : W.cell? ⟨w.heap.size + 1, 6, none⟩ = _ := HB2.node.c6
  have f1 := fun k => HB1.fr k
  have f2 := fun k => HB2.fr k
  have HK2 := Lib.hid HB2
  clear HB1 HB2
  go_wp2
  have R := (HK2.out.other (p := ⟨w.heap.size, 6, none⟩) (.slice none 0 0) (by simp)).renode o (.slice none 0 0)
  refine bodyPost_ret (v := nodeV o (.slice none 0 0)) (results_cell_row rfl _ _ (w.heap.size + 1) _ (nodeC o (.slice none 0 0)) (0, 0) _ rfl R Try.underlying24 rfl infoNode) rfl ⟨rfl, ?_⟩
  iterate 8 (refine Below.setCell ?_ (by first | exact Nat.le_refl _ | exact Nat.le_succ _) _)
  exact HW.out

set_option maxHeartbeats 2000000 in
theorem rnew_any (o : Own) (a : Option Addr) (len cap : Nat) (w : World) :
    Calls Try.prog 12 #[nodeV o (.slice a len cap)] w fun e w' => ∃ R h, e = .returned (ptr R) ∧ RR w' R h 1 1 (fun _ => o) (.slice none 0 0) [] ∧ w.heap.size ≤ R ∧ w.heap.size ≤ h ∧ Below w.heap.size w w' := by
  have HS := Lib.hid (fun W => rbare_any o a len cap W)
  unfold nodeV at HS
  unfold nodeV
  go_enter Try.func12, Try.ntmps12
  go_wp2_with fail
  refine (HS.out _).mono ?_
  rintro e w2 ⟨rfl, hb2⟩
  have hbw2 : Below w.heap.size w w2 := below_later ((Below.refl _ w).alloc (Nat.le_refl _) _) hb2
  have hs2 := hbw2.size
  go_wp2
  go_ret
  refine ⟨w2.heap.size + 1, w2.heap.size, rfl, ⟨by omega, ?_, by omega, by decide, ⟨nodeC o (.slice none 0 0), ?_, rfl, ?_⟩, World.ownsRow_nil _ _ _ _, fun k hk => by simp [Value.ownBlock] at hk⟩, by omega, by omega, (hbw2.alloc hs2 _).alloc (by simp; omega) _⟩
  · have := Blk.new (w2.alloc (.cells (nodeC o (.slice none 0 0)) 24)) #[.slice (some ⟨w2.heap.size, 0, none⟩) 1 1, .slice none 0 0] 39
    rwa [World.size_alloc] at this
  · exact (Blk.new w2 (nodeC o (.slice none 0 0)) 24).alloc _
  · intro i hi j hj
    have : i = 0 := by omega
    subst this
    rw [Nat.zero_mul, Nat.zero_add]
section
variable {w : World} {R h cap n : Nat} {o : Nat → Own} {kv : Value} {K : List (Nat × Nat)}
theorem RR.reset (H : RR w R h cap n o kv K) {i : Nat} (q : Own) (hi : i < n) :
    RR (((((((w.setCell ⟨h, i * 7, none⟩ (.int .i64 q.kind)).setCell ⟨h, i * 7 + 1, none⟩ (.string q.s)).setCell ⟨h, i * 7 + 2, none⟩ (.string q.t)).setCell ⟨h, i * 7 + 3, none⟩ (.int .i64 q.n)).setCell ⟨h, i * 7 + 4, none⟩ (.int .i64 q.m)).setCell ⟨h, i * 7 + 5, none⟩ (.bool q.flag)).setCell ⟨h, i * 7 + 6, none⟩ (.slice none 0 0)) R h cap n (upd o i q) kv K := by
  obtain ⟨cur, hc, hs, hx⟩ := H.hh
  have hle := H.hle
  have hb : i * 7 + 7 ≤ cur.size := by
    have : (i + 1) * 7 ≤ cap * 7 := Nat.mul_le_mul_right 7 (by omega)
    omega
  refine ⟨H.ne, ?_, H.hle, H.hcap, ⟨_, heap_setCell_same _ h _ _ _ _ (heap_setCell_same _ h _ _ _ _ (heap_setCell_same _ h _ _ _ _ (heap_setCell_same _ h _ _ _ _ (heap_setCell_same _ h _ _ _ _ (heap_setCell_same _ h _ _ _ _ (heap_setCell_same w h _ cur _ _ hc)))))), by simpa using hs, ?_⟩, ?_, H.neK⟩
  · iterate 7 rw [heap_setCell_other _ _ _ _ H.ne]
    exact H.hR
  · intro i' hi' j hj
    by_cases e : i' = i
    · subst e
      rw [upd_same]
      match j with
      | 0 | 1 | 2 | 3 | 4 | 5 | 6 => simp [Array.getElem?_setIfInBounds, nodeC]; omega
      | j + 7 => omega
    · rw [upd_other _ _ e, ← hx i' hi' j hj]
      simp only [Array.getElem?_setIfInBounds]
      iterate 7 rw [if_neg (by omega)]
  · iterate 7 refine owns_other ?_ _ (fun k hk => (H.neK k hk).2)
    exact H.hk
theorem rset_out (H : RR w R h cap n o kv K) {id : Int} (hi : ¬ (0 ≤ id ∧ id < (n : Int))) (q : Own) (a : Option Addr) (len cp : Nat) :
    Calls Try.prog 16 #[ptr R, .int .i64 id, nodeV q (.slice a len cp)] w fun e w' => e = .returned (.bool false) ∧ Below w.heap.size w w' := by
  have hb0 : Below w.heap.size w (w.alloc (.cells (nodeC q (.slice a len cp)) 24)) := (Below.refl _ w).alloc (Nat.le_refl _) _
  have HL := Lib.hid (rhas_any (H.below hb0) id)
  rw [in_false hi] at HL
  unfold ptr nodeC at HL
  clear hi hb0
  unfold ptr nodeV
  go_enter Try.func16, Try.ntmps16
  go_wp2_with fail
  refine HL.out.mono ?_
  rintro e w1 ⟨rfl, rfl⟩
  go_wp2
  go_ret
  exact ⟨rfl, (Below.refl _ w).alloc (Nat.le_refl _) _⟩
set_option maxHeartbeats 4000000 in
theorem rset_in (H : RR w R h cap n o kv K) {i : Nat} (hi : i < n) (q : Own) (a : Option Addr) (len cp : Nat) :
    Calls Try.prog 16 #[ptr R, .int .i64 i, nodeV q (.slice a len cp)] w fun e w' => e = .returned (.bool true) ∧ RR w' R h cap n (upd o i q) kv K ∧ Only (three R h kv) w w' := by
  have HS := Lib.hid (fun W => rbare_any q a len cp W)
  have hb0 : Below w.heap.size w (w.alloc (.cells (nodeC q (.slice a len cp)) 24)) := (Below.refl _ w).alloc (Nat.le_refl _) _
  have HL := Lib.hid (rhas_any (H.below hb0) i)
  rw [in_true ⟨by omega, by omega⟩] at HL
  have HA0 : Hid (RR (w.alloc (.cells (nodeC q (.slice a len cp)) 24)).drew R h cap n o kv K) := Lib.hid (H.below hb0.drew)
  have HB0 := Lib.hid hb0.drew
  have cA := H.cell0
  have hlt := H.ltR
  have HI := Lib.hid hi
  have b1 : (i : Int) < (n : Int) := by omega
  clear H hb0 hi
  unfold ptr nodeC at HL
  unfold nodeC at HA0 HB0
  unfold nodeV at HS
  unfold ptr nodeV
  go_enter Try.func16, Try.ntmps16
  go_wp2_with fail
  refine HL.out.mono ?_
  rintro e w1 ⟨rfl, rfl⟩
  go_upto_region 3 with fail
  go_region_law (go_simp; go_at_call 43; refine (HS.out _).mono ?_; rintro e w2 ⟨rfl, hb2⟩; have q2 := HA0.out.below hb2; have cA2 := q2.cell0; have f2 := q2.frh; have dd := q2.node HI.out; have d0 := dd.c0; have d1 := dd.c1; have d2 := dd.c2; have d3 := dd.c3; have d4 := dd.c4; have d5 := dd.c5; have d6 := dd.c6; have hbw2 := below_later HB0.out hb2)
  all_goals
    have q7 := Lib.hid (q2.reset q HI.out)
    have hb2' := Lib.hid hbw2
    clear q2 hbw2
    go_wp2
    go_ret
    exact ⟨rfl, q7.out, (((((((Only.of_below hb2'.out).setCell (.inr (.inl rfl)) _).setCell (.inr (.inl rfl)) _).setCell (.inr (.inl rfl)) _).setCell (.inr (.inl rfl)) _).setCell (.inr (.inl rfl)) _).setCell (.inr (.inl rfl)) _).setCell (.inr (.inl rfl)) _⟩
end
end Tr
end Go.Proofs.Ytlpfffioidbkeaa
