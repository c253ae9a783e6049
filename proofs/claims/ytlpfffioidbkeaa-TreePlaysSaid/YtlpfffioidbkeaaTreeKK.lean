/- Layer 6: Set; the reference's bare, New, Set. -/
import Derived.Test.YtlpfffioidbkeaaTreeJJ
namespace Go.Proofs.Ytlpfffioidbkeaa
open Go Go.RowKit
namespace Tr
set_option maxRecDepth 100000
set_option linter.unusedVariables false
set_option linter.unusedSimpArgs false

section
variable {w : World} {A g cap : Nat} {S : Ar}
theorem AR.st_o0 (h : AR w A g cap S) {i : Nat} (v : Int) (hi : i < S.n) : AR (w.setCell ⟨g, i * 12, none⟩ (.int .i64 v)) A g cap { S with o := upd S.o i { S.o i with kind := v } } :=
  h.store (j := 0) hi (by omega) rfl fun i' j' hj' => by
    match j' with
    | 0 | 1 | 2 | 3 | 4 | 5 | 6 | 7 | 8 | 9 | 10 | 11 => by_cases e : i' = i <;> simp [Ar.cell, upd, e]
    | j'' + 12 => omega
theorem AR.st_o1 (h : AR w A g cap S) {i : Nat} (v : ByteArray) (hi : i < S.n) : AR (w.setCell ⟨g, i * 12 + 1, none⟩ (.string v)) A g cap { S with o := upd S.o i { S.o i with s := v } } :=
  h.store (j := 1) hi (by omega) rfl fun i' j' hj' => by
    match j' with
    | 0 | 1 | 2 | 3 | 4 | 5 | 6 | 7 | 8 | 9 | 10 | 11 => by_cases e : i' = i <;> simp [Ar.cell, upd, e]
    | j'' + 12 => omega
theorem AR.st_o2 (h : AR w A g cap S) {i : Nat} (v : ByteArray) (hi : i < S.n) : AR (w.setCell ⟨g, i * 12 + 2, none⟩ (.string v)) A g cap { S with o := upd S.o i { S.o i with t := v } } :=
  h.store (j := 2) hi (by omega) rfl fun i' j' hj' => by
    match j' with
    | 0 | 1 | 2 | 3 | 4 | 5 | 6 | 7 | 8 | 9 | 10 | 11 => by_cases e : i' = i <;> simp [Ar.cell, upd, e]
    | j'' + 12 => omega
theorem AR.st_o3 (h : AR w A g cap S) {i : Nat} (v : Int) (hi : i < S.n) : AR (w.setCell ⟨g, i * 12 + 3, none⟩ (.int .i64 v)) A g cap { S with o := upd S.o i { S.o i with n := v } } :=
  h.store (j := 3) hi (by omega) rfl fun i' j' hj' => by
    match j' with
    | 0 | 1 | 2 | 3 | 4 | 5 | 6 | 7 | 8 | 9 | 10 | 11 => by_cases e : i' = i <;> simp [Ar.cell, upd, e]
    | j'' + 12 => omega
theorem AR.st_o4 (h : AR w A g cap S) {i : Nat} (v : Int) (hi : i < S.n) : AR (w.setCell ⟨g, i * 12 + 4, none⟩ (.int .i64 v)) A g cap { S with o := upd S.o i { S.o i with m := v } } :=
  h.store (j := 4) hi (by omega) rfl fun i' j' hj' => by
    match j' with
    | 0 | 1 | 2 | 3 | 4 | 5 | 6 | 7 | 8 | 9 | 10 | 11 => by_cases e : i' = i <;> simp [Ar.cell, upd, e]
    | j'' + 12 => omega
theorem AR.st_o5 (h : AR w A g cap S) {i : Nat} (v : Bool) (hi : i < S.n) : AR (w.setCell ⟨g, i * 12 + 5, none⟩ (.bool v)) A g cap { S with o := upd S.o i { S.o i with flag := v } } :=
  h.store (j := 5) hi (by omega) rfl fun i' j' hj' => by
    match j' with
    | 0 | 1 | 2 | 3 | 4 | 5 | 6 | 7 | 8 | 9 | 10 | 11 => by_cases e : i' = i <;> simp [Ar.cell, upd, e]
    | j'' + 12 => omega
theorem AR.st_o6 (h : AR w A g cap S) {i : Nat} (hi : i < S.n) : AR (w.setCell ⟨g, i * 12 + 6, none⟩ (.slice none 0 0)) A g cap S :=
  h.store (j := 6) hi (by omega) rfl fun i' j' hj' => by
    match j' with
    | 0 | 1 | 2 | 3 | 4 | 5 | 6 | 7 | 8 | 9 | 10 | 11 => by_cases e : i' = i <;> simp [Ar.cell, upd, e]
    | j'' + 12 => omega
theorem AR.as {S7 S' : Ar} (h : AR w A g cap S7) (e1 : S'.n = S7.n) (e2 : S'.o = S7.o) (e3 : S'.par = S7.par) (e4 : S'.first = S7.first) (e5 : S'.last = S7.last) (e6 : S'.behind = S7.behind) (e7 : S'.before = S7.before) : AR w A g cap S' := by
  cases S'; cases S7; cases e1; cases e2; cases e3; cases e4; cases e5; cases e6; cases e7; exact h
theorem AR.reset (h : AR w A g cap S) {i : Nat} (o : Own) (hi : i < S.n) :
    AR (((((((w.setCell ⟨g, i * 12, none⟩ (.int .i64 o.kind)).setCell ⟨g, i * 12 + 1, none⟩ (.string o.s)).setCell ⟨g, i * 12 + 2, none⟩ (.string o.t)).setCell ⟨g, i * 12 + 3, none⟩ (.int .i64 o.n)).setCell ⟨g, i * 12 + 4, none⟩ (.int .i64 o.m)).setCell ⟨g, i * 12 + 5, none⟩ (.bool o.flag)).setCell ⟨g, i * 12 + 6, none⟩ (.slice none 0 0)) A g cap { S with o := upd S.o i o } := by
  have q := ((((((h.st_o0 o.kind hi).st_o1 (i := i) o.s hi).st_o2 (i := i) o.t hi).st_o3 (i := i) o.n hi).st_o4 (i := i) o.m hi).st_o5 (i := i) o.flag hi).st_o6 (i := i) hi
  exact AR.as q rfl (by funext k; by_cases e : k = i <;> simp [upd, e]) rfl rfl rfl rfl rfl
set_option maxHeartbeats 4000000 in
theorem set_in (h : AR w A g cap S) {i : Nat} (hi : i < S.n) (o : Own) (a : Option Addr) (len cp : Nat) (h1 : o.s.size ≤ 281474976710656) (h2 : o.t.size ≤ 281474976710656) :
    Calls Try.prog 15 #[ptr A, .int .i64 i, nodeV o (.slice a len cp)] w fun e w' => e = .returned (.bool true) ∧ AR w' A g cap { S with o := upd S.o i o } ∧ Only (two A g) w w' := by
  have HS := Lib.hid (fun W => bare_any o a len cp W h1 h2)
  have hb0 : Below w.heap.size w (w.alloc (.cells (nodeC o (.slice a len cp)) 24)) := (Below.refl _ w).alloc (Nat.le_refl _) _
  have HL := Lib.hid (has_any (h.below hb0) i)
  rw [in_true ⟨by omega, by omega⟩] at HL
  have HA0 : Hid (AR (w.alloc (.cells (nodeC o (.slice a len cp)) 24)).drew A g cap S) := Lib.hid (h.below hb0.drew)
  have HB0 := Lib.hid hb0.drew
  have cA := h.cellA
  have hlt := h.ltA
  have HI := Lib.hid hi
  have b1 : (i : Int) < (S.n : Int) := by omega
  clear h hb0 hi
  unfold ptr nodeC at HL
  unfold nodeC at HA0 HB0
  unfold nodeV at HS
  unfold ptr nodeV
  go_enter Try.func15, Try.ntmps15
  go_wp2_with fail
  refine HL.out.mono ?_
  rintro e w1 ⟨rfl, rfl⟩
  go_upto_region 3 with fail
  go_region_law (go_simp; go_at_call 46; refine (HS.out _).mono ?_; rintro e w2 ⟨rfl, hb2⟩; have q2 := HA0.out.below hb2; have cA2 := q2.cellA; have f2 := q2.frg; have d0 : w2.cell? ⟨g, i * 12, none⟩ = _ := q2.cellg (j := 0) HI.out (by omega); have d1 := q2.cellg (j := 1) HI.out (by omega); have d2 := q2.cellg (j := 2) HI.out (by omega); have d3 := q2.cellg (j := 3) HI.out (by omega); have d4 := q2.cellg (j := 4) HI.out (by omega); have d5 := q2.cellg (j := 5) HI.out (by omega); have d6 := q2.cellg (j := 6) HI.out (by omega); have hbw2 := below_later HB0.out hb2)
  all_goals
    have q7 := Lib.hid (q2.reset o HI.out)
    have hb2' := Lib.hid hbw2
    clear q2 hbw2
    go_wp2
    go_ret
    exact ⟨rfl, q7.out, (((((((Only.of_below hb2'.out).setCell (.inr rfl) _).setCell (.inr rfl) _).setCell (.inr rfl) _).setCell (.inr rfl) _).setCell (.inr rfl) _).setCell (.inr rfl) _).setCell (.inr rfl) _⟩
end
end Tr
end Go.Proofs.Ytlpfffioidbkeaa
