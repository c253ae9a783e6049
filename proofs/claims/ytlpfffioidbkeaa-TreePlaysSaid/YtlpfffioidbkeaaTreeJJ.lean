/- Layer 6: how links and the arena go together; the reference's below. -/
import Derived.Test.YtlpfffioidbkeaaTreeII
namespace Go.Proofs.Ytlpfffioidbkeaa
open Go Go.RowKit
namespace Tr
set_option maxRecDepth 100000
set_option linter.unusedVariables false
set_option linter.unusedSimpArgs false

/-- The links tell what the arena holds. -/
structure Lk (S : Ar) (ch : Nat → List Nat) (K : List (Nat × Nat)) : Prop where
  kids : ∀ p, p < S.n → under K p = ch p
  lt : ∀ q ∈ K, q.1 < S.n
theorem mem_under {K : List (Nat × Nat)} {p c : Nat} : c ∈ under K p ↔ (p, c) ∈ K := by
  unfold under
  rw [List.mem_map]
  constructor
  · rintro ⟨⟨a, b⟩, h1, rfl⟩
    rw [List.mem_filter] at h1
    obtain ⟨h1, h2⟩ := h1
    have : a = p := by have : (a : Int) = p := by simpa using h2
                       omega
    subst this; exact h1
  · intro h
    exact ⟨(p, c), List.mem_filter.2 ⟨h, by simp⟩, rfl⟩
section
variable {S : Ar} {ch : Nat → List Nat} {K : List (Nat × Nat)}
theorem Lk.above (hI : Inv S ch) (HL : Lk S ch K) {c : Nat} (hc : c < S.n) : above K c = S.par c := by
  unfold Tr.above
  cases hf : K.find? (fun p => (p.2 : Int) == (c : Int)) with
  | none =>
    have hno : ∀ p, p < S.n → c ∉ ch p := fun p hp hm => by
      rw [← HL.kids p hp, mem_under] at hm
      have := List.find?_eq_none.1 hf _ hm
      simp at this
    exact (hI.alone c hc hno).1.symm
  | some q =>
    have h1 := List.find?_some hf
    have h2 := List.mem_of_find?_eq_some hf
    have e : q.2 = c := by have : (q.2 : Int) = c := by simpa using h1
                           omega
    have h3 := HL.lt q h2
    have : c ∈ ch q.1 := by rw [← HL.kids _ h3, mem_under, ← e]; exact h2
    exact (hI.par q.1 h3 c this).symm
/-- Who is no node has no parent. -/
theorem Lk.above_out (hI : Inv S ch) (HL : Lk S ch K) {c : Int} (hc : ¬ (0 ≤ c ∧ c < (S.n : Int))) : Tr.above K c = -1 := by
  unfold Tr.above
  cases hf : K.find? (fun p => (p.2 : Int) == c) with
  | none => rfl
  | some q =>
    have h1 := List.find?_some hf
    have h2 := List.mem_of_find?_eq_some hf
    have e : (q.2 : Int) = c := by simpa using h1
    have h3 := HL.lt q h2
    have : q.2 ∈ ch q.1 := by rw [← HL.kids _ h3, mem_under]; exact h2
    have := hI.lt _ h3 _ this
    omega
theorem Lk.under_out (HL : Lk S ch K) {c : Int} (hc : ¬ (0 ≤ c ∧ c < (S.n : Int))) : under K c = [] := by
  unfold under
  rw [List.map_eq_nil_iff, List.filter_eq_nil_iff]
  intro q hq h
  have := HL.lt q hq
  have : (q.1 : Int) = c := by simpa using h
  omega
/-- A way up: nodes below one. -/
structure Way (n : Nat) (ht : Nat → Nat) (V : List Nat) (c : Nat) : Prop where
  nodup : V.Nodup
  all : ∀ x ∈ V, x < n ∧ ht x < ht c
theorem Way.len {n : Nat} {ht : Nat → Nat} {V : List Nat} {c : Nat} (h : Way n ht V c) (hc : c < n) : V.length + 1 ≤ n := by
  have := sub_len (l := c :: V) (m := List.range n) (List.nodup_cons.2 ⟨fun hm => by have := (h.all c hm).2; omega, h.nodup⟩) (fun x hx => by
    rw [List.mem_range]
    rcases List.mem_cons.1 hx with e | e
    · omega
    · exact (h.all x e).1)
  simpa using this
theorem Way.step {n : Nat} {ht : Nat → Nat} {V : List Nat} {c q : Nat} (h : Way n ht V c) (hc : c < n) (hq : ht c < ht q) : Way n ht (c :: V) q :=
  ⟨List.nodup_cons.2 ⟨fun hm => by have := (h.all c hm).2; omega, h.nodup⟩, fun x hx => by
    rcases List.mem_cons.1 hx with e | e
    · subst e; exact ⟨hc, hq⟩
    · have := h.all x e; exact ⟨this.1, by omega⟩⟩
end
section
variable {S : Ar} {ch : Nat → List Nat} {w : World} {R h cap n : Nat} {o : Nat → Own} {kv : Value} {K : List (Nat × Nat)}
set_option maxHeartbeats 4000000 in
theorem rbelow_any (hI : Inv S ch) {ht : Nat → Nat} (hr : ∀ p, p < S.n → ∀ c ∈ ch p, ht c < ht p) (HL : Lk S ch K) (H : RR w R h cap n o kv K) (hn : n = S.n) (hn9 : n ≤ 1000000000) (hfew : K.length ≤ 1000000000)
    {id top : Nat} (hid : id < S.n) {b : Bool} (hb : b = true ↔ Sub S.n ch top id) :
    Calls Try.prog 48 #[ptr R, .int .i64 id, .int .i64 top] w fun e w' => e = .returned (.bool b) ∧ w = w' := by
  have HPa := Lib.hid (fun id => rparent_any H hfew id)
  have c0 := H.cell0
  have HAb : Hid (∀ c, c < n → above K c = S.par c) := Lib.hid (fun c hc => HL.above hI (by omega))
  have HSt : Hid (∀ c, c < n → (S.par c = -1 ∧ (c ≠ top → ¬ Sub S.n ch top c)) ∨ ∃ q : Nat, q < n ∧ S.par c = (q : Int) ∧ ht c < ht q ∧ (c ≠ top → (Sub S.n ch top q ↔ Sub S.n ch top c))) := Lib.hid (fun c hc => by
    rcases Classical.em (S.par c = -1) with hp | hp
    · refine .inl ⟨hp, fun hne hs => ?_⟩
      cases hs with
      | refl => exact hne rfl
      | step hq hcq _ => have := hI.par _ hq _ hcq; omega
    · obtain ⟨q, j, hq, hpq, hj⟩ := hI.parent (by omega) hp
      have hm := List.mem_of_getElem? hj
      exact .inr ⟨q, by omega, hpq, hr q hq c hm, fun hne => ⟨fun hs => Sub.step hq hm hs, fun hs => Sub.back hI hq hm hne hs⟩⟩)
  have HB := Lib.hid hb
  rw [← hn] at hid
  have HN := Lib.hid hn
  clear H hb hfew hr HL hI hn
  unfold ptr at *
  go_enter Try.func48, Try.ntmps48
  go_wp2
  go_loopg [1, 7] n (fun G s1 s7 wr => ∃ i : Nat, i + G = n ∧ s7 = .int .i64 i ∧ ((s1 = .int .i64 (-1) ∧ Hid (b = false)) ∨ ∃ (c : Nat) (V : List Nat), s1 = .int .i64 c ∧ c < n ∧ V.length = i ∧ Way n ht V c ∧ Hid (b = true ↔ Sub S.n ch top c)) ∧ w = wr)
  case atStart => exact ⟨0, by omega, rfl, .inr ⟨id, [], rfl, hid, rfl, ⟨List.nodup_nil, fun x hx => by simp at hx⟩, HB⟩, rfl⟩
  case round =>
    obtain ⟨i, hig, rfl, hcs, rfl⟩ := hrel
    have hle : (i : Int) ≤ (n : Int) := by omega
    rcases hcs with ⟨rfl, hbf⟩ | ⟨c, V, rfl, hc, hV, hW, hbc⟩
    · go_wp2
      go_ret
      exact ⟨ret_bool hbf.out.symm, rfl⟩
    · have hlen := hW.len hc
      have g0 : decide ((c : Int) ≥ 0) = true := by simp
      have g1 : (c : Int) ≥ 0 := by omega
      by_cases hct : c = top
      · have e1 : ((c : Int) == (top : Int)) = true := by simp [hct]
        have hbt : Hid (true = b) := Lib.hid ((hbc.out.2 (by rw [hct]; exact .refl)).symm)
        clear hct
        go_wp2
        go_ret
        exact ⟨ret_bool hbt.out, rfl⟩
      · have e1 : ((c : Int) == (top : Int)) = false := by simp; omega
        cases gk with
        | zero => omega
        | succ G =>
          have HC := Lib.hid (HPa.out (c : Int))
          rw [HAb.out c hc] at HC
          rcases HSt.out c hc with ⟨hp, hno⟩ | ⟨q, hq, hp, hlt, hiff⟩
          · have hbf : Hid (b = false) := Lib.hid (by
              rw [Bool.eq_false_iff]; exact fun e => hno hct (hbc.out.1 e))
            rw [hp] at HC
            clear hct hp hno hW
            go_wp2_with fail
            refine HC.out.mono ?_
            rintro e w1 ⟨rfl, hw1⟩
            obtain rfl := hw1
            go_wp2
            go_roundg G
            case rel => exact ⟨i + 1, by omega, by go_num, .inl ⟨rfl, hbf⟩, rfl⟩
            case measure => omega
          · have hbq : Hid (b = true ↔ Sub S.n ch top q) := Lib.hid (hbc.out.trans (hiff hct).symm)
            have HW := Lib.hid (hW.step hc hlt)
            rw [hp] at HC
            clear hct hp hiff hW
            go_wp2_with fail
            refine HC.out.mono ?_
            rintro e w1 ⟨rfl, hw1⟩
            obtain rfl := hw1
            go_wp2
            go_roundg G
            case rel => exact ⟨i + 1, by omega, by go_num, .inr ⟨q, c :: V, rfl, hq, by simp [hV], HW.out, hbq⟩, rfl⟩
            case measure => omega
end
end Tr
end Go.Proofs.Ytlpfffioidbkeaa
