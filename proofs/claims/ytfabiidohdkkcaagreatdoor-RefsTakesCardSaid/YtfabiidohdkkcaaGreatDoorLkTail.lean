/- Plain mathematics of layer 9, the second part: tails (what stands behind; written as they are). -/
import Derived.Test.YtfabiidohdkkcaaGreatDoorLkPure
set_option linter.unusedVariables false
set_option linter.unusedSimpArgs false
set_option maxRecDepth 100000
namespace Go.Proofs.YtfabiidohdkkcaaGreatDoor
namespace Lk
open Es

theorem whN_take (m : List UInt8) : ∀ (l : List UInt8) (j : Nat), whN l < j → whN l < l.length → whN (l.take j ++ m) = whN l
  | [], j, _, h => by simp at h
  | c :: t, j, hj, h => by
    obtain ⟨i, rfl⟩ : ∃ i, j = i + 1 := ⟨j - 1, by omega⟩
    rw [List.take_succ_cons, List.cons_append]
    cases hc : whB c with
    | true =>
      rw [whN_hit _ hc] at hj h ⊢
      rw [whN_hit _ hc, whN_take m t i (by omega) (by simp only [List.length_cons] at h; omega)]
    | false => rw [whN_miss _ hc, whN_miss _ hc]
theorem whN_stop (l : List UInt8) : ∀ c ∈ (l.drop (whN l)).head?, whB c = false := by
  induction l with
  | nil => intro c hc; simp at hc
  | cons d t ih =>
    cases hd : whB d with
    | true => rw [whN_hit _ hd, List.drop_succ_cons]; exact ih
    | false =>
      rw [whN_miss _ hd]
      intro c hc
      simp only [List.drop_zero, List.head?_cons, Option.mem_def, Option.some.injEq] at hc
      rw [← hc]; exact hd
theorem dst_take (m : List UInt8) : ∀ (l : List UInt8) (o : Nat) (f : Bool) (n j : Nat), dst o f l = some n → n < j → n < l.length → dst o f (l.take j ++ m) = some n
  | [], o, f, n, j, h, _, hl => by simp at hl
  | c :: t, o, f, n, j, h, hj, hl => by
    obtain ⟨i, rfl⟩ : ∃ i, j = i + 1 := ⟨j - 1, by omega⟩
    have step : ∀ o', (dst o' (nf f c t) t).map (· + 1) = some n → (dst o' (nf f c (t.take i ++ m)) (t.take i ++ m)).map (· + 1) = some n := by
      intro o' hm
      obtain ⟨k, hk, rfl⟩ := Option.map_eq_some_iff.1 hm
      simp only [List.length_cons] at hl
      obtain ⟨i', rfl⟩ : ∃ i', i = i' + 1 := ⟨i - 1, by omega⟩
      have e : nf f c (t.take (i' + 1) ++ m) = nf f c t := by
        unfold nf
        rw [hs_app (by intro e; have := congrArg List.length e; rw [List.length_take, List.length_nil] at this; omega), hs_take]
      rw [e, dst_take m t o' _ k (i' + 1) hk (by omega) (by omega)]
      rfl
    rw [List.take_succ_cons, List.cons_append]
    rw [dst_cons] at h ⊢
    split at h
    · rename_i h0
      rw [if_pos h0]; exact h
    · rename_i h0
      rw [if_neg h0]
      split at h
      · rename_i h1
        rw [if_pos h1]
        split at h
        · cases h
        · rename_i h2
          rw [if_neg h2]; exact step _ h
      · rename_i h1
        rw [if_neg h1]
        split at h
        · rename_i h2
          rw [if_pos h2]
          split at h
          · rename_i h3
            rw [if_pos h3]; exact h
          · rename_i h3
            rw [if_neg h3]; exact step _ h
        · rename_i h2
          rw [if_neg h2]; exact step _ h
/-- An address, with what stands right behind it. -/
theorem dest_take {l x : List UInt8} {k : Nat} {b : Bool} (m : List UInt8) {j : Nat} (h : destP l = (x, k, b)) (hk : 0 < k) (hj : k < j) (hl : k < l.length) : destP (l.take j ++ m) = (x, k, b) := by
  cases l with
  | nil => simp at hl
  | cons c t =>
    obtain ⟨i, rfl⟩ : ∃ i, j = i + 1 := ⟨j - 1, by omega⟩
    rw [List.take_succ_cons, List.cons_append]
    unfold destP at h ⊢
    simp only at h ⊢
    split at h
    · rename_i hc
      rw [if_pos hc]
      split at h
      · cases h; omega
      · rename_i p hp
        cases h
        have hlt : p < t.length := find_lt t false p hp
        have e1 : angF false (t.take i ++ m) = some p := by
          have := find_take (H := (· == 10)) (B := (· == 60)) (S := (· == 62)) ((t.drop (p + 1)).take (i - (p + 1)) ++ m) t false p hp
          rw [← List.append_assoc, show t.take (p + 1) ++ (t.drop (p + 1)).take (i - (p + 1)) = t.take i by
            rw [← List.take_add]; congr 1; omega] at this
          exact this
        have e3 : (t.take i ++ m).take p = t.take p := by
          rw [List.take_append_of_le_length (by rw [List.length_take]; omega), List.take_take]
          congr 1
          omega
        rw [e1]
        simp only [e3]
    · rename_i hc
      rw [if_neg hc]
      split at h
      · cases h; omega
      · rename_i p hp
        split at h
        · cases h; omega
        · rename_i h0
          cases h
          have e1 := dst_take m (c :: t) 0 false k (i + 1) hp (by omega) hl
          rw [List.take_succ_cons, List.cons_append] at e1
          rw [e1]
          simp only [if_neg h0]
          rw [show c :: (t.take i ++ m) = (c :: t).take (i + 1) ++ m from rfl, List.take_append_of_le_length (by rw [List.length_take]; omega), List.take_take, show min k (i + 1) = k by omega]
theorem tit_more {l x : List UInt8} {p : Nat} (m : List UInt8) {j : Nat} (h : titP l = (x, p)) (h0 : 0 < p) (hj : p ≤ j) : titP (l.take j ++ m) = (x, p) := by
  have := (tit_take ((l.drop p).take (j - p) ++ m) h h0).1
  rw [← List.append_assoc, show l.take p ++ (l.drop p).take (j - p) = l.take j by rw [← List.take_add]; congr 1; omega] at this
  exact this
theorem dest_close (t : List UInt8) : destP (41 :: t) = ([], 0, false) := by
  unfold destP
  simp only
  rw [if_neg (by decide), dst_cons]
  rfl
theorem tit_close (t : List UInt8) : titP (41 :: t) = ([], 0) := tit_none t (by decide) (by decide) (by decide)
theorem head_cons {l : List UInt8} {c : UInt8} (h : l.head? = some c) : ∃ t, l = c :: t := by
  cases l with
  | nil => cases h
  | cons d t => cases h; exact ⟨t, rfl⟩

/-- A tail with an address or none: where it ends, nothing behind it counts. -/
theorem tail_take {l d x : List UInt8} {n : Nat} (m : List UInt8) (h : tailP l = (d, x, n)) (h0 : 0 < n) : tailP (l.take n ++ m) = (d, x, n) ∧ 2 ≤ n ∧ n ≤ l.length ∧ (∃ t, l = 40 :: t) ∧ (l.drop (n - 1)).head? = some 41 := by
  cases l with
  | nil => cases h; omega
  | cons c t =>
    unfold tailP at h
    simp only at h
    split at h
    · rename_i hc
      subst hc
      generalize ha : whN t = a at h
      obtain ⟨D, k, b, hd⟩ : ∃ D k b, destP (t.drop a) = (D, k, b) := ⟨_, _, _, rfl⟩
      rw [hd] at h
      simp only at h
      obtain ⟨X, at2, hb⟩ : ∃ X at2, behind t k (a + k) = (X, at2) := ⟨_, _, rfl⟩
      rw [hb] at h
      simp only at h
      generalize he : at2 + whN (t.drop at2) = e at h
      split at h
      · rename_i h41
        cases h
        obtain ⟨r, hr⟩ := head_cons h41
        have hel : e < t.length := by
          have := congrArg List.length hr
          rw [List.length_drop, List.length_cons] at this; omega
        -- the text that is left
        have dr : ∀ y, y ≤ e → (t.take (e + 1) ++ m).drop y = (t.drop y).take (e + 1 - y) ++ m := fun y hy => by
          rw [List.drop_append_of_le_length (by rw [List.length_take]; omega), List.drop_take]
        have wh : ∀ y, y + whN (t.drop y) ≤ e → whN ((t.take (e + 1) ++ m).drop y) = whN (t.drop y) := fun y hy => by
          rw [dr y (by omega)]
          exact whN_take m _ _ (by omega) (by rw [List.length_drop]; omega)
        -- where the address ends, and the blanks behind it
        have hat : a + k ≤ at2 ∧ (at2 = a + k ∨ (0 < k ∧ 0 < whN (t.drop (a + k)) ∧ 0 < (titP (t.drop (a + k + whN (t.drop (a + k))))).2 ∧ x = (titP (t.drop (a + k + whN (t.drop (a + k))))).1 ∧ at2 = a + k + whN (t.drop (a + k)) + (titP (t.drop (a + k + whN (t.drop (a + k))))).2)) := by
          unfold behind at hb
          simp only at hb
          split at hb
          · rename_i hh
            cases hb
            exact ⟨by omega, .inr ⟨hh.1, hh.2.1, hh.2.2, rfl, rfl⟩⟩
          · cases hb
            exact ⟨Nat.le_refl _, .inl rfl⟩
        have hae : a + k ≤ e := by omega
        have w1 : whN (t.take (e + 1) ++ m) = a := by
          have := wh 0 (by rw [List.drop_zero, ha]; omega)
          rw [List.drop_zero, List.drop_zero, ha] at this
          exact this
        have d1 : destP ((t.take (e + 1) ++ m).drop a) = (d, k, b) := by
          rw [dr a (by omega)]
          rcases Nat.eq_zero_or_pos k with hk | hk
          · -- nothing there: the closing sign at once
            subst hk
            have e0 : e = a := by
              have hw : whN (t.drop a) = 0 := by
                have hst := whN_stop t
                rw [ha] at hst
                cases hx : t.drop a with
                | nil => rfl
                | cons y u => rw [hx] at hst; exact whN_miss u (hst y rfl)
              rcases hat.2 with h2 | h2
              · rw [h2, Nat.add_zero, hw] at he; omega
              · omega
            rw [e0] at hr
            rw [hr, show e + 1 - a = 1 by omega]
            rw [hr, dest_close] at hd
            rw [show (41 :: r).take 1 ++ m = 41 :: m from rfl, dest_close]; exact hd
          · exact dest_take m hd hk (by omega) (by rw [List.length_drop]; omega)
        have b1 : behind (t.take (e + 1) ++ m) k (a + k) = (x, at2) := by
          rw [← hb]
          have hg : a + k + whN (t.drop (a + k)) ≤ e := by
            rcases hat.2 with h2 | h2
            · rw [h2] at he; omega
            · omega
          unfold behind
          simp only
          rw [wh _ hg, dr _ hg]
          rcases hat.2 with h2 | ⟨g1, g2, g3, g4, g5⟩
          · -- no title
            rw [h2] at he
            rw [he, hr, show e + 1 - e = 1 by omega, show (41 :: r).take 1 ++ m = 41 :: m from rfl, tit_close, tit_close]
          · obtain ⟨Y, p, hY⟩ : ∃ Y p, titP (t.drop (a + k + whN (t.drop (a + k)))) = (Y, p) := ⟨_, _, rfl⟩
            rw [hY] at g3 g4 g5 ⊢
            simp only at g3 g4 g5
            rw [tit_more m hY g3 (by omega)]
        refine ⟨?_, by omega, by simp only [List.length_cons]; omega, ⟨t, rfl⟩, ?_⟩
        · rw [show e + 2 = (e + 1) + 1 from rfl, List.take_succ_cons, List.cons_append]
          unfold tailP
          simp only [if_true, w1, d1, b1]
          rw [wh _ (by omega), he, dr e (Nat.le_refl _), hr, show e + 1 - e = 1 by omega]
          rfl
        · rw [show e + 2 - 1 = e + 1 from rfl, List.drop_succ_cons]; exact h41
      · cases h; omega
    · cases h; omega
end Lk
end Go.Proofs.YtfabiidohdkkcaaGreatDoor
