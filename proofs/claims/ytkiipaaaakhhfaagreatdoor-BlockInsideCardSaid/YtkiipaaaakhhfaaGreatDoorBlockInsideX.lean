import Derived.Test.YtkiipaaaakhhfaaGreatDoorCBk1
import Derived.Test.YtkiipaaaakhhfaaGreatDoorCBk2
import Derived.Deep.Upon
import Derived.Maps.AppendAt
import Derived.Deep.QuietTactic
import Derived.Deep.CutBlock
import Derived.Test.YtkiipaaaakhhfaaGreatDoorCBkL1
import Derived.Deep.AppendLies
import Derived.Test.YtkiipaaaakhhfaaGreatDoorCBk13
import Derived.Test.YtkiipaaaakhhfaaGreatDoorCKit1
import Derived.Test.YtkiipaaaakhhfaaGreatDoorCRf2
import Derived.SliceStrings
import Derived.Lib.LaidU8
import Derived.Test.YtkiipaaaakhhfaaGreatDoorCBk3
section
set_option linter.unusedVariables false
set_option linter.unusedSimpArgs false
set_option maxRecDepth 100000
namespace Go.Proofs.YtkiipaaaakhhfaaGreatDoor
namespace Bk
variable {i : Nat} {L : Ln}
section
variable {ρ : Type} (X : Scan ρ)
theorem in_indented (h : InL i L) : InL i (indented i L) := by
 unfold indented
 split
 ·exact in_add h _
 ·exact in_add (in_open h _ (.inl rfl)) _
theorem in_leaves {L1 : Ln} (h : InL i L) (e : leaves X i L = some L1) : InL i L1 := by
 unfold leaves at e
 split at e
 ·cases e; exact in_lay h _ ⟨8, _, _, _, _, _, _, _, rfl, by decide, by decide⟩
 ·split at e
  ·cases e; exact in_open h _ (.inl rfl)
  ·split at e
   ·split at e
    ·cases e; exact in_lay h _ ⟨6, _, _, _, _, _, _, _, rfl, by decide, by decide⟩
    ·cases e; exact in_open h _ (.inr (.inl rfl))
   ·split at e
    ·rename_i hc
     split at e
     ·cases e
     ·rename_i l hl
      cases e
      have h1 := h.1
      rw [hl, hc.2.1, List.append_nil] at h1
      refine ⟨?_, fun e => h.2 ((onLast_ne _ _).1 e)⟩
      show wPath (onLast (grow [.mk 8 [] [] (X.setx L.r.aft) 0 false true l.ls l.a i []]) L.ms ++ L.us) none 0 (i + 1) 0
      rw [hc.2.1, List.append_nil]
      have key : ∀ {ms : List Fr} {a p : Nat}, ms ≠ [] → wPath ms (some l) a (i + 1) p → wPath (onLast (grow [.mk 8 [] [] (X.setx L.r.aft) 0 false true l.ls l.a i []]) ms) none a (i + 1) p := by
       intro ms
       induction ms with
       | nil => intro a p e; exact absurd rfl e
       | cons f ms ih =>
        intro a p _ h
        obtain ⟨k1, k2, k3, k4, k5, k6⟩ := h
        rw [onLast_cons]
        by_cases hm : ms = []
        ·subst hm
         rw [if_pos rfl]
         refine ⟨k1, k2, k3, k4, (wAll_app _ _ _ _ _).2 ⟨k5, ?_⟩, trivial⟩
         obtain ⟨j1, j2, j3, j4, j5, j6⟩ := k6
         rw [wAll_cons, wOne_mk]
         exact ⟨⟨j4, by omega, by omega, j1, .inr ⟨by decide, by decide, j2, rfl⟩, wAll_nil _ _ _⟩, wAll_nil _ _ _⟩
        ·rw [if_neg hm]
         exact ⟨k1, k2, k3, k4, k5, ih hm k6⟩
      exact key h.2 h1
    ·split at e
     ·cases e; exact in_lay h _ ⟨9, _, _, _, _, _, _, _, rfl, by decide, by decide⟩
     ·cases e
theorem in_note {L1 : Ln} (foot : Bool) (h : InL i L) (e : note foot i L = some L1) : InL i L1 := by
 unfold note at e
 split at e
 ·cases e
 ·cases e
  exact in_contain (in_rest h _) _ false (by unfold okc; simp) (fun e => by cases e)
theorem in_begins (foot : Bool) : ∀ (n : Nat) (L : Ln), InL i L → InL i (begins X foot i n L).2
 | 0, L, h => h
 | n + 1, L, h => by
  rw [begins]
  split
  ·exact h
  split
  ·split
   ·exact h
   ·exact in_indented h
  split
  ·exact in_begins foot n _ (in_contain (in_rest h _) _ false (by unfold okc; simp) (fun e => by cases e))
  split
  ·rename_i L1 e; exact in_leaves X h e
  split
  ·rename_i L1 e; exact in_begins foot n _ (in_note foot h e)
  split
  ·rename_i L1 e; exact in_begins foot n _ (in_item X h e)
  ·exact h
theorem in_text (h : InL i L) : InL i (text i L) := by
 unfold text
 split
 ·split
  ·exact in_add h _
  ·exact in_shut h
 ·split
  ·exact in_add h _
  ·exact in_add (in_open h _ (.inr (.inr rfl))) _
theorem in_rest_all (foot : Bool) (h : InL i L) : InL i (rest X foot i L) := by
 unfold rest
 simp only []
 split
 ·exact in_takes X h
 ·split
  ·exact in_begins X foot _ _ (in_takes X h)
  ·exact in_text (in_begins X foot _ _ (in_takes X h))
theorem in_line (foot : Bool) {st : St} {n : Nat} (h : wPath st.fs st.leaf 0 n 0) (hn : n ≤ i + 1) (hne : st.fs ≠ []) (s : Str) : wPath (line X foot i st s).fs (line X foot i st s).leaf 0 (i + 1) 0 ∧ (line X foot i st s).fs ≠ [] := by
 obtain ⟨f0, leaf⟩ := st
 have h := wPath_mono hn h
 cases f0 with
 | nil => exact absurd rfl hne
 | cons b fs =>
  rw [line_cons]
  have hL : InL i (lineL i b fs leaf ⟨s, 0⟩) := by
   refine ⟨?_, by unfold lineL; simp⟩
   obtain ⟨h1, h2, h3, h4, h5, h6⟩ := h
   have ih := in_meets (i := i) leaf leaf (r := ⟨s, 0⟩) h6
   exact ⟨h1, h2, h3, h4, h5, ih⟩
  have := in_rest_all X foot hL
  exact ⟨this.1, by show _ ++ _ ≠ []; intro e; exact this.2 (List.append_eq_nil_iff.1 e).1⟩
theorem in_go (foot : Bool) : ∀ (l : List Str) (i n : Nat) (st : St), wPath st.fs st.leaf 0 n 0 → n ≤ i + 1 → st.fs ≠ [] → wPath (go X foot i st l).fs (go X foot i st l).leaf 0 (if l = [] then n else i + l.length) 0 ∧ (go X foot i st l).fs ≠ []
 | [], i, n, st, h, hn, hne => by rw [if_pos rfl]; exact ⟨h, hne⟩
 | s :: l, i, n, st, h, hn, hne => by
  obtain ⟨h1, h2⟩ := in_line X foot (i := i) h hn hne s
  obtain ⟨h3, h4⟩ := in_go foot l (i + 1) (i + 1) _ h1 (by omega) h2
  refine ⟨?_, h4⟩
  rw [if_neg (by simp)]
  refine wPath_mono ?_ h3
  rw [List.length_cons]
  split <;> omega
mutual
theorem zB_ge : ∀ (b : B) (acc : Nat), acc ≤ zB b acc
 | .mk k s t n m fen stx ls a z kids, acc => by
  rw [zB_mk]
  split
  ·exact Nat.le_refl _
  ·exact Nat.le_trans (Nat.le_max_left _ _) (zL_ge kids _)
theorem zL_ge : ∀ (l : List B) (acc : Nat), acc ≤ zL l acc
 | [], acc => by rw [zL_nil]; exact Nat.le_refl _
 | b :: l, acc => by rw [zL_cons]; exact Nat.le_trans (zB_ge b acc) (zL_ge l _)
end
mutual
theorem zB_mono : ∀ (b : B) {x y : Nat}, x ≤ y → zB b x ≤ zB b y
 | .mk k s t n m fen stx ls a z kids, x, y, h => by
  rw [zB_mk, zB_mk]
  split
  ·exact h
  ·exact zL_mono kids (by omega)
theorem zL_mono : ∀ (l : List B) {x y : Nat}, x ≤ y → zL l x ≤ zL l y
 | [], x, y, h => by rw [zL_nil, zL_nil]; exact h
 | b :: l, x, y, h => by rw [zL_cons, zL_cons]; exact zL_mono l (zB_mono b h)
end
mutual
theorem zB_lt : ∀ {b : B} {a n p : Nat}, wOne b a n p → ∀ {acc : Nat}, acc < n → zB b acc < n
 | .mk k s t m1 m2 fen stx ls a0 z kids, a, n, p, h, acc, hacc => by
  rw [wOne_mk] at h
  rw [zB_mk]
  split
  ·exact hacc
  ·exact zL_lt h.2.2.2.2.2 (by have := h.2.2.1; omega)
theorem zL_lt : ∀ {l : List B} {a n p : Nat}, wAll l a n p → ∀ {acc : Nat}, acc < n → zL l acc < n
 | [], a, n, p, h, acc, hacc => by rw [zL_nil]; exact hacc
 | b :: l, a, n, p, h, acc, hacc => by
  rw [wAll_cons] at h
  rw [zL_cons]
  exact zL_lt h.2 (zB_lt h.1 hacc)
end
theorem white_gone (hX : X.defs [] = ([], [])) {k : Nat} {ls : List Str} (h : white k ls = true) : goneB X k ls = true := by
 unfold white at h
 rw [Bool.and_eq_true] at h
 unfold goneB
 rw [h.1, body_white h.2, hX]
 rfl
mutual
def insB : Blk → Nat → Nat → Bool → Bool
 | .mk k s t n m f a z kids => fun at' last list => decide (at' ≤ a) && decide (a ≤ z) && decide (z < last) && ((k == 4) == list) && (holds k || kids.isEmpty) && insL kids a (z + 1) (k == 3)
def insL : List Blk → Nat → Nat → Bool → Bool
 | [] => fun _ _ _ => true
 | b :: l => fun at' last list => insB b at' last list && insL l b.a last list
end
theorem insL_nil (a n : Nat) (b : Bool) : insL [] a n b = true := by rw [insL]
theorem insL_cons (b : Blk) (l : List Blk) (a n : Nat) (q : Bool) : insL (b :: l) a n q = (insB b a n q && insL l b.a n q) := by rw [insL]
theorem insB_at {b : Blk} {a a' n : Nat} {q : Bool} (h : insB b a n q = true) (ha : a' ≤ a) : insB b a' n q = true := by
 cases b
 rw [insB] at h ⊢
 simp only [Bool.and_eq_true, decide_eq_true_eq] at h ⊢
 obtain ⟨⟨⟨⟨⟨h1, h2⟩, h3⟩, h4⟩, h5⟩, h6⟩ := h
 exact ⟨⟨⟨⟨⟨by omega, h2⟩, h3⟩, h4⟩, h5⟩, h6⟩
theorem insL_at {l : List Blk} {a a' n : Nat} {q : Bool} (h : insL l a n q = true) (ha : a' ≤ a) : insL l a' n q = true := by
 cases l with
 | nil => exact insL_nil _ _ _
 | cons b l =>
  rw [insL_cons, Bool.and_eq_true] at h ⊢
  exact ⟨insB_at h.1 ha, h.2⟩
mutual
theorem ins_out (hX : X.defs [] = ([], [])) : ∀ (b : B) (a n p : Nat), wOne b a n p → ∀ acc N, zB b acc < N → (out X b = [] ∨ ∃ b', out X b = [b'] ∧ b'.a = b.a ∧ insB b' a N (p == 3) = true)
 | .mk k s t m1 m2 f x ls a z kids, at', n, p, h, acc, N, hN => by
  rw [wOne_mk] at h
  obtain ⟨h1, h2, h3, h4, h5, h6⟩ := h
  rw [out]
  split
  ·exact .inl rfl
  ·rename_i hg
   have hw : ¬ white k ls = true := fun e => hg (white_gone X hX e)
   rw [zB_mk, if_neg hw] at hN
   have hz : zL kids z < N := Nat.lt_of_le_of_lt (zL_mono kids (Nat.le_max_right acc z)) hN
   refine .inr ⟨_, rfl, rfl, ?_⟩
   rw [insB]
   show (decide (at' ≤ a) && decide (a ≤ zL kids z) && decide (zL kids z < N) && ((k == 4) == (p == 3)) && (holds k || (outL X kids).isEmpty) && insL (outL X kids) a (zL kids z + 1) (k == 3)) = true
   have hk := ins_outL hX kids a n k h6 z (zL kids z + 1) (Nat.lt_succ_self _)
   rw [hk]
   have e4 : ((k == 4) == (p == 3)) = true := by
    have hiff : (k = 4) ↔ (p = 3) := by
     rcases h5 with h5 | h5
     ·unfold okc at h5; omega
     ·omega
    have : (k == 4) = (p == 3) := by
     rw [Bool.eq_iff_iff, beq_iff_eq, beq_iff_eq]; exact hiff
    rw [this, beq_self_eq_true]
   have e5 : (holds k || (outL X kids).isEmpty) = true := by
    rcases h5 with h5 | ⟨_, _, _, h5⟩
    ·have : holds k = true := by
      unfold holds
      unfold okc at h5
      have : k = 2 ∨ k = 3 ∨ k = 4 ∨ k = 13 := by omega
      rcases this with rfl | rfl | rfl | rfl <;> rfl
     rw [this]; rfl
    ·rw [h5, outL_nil]; simp
   rw [e4, e5, decide_eq_true h1, decide_eq_true (Nat.le_trans h2 (zL_ge kids z)), decide_eq_true hz]
   rfl
theorem ins_outL (hX : X.defs [] = ([], [])) : ∀ (l : List B) (a n p : Nat), wAll l a n p → ∀ acc N, zL l acc < N → insL (outL X l) a N (p == 3) = true
 | [], a, n, p, _, acc, N, _ => by rw [outL_nil]; exact insL_nil _ _ _
 | b :: l, a, n, p, h, acc, N, hN => by
  rw [wAll_cons] at h
  rw [zL_cons] at hN
  rw [outL_cons]
  have ih := ins_outL hX l b.a n p h.2 _ N hN
  have hab : a ≤ b.a := by
   cases b
   have := h.1
   rw [wOne_mk] at this
   exact this.1
  rcases ins_out hX b a n p h.1 acc N (Nat.lt_of_le_of_lt (zL_ge l _) hN) with e | ⟨b', e, ea, hb⟩
  ·rw [e, List.nil_append]; exact insL_at ih hab
  ·rw [e, List.singleton_append, insL_cons, hb, ea, ih]; rfl
end
theorem go_w (foot : Bool) {l : List Str} (hl : l ≠ []) : wAll (go X foot 0 doc0 l).kids 0 l.length 1 := by
 obtain ⟨h1, h2⟩ := in_go X foot l 0 1 doc0 ⟨.inl ⟨rfl, rfl⟩, Nat.le_refl _, Nat.le_refl _, by decide, wAll_nil _ _ _, trivial⟩ (by omega) (by decide)
 rw [if_neg hl, Nat.zero_add] at h1
 cases hf : (go X foot 0 doc0 l).fs with
 | nil => exact absurd hf h2
 | cons b fs =>
  rw [hf] at h1
  obtain ⟨k1, k2, k3, k4, k5, k6⟩ := h1
  have hk : b.k = 1 := by unfold okc at k1; omega
  unfold St.kids
  rw [hf]
  rw [hk] at k5 k6
  have := (wAll_app _ _ _ _ _).2 ⟨k5, w_shut k6 (by decide)⟩
  have at0 : ∀ {l : List B} {a n p : Nat}, wAll l a n p → wAll l 0 n p := fun {l} {a n p} h => by
   cases l with
   | nil => exact wAll_nil _ _ _
   | cons b l =>
    rw [wAll_cons] at h ⊢
    refine ⟨?_, h.2⟩
    cases b
    have := h.1
    rw [wOne_mk] at this ⊢
    exact ⟨Nat.zero_le _, this.2⟩
  exact at0 this
theorem inside (hX : X.defs [] = ([], [])) (foot : Bool) (l : List Str) : insL (parse X foot l).1 0 l.length false = true := by
 show insL (outL X (go X foot 0 doc0 l).kids) 0 l.length false = true
 by_cases hl : l = []
 ·subst hl
  show insL (outL X []) 0 0 false = true
  rw [outL_nil]
  exact insL_nil _ _ _
 have hw := go_w X foot hl
 exact ins_outL X hX _ _ _ 1 hw 0 _ (zL_lt hw (List.length_pos_iff.2 hl))
end
end Bk
end Go.Proofs.YtkiipaaaakhhfaaGreatDoor
end
section
namespace Go.Proofs.YtkiipaaaakhhfaaGreatDoor
open Go Go.RowKit
namespace Bk
set_option maxRecDepth 100000
set_option linter.unusedVariables false
set_option linter.unusedSimpArgs false
set_option maxHeartbeats 4000000 in
theorem few_any (l : List Str) (v : Value) (w : World) (h : SSl w v l) :
  Calls Tryz.prog 12 #[v] w fun e w' => (e = .returned (.bool false) ∨ (e = .returned (.bool true) ∧ FewS l)) ∧ w = w' := by
 obtain ⟨a, cap, rfl, hlm, hk⟩ := h
 unfold maxLen at hlm
 have HK := Lib.hid hk
 clear hk
 obtain ⟨n, hn⟩ : ∃ n, l.length = n := ⟨_, rfl⟩
 rw [hn] at hlm ⊢
 have HN := Lib.hid hn
 clear hn
 by_cases h40 : (40 : Int) < (n : Int)
 ·go_enter Tryz.func12, Tryz.ntmps12
  go_wp2
  go_ret
  exact ⟨.inl rfl, rfl⟩
 go_enter Tryz.func12, Tryz.ntmps12
 go_wp2
 go_loopg [3] n (fun G s3 wr => ∃ i : Nat, i + G = n ∧ s3 = .int .i64 (i : Int) ∧ Hid (∀ j s, j < i → l[j]? = some s → s.length ≤ 80) ∧ w = wr)
 case atStart => exact ⟨0, by omega, rfl, Lib.hid (fun j s hj => by omega), rfl⟩
 case round =>
  obtain ⟨i, hig, rfl, HA, rfl⟩ := hrel
  cases gk with
  | zero =>
   have hlt : ¬ (i : Int) < (n : Int) := by omega
   have hin : i = n := by omega
   have HV : Hid (FewS l) := Lib.hid ⟨by rw [HN.out]; omega, fun s hs => by
    obtain ⟨j, hj⟩ := List.mem_iff_getElem?.1 hs
    have := (List.getElem?_eq_some_iff.1 hj).1
    exact HA.out j s (by rw [hin, ← HN.out]; exact this) hj⟩
   clear hin
   go_wp2
   go_ret
   exact ⟨.inr ⟨rfl, HV.out⟩, rfl⟩
  | succ G =>
   have hlt : (i : Int) < (n : Int) := by omega
   have hil : i < l.length := by have := HN.out; omega
   obtain ⟨s, hs⟩ : ∃ s, l[i] = s := ⟨_, rfl⟩
   have HS : Hid (l[i]? = some s) := Lib.hid (by rw [List.getElem?_eq_getElem hil, hs])
   obtain ⟨b, off, rfl, hcell⟩ := HK.out (fun e => by rw [e] at hil; exact absurd hil (Nat.not_lt_zero _))
   have q0 := hcell i hil
   rw [hs] at q0
   unfold str at q0
   obtain ⟨S, hS⟩ : ∃ S : ByteArray, ⟨s.toArray⟩ = S := ⟨_, rfl⟩
   have HZ : Hid (S.size = s.length) := Lib.hid (by rw [← hS]; rfl)
   rw [hS] at q0
   clear hcell hs hS hil
   by_cases hbig : (80 : Int) < (S.size : Int)
   ·go_wp2
    go_ret
    exact ⟨.inl rfl, rfl⟩
   ·have HA2 : Hid (∀ j r, j < i + 1 → l[j]? = some r → r.length ≤ 80) := Lib.hid (fun j r hj hr => by
     rcases Nat.lt_or_ge j i with h | h
     ·exact HA.out j r h hr
     ·have : j = i := by omega
      subst this
      have := HS.out
      rw [hr] at this
      injection this with this
      subst this
      have := HZ.out
      omega)
    go_wp2
    go_roundg G
    case rel => exact ⟨i + 1, by omega, by go_num, HA2, rfl⟩
    case measure => omega
end Bk
end Go.Proofs.YtkiipaaaakhhfaaGreatDoor
end
section
namespace Go.Proofs.YtkiipaaaakhhfaaGreatDoor
open Go Go.RowKit
namespace Bk
set_option maxRecDepth 100000
set_option linter.unusedVariables false
set_option linter.unusedSimpArgs false
theorem insB_kids {b : Blk} {a n : Nat} {q : Bool} (h : insB b a n q = true) :
  a ≤ b.ow.a ∧ b.ow.a ≤ b.ow.z ∧ b.ow.z < n ∧ ((b.ow.k == 4) = q) ∧ (holds b.ow.k = true ∨ b.kids = []) ∧ insL b.kids b.ow.a (b.ow.z + 1) (b.ow.k == 3) = true ∧ b.a = b.ow.a := by
 cases b with
 | mk k s t n' m f a' z kids =>
  rw [insB] at h
  simp only [Bool.and_eq_true, decide_eq_true_eq, Bool.or_eq_true, List.isEmpty_iff, beq_iff_eq] at h
  obtain ⟨⟨⟨⟨⟨h1, h2⟩, h3⟩, h4⟩, h5⟩, h6⟩ := h
  exact ⟨h1, h2, h3, h4, h5, h6, rfl⟩
set_option maxHeartbeats 16000000 in
theorem inside_blk (C : Nat → Prop) (b : Blk) : ∀ (w : World) (v : Value) (at' n : Nat) (L : Int) (q : Bool), InS w C b.kids v → insL b.kids at' n q = true → n ≤ 1000000000 → at' ≤ 1000000000 → L + 1 = (n : Int) →
  Calls Tryz.prog 20 #[v, .int .i64 (at' : Int), .int .i64 L, .bool q] w fun e w' => e = .returned (.bool true) ∧ Below w.heap.size w w' := by
 induction b using Blk.ind with
 | h k s t nn m f a z kids ih =>
  intro w v at' n L q hin hins hn hat hL
  have hin : InS w C kids v := hin
  have hins : insL kids at' n q = true := hins
  obtain ⟨a1, cap, rfl, hlm, hk⟩ := hin
  unfold maxLen at hlm
  have HK := Lib.hid hk
  have IH := Lib.hid ih
  have HIns := Lib.hid hins
  obtain ⟨N, hN⟩ : ∃ N, kids.length = N := ⟨_, rfl⟩
  rw [hN] at hlm ⊢
  have HN := Lib.hid hN
  have HL := Lib.hid hL
  clear hN hk ih hins
  go_enter Tryz.func20, Tryz.ntmps20
  go_wp2
  go_loopg [9, 10] N (fun G s9 s10 wr => ∃ (i p : Nat), i + G = N ∧ s9 = .int .i64 (p : Int) ∧ s10 = .int .i64 (i : Int) ∧ p ≤ 1000000000 ∧ Hid (insL (kids.drop i) p n q = true) ∧ Below w.heap.size w wr)
  case atStart => exact ⟨0, at', by omega, rfl, rfl, hat, HIns, Below.refl _ _⟩
  case round =>
   obtain ⟨i, p, hig, rfl, rfl, hp, HI, hbw⟩ := hrel
   cases gk with
   | zero =>
    have hlt : ¬ (i : Int) < (N : Int) := by omega
    go_wp2
    go_ret
    exact ⟨rfl, hbw⟩
   | succ G =>
    have hlt : (i : Int) < (N : Int) := by omega
    have hil : i < kids.length := by have := HN.out; omega
    obtain ⟨c, hc⟩ : ∃ c, kids[i]? = some c := ⟨_, List.getElem?_eq_getElem hil⟩
    have hdr : kids.drop i = c :: kids.drop (i + 1) := by
     rw [List.drop_eq_getElem_cons hil, (List.getElem?_eq_some_iff.1 hc).2]
    have hI := HI.out
    rw [hdr, insL_cons, Bool.and_eq_true] at hI
    obtain ⟨j1, j2, j3, j4, j5, j6, j7⟩ := insB_kids hI.1
    have HI2 : Hid (insL (kids.drop (i + 1)) c.ow.a n q = true) := Lib.hid (by rw [← j7]; exact hI.2)
    rcases HK.out with rfl | ⟨bb, off, rfl, _, hcell⟩
    ·simp at hc
    obtain ⟨L1, qq, g1⟩ := hcell.get hc
    obtain ⟨c0, c1, c2, c3', c4, c5, c6, c7, c8⟩ := qq.keep hbw
    have G1 := Lib.hid (g1.kids.keep hbw)
    have HC := Lib.hid (fun W (hW : Below wr.heap.size wr W) => IH.out c (List.mem_of_getElem? hc) W L1 c.ow.a (c.ow.z + 1) (c.ow.z : Int) (c.ow.k == 3) (G1.out.keep hW) j6 (by omega) (by omega) (by omega))
    obtain ⟨ao, cpo, e1, _⟩ := G1.out.form
    subst e1
    unfold str at c1 c2
    have HBw := Lib.hid hbw
    have hX := Box.new wr (ar9 c.ow (.slice ao c.kids.length cpo)) 41
    have HB2 : Hid (Below wr.heap.size wr (wr.alloc (.cells (ar9 c.ow (.slice ao c.kids.length cpo)) 41))) := Lib.hid ((Below.refl _ wr).alloc (Nat.le_refl _) _)
    obtain ⟨W2, hW2⟩ : ∃ W2, wr.alloc (.cells (ar9 c.ow (.slice ao c.kids.length cpo)) 41) = W2 := ⟨_, rfl⟩
    rw [hW2] at hX HB2
    have x0 := hX.cell 0 rfl
    have x6 := hX.cell 6 rfl
    have x7 := hX.cell 7 rfl
    have x8 := hX.cell 8 rfl
    have HW2 := Lib.hid hW2
    have HC2 := Lib.hid (HC.out W2 HB2.out)
    obtain ⟨kl, hkl⟩ : ∃ n, c.kids.length = n := ⟨_, rfl⟩
    have j5' : holds c.ow.k = true ∨ kl = 0 := j5.imp id (fun e => by rw [← hkl, e]; rfl)
    obtain ⟨o, ho⟩ : ∃ o, c.ow = o := ⟨_, rfl⟩
    rw [ho] at c0 c1 c2 c3' c4 c5 c6 c7 x0 x6 x7 HW2 HC2 HI2 j1 j2 j3 j4 j5'
    rw [hkl] at c8 x8 HW2 HC2
    unfold ar9 at HW2
    clear hcell hc qq g1 G1 hX hbw IH hW2 HC hI hdr hil j5 j6 j7 ho hkl HI
    obtain ⟨ok, os, ot, on, om, of', oa, oz⟩ := o
    have x0 : W2.cell? ⟨wr.heap.size, 0, none⟩ = some (.int .i64 (ok : Int)) := x0
    have x6 : W2.cell? ⟨wr.heap.size, 6, none⟩ = some (.int .i64 (oa : Int)) := x6
    have x7 : W2.cell? ⟨wr.heap.size, 7, none⟩ = some (.int .i64 (oz : Int)) := x7
    have x8 : W2.cell? ⟨wr.heap.size, 8, none⟩ = some (.slice ao kl cpo) := x8
    have b1 : ¬ (oa : Int) < (p : Int) := by have : p ≤ oa := j1; omega
    have b2 : ¬ (oz : Int) < (oa : Int) := by have : oa ≤ oz := j2; omega
    have b3 : ¬ L < (oz : Int) := by have : oz < n := j3; have := HL.out; omega
    have b4 : oa ≤ 1000000000 := by have : oa ≤ oz := j2; have : oz < n := j3; omega
    have j4 : (ok == 4) = q := j4
    have j5' : holds ok = true ∨ kl = 0 := j5'
    have hcase : (ok = 2 ∨ ok = 3 ∨ ok = 4 ∨ ok = 13) ∨ (ok ≠ 2 ∧ ok ≠ 3 ∧ ok ≠ 4 ∧ ok ≠ 13 ∧ kl = 0) := by
     by_cases h : ok = 2 ∨ ok = 3 ∨ ok = 4 ∨ ok = 13
     ·exact .inl h
     ·refine .inr ⟨by omega, by omega, by omega, by omega, j5'.resolve_left fun e => h ?_⟩
      unfold holds at e
      simp only [Bool.or_eq_true, beq_iff_eq] at e
      omega
    clear j1 j2 j3 j5'
    dsimp only at c0 c1 c2 c3' c4 c5 c6 c7 HC2 HI2 HW2
    obtain ⟨q3, hq3⟩ : ∃ q3, (ok == 3) = q3 := ⟨_, rfl⟩
    rw [hq3] at HC2
    clear x0 x6 x7 x8
    rcases hcase with (rfl | rfl | rfl | rfl) | ⟨n2, n3, n4, n13, rfl⟩
    ·obtain rfl : q = false := j4.symm.trans rfl
     obtain rfl : q3 = false := hq3.symm.trans rfl
     clear j4 hq3
     rw [show ((2 : Nat) : Int) = 2 from rfl] at HW2
     go_wp2_with (go_at_call 20; rw [HW2.out]; refine HC2.out.mono ?_; rintro e w3 ⟨rfl, hb3⟩; have HB5 := Lib.hid (below_later HBw.out (below_later HB2.out hb3)))
     go_roundg G
     case rel => exact ⟨i + 1, oa, by omega, rfl, by go_num, b4, HI2, HB5.out⟩
     case measure => omega
    ·obtain rfl : q = false := j4.symm.trans rfl
     obtain rfl : q3 = true := hq3.symm.trans rfl
     clear j4 hq3
     rw [show ((3 : Nat) : Int) = 3 from rfl] at HW2
     go_wp2_with (go_at_call 20; rw [HW2.out]; refine HC2.out.mono ?_; rintro e w3 ⟨rfl, hb3⟩; have HB5 := Lib.hid (below_later HBw.out (below_later HB2.out hb3)))
     go_roundg G
     case rel => exact ⟨i + 1, oa, by omega, rfl, by go_num, b4, HI2, HB5.out⟩
     case measure => omega
    ·obtain rfl : q = true := j4.symm.trans rfl
     obtain rfl : q3 = false := hq3.symm.trans rfl
     clear j4 hq3
     rw [show ((4 : Nat) : Int) = 4 from rfl] at HW2
     go_wp2_with (go_at_call 20; rw [HW2.out]; refine HC2.out.mono ?_; rintro e w3 ⟨rfl, hb3⟩; have HB5 := Lib.hid (below_later HBw.out (below_later HB2.out hb3)))
     go_roundg G
     case rel => exact ⟨i + 1, oa, by omega, rfl, by go_num, b4, HI2, HB5.out⟩
     case measure => omega
    ·obtain rfl : q = false := j4.symm.trans rfl
     obtain rfl : q3 = false := hq3.symm.trans rfl
     clear j4 hq3
     rw [show ((13 : Nat) : Int) = 13 from rfl] at HW2
     go_wp2_with (go_at_call 20; rw [HW2.out]; refine HC2.out.mono ?_; rintro e w3 ⟨rfl, hb3⟩; have HB5 := Lib.hid (below_later HBw.out (below_later HB2.out hb3)))
     go_roundg G
     case rel => exact ⟨i + 1, oa, by omega, rfl, by go_num, b4, HI2, HB5.out⟩
     case measure => omega
    ·have m2 : ¬ (ok : Int) = 2 := by omega
     have m3 : ¬ (ok : Int) = 3 := by omega
     have m4 : ¬ (ok : Int) = 4 := by omega
     have m13 : ¬ (ok : Int) = 13 := by omega
     have M3 : Hid (((ok : Int) == 3) = false) := Lib.hid (beq_eq_false_iff_ne.2 m3)
     obtain rfl : q = false := j4.symm.trans (beq_eq_false_iff_ne.2 n4)
     obtain rfl : q3 = false := hq3.symm.trans (beq_eq_false_iff_ne.2 n3)
     clear j4 hq3 n2 n3 n4 n13
     go_wp2_with (go_at_call 20; rw [M3.out, HW2.out]; refine HC2.out.mono ?_; rintro e w3 ⟨rfl, hb3⟩; have HB5 := Lib.hid (below_later HBw.out (below_later HB2.out hb3)))
     go_roundg G
     case rel => exact ⟨i + 1, oa, by omega, rfl, by go_num, b4, HI2, HB5.out⟩
     case measure => omega
end Bk
end Go.Proofs.YtkiipaaaakhhfaaGreatDoor
end
section
namespace Go.Proofs.YtkiipaaaakhhfaaGreatDoor
open Go Go.RowKit
namespace Bk
set_option maxRecDepth 100000
set_option linter.unusedVariables false
set_option linter.unusedSimpArgs false
theorem inside_any (C : Nat → Prop) (l : List Blk) (w : World) (v : Value) (at' n : Nat) (L : Int) (q : Bool) (hi : InS w C l v) (h : insL l at' n q = true) (hn : n ≤ 1000000000) (hat : at' ≤ 1000000000) (hL : L + 1 = (n : Int)) :
  Calls Tryz.prog 20 #[v, .int .i64 (at' : Int), .int .i64 L, .bool q] w fun e w' => e = .returned (.bool true) ∧ Below w.heap.size w w' :=
 inside_blk C (.mk 0 [] [] 0 0 false 0 0 l) w v at' n L q hi h hn hat hL
end Bk
end Go.Proofs.YtkiipaaaakhhfaaGreatDoor
end
section
namespace Go.Proofs.YtkiipaaaakhhfaaGreatDoor
open Go Go.ChangeShapes Go.WideShapes Go.ChangeAt Go.RowKit
namespace Bk
set_option maxRecDepth 100000
theorem open_texts {H : Type} {enc : TypeId × Value → H} {W : World} {v : Value} {d : DataW H} {ps : List MemPlace} {r : Reach} {b0 : Nat} (hval : Value.okWide Tryz.prog W r b0 22 v)
  (h : DataW.Trod enc Tryz.prog W 0 (fun _ => true) true 22 v d ps) : ∃ L : List Str, SSl W v L := by
 obtain ⟨a0, len, cap, rfl⟩ := okWide_slice Tryz.underlying22 hval
 obtain ⟨fuel, hf⟩ := h
 rcases open_strings Tryz.underlying22 Tryz.underlying9 (by kernel_rfl) hf with ⟨hcs, hx⟩ | ⟨a, len', cap', ss, hcs, _, hl, hm, hz, hx, hcell, hws⟩
 ·simp [Value.cells] at hcs
  obtain ⟨rfl, rfl, rfl⟩ := hcs
  exact ⟨[], none, 0, rfl, Nat.zero_le _, fun hne => absurd rfl hne⟩
 ·simp [Value.cells] at hcs
  obtain ⟨rfl, rfl, rfl⟩ := hcs
  simp only [if_true] at hz
  have hlen : ((ss.take len).map (fun s => s.data.toList)).length = len := by simp; omega
  refine ⟨(ss.take len).map (fun s => s.data.toList), some a, cap, by rw [hlen], by rw [hlen]; omega, fun hne => ?_⟩
  have hpos : 0 < len := by rw [← hlen]; exact List.length_pos_iff.2 hne
  obtain ⟨b, off, spot⟩ := a
  have hspot : spot = none := by simpa [Addr.add] using World.cell?_spot (hcell 0 (by omega))
  subst hspot
  refine ⟨b, off, rfl, fun i hi => ?_⟩
  have hi2 : i < len := by rw [hlen] at hi; exact hi
  have hc := hcell i (by omega)
  rw [add_off] at hc
  rw [hc, List.getD, List.getElem?_eq_getElem (by omega)]
  simp [str]
end Bk
end Go.Proofs.YtkiipaaaakhhfaaGreatDoor
end
section
namespace Go.Proofs.YtkiipaaaakhhfaaGreatDoor
open Go Go.RowKit
namespace Bk
set_option maxRecDepth 100000
set_option linter.unusedVariables false
set_option linter.unusedSimpArgs false
set_option maxHeartbeats 4000000 in
theorem inside_law {ρ : Type} {X : Scan ρ} (w : World) (P : Prog11 w X) (v : Value) (l : List Str) (m : Int) (hl : SSl w v l) :
  Calls Tryz.prog 4 #[v, .int .i64 m] w fun e w' => e = .returned (.bool true) ∧ Below w.heap.size w w' := by
 have HA := Lib.hid (P.awake)
 have HF := Lib.hid (fun W (hW : Below w.heap.size w W) => few_any l v W (hl.keep hW))
 have HP := Lib.hid (fun W (hW : Below w.heap.size w W) (hf : FewS l) => P.parse W hW v l m (hl.keep hW) hf.fit)
 obtain ⟨a, c, e0, hlm, _⟩ := hl
 subst e0
 obtain ⟨N, hN⟩ : ∃ N, l.length = N := ⟨_, rfl⟩
 rw [hN] at hlm HF HP ⊢
 have HN := Lib.hid hN
 clear hN
 unfold maxLen at hlm
 go_enter Tryz.func4, Tryz.ntmps4
 go_wp2_with fail
 refine HA.out.mono ?_
 rintro e w1 ⟨rfl, hb1⟩
 go_wp2_with fail
 refine (HF.out w1 hb1).mono ?_
 rintro e w2 ⟨he, rfl⟩
 rcases he with rfl | ⟨rfl, hf⟩
 ·go_wp2
  go_ret
  exact ⟨rfl, hb1⟩
 go_wp2_with fail
 refine (HP.out w1 hb1 hf).mono ?_
 rintro e w2 ⟨u, r, rfl, hin, hcn, hr, hb2, _⟩
 obtain ⟨au, cu, rfl, _⟩ := hin.form
 obtain ⟨ar, cr, rfl⟩ := P.formR hr
 have HI := Lib.hid (inside_any _ _ w2 _ 0 l.length ((l.length : Int) - 1) false hin (Bk.inside X P.none (P.foot m) l) (Nat.le_trans hf.1 (by decide)) (by decide) (by omega))
 rw [HN.out] at HI
 clear hin hr hcn hf
 have HB2 := Lib.hid (below_later hb1 hb2)
 go_wp2_with fail
 refine HI.out.mono ?_
 rintro e w3 ⟨rfl, hb3⟩
 go_wp2
 go_ret
 exact ⟨rfl, below_later HB2.out hb3⟩
end Bk
end Go.Proofs.YtkiipaaaakhhfaaGreatDoor
end
