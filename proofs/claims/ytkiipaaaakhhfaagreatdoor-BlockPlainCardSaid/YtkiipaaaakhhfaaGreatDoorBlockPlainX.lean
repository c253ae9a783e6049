import Derived.Test.YtkiipaaaakhhfaaGreatDoorCBk1
import Derived.Test.YtkiipaaaakhhfaaGreatDoorProg
import Derived.WalkKit
import Derived.BigCall
import Derived.BigQuiet
import Derived.Below
import Derived.WideShapes
import Derived.Deep.LoopGhost
import Derived.OwnWalk
import Derived.Lib.Hide
import Derived.RegionTactic
import Derived.Laws.ResultCell
import Derived.Laws.Rows
import Derived.Test.YtkiipaaaakhhfaaGreatDoorCBk2
import Derived.Deep.Upon
import Derived.Maps.AppendAt
import Derived.Deep.QuietTactic
import Derived.Deep.CutBlock
import Derived.Test.YtkiipaaaakhhfaaGreatDoorCBk3
import Derived.Laws.AppendOwn
import Derived.Test.YtkiipaaaakhhfaaGreatDoorCSc1
import Derived.Test.YtkiipaaaakhhfaaGreatDoorCText1
import Derived.Lib.SlTrimSet
import Derived.Test.YtkiipaaaakhhfaaGreatDoorCSc3
import Derived.Test.YtkiipaaaakhhfaaGreatDoorCClass1
import Derived.Lib.IndexMore
import Derived.Test.YtkiipaaaakhhfaaGreatDoorCBk8
import Derived.Test.YtkiipaaaakhhfaaGreatDoorCBk13
import Derived.Test.YtkiipaaaakhhfaaGreatDoorCKit1
import Derived.Test.YtkiipaaaakhhfaaGreatDoorCRf2
import Derived.SliceStrings
import Derived.Lib.LaidU8
import Derived.Test.YtkiipaaaakhhfaaGreatDoorCRf1
import Derived.Laws.BitsAllLaws
import Derived.Laws.BitsLemmas
import Derived.Laws.IdiomStrings
section
set_option linter.unusedVariables false
set_option linter.unusedSimpArgs false
set_option maxRecDepth 100000
namespace Go.Proofs.YtkiipaaaakhhfaaGreatDoor
namespace Bk
section
variable {ρ : Type} (X : Scan ρ)
def ruleB (i : Nat) : B := .mk 9 [] [] 0 0 false false [] i i []
def headB (n : Nat) (h : Str) (i : Nat) : B := .mk 8 (Cl.rgt h) [] n 0 false false [] i i []
end
end Bk
end Go.Proofs.YtkiipaaaakhhfaaGreatDoor
end
section
set_option linter.unusedVariables false
set_option linter.unusedSimpArgs false
set_option maxRecDepth 100000
namespace Go.Proofs.YtkiipaaaakhhfaaGreatDoor
namespace Bk
section
variable {ρ : Type} (X : Scan ρ)
def rb (j : Nat) : B := if j % 3 = 1 then headB 2 [97] j else ruleB j
end
end Bk
end Go.Proofs.YtkiipaaaakhhfaaGreatDoor
end
section
namespace Go.Proofs.YtkiipaaaakhhfaaGreatDoor
open Go Go.RowKit
namespace Bk
set_option maxRecDepth 100000
set_option linter.unusedVariables false
set_option linter.unusedSimpArgs false
theorem OwnS.ssl {w : World} {B : Nat} {v : Value} {L : List Str} (h : OwnS w B v L) : SSl w v L := by
  unfold OwnS at h
  have h0 := h
  rcases h.2 with ⟨rfl, h1⟩ | ⟨g, cap, cur, rfl, _, hg, hn, hm, hs, hc⟩
  · have : L = [] := List.length_eq_zero_iff.1 h1
    subst this
    exact ⟨none, 0, rfl, by decide, fun h => absurd rfl h⟩
  · refine ⟨some ⟨g, 0, none⟩, cap, rfl, Nat.le_trans hn hm, fun _ => ⟨g, 0, rfl, fun i hi => ?_⟩⟩
    have := h0.cellAt i (by omega)
    rw [Nat.zero_add, this]
    simp [List.getElem?_eq_getElem hi]
end Bk
end Go.Proofs.YtkiipaaaakhhfaaGreatDoor
end
section
namespace Go.Proofs.YtkiipaaaakhhfaaGreatDoor
open Go Go.RowKit
namespace Bk
set_option maxRecDepth 100000
set_option linter.unusedVariables false
set_option linter.unusedSimpArgs false
set_option maxHeartbeats 4000000 in
theorem few_any (l : List Str) (v : Value) (w : World) (h : SSl w v l) :
    Calls Tryz.prog 12 #[v] w fun e w' => (e = .returned (.bool false) ∨ (e = .returned (.bool true) ∧ FewS l)) ∧ w = w' := by
  obtain ⟨a, cap, rfl, hlm, hk⟩ := h
  unfold maxLen at hlm
  have HK := Lib.hid hk
  clear hk
  obtain ⟨n, hn⟩ : ∃ n, l.length = n := ⟨_, rfl⟩
  rw [hn] at hlm ⊢
  have HN := Lib.hid hn
  clear hn
  by_cases h40 : (40 : Int) < (n : Int)
  · go_enter Tryz.func12, Tryz.ntmps12
    go_wp2
    go_ret
    exact ⟨.inl rfl, rfl⟩
  go_enter Tryz.func12, Tryz.ntmps12
  go_wp2
  go_loopg [3] n (fun G s3 wr => ∃ i : Nat, i + G = n ∧ s3 = .int .i64 (i : Int) ∧ Hid (∀ j s, j < i → l[j]? = some s → s.length ≤ 80) ∧ w = wr)
  case atStart => exact ⟨0, by omega, rfl, Lib.hid (fun j s hj => by omega), rfl⟩
  case round =>
    obtain ⟨i, hig, rfl, HA, rfl⟩ := hrel
    cases gk with
    | zero =>
      have hlt : ¬ (i : Int) < (n : Int) := by omega
      have hin : i = n := by omega
      have HV : Hid (FewS l) := Lib.hid ⟨by rw [HN.out]; omega, fun s hs => by
        obtain ⟨j, hj⟩ := List.mem_iff_getElem?.1 hs
        have := (List.getElem?_eq_some_iff.1 hj).1
        exact HA.out j s (by rw [hin, ← HN.out]; exact this) hj⟩
      clear hin
      go_wp2
      go_ret
      exact ⟨.inr ⟨rfl, HV.out⟩, rfl⟩
    | succ G =>
      have hlt : (i : Int) < (n : Int) := by omega
      have hil : i < l.length := by have := HN.out; omega
      obtain ⟨s, hs⟩ : ∃ s, l[i] = s := ⟨_, rfl⟩
      have HS : Hid (l[i]? = some s) := Lib.hid (by rw [List.getElem?_eq_getElem hil, hs])
      obtain ⟨b, off, rfl, hcell⟩ := HK.out (fun e => by rw [e] at hil; exact absurd hil (Nat.not_lt_zero _))
      have q0 := hcell i hil
      rw [hs] at q0
      unfold str at q0
      obtain ⟨S, hS⟩ : ∃ S : ByteArray, ⟨s.toArray⟩ = S := ⟨_, rfl⟩
      have HZ : Hid (S.size = s.length) := Lib.hid (by rw [← hS]; rfl)
      rw [hS] at q0
      clear hcell hs hS hil
      by_cases hbig : (80 : Int) < (S.size : Int)
      · go_wp2
        go_ret
        exact ⟨.inl rfl, rfl⟩
      · have HA2 : Hid (∀ j r, j < i + 1 → l[j]? = some r → r.length ≤ 80) := Lib.hid (fun j r hj hr => by
          rcases Nat.lt_or_ge j i with h | h
          · exact HA.out j r h hr
          · have : j = i := by omega
            subst this
            have := HS.out
            rw [hr] at this
            injection this with this
            subst this
            have := HZ.out
            omega)
        go_wp2
        go_roundg G
        case rel => exact ⟨i + 1, by omega, by go_num, HA2, rfl⟩
        case measure => omega
end Bk
end Go.Proofs.YtkiipaaaakhhfaaGreatDoor
end
section
namespace Go.Proofs.YtkiipaaaakhhfaaGreatDoor
open Go Go.RowKit
namespace Bk
set_option maxRecDepth 100000
set_option linter.unusedVariables false
set_option linter.unusedSimpArgs false
theorem OwnS.more {w w1 w2 : World} {B : Nat} {L : List Str} {x : Str} {u v' : Value} {o : Obj} (hB : w.heap.size ≤ B) (hown : OwnS w1 B u L) (hbw : Below w.heap.size w w1)
    (hown' : w2.ownsRow B 9 1 v' (L.length + 1) (L.map str ++ [str x])) (hgrow : (w1.alloc o).grownBy w2 u.ownBlock) : OwnS w2 B v' (L ++ [x]) ∧ Below w.heap.size w w2 := by
  have hsz := hbw.size
  refine ⟨?_, (hbw.alloc (by omega) _).grown hgrow (by simp; omega) (fun k hk => Nat.le_trans hB (hown.lt k hk).1)⟩
  unfold OwnS
  rw [List.length_append, List.map_append]
  exact hown'
theorem OwnS.form {w : World} {B : Nat} {v : Value} {L : List Str} (h : OwnS w B v L) : ∃ a c, v = .slice a L.length c := by
  rcases h.2 with ⟨rfl, e⟩ | ⟨g, cap, cur, rfl, _⟩
  · exact ⟨none, 0, by rw [e]⟩
  · exact ⟨_, _, rfl⟩
theorem InS.one {w : World} {C : Nat → Prop} {b : Blk} {v : Value} (h : InS w C [b] v) : ∃ bb off cp L, v = .slice (some ⟨bb, off, none⟩) 1 cp ∧ Cells9 w bb off b.ow L ∧ InS w C b.kids L := by
  obtain ⟨a, cap, rfl, _, h | ⟨bb, off, rfl, _, hc⟩⟩ := h
  · cases h
  · obtain ⟨L, q, g⟩ := hc.get (i := 0) rfl
    rw [Nat.zero_mul, Nat.add_zero] at q
    exact ⟨bb, off, cap, L, rfl, q, g.kids⟩
theorem InS.any {w : World} {C : Nat → Prop} {l : List Blk} {v : Value} (h : InS w C l v) : InS w (fun _ => True) l v := h.carry (fun _ _ _ _ _ => trivial) fun _ _ _ _ h => h
end Bk
end Go.Proofs.YtkiipaaaakhhfaaGreatDoor
end
section
set_option linter.unusedVariables false
set_option linter.unusedSimpArgs false
set_option maxRecDepth 100000
namespace Go.Proofs.YtkiipaaaakhhfaaGreatDoor
namespace Bk
def lowU (c : UInt8) : Prop := 97 ≤ c.toNat ∧ c.toNat ≤ 122
def LowT (s : Str) : Prop := s ≠ [] ∧ ∀ c ∈ s, lowU c
theorem low_ne {c d : UInt8} (h : lowU c) (hd : ¬ (97 ≤ d.toNat ∧ d.toNat ≤ 122)) : c ≠ d := fun e => hd (e ▸ h)
theorem low_bl {c : UInt8} (h : lowU c) : bl c = false := by
  unfold bl
  rw [beq_eq_false_iff_ne.2 (low_ne h (by decide)), beq_eq_false_iff_ne.2 (low_ne h (by decide))]; rfl
theorem low_wht {c : UInt8} (h : lowU c) : Cl.wht c = false := by
  unfold Cl.wht
  have h1 : decide (c.toNat ≤ 13) = false := decide_eq_false (by have := h.1; omega)
  rw [beq_eq_false_iff_ne.2 (low_ne h (by decide)), h1, Bool.and_false]; rfl
theorem low_head {s : Str} (h : LowT s) : ∃ c t, s = c :: t ∧ lowU c ∧ ∀ d ∈ t, lowU d := by
  cases s with
  | nil => exact absurd rfl h.1
  | cons c t => exact ⟨c, t, rfl, h.2 c List.mem_cons_self, fun d hd => h.2 d (List.mem_cons_of_mem _ hd)⟩
theorem rgt_last {x : Str} {c : UInt8} (h : Cl.wht c = false) : Cl.rgt (x ++ [c]) = x ++ [c] := by
  unfold Cl.rgt
  rw [List.reverse_append, List.reverse_singleton, List.singleton_append, List.dropWhile_cons_of_neg (by rw [h]; exact Bool.false_ne_true)]
  simp
theorem low_last {s : Str} (h : LowT s) : ∃ x c, s = x ++ [c] ∧ lowU c := by
  have e := List.dropLast_concat_getLast h.1
  exact ⟨_, _, e.symm, h.2 _ (List.getLast_mem h.1)⟩
theorem lines_cons (s : Str) (t : Str) (l : List Str) : lines (s :: t :: l) = s ++ 10 :: lines (t :: l) := rfl
theorem lines_last : ∀ {l : List Str}, l ≠ [] → (∀ s ∈ l, LowT s) → ∃ x c, lines l = x ++ [c] ∧ lowU c
  | [], h, _ => absurd rfl h
  | [s], _, h => low_last (h s (by simp))
  | s :: t :: l, _, h => by
    obtain ⟨x, c, e, hc⟩ := lines_last (l := t :: l) (by simp) (fun y hy => h y (List.mem_cons_of_mem _ hy))
    exact ⟨s ++ 10 :: x, c, by rw [lines_cons, e]; simp, hc⟩
theorem lines_head {l : List Str} (h : l ≠ []) (hl : ∀ s ∈ l, LowT s) : ∃ c t, lines l = c :: t ∧ lowU c := by
  match l, h with
  | [s], _ =>
    obtain ⟨c, t, e, hc, _⟩ := low_head (hl s (by simp))
    exact ⟨c, t, e, hc⟩
  | s :: t :: l, _ =>
    obtain ⟨c, u, e, hc, _⟩ := low_head (hl s (by simp))
    exact ⟨c, u ++ 10 :: lines (t :: l), by rw [lines_cons, e]; rfl, hc⟩
theorem body_low {l : List Str} (h : l ≠ []) (hl : ∀ s ∈ l, LowT s) : bodyT l = lines l := by
  obtain ⟨x, c, e, hc⟩ := lines_last h hl
  unfold bodyT
  rw [e]
  exact rgt_last (low_wht hc)
def DefsOk {ρ : Type} (X : Scan ρ) : Prop := ∀ s : Str, s.head? ≠ some 91 → X.defs s = ([], s)
theorem plain_low {ρ : Type} {X : Scan ρ} (hX : DefsOk X) {l : List Str} (h : l ≠ []) (hl : ∀ s ∈ l, LowT s) : PlainT X l := by
  obtain ⟨c, t, e, hc⟩ := lines_head h hl
  refine ⟨?_, by rw [e]; simp⟩
  rw [body_low h hl, e]
  refine hX _ ?_
  intro e2
  injection e2 with e2
  exact low_ne hc (by decide) e2
theorem para_low {ρ : Type} {X : Scan ρ} (hX : ∀ s, LowT s → TextOk X s) {s : Str} (h : LowT s) : ParaOk X s := by
  obtain ⟨c, t, e, hc, _⟩ := low_head h
  exact ⟨⟨c, t, e, low_bl hc, low_wht hc, low_ne hc (by decide), low_ne hc (by decide)⟩, hX s h⟩
end Bk
end Go.Proofs.YtkiipaaaakhhfaaGreatDoor
end
section
set_option linter.unusedVariables false
set_option linter.unusedSimpArgs false
set_option maxRecDepth 100000
namespace Go.Proofs.YtkiipaaaakhhfaaGreatDoor
namespace Bk
theorem run_none {c x : UInt8} (t : Str) (h : x ≠ c) : Sc.runN c (x :: t) = 0 := Sc.runN_miss t h
theorem atx_not {x : UInt8} (t : Str) (h : x ≠ 35) : (Sc.atxP (x :: t)).1 = 0 := by
  unfold Sc.atxP
  rw [run_none t h, if_neg (by omega)]
theorem fence_not {x : UInt8} (t : Str) (h1 : x ≠ 96) (h2 : x ≠ 126) : (Sc.fenceP (x :: t)).2.1 = 0 := by
  unfold Sc.fenceP
  simp only []
  rw [if_neg (fun e => by rcases e.1 with e | e; exact h1 e; exact h2 e)]
theorem rule_not {x : UInt8} (t : Str) (h1 : x ≠ 42) (h2 : x ≠ 45) (h3 : x ≠ 95) : Sc.ruleP (x :: t) = false := by
  unfold Sc.ruleP
  simp only []
  have : ([42, 45, 95] : List UInt8).contains x = false := by
    rw [List.contains_cons, List.contains_cons, List.contains_cons, List.contains_nil, beq_eq_false_iff_ne.2 h1, beq_eq_false_iff_ne.2 h2, beq_eq_false_iff_ne.2 h3]; rfl
  rw [this]; rfl
theorem set_not {x : UInt8} (t : Str) (h1 : x ≠ 61) (h2 : x ≠ 45) : Sc.setP (x :: t) = 0 := by
  have e : ∀ c : UInt8, x ≠ c → Sc.closesP (x :: t) c 1 = false := fun c hc => by
    unfold Sc.closesP
    rw [run_none t hc]
    rfl
  unfold Sc.setP
  rw [e 61 h1, e 45 h2, if_neg Bool.false_ne_true, if_neg Bool.false_ne_true]
theorem bul_not {x : UInt8} (t : Str) (h1 : x ≠ 45) (h2 : x ≠ 43) (h3 : x ≠ 42) : Sc.bulP (x :: t) = 0 := by
  unfold Sc.bulP
  simp only []
  have : ([45, 43, 42] : List UInt8).contains x = false := by
    rw [List.contains_cons, List.contains_cons, List.contains_cons, List.contains_nil, beq_eq_false_iff_ne.2 h1, beq_eq_false_iff_ne.2 h2, beq_eq_false_iff_ne.2 h3]; rfl
  rw [this, if_neg (fun e => by cases e.1)]
theorem ord_not {x : UInt8} (t : Str) (h : Sc.digU x = false) : (Sc.ordP (x :: t)).2.2 = 0 := by
  have hd : Sc.digN (x :: t) = 0 := by
    unfold Sc.digN
    rw [List.takeWhile_cons_of_neg (by rw [h]; exact Bool.false_ne_true)]; rfl
  unfold Sc.ordP
  rw [hd, List.drop_zero]
  simp only []
  rw [if_neg (by omega)]
theorem low_dig {c : UInt8} (h : lowU c) : Sc.digU c = false := by
  unfold Sc.digU Sc.digi
  have := h.1
  rw [decide_eq_false (show ¬ (c.toNat : Int) ≤ 57 by omega), Bool.and_false]
end Bk
end Go.Proofs.YtkiipaaaakhhfaaGreatDoor
end
section
namespace Go.Proofs.YtkiipaaaakhhfaaGreatDoor
open Go Go.RowKit
namespace Tx
set_option maxRecDepth 100000
set_option linter.unusedVariables false
set_option linter.unusedSimpArgs false
def OwnL (w : World) (B : Nat) (v : Value) (L : List (List UInt8)) : Prop := w.ownsRow B 9 1 v L.length (L.map str)
theorem OwnL.ssl {w : World} {B : Nat} {v : Value} {L : List (List UInt8)} (h : OwnL w B v L) (hl : L.length ≤ 9223372036854775807) : SSl w v L := by
  unfold OwnL at h
  have h0 := h
  rcases h.2 with ⟨rfl, h1⟩ | ⟨g, cap, cur, rfl, _, hg, hn, _, hs, hc⟩
  · have : L = [] := List.length_eq_zero_iff.1 h1
    subst this
    exact ⟨none, 0, rfl, hl, fun h => absurd rfl h⟩
  · refine ⟨some ⟨g, 0, none⟩, cap, rfl, hl, fun _ => ⟨g, 0, rfl, fun i hi => ?_⟩⟩
    have := h0.cellAt i (by omega)
    rw [Nat.zero_add, this]
    simp [List.getElem?_eq_getElem hi]
end Tx
end Go.Proofs.YtkiipaaaakhhfaaGreatDoor
end
section
set_option linter.unusedVariables false
set_option linter.unusedSimpArgs false
namespace Go.Proofs.YtkiipaaaakhhfaaGreatDoor
namespace Tx
theorem lines_cons (b : UInt8) (l : List UInt8) : lines (b :: l) = lineOf (b :: l) :: lines (restOf (b :: l)) := by rw [lines]
end Tx
end Go.Proofs.YtkiipaaaakhhfaaGreatDoor
end
section
namespace Go.Proofs.YtkiipaaaakhhfaaGreatDoor
open Go Go.RowKit
namespace Sc
set_option maxRecDepth 100000
set_option linter.unusedVariables false
set_option linter.unusedSimpArgs false
theorem pre_none {l p : List UInt8} (h : sgn 60 l = none) : Lib.hasPrefix l (60 :: p) = false := by
  cases l with
  | nil => rfl
  | cons c t =>
    have hc : c ≠ 60 := by
      intro e
      rw [e, sgn_self] at h
      cases h
    unfold Lib.hasPrefix
    rw [List.isPrefixOf_cons_cons]
    have : (60 == c) = false := by rw [beq_eq_false_iff_ne]; exact Ne.symm hc
    rw [this]; rfl
theorem htmlS_none {l : List UInt8} (h : sgn 60 l = none) : htmlS l = 0 := by
  have h1 : verP l = false := by unfold verP; rw [h]
  have ht : tagName l = ([], l) := by unfold tagName; rw [h]
  have h2 : knownP l = false := by unfold knownP; rw [ht]; rfl
  have h3 : otherP l = false := by unfold otherP; rw [ht]; rfl
  have h4 : declP l = false := by unfold declP; rw [pre_none h]; rfl
  unfold htmlS
  rw [h1, pre_none h, pre_none h, h4, pre_none h, h2, h3]
  rfl
end Sc
end Go.Proofs.YtkiipaaaakhhfaaGreatDoor
end
section
namespace Go.Proofs.YtkiipaaaakhhfaaGreatDoor
namespace Bk
set_option maxRecDepth 100000
set_option linter.unusedVariables false
set_option linter.unusedSimpArgs false
theorem html_not {x : UInt8} (t : Str) (h : x ≠ 60) : Sc.htmlS (x :: t) = 0 := by
  refine Sc.htmlS_none ?_
  show (if x = 60 then some t else none) = none
  rw [if_neg h]
theorem defsOk : DefsOk (XS defsZ) := fun s hs => by
  show ((Rf.allP s).1.map toRb, (Rf.allP s).2) = ([], s)
  have h0 : (Rf.takeP s).2 = 0 := by
    rcases Nat.eq_zero_or_pos (Rf.takeP s).2 with h | h
    · exact h
    · exact absurd (Rf.take_head h) hs
  rw [Rf.all_end h0]
  rfl
theorem textOk {s : Str} (h : LowT s) : TextOk (XS defsZ) s := by
  obtain ⟨c, t, rfl, hc, _⟩ := low_head h
  refine ⟨atx_not _ (low_ne hc (by decide)), fence_not _ (low_ne hc (by decide)) (low_ne hc (by decide)), html_not t (low_ne hc (by decide)), set_not _ (low_ne hc (by decide)) (low_ne hc (by decide)), rule_not _ (low_ne hc (by decide)) (low_ne hc (by decide)) (low_ne hc (by decide)), ?_⟩
  have hb : Sc.bulP (c :: t) = 0 := bul_not _ (low_ne hc (by decide)) (low_ne hc (by decide)) (low_ne hc (by decide))
  unfold sign
  rw [show (XS defsZ).bul (c :: t) = 0 from hb, if_neg (by omega)]
  exact ord_not _ (low_dig hc)
theorem paraOk {s : Str} (h : LowT s) : ParaOk (XS defsZ) s := para_low (fun s hs => textOk hs) h
theorem plainOk {l : List Str} (h : l ≠ []) (hl : ∀ s ∈ l, LowT s) : PlainT (XS defsZ) l := plain_low defsOk h hl
end Bk
end Go.Proofs.YtkiipaaaakhhfaaGreatDoor
end
section
namespace Go.Proofs.YtkiipaaaakhhfaaGreatDoor
open Go Go.ChangeShapes Go.WideShapes Go.ChangeAt Go.RowKit
namespace Bk
set_option maxRecDepth 100000
theorem open_texts {H : Type} {enc : TypeId × Value → H} {W : World} {v : Value} {d : DataW H} {ps : List MemPlace} {r : Reach} {b0 : Nat} (hval : Value.okWide Tryz.prog W r b0 22 v)
    (h : DataW.Trod enc Tryz.prog W 0 (fun _ => true) true 22 v d ps) : ∃ L : List Str, SSl W v L := by
  obtain ⟨a0, len, cap, rfl⟩ := okWide_slice Tryz.underlying22 hval
  obtain ⟨fuel, hf⟩ := h
  rcases open_strings Tryz.underlying22 Tryz.underlying9 (by kernel_rfl) hf with ⟨hcs, hx⟩ | ⟨a, len', cap', ss, hcs, _, hl, hm, hz, hx, hcell, hws⟩
  · simp [Value.cells] at hcs
    obtain ⟨rfl, rfl, rfl⟩ := hcs
    exact ⟨[], none, 0, rfl, Nat.zero_le _, fun hne => absurd rfl hne⟩
  · simp [Value.cells] at hcs
    obtain ⟨rfl, rfl, rfl⟩ := hcs
    simp only [if_true] at hz
    have hlen : ((ss.take len).map (fun s => s.data.toList)).length = len := by simp; omega
    refine ⟨(ss.take len).map (fun s => s.data.toList), some a, cap, by rw [hlen], by rw [hlen]; omega, fun hne => ?_⟩
    have hpos : 0 < len := by rw [← hlen]; exact List.length_pos_iff.2 hne
    obtain ⟨b, off, spot⟩ := a
    have hspot : spot = none := by simpa [Addr.add] using World.cell?_spot (hcell 0 (by omega))
    subst hspot
    refine ⟨b, off, rfl, fun i hi => ?_⟩
    have hi2 : i < len := by rw [hlen] at hi; exact hi
    have hc := hcell i (by omega)
    rw [add_off] at hc
    rw [hc, List.getD, List.getElem?_eq_getElem (by omega)]
    simp [str]
end Bk
end Go.Proofs.YtkiipaaaakhhfaaGreatDoor
end
section
namespace Go.Proofs.YtkiipaaaakhhfaaGreatDoor
open Go Go.RowKit
namespace Bk
set_option maxRecDepth 100000
set_option linter.unusedVariables false
set_option linter.unusedSimpArgs false
theorem strInfo2 : (Tryz.prog.info? 9).map (fun i => (i.zero, i.size, i.bytes)) = some (some (.string ByteArray.empty), 1, 16) := by kernel_rfl
theorem wpList_append_lines {w : World} {ops : Array Oper} {rest : List Oper} {o : Oper} {a : Act} {Q : Exit → Act → World → Prop} (hgd : o.guard = none) (s x : Operand)
    (ho : o.op = .call { callee := .builtin .append, args := #[s, x], argTypes := #[22, 22] }) (B : Nat) (u v : Value) (L l : List Str) (hs : a.eval s = u) (hx : a.eval x = v)
    (hown : OwnS w B u L) (hl : SSl w v l) (hz : L.length + l.length ≤ 1000000) (hB : B ≤ w.heap.size)
    (h : ∀ u' w', OwnS w' B u' (L ++ l) → Below B w w' → wpList Tryz.prog ops Q rest (a.put o.dst u') w') : wpList Tryz.prog ops Q (o :: rest) a w := by
  obtain ⟨i0, hi, hz0, hz1, hz2⟩ := info_parts strInfo2
  obtain ⟨ao, cap, rfl, hlm, hk⟩ := hl
  cases ao with
  | none =>
    have hl0 : l = [] := by
      cases l with
      | nil => rfl
      | cons y r => obtain ⟨b, off, e, _⟩ := hk (by simp); cases e
    subst hl0
    have hu : ∃ g c, u = .slice g L.length c ∧ L.length ≤ c := by
      rcases hown.2 with ⟨rfl, e⟩ | ⟨g, c, cur, rfl, _, _, hle, _⟩
      · exact ⟨none, 0, by rw [e], by rw [e]; exact Nat.le_refl 0⟩
      · exact ⟨_, c, rfl, hle⟩
    obtain ⟨g, c, rfl, hle⟩ := hu
    refine wpList_plain hgd fun K hK => ?_
    have hr := run_append_nothing (P := Tryz.prog) w 22 22 o.type 9 i0 (show Tryz.prog.underlying 22 = some (.slice 9) from rfl) hi g L.length c hle _ (Src.ofNil (w := w) (show Tryz.prog.underlying 22 = some (.slice 9) from rfl) cap)
    unfold Oper.wp execOp
    simp only [ho, resolve, invoke, builtin, Sem.run_bind, Sem.run_pure, Result.andThen_ok, List.map_toArray, List.map_cons, List.map_nil, hs, hx, List.length_nil, hr]
    exact hK _ _ (h _ _ (by rw [List.append_nil]; exact hown) (Below.refl _ _))
  | some ad =>
    refine wpList_append_own w hgd s x 22 ho B 9 i0 (.string ByteArray.empty) 1 16 rfl hi hz0 hz1 hz2 rfl (by decide) u L.length (L.map str) hs hown ad l.length cap (l.map str) hx (by simp) ?_ ?_ (by unfold maxLen; omega) (by omega) hB ?_
    · intro j y hy
      rw [List.getElem?_map] at hy
      obtain ⟨r, hr, rfl⟩ := Option.map_eq_some_iff.1 hy
      obtain ⟨hj, rfl⟩ := List.getElem?_eq_some_iff.1 hr
      obtain ⟨b, off, e, hc⟩ := hk (fun e => by rw [e] at hj; exact absurd hj (Nat.not_lt_zero _))
      injection e with e
      subst e
      rw [add_off]
      exact hc j hj
    · intro y hy
      obtain ⟨r, _, rfl⟩ := List.mem_map.1 hy
      rfl
    · intro v' w' h1 h2 _
      refine h v' w' ?_ ((Below.refl _ w).grown h2 hB (fun k hk => (hown.lt k hk).1))
      unfold OwnS
      rw [List.length_append, List.map_append]
      exact h1
end Bk
end Go.Proofs.YtkiipaaaakhhfaaGreatDoor
end
section
namespace Go.Proofs.YtkiipaaaakhhfaaGreatDoor
open Go Go.RowKit
namespace Bk
set_option maxRecDepth 100000
set_option linter.unusedVariables false
set_option linter.unusedSimpArgs false
def nlj : List Str → Str
  | [] => []
  | s :: l => 10 :: (s ++ nlj l)
theorem nlj_app : ∀ l m : List Str, nlj (l ++ m) = nlj l ++ nlj m
  | [], m => rfl
  | s :: l, m => by
    rw [List.cons_append]
    show 10 :: (s ++ nlj (l ++ m)) = (10 :: (s ++ nlj l)) ++ nlj m
    rw [nlj_app l m]; simp
theorem nlj_lines : ∀ {l : List Str}, l ≠ [] → nlj l = 10 :: lines l
  | [], h => absurd rfl h
  | [s], _ => by simp [nlj, lines]
  | s :: t :: l, _ => by
    show 10 :: (s ++ nlj (t :: l)) = 10 :: (s ++ 10 :: lines (t :: l))
    rw [nlj_lines (l := t :: l) (by simp)]
theorem nlj_take {l : List Str} {i : Nat} {s : Str} (h : l[i]? = some s) : nlj (l.take (i + 1)) = nlj (l.take i) ++ 10 :: s := by
  rw [List.take_add_one, h, nlj_app]
  show _ ++ (10 :: (s ++ [])) = _
  rw [List.append_nil]
def allP (a b : List Str) : List Str := a ++ [] :: b
theorem allP_a {a b : List Str} {i : Nat} (h : i < a.length) : (allP a b)[i]? = a[i]? := by
  unfold allP
  rw [List.getElem?_append_left h]
theorem allP_m (a b : List Str) : (allP a b)[a.length]? = some [] := by
  unfold allP
  rw [List.getElem?_append_right (Nat.le_refl _), Nat.sub_self]; rfl
theorem allP_b {a b : List Str} {j : Nat} : (allP a b)[a.length + 1 + j]? = b[j]? := by
  unfold allP
  rw [List.getElem?_append_right (by omega), show a.length + 1 + j - a.length = j + 1 by omega]; rfl
theorem allP_fit {a b : List Str} (ha : FewS a) (hb : FewS b) : FitS (allP a b) := by
  refine ⟨by unfold allP; rw [List.length_append, List.length_cons]; have := ha.1; have := hb.1; omega, fun s hs => ?_⟩
  unfold allP at hs
  rcases List.mem_append.1 hs with hs | hs
  · have := ha.2 s hs; omega
  · rcases List.mem_cons.1 hs with rfl | hs
    · exact Nat.zero_le _
    · have := hb.2 s hs; omega
theorem plain_eq (foot : Bool) {a b : List Str} (ha : a ≠ []) (hb : b ≠ []) (hla : ∀ s ∈ a, LowT s) (hlb : ∀ s ∈ b, LowT s) :
    parse (XS defsZ) foot (allP a b) = ([.mk 7 (lines a) [] 0 0 false 0 (a.length - 1) [], .mk 7 (lines b) [] 0 0 false (a.length + 1) (a.length + b.length) []], []) :=
  plain (XS defsZ) foot a b ha hb (fun s hs => paraOk (hla s hs)) (fun s hs => paraOk (hlb s hs)) (plainOk ha hla) (plainOk hb hlb)
set_option maxHeartbeats 16000000 in
theorem plain_law (w : World) (P : Prog11 w (XS defsZ)) (va vb : Value) (a b : List Str) (m : Int) (hla : SSl w va a) (hlb : SSl w vb b) :
    Calls Tryz.prog 7 #[va, vb, .int .i64 m] w fun e w' => e = .returned (.bool true) ∧ Below w.heap.size w w' := by
  have HA := Lib.hid P.awake
  have HFa := Lib.hid (fun W (hW : Below w.heap.size w W) => few_any a va W (hla.keep hW))
  have HFb := Lib.hid (fun W (hW : Below w.heap.size w W) => few_any b vb W (hlb.keep hW))
  have HP := Lib.hid (fun W (hW : Below w.heap.size w W) u (ha : FewS a) (hb : FewS b) (hu : SSl W u (allP a b)) => P.parse W hW u _ m hu (allP_fit ha hb))
  have HSa := Lib.hid (fun W (hW : Below w.heap.size w W) => hla.keep hW)
  have HSb := Lib.hid (fun W (hW : Below w.heap.size w W) => hlb.keep hW)
  obtain ⟨aa, ca, rfl, hma, -⟩ := hla
  obtain ⟨ab, cb, rfl, hmb, -⟩ := hlb
  obtain ⟨NA, hNA⟩ : ∃ N, a.length = N := ⟨_, rfl⟩
  obtain ⟨NB, hNB⟩ : ∃ N, b.length = N := ⟨_, rfl⟩
  rw [hNA] at hma HFa HSa ⊢
  rw [hNB] at hmb HFb HSb ⊢
  have HNA := Lib.hid hNA
  have HNB := Lib.hid hNB
  clear hNA hNB
  unfold maxLen at hma hmb
  go_enter Tryz.func7, Tryz.ntmps7
  go_wp2_with fail
  refine HA.out.mono ?_
  rintro e w1 ⟨rfl, hb1⟩
  have HB1 := Lib.hid hb1
  have HFa1 := Lib.hid (HFa.out w1 hb1)
  have HFb1 := Lib.hid (HFb.out w1 hb1)
  have HSa1 := Lib.hid (HSa.out w1 hb1)
  have HSb1 := Lib.hid (HSb.out w1 hb1)
  clear hb1 HA HFa HFb HSa HSb
  go_wp2_with fail
  refine HFa1.out.mono ?_
  rintro e w2 ⟨he, rfl⟩
  rcases he with rfl | ⟨rfl, hfa⟩
  · go_wp2
    go_ret
    exact ⟨rfl, HB1.out⟩
  have HWa := Lib.hid hfa
  clear hfa
  go_wp2_with fail
  refine HFb1.out.mono ?_
  rintro e w2 ⟨he, rfl⟩
  rcases he with rfl | ⟨rfl, hfb⟩
  · go_wp2
    go_ret
    exact ⟨rfl, HB1.out⟩
  have HWb := Lib.hid hfb
  clear hfb
  rcases Nat.eq_zero_or_pos NA with rfl | hNA0
  · go_wp2
    go_ret
    exact ⟨rfl, HB1.out⟩
  have hNAz : ¬ (NA : Int) = 0 := by omega
  have hNAb : ((NA : Int) == 0) = false := beq_eq_false_iff_ne.2 hNAz
  rcases Nat.eq_zero_or_pos NB with rfl | hNB0
  · go_wp2
    go_ret
    exact ⟨rfl, HB1.out⟩
  have hNBz : ¬ (NB : Int) = 0 := by omega
  have hNBb : ((NB : Int) == 0) = false := beq_eq_false_iff_ne.2 hNBz
  have hNA40 : NA ≤ 40 := by rw [← HNA.out]; exact HWa.out.1
  have hNB40 : NB ≤ 40 := by rw [← HNB.out]; exact HWb.out.1
  have HC1 : Hid (OwnS (w1.alloc (.cells #[] 9)) w1.heap.size (.slice (some ⟨w1.heap.size, 0, none⟩) 0 0) []) := Lib.hid ⟨rfl, .inr ⟨w1.heap.size, 0, _, rfl, Nat.le_refl _, heap_alloc_new w1 _, Nat.le_refl _, by decide, rfl, rfl⟩⟩
  have HS2 := Lib.hid (HSa1.out.keep ((Below.refl _ w1).alloc (Nat.le_refl _) (.cells #[] 9)))
  go_wp2_with (at_builtin; refine wpList_append_lines rfl _ _ rfl w1.heap.size (.slice (some ⟨w1.heap.size, 0, none⟩) 0 0) (.slice aa NA ca) [] a rfl rfl HC1.out HS2.out ?e3 (by rw [World.size_alloc]; exact Nat.le_succ _) ?_)
  case e3 => have := HNA.out; first | omega | (simp only [List.length_nil]; omega)
  intro u2 w2 hown2 hb2
  obtain ⟨a2, c2, e2⟩ := OwnS.form (L := a) hown2
  rw [HNA.out] at e2
  subst e2
  have HO2 : Hid (OwnS (w2.alloc (.cells #[.string ⟨#[]⟩] 9)) w1.heap.size (.slice a2 NA c2) a) := Lib.hid (World.ownsRow.alloc hown2 _)
  have HX2 : Hid (Below w1.heap.size w1 w2) := Lib.hid (((Below.refl _ w1).alloc (Nat.le_refl _) (.cells #[] 9)).trans hb2)
  have HS3 : Hid (SSl (w2.alloc (.cells #[.string ⟨#[]⟩] 9)) (.slice (some ⟨w2.heap.size, 0, none⟩) 1 1) [[]]) := Lib.hid (ssl_new w2 [[]] (by decide))
  have HSz : Hid (w1.heap.size ≤ (w2.alloc (.cells #[.string ⟨#[]⟩] 9)).heap.size) := Lib.hid (by rw [World.size_alloc]; have := HX2.out.size; omega)
  clear hown2 hb2
  go_wp2_with (at_builtin; refine wpList_append_lines rfl _ _ rfl w1.heap.size (.slice a2 NA c2) (.slice (some ⟨w2.heap.size, 0, none⟩) 1 1) a [[]] rfl rfl HO2.out HS3.out ?f3 HSz.out ?_)
  case f3 => have := HNA.out; first | omega | (simp only [List.length_cons, List.length_nil]; omega)
  intro u3 w3 hown3 hb3
  obtain ⟨a3, c3, e3⟩ := OwnS.form (L := a ++ [[]]) hown3
  have hl3 : (a ++ [[]]).length = NA + 1 := by rw [List.length_append, HNA.out]; rfl
  rw [hl3] at e3
  subst e3
  have HX3 : Hid (Below w1.heap.size w1 w3) := Lib.hid ((HX2.out.alloc HX2.out.size _).trans hb3)
  have HO3 : Hid (OwnS w3 w1.heap.size (.slice a3 (NA + 1) c3) (a ++ [[]])) := Lib.hid hown3
  have HS4 := Lib.hid (HSb1.out.keep HX3.out)
  have HL3 := Lib.hid hl3
  clear hown3 hb3 hl3
  go_wp2_with (at_builtin; refine wpList_append_lines rfl _ _ rfl w1.heap.size (.slice a3 (NA + 1) c3) (.slice ab NB cb) (a ++ [[]]) b rfl rfl HO3.out HS4.out ?g3 HX3.out.size ?_)
  case g3 => have := HNB.out; have := HL3.out; first | omega | (simp only [List.length_append, List.length_cons, List.length_nil] at *; omega)
  intro u4 w4 hown4 hb4
  replace hown4 : OwnS w4 w1.heap.size u4 (allP a b) := hown4
  obtain ⟨a4, c4, e4⟩ := OwnS.form hown4
  obtain ⟨M, hM⟩ : ∃ M, NA + 1 + NB = M := ⟨_, rfl⟩
  have hl4 : (allP a b).length = M := by unfold allP; rw [List.length_append, List.length_cons, HNA.out, HNB.out]; omega
  rw [hl4] at e4
  subst e4
  have HX4 : Hid (Below w1.heap.size w1 w4) := Lib.hid (HX3.out.trans hb4)
  have HW4 : Hid (Below w.heap.size w w4) := Lib.hid (below_later HB1.out HX4.out)
  have HS5 := Lib.hid hown4.ssl
  have HL4 := Lib.hid hl4
  have HCell := Lib.hid (fun (i : Nat) (s : Str) (hs : (allP a b)[i]? = some s) => (by
    have hil : i < (allP a b).length := (List.getElem?_eq_some_iff.1 hs).1
    obtain ⟨ao, cap, e1, _, hk⟩ := HS5.out
    obtain ⟨g, off, e, hcell⟩ := hk (fun e => by rw [e] at hil; exact absurd hil (Nat.not_lt_zero _))
    injection e1 with e1 _ _
    have q := hcell i hil
    rw [List.getElem?_eq_getElem hil] at hs
    injection hs with hs
    rw [hs] at q
    exact ⟨g, off, e1.trans e, q⟩ : ∃ g off, a4 = some ⟨g, off, none⟩ ∧ w4.cell? ⟨g, off + i, none⟩ = some (str s)))
  have HFit := Lib.hid (allP_fit HWa.out HWb.out)
  clear hown4 hb4 hl4 HO2 HO3 HS2 HS3 HS4 HC1
  go_wp2
  go_loopg [9, 10, 11] M (fun G s9 s10 s11 wr => ∃ (i : Nat) (Z Y : ByteArray), i + G = M ∧ s11 = .int .i64 (i : Int) ∧ s9 = .string Z ∧ s10 = .string Y ∧ Hid (Z.data.toList = nlj (a.take i)) ∧ Hid (Y.data.toList = nlj (b.take (i - (NA + 1)))) ∧ Z.size ≤ 201 * i ∧ Y.size ≤ 201 * i ∧ Hid (∀ (j : Nat) (s : Str), j < i → (allP a b)[j]? = some s → (∀ c ∈ s, lowU c) ∧ (s = [] → j = NA)) ∧ wr = w4)
  case atStart => exact ⟨0, ⟨#[]⟩, ⟨#[]⟩, by omega, rfl, rfl, rfl, Lib.hid rfl, Lib.hid (by rw [Nat.zero_sub]; rfl), by decide, by decide, Lib.hid (fun j s hj => absurd hj (Nat.not_lt_zero _)), rfl⟩
  case round =>
    obtain ⟨i, Z, Y, hig, rfl, rfl, rfl, HZ, HY, hZs, hYs, HLw, hwr⟩ := hrel
    subst wr
    cases gk with
    | zero =>
      obtain rfl : i = M := by omega
      have hza : Z.data.toList = nlj a := by rw [HZ.out, List.take_of_length_le (by rw [HNA.out]; omega)]
      have hyb : Y.data.toList = nlj b := by rw [HY.out, List.take_of_length_le (by rw [HNB.out]; omega)]
      have hla : ∀ s ∈ a, LowT s := fun s hs => by
        obtain ⟨j, hj⟩ := List.mem_iff_getElem?.1 hs
        have hja := (List.getElem?_eq_some_iff.1 hj).1
        rw [HNA.out] at hja
        obtain ⟨h1, h2⟩ := HLw.out j s (by omega) (by rw [allP_a (by rw [HNA.out]; exact hja)]; exact hj)
        exact ⟨fun e => by have := h2 e; omega, h1⟩
      have hlb : ∀ s ∈ b, LowT s := fun s hs => by
        obtain ⟨j, hj⟩ := List.mem_iff_getElem?.1 hs
        have hjb := (List.getElem?_eq_some_iff.1 hj).1
        rw [HNB.out] at hjb
        obtain ⟨h1, h2⟩ := HLw.out (NA + 1 + j) s (by omega) (by have := allP_b (a := a) (b := b) (j := j); rw [HNA.out] at this; rw [this]; exact hj)
        exact ⟨fun e => by have := h2 e; omega, h1⟩
      have hane : a ≠ [] := fun e => by have := HNA.out; rw [e] at this; simp at this; omega
      have hbne : b ≠ [] := fun e => by have := HNB.out; rw [e] at this; simp at this; omega
      have HQ := Lib.hid (plain_eq (P.foot m) hane hbne hla hlb)
      have HPQ := Lib.hid (HP.out w4 HW4.out _ HWa.out HWb.out HS5.out)
      rw [HQ.out] at HPQ
      obtain ⟨L0, hL0⟩ : ∃ L : ByteArray, ⟨(lines a).toArray⟩ = L := ⟨_, rfl⟩
      obtain ⟨L1, hL1⟩ : ∃ L : ByteArray, ⟨(lines b).toArray⟩ = L := ⟨_, rfl⟩
      have hj0 : (⟨#[10]⟩ : ByteArray) ++ L0 = Z := by
        apply bytes_ext
        rw [ByteArray.data_append, Array.toList_append, hza, nlj_lines hane, ← hL0]
        rfl
      have hj1 : (⟨#[10]⟩ : ByteArray) ++ L1 = Y := by
        apply bytes_ext
        rw [ByteArray.data_append, Array.toList_append, hyb, nlj_lines hbne, ← hL1]
        rfl
      have hz1 : Z.size ≤ 20000 := by omega
      have hy1 : Y.size ≤ 20000 := by omega
      have hl0s : L0.size ≤ 20000 := by have : Z.size = 1 + L0.size := by rw [← hj0, ByteArray.size_append]; rfl
                                        omega
      have hl1s : L1.size ≤ 20000 := by have : Y.size = 1 + L1.size := by rw [← hj1, ByteArray.size_append]; rfl
                                        omega
      have hsz1 : (⟨#[10]⟩ : ByteArray).size = 1 := rfl
      have HL0 := Lib.hid hL0
      have HL1 := Lib.hid hL1
      clear hL0 hL1 hza hyb hla hlb hane hbne hZs hYs
      go_wp2_with fail
      refine HPQ.out.mono ?_
      rintro e w5 ⟨ub, rb, rfl, hin, hcn, hr, hb5, _⟩
      have HW5 := Lib.hid (below_later HW4.out hb5)
      obtain ⟨ab, cb, rfl, _, h | ⟨bb, off2, rfl, _, hc⟩⟩ := hin
      · cases h
      obtain ⟨L1', q1, _⟩ := hc.get (i := 0) rfl
      obtain ⟨L2', q2, _⟩ := hc.get (i := 1) rfl
      rw [Nat.zero_mul, Nat.add_zero] at q1
      rw [Nat.one_mul] at q2
      obtain ⟨ar, cr, rfl⟩ := P.formR hr
      rw [P.len0]
      obtain ⟨d0, d1, _, _, _, _, _, d7, _⟩ := q1
      obtain ⟨f0, f1, _, _, _, _, f6, _, _⟩ := q2
      replace d0 : w5.cell? ⟨bb, off2, none⟩ = some (.int .i64 7) := d0
      replace d1 : w5.cell? ⟨bb, off2 + 1, none⟩ = some (.string L0) := by rw [← HL0.out]; exact d1
      replace d7 : w5.cell? ⟨bb, off2 + 7, none⟩ = some (.int .i64 ((NA - 1 : Nat) : Int)) := by rw [← HNA.out]; exact d7
      replace f0 : w5.cell? ⟨bb, off2 + 9, none⟩ = some (.int .i64 7) := f0
      replace f1 : w5.cell? ⟨bb, off2 + 9 + 1, none⟩ = some (.string L1) := by rw [← HL1.out]; exact f1
      replace f6 : w5.cell? ⟨bb, off2 + 9 + 6, none⟩ = some (.int .i64 ((NA + 1 : Nat) : Int)) := by rw [← HNA.out]; exact f6
      obtain ⟨n1, hn1⟩ : ∃ n, NA - 1 = n := ⟨_, rfl⟩
      obtain ⟨n2, hn2⟩ : ∃ n, NA + 1 = n := ⟨_, rfl⟩
      rw [hn1] at d7
      rw [hn2] at f6
      have s5 : IntKind.i64.wrap ((NA : Int) - 1) = (n1 : Int) := by rw [IntWalk.i64_in _ (by omega)]; omega
      have s6 : IntKind.i64.wrap ((NA : Int) + 1) = (n2 : Int) := by rw [IntWalk.i64_in _ (by omega)]; omega
      clear hcn hr hb5 hc hn1 hn2
      go_wp2
      go_ret
      exact ⟨rfl, HW5.out⟩
    | succ G =>
      have hlt2 : (i : Int) < (M : Int) := by omega
      have hil : i < (allP a b).length := by rw [HL4.out]; omega
      obtain ⟨s, hs⟩ : ∃ s, (allP a b)[i]? = some s := ⟨_, List.getElem?_eq_getElem hil⟩
      obtain ⟨g, off, e9, q0⟩ := HCell.out i s hs
      subst e9
      have hsz : s.length ≤ 200 := HFit.out.2 s (List.mem_of_getElem? hs)
      unfold str at q0
      obtain ⟨S, hS⟩ : ∃ S : ByteArray, ⟨s.toArray⟩ = S := ⟨_, rfl⟩
      have hSd : S.data.toList = s := by rw [← hS]
      have hSz : S.size ≤ 200 := by rw [← hS]; exact hsz
      rw [hS] at q0
      have HSd := Lib.hid hSd
      have HS := Lib.hid hs
      have s5 : IntKind.i64.wrap ((i : Int) + 1) = ((i + 1 : Nat) : Int) := by rw [IntWalk.i64_in _ (by omega)]; omega
      clear hS hSd hs hsz hil
      go_wp2
      go_loopg [12] S.size (fun G2 s12 wr => ∃ (k : Nat), k + G2 = S.size ∧ s12 = .int .i64 (k : Int) ∧ Hid (∀ (j : Nat) (c : UInt8), j < k → S.data.toList[j]? = some c → lowU c) ∧ wr = w4)
      case atStart => exact ⟨0, by omega, rfl, Lib.hid (fun j c hj => absurd hj (Nat.not_lt_zero _)), rfl⟩
      case round =>
        obtain ⟨k, hkg, rfl, HLo, hwr⟩ := hrel
        subst wr
        cases gk with
        | zero =>
          obtain rfl : k = S.size := by omega
          have hall : ∀ c ∈ s, lowU c := fun c hc => by
            obtain ⟨j, hj⟩ := List.mem_iff_getElem?.1 hc
            rw [← HSd.out] at hj
            have := (List.getElem?_eq_some_iff.1 hj).1
            rw [Array.length_toList] at this
            exact HLo.out j c this hj
          have HNext : Hid ((s = [] → i = NA) → ∀ (j : Nat) (s : Str), j < i + 1 → (allP a b)[j]? = some s → (∀ c ∈ s, lowU c) ∧ (s = [] → j = NA)) := Lib.hid (fun h j s2 hj h2 => by
            rcases Nat.lt_or_ge j i with h3 | h3
            · exact HLw.out j s2 h3 h2
            · obtain rfl : j = i := by omega
              have h4 := HS.out
              rw [h2] at h4
              injection h4 with h4
              subst h4
              exact ⟨hall, h⟩)
          clear hall HLo
          by_cases hs0 : s = []
          · have g1 : S.toList.isEmpty = true := by rw [Lib.toList_data, HSd.out, hs0]; rfl
            by_cases hiN : i = NA
            · have n1 : ((i : Int) != (NA : Int)) = false := by rw [hiN]; simp
              have n2 : ((i : Int) == (NA : Int)) = true := by rw [hiN]; simp
              have n3 : ¬ (i : Int) < (NA : Int) := by omega
              have n4 : ¬ (NA : Int) < (i : Int) := by omega
              have HN2 := Lib.hid (HNext.out fun _ => hiN)
              have HZ2 : Hid (Z.data.toList = nlj (a.take (i + 1))) := Lib.hid (by rw [HZ.out, List.take_of_length_le (by rw [HNA.out]; omega), List.take_of_length_le (by rw [HNA.out]; omega)])
              have HY2 : Hid (Y.data.toList = nlj (b.take (i + 1 - (NA + 1)))) := Lib.hid (by rw [HY.out, show i + 1 - (NA + 1) = i - (NA + 1) by omega])
              clear hs0
              subst hiN
              go_wp2
              go_roundg G
              case rel => exact ⟨i + 1, Z, Y, by omega, rfl, rfl, rfl, HZ2, HY2, by omega, by omega, HN2, rfl⟩
              case measure => omega
            · have n1 : ((i : Int) != (NA : Int)) = true := bne_iff_ne.2 (by omega)
              have n2 : ((i : Int) == (NA : Int)) = false := beq_eq_false_iff_ne.2 (by omega)
              have n3 : ¬ (i : Int) = (NA : Int) := by omega
              clear hs0
              go_wp2
              go_ret
              exact ⟨rfl, HW4.out⟩
          have g1 : S.toList.isEmpty = false := by
            rw [Lib.toList_data, HSd.out]
            cases h : s with
            | nil => exact absurd h hs0
            | cons _ _ => rfl
          have HN2 := Lib.hid (HNext.out fun e => absurd e hs0)
          have hiN : i ≠ NA := fun e => by
            have h1 := HS.out
            rw [e, ← HNA.out, allP_m] at h1
            injection h1 with h1
            exact hs0 h1.symm
          have hsz1 : (⟨#[10]⟩ : ByteArray).size = 1 := rfl
          have hzb : Z.size ≤ 20000 := by omega
          have hyb : Y.size ≤ 20000 := by omega
          by_cases hlt : i < NA
          · have n3 : (i : Int) < (NA : Int) := by omega
            have n4 : ¬ (NA : Int) < (i : Int) := by omega
            have hai : a[i]? = some s := by rw [← allP_a (b := b) (by rw [HNA.out]; exact hlt)]; exact HS.out
            obtain ⟨J1, hJ1⟩ : ∃ J, Z ++ (⟨#[10]⟩ : ByteArray) = J := ⟨_, rfl⟩
            obtain ⟨J2, hJ2⟩ : ∃ J, J1 ++ S = J := ⟨_, rfl⟩
            have hj1 : J1.size = Z.size + 1 := by rw [← hJ1, ByteArray.size_append]; rfl
            have hj2 : J2.size = J1.size + S.size := by rw [← hJ2, ByteArray.size_append]
            have hj1b : J1.size ≤ 30000 := by omega
            have hj2b : J2.size ≤ 30000 := by omega
            have HJ2 : Hid (J2.size ≤ 201 * (i + 1)) := Lib.hid (by omega)
            have HYs2 : Hid (Y.size ≤ 201 * (i + 1)) := Lib.hid (by omega)
            have HZ2 : Hid (J2.data.toList = nlj (a.take (i + 1))) := Lib.hid (by
              rw [nlj_take hai, ← hJ2, ← hJ1, ByteArray.data_append, ByteArray.data_append, Array.toList_append, Array.toList_append, HZ.out, HSd.out]
              show (nlj (a.take i) ++ [10]) ++ s = _
              rw [List.append_assoc]; rfl)
            have HY2 : Hid (Y.data.toList = nlj (b.take (i + 1 - (NA + 1)))) := Lib.hid (by rw [HY.out, show i + 1 - (NA + 1) = i - (NA + 1) by omega])
            clear hs0 hj1 hj2 hai
            go_wp2
            go_roundg G
            case rel => exact ⟨i + 1, J2, Y, by omega, rfl, rfl, rfl, HZ2, HY2, HJ2.out, HYs2.out, HN2, rfl⟩
            case measure => omega
          · have n3 : ¬ (i : Int) < (NA : Int) := by omega
            have n4 : (NA : Int) < (i : Int) := by omega
            have hbi : b[i - (NA + 1)]? = some s := by
              rw [← allP_b (a := a), HNA.out, show NA + 1 + (i - (NA + 1)) = i by omega]
              exact HS.out
            obtain ⟨J1, hJ1⟩ : ∃ J, Y ++ (⟨#[10]⟩ : ByteArray) = J := ⟨_, rfl⟩
            obtain ⟨J2, hJ2⟩ : ∃ J, J1 ++ S = J := ⟨_, rfl⟩
            have hj1 : J1.size = Y.size + 1 := by rw [← hJ1, ByteArray.size_append]; rfl
            have hj2 : J2.size = J1.size + S.size := by rw [← hJ2, ByteArray.size_append]
            have hj1b : J1.size ≤ 30000 := by omega
            have hj2b : J2.size ≤ 30000 := by omega
            have HJ2 : Hid (J2.size ≤ 201 * (i + 1)) := Lib.hid (by omega)
            have HZs2 : Hid (Z.size ≤ 201 * (i + 1)) := Lib.hid (by omega)
            have HY2 : Hid (J2.data.toList = nlj (b.take (i + 1 - (NA + 1)))) := Lib.hid (by
              rw [show i + 1 - (NA + 1) = i - (NA + 1) + 1 by omega, nlj_take hbi, ← hJ2, ← hJ1, ByteArray.data_append, ByteArray.data_append, Array.toList_append, Array.toList_append, HY.out, HSd.out]
              show (nlj (b.take (i - (NA + 1))) ++ [10]) ++ s = _
              rw [List.append_assoc]; rfl)
            have HZ2 : Hid (Z.data.toList = nlj (a.take (i + 1))) := Lib.hid (by rw [HZ.out, List.take_of_length_le (by rw [HNA.out]; omega), List.take_of_length_le (by rw [HNA.out]; omega)])
            clear hs0 hj1 hj2 hbi
            go_wp2
            go_roundg G
            case rel => exact ⟨i + 1, Z, J2, by omega, rfl, rfl, rfl, HZ2, HY2, HZs2.out, HJ2.out, HN2, rfl⟩
            case measure => omega
        | succ G2 =>
          have hkS : k < S.size := by omega
          have hlt3 : (k : Int) < (S.size : Int) := by omega
          obtain ⟨x, hx⟩ : ∃ x : UInt8, S[k]'hkS = x := ⟨_, rfl⟩
          have hxl : S.data.toList[k]? = some x := by rw [← hx]; exact Lib.data_getElem? S k hkS
          have HXL := Lib.hid hxl
          have s6 : IntKind.i64.wrap ((k : Int) + 1) = ((k + 1 : Nat) : Int) := by rw [IntWalk.i64_in _ (by omega)]; omega
          clear hxl
          by_cases h97 : (x.toNat : Int) < 97
          · go_wp2
            go_ret
            exact ⟨rfl, HW4.out⟩
          by_cases h122 : (122 : Int) < (x.toNat : Int)
          · go_wp2
            go_ret
            exact ⟨rfl, HW4.out⟩
          have HL2 : Hid (∀ (j : Nat) (c : UInt8), j < k + 1 → S.data.toList[j]? = some c → lowU c) := Lib.hid (fun j c hj hc => by
            rcases Nat.lt_or_ge j k with h | h
            · exact HLo.out j c h hc
            · obtain rfl : j = k := by omega
              have := HXL.out
              rw [hc] at this
              injection this with this
              rw [this]
              exact ⟨by omega, by omega⟩)
          go_wp2
          go_roundg G2
          case rel => exact ⟨k + 1, by omega, rfl, HL2, rfl⟩
          case measure => omega
end Bk
end Go.Proofs.YtkiipaaaakhhfaaGreatDoor
end
