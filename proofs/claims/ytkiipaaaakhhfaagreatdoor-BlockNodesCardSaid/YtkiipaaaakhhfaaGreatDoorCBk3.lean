import Derived.Test.YtkiipaaaakhhfaaGreatDoorCBkL1
import Derived.Deep.AppendLies
import Derived.Test.YtkiipaaaakhhfaaGreatDoorCBk1
import Derived.Test.YtkiipaaaakhhfaaGreatDoorCBk2
import Derived.Maps.AppendAt
section
namespace Go.Proofs.YtkiipaaaakhhfaaGreatDoor
open Go Go.RowKit
namespace Bk
set_option maxRecDepth 100000
set_option linter.unusedVariables false
set_option linter.unusedSimpArgs false
def FitS (l : List Str) : Prop := l.length ≤ 100 ∧ ∀ s ∈ l, s.length ≤ 200
theorem FewS.fit {l : List Str} (h : FewS l) : FitS l := ⟨Nat.le_trans h.1 (by decide), fun s hs => Nat.le_trans (h.2 s hs) (by decide)⟩
def Roomy (u : Value) : Prop := ∃ a n c, u = .slice a n c ∧ n ≤ c ∧ c ≤ maxLen
structure Prog11 (w0 : World) {ρ : Type} (X : Scan ρ) where
 R : World → Value → List ρ → Prop
 foot : Int → Bool
 keepR : ∀ {w w' : World} {v : Value} {l : List ρ}, R w v l → Below w.heap.size w w' → R w' v l
 len : List ρ → Nat
 len0 : len [] = 0
 formR : ∀ {w : World} {v : Value} {l : List ρ}, R w v l → ∃ a c, v = .slice a (len l) c
 sameR : ∀ (w : World) (v v' : Value) (l : List ρ), R w v l → R w v' l → Calls Tryz.prog 23 #[v, v'] w fun e w' => e = .returned (.bool true) ∧ Below w.heap.size w w'
 none : X.defs [] = ([], [])
 parse : ∀ (w : World) (hw : Below w0.heap.size w0 w) (v : Value) (l : List Str) (m : Int), SSl w v l → FitS l → Calls Tryz.prog 13 #[v, .int .i64 m] w fun e w' => ∃ u r, e = .returned (.tuple #[u, r]) ∧ InS w' (fun g => w.heap.size ≤ g) (Bk.parse X (foot m) l).1 u ∧ cntK (Bk.parse X (foot m) l).1 ≤ 1000000000 ∧ R w' r (Bk.parse X (foot m) l).2 ∧ Below w.heap.size w w' ∧ Roomy u
 awake : Calls Tryz.prog 11 #[] w0 fun e w' => e = .returned (.bool true) ∧ Below w0.heap.size w0 w'
end Bk
end Go.Proofs.YtkiipaaaakhhfaaGreatDoor
end
section
set_option linter.unusedVariables false
set_option linter.unusedSimpArgs false
set_option maxRecDepth 100000
namespace Go.Proofs.YtkiipaaaakhhfaaGreatDoor
namespace Bk
theorem skp_rep : ∀ (k m : Nat) (t : Str) (col : Nat), Cl.skp (List.replicate k 32 ++ t) col m = if m ≤ k then (List.replicate (k - m) 32 ++ t, col + m) else Cl.skp t (col + k) (m - k)
 | k, 0, t, col => by
  rw [if_pos (Nat.zero_le _), skp_zero]
  rfl
 | 0, m + 1, t, col => by
  rw [if_neg (by omega)]
  rfl
 | k + 1, m + 1, t, col => by
  rw [List.replicate_succ, List.cons_append, Cl.skp, if_neg (by show ¬ Cl.wd 32 col = 0; rw [Cl.wd_blank]; decide)]
  by_cases h0 : m = 0
  ·subst h0
   rw [if_pos (by rw [Cl.wd_blank]; exact Nat.le_refl _), if_pos (by omega), Cl.wd_blank]
   simp
  ·rw [if_neg (by rw [Cl.wd_blank]; omega), Cl.wd_blank, show m + 1 - 1 = m by omega, skp_rep k m t (col + 1)]
   by_cases h : m ≤ k
   ·rw [if_pos h, if_pos (by omega), show k + 1 - (m + 1) = k - m by omega, show col + 1 + m = col + (m + 1) by omega]
   ·rw [if_neg h, if_neg (by omega), show m + 1 - (k + 1) = m - k by omega, show col + 1 + k = col + (k + 1) by omega]
theorem skp_more : ∀ (l : Str) (col n m : Nat), Cl.skp (Cl.skp l col n).1 (Cl.skp l col n).2 m = Cl.skp l col (n + m)
 | [], col, n, m => by rw [Cl.skp_nil, Cl.skp_nil, Cl.skp_nil]
 | c :: t, col, 0, m => by rw [skp_zero, Nat.zero_add]
 | c :: t, col, n + 1, m => by
  by_cases h0 : Cl.wd c col = 0
  ·have e : ∀ k, Cl.skp (c :: t) col k = (c :: t, col) := fun k => by
    cases k with
    | zero => rw [Cl.skp]
    | succ k => rw [Cl.skp, if_pos h0]
   rw [e (n + 1), e (n + 1 + m)]
   exact e m
  ·by_cases h1 : n + 1 ≤ Cl.wd c col
   ·have e : Cl.skp (c :: t) col (n + 1) = (List.replicate (Cl.wd c col - (n + 1)) 32 ++ t, col + (n + 1)) := by rw [Cl.skp, if_neg h0, if_pos h1]
    rw [e]
    show Cl.skp (List.replicate (Cl.wd c col - (n + 1)) 32 ++ t) (col + (n + 1)) m = _
    rw [skp_rep, show n + 1 + m = (n + m) + 1 by omega, Cl.skp, if_neg h0]
    by_cases h2 : n + m + 1 ≤ Cl.wd c col
    ·rw [if_pos (show m ≤ Cl.wd c col - (n + 1) by omega), if_pos h2, show Cl.wd c col - (n + 1) - m = Cl.wd c col - (n + m + 1) by omega, show col + (n + 1) + m = col + (n + m + 1) by omega]
    ·rw [if_neg (show ¬ m ≤ Cl.wd c col - (n + 1) by omega), if_neg h2, show m - (Cl.wd c col - (n + 1)) = n + m + 1 - Cl.wd c col by omega, show col + (n + 1) + (Cl.wd c col - (n + 1)) = col + Cl.wd c col by omega]
   ·have e : Cl.skp (c :: t) col (n + 1) = Cl.skp t (col + Cl.wd c col) (n + 1 - Cl.wd c col) := by rw [Cl.skp, if_neg h0, if_neg h1]
    rw [e, skp_more t (col + Cl.wd c col) (n + 1 - Cl.wd c col) m, show n + 1 + m = (n + m) + 1 by omega, Cl.skp, if_neg h0, if_neg (by omega), show n + 1 - Cl.wd c col + m = n + m + 1 - Cl.wd c col by omega]
theorem skp_min : ∀ (l : Str) (col n : Nat), Cl.skp l col n = Cl.skp l col (min n (Cl.indC l col))
 | [], col, n => by rw [Cl.skp_nil, Cl.skp_nil]
 | c :: t, col, 0 => by rw [Nat.zero_min]
 | c :: t, col, n + 1 => by
  by_cases h0 : Cl.wd c col = 0
  ·rw [Cl.indC_z c t col h0, Nat.min_zero, skp_zero, Cl.skp, if_pos h0]
  ·have hi := Cl.indC_s c t col _ rfl h0
   by_cases h1 : n + 1 ≤ Cl.wd c col
   ·rw [Nat.min_eq_left (by omega)]
   ·have hp : 0 < min (n + 1) (Cl.indC (c :: t) col) := by omega
    obtain ⟨k, hk⟩ : ∃ k, min (n + 1) (Cl.indC (c :: t) col) = k + 1 := ⟨_, (Nat.succ_pred_eq_of_pos hp).symm⟩
    rw [hk, Cl.skp, if_neg h0, if_neg h1, Cl.skp, if_neg h0]
    have ih := skp_min t (col + Cl.wd c col) (n + 1 - Cl.wd c col)
    by_cases h2 : k + 1 ≤ Cl.wd c col
    ·have h3 : Cl.indC t (col + Cl.wd c col) = 0 := by omega
     have h4 : k + 1 = Cl.wd c col := by omega
     rw [if_pos h2, ih, h3, Nat.min_zero, skp_zero, h4, Nat.sub_self]
     rfl
    ·rw [if_neg h2, ih]
     congr 1
     omega
theorem blank_ind : ∀ (s : Str) (col : Nat), blank s = true ↔ Cl.indB s col = s.length
 | [], col => by simp [blank, Cl.indB]
 | c :: t, col => by
  rw [blank_cons]
  by_cases h : bl c = true
  ·have hw : Cl.wd c col ≠ 0 := by
    unfold bl at h
    rw [Bool.or_eq_true, beq_iff_eq, beq_iff_eq] at h
    unfold Cl.wd
    rcases h with h | h
    ·rw [if_pos h]; decide
    ·rw [if_neg (by rw [h]; decide), if_pos h]; omega
   rw [h, Bool.true_and, Cl.indB_s c t col _ rfl hw, List.length_cons, blank_ind t (col + Cl.wd c col)]
   omega
  ·have h : bl c = false := by simpa using h
   rw [h, Bool.false_and, Cl.indB_z c t col (bl_wd h col), List.length_cons]
   constructor
   ·intro e; cases e
   ·intro e; omega
theorem lft_ind : ∀ (s : Str) (col : Nat), Cl.lft s = Cl.lft (s.drop (Cl.indB s col))
 | [], col => rfl
 | c :: t, col => by
  by_cases h : bl c = true
  ·have hw : Cl.wd c col ≠ 0 := by
    unfold bl at h
    rw [Bool.or_eq_true, beq_iff_eq, beq_iff_eq] at h
    unfold Cl.wd
    rcases h with h | h
    ·rw [if_pos h]; decide
    ·rw [if_neg (by rw [h]; decide), if_pos h]; omega
   rw [Cl.indB_s c t col _ rfl hw, Nat.add_comm 1, List.drop_succ_cons, ← lft_ind t (col + Cl.wd c col)]
   unfold Cl.lft
   rw [List.dropWhile_cons_of_pos (bl_wht h)]
  ·have h : bl c = false := by simpa using h
   rw [Cl.indB_z c t col (bl_wd h col), List.drop_zero]
theorem indCB : ∀ (s : Str) (col : Nat), Cl.indC s col ≤ 4 * Cl.indB s col
 | [], col => Nat.zero_le _
 | c :: t, col => by
  by_cases h : Cl.wd c col = 0
  ·rw [Cl.indC_z c t col h]; omega
  ·rw [Cl.indC_s c t col _ rfl h, Cl.indB_s c t col _ rfl h]
   have := indCB t (col + Cl.wd c col)
   have := Cl.wd_le c col
   omega
def RS (t : Str) (col sk : Nat) : Rest := ⟨(Cl.skp t col sk).1, (Cl.skp t col sk).2⟩
section
variable (t : Str) (c0 sk : Nat)
theorem RS.zero : RS t c0 0 = ⟨t, c0⟩ := by unfold RS; rw [skp_zero]
theorem RS.ind : (RS t c0 sk).ind = Cl.indC t c0 - sk := (Cl.skp_spec t c0 sk).1
theorem RS.aft : (RS t c0 sk).aft = t.drop (Cl.indB t c0) := (Cl.skp_spec t c0 sk).2.2
theorem RS.col (h : sk ≤ Cl.indC t c0) : (RS t c0 sk).col = c0 + sk := by
 have := (Cl.skp_spec t c0 sk).2.1
 show (Cl.skp t c0 sk).2 = _
 rw [this]; omega
theorem RS.without (n : Nat) : ((RS t c0 sk).skip n).s = (Cl.skp t c0 (sk + n)).1 := by
 show (Cl.skp (Cl.skp t c0 sk).1 (Cl.skp t c0 sk).2 n).1 = _
 rw [skp_more]
theorem RS.skip (h : sk ≤ Cl.indC t c0) (n : Nat) : (RS t c0 sk).skip n = RS t c0 (sk + min n (Cl.indC t c0 - sk)) := by
 unfold Rest.skip RS
 rw [skp_more, skp_min t c0 (sk + n)]
 rw [show min (sk + n) (Cl.indC t c0) = sk + min n (Cl.indC t c0 - sk) by omega]
theorem RS.past (h : sk ≤ Cl.indC t c0) (m : Nat) : (RS t c0 sk).past m = RS ((t.drop (Cl.indB t c0)).drop m) (c0 + Cl.indC t c0 + m) 0 := by
 rw [RS.zero]
 unfold Rest.past
 have h1 := RS.aft t c0 sk
 have h2 := RS.ind t c0 sk
 have h3 := RS.col t c0 sk h
 unfold Rest.aft at h1
 unfold Rest.ind at h2
 rw [← List.drop_drop, h1, h2, h3, show c0 + sk + (Cl.indC t c0 - sk) + m = c0 + Cl.indC t c0 + m by omega]
theorem blank_drop (s : Str) (col : Nat) : blank s = true ↔ s.drop (Cl.indB s col) = [] := by
 rw [blank_ind s col, List.drop_eq_nil_iff]
 have := Cl.indB_le s col
 omega
theorem RS.blank : blank (RS t c0 sk).s = true ↔ Cl.indB t c0 = t.length := by
 rw [blank_drop _ (RS t c0 sk).col]
 have h1 := RS.aft t c0 sk
 unfold Rest.aft at h1
 rw [h1, ← blank_drop, blank_ind t c0]
theorem RS.blankB : Bk.blank (RS t c0 sk).s = decide (Cl.indB t c0 = t.length) := by
 rw [Bool.eq_iff_iff, RS.blank, decide_eq_true_iff]
theorem RS.lft : Cl.lft (RS t c0 sk).s = Cl.lft (t.drop (Cl.indB t c0)) := by
 rw [lft_ind (RS t c0 sk).s (RS t c0 sk).col]
 have h1 := RS.aft t c0 sk
 unfold Rest.aft at h1
 rw [h1]
end
end Bk
end Go.Proofs.YtkiipaaaakhhfaaGreatDoor
end
section
set_option linter.unusedVariables false
set_option linter.unusedSimpArgs false
set_option maxRecDepth 100000
namespace Go.Proofs.YtkiipaaaakhhfaaGreatDoor
namespace Bk
structure Pt where
 k : Nat
 s : Str
 t : Str
 n : Nat
 m : Nat
 a : Nat
 z : Int
 kids : List Nat
 ls : List Str
 need : Nat
 c : UInt8
 cnt : Nat
 ind : Nat
abbrev Hp := Nat → Option Pt
def Hp.set (H : Hp) (a : Nat) (p : Pt) : Hp := fun x => if x = a then some p else H x
theorem Hp.set_eq (H : Hp) (a : Nat) (p : Pt) : (H.set a p) a = some p := if_pos rfl
theorem Hp.set_ne (H : Hp) (p : Pt) {a x : Nat} (h : x ≠ a) : (H.set a p) x = H x := if_neg h
def zOf (k : Nat) (ls : List Str) (z : Nat) : Int := if white k ls = true then -1 else (z : Int)
mutual
def TreeAt (H : Hp) : B → Nat → Nat → Prop
 | .mk k s t n m fen stx ls a z kids => fun adr hi => ∃ p, H adr = some p ∧ adr < hi ∧ p.k = k ∧ p.s = s ∧ p.t = t ∧ p.n = n ∧ p.m = m ∧ p.a = a ∧ p.z = zOf k ls z ∧ p.ls = ls ∧ fen = decide (0 < p.cnt) ∧ (k = 7 → ls ≠ []) ∧ (k = 8 → (stx = true ↔ ls ≠ [])) ∧ KidsAt H kids p.kids (adr + 1) hi
def KidsAt (H : Hp) : List B → List Nat → Nat → Nat → Prop
 | [] => fun asv lo hi => asv = [] ∧ lo ≤ hi
 | b :: l => fun asv lo hi => ∃ a as' mid, asv = a :: as' ∧ lo ≤ a ∧ TreeAt H b a mid ∧ KidsAt H l as' mid hi
end
theorem TreeAt_mk {H : Hp} {k : Nat} {s t : Str} {n m : Nat} {fen stx : Bool} {ls : List Str} {a z : Nat} {kids : List B} {adr hi : Nat} : TreeAt H (.mk k s t n m fen stx ls a z kids) adr hi ↔ ∃ p, H adr = some p ∧ adr < hi ∧ p.k = k ∧ p.s = s ∧ p.t = t ∧ p.n = n ∧ p.m = m ∧ p.a = a ∧ p.z = zOf k ls z ∧ p.ls = ls ∧ fen = decide (0 < p.cnt) ∧ (k = 7 → ls ≠ []) ∧ (k = 8 → (stx = true ↔ ls ≠ [])) ∧ KidsAt H kids p.kids (adr + 1) hi := by rw [TreeAt]
theorem KidsAt_nil {H : Hp} {asv : List Nat} {lo hi : Nat} : KidsAt H [] asv lo hi ↔ asv = [] ∧ lo ≤ hi := by rw [KidsAt]
theorem KidsAt_cons {H : Hp} {b : B} {l : List B} {asv : List Nat} {lo hi : Nat} : KidsAt H (b :: l) asv lo hi ↔ ∃ a as' mid, asv = a :: as' ∧ lo ≤ a ∧ TreeAt H b a mid ∧ KidsAt H l as' mid hi := by rw [KidsAt]
mutual
theorem TreeAt.le {H : Hp} : ∀ {b : B} {a hi : Nat}, TreeAt H b a hi → a < hi
 | .mk .., a, hi, h => by rw [TreeAt_mk] at h; obtain ⟨p, _, h, _⟩ := h; exact h
theorem KidsAt.le {H : Hp} : ∀ {l : List B} {asv : List Nat} {lo hi : Nat}, KidsAt H l asv lo hi → lo ≤ hi
 | [], asv, lo, hi, h => (KidsAt_nil.1 h).2
 | b :: l, asv, lo, hi, h => by
  obtain ⟨a, as', mid, _, h1, h2, h3⟩ := KidsAt_cons.1 h
  have := TreeAt.le h2
  have := KidsAt.le h3
  omega
end
mutual
theorem TreeAt.mono {H : Hp} : ∀ {b : B} {a hi hi' : Nat}, TreeAt H b a hi → hi ≤ hi' → TreeAt H b a hi'
 | .mk k s t n m fen stx ls a z kids, adr, hi, hi', h, hh => by
  rw [TreeAt_mk] at h ⊢
  obtain ⟨p, h0, h1, h2, h3, h4, h5, h6, h7, h8, h9, h10, h11, h12, h13⟩ := h
  exact ⟨p, h0, by omega, h2, h3, h4, h5, h6, h7, h8, h9, h10, h11, h12, KidsAt.mono h13 (Nat.le_refl _) hh⟩
theorem KidsAt.mono {H : Hp} : ∀ {l : List B} {asv : List Nat} {lo lo' hi hi' : Nat}, KidsAt H l asv lo hi → lo' ≤ lo → hi ≤ hi' → KidsAt H l asv lo' hi'
 | [], asv, lo, lo', hi, hi', h, h1, h2 => by
  rw [KidsAt_nil] at h ⊢
  exact ⟨h.1, by have := h.2; omega⟩
 | b :: l, asv, lo, lo', hi, hi', h, h1, h2 => by
  rw [KidsAt_cons] at h ⊢
  obtain ⟨a, as', mid, e, k1, k2, k3⟩ := h
  exact ⟨a, as', mid, e, by omega, k2, KidsAt.mono k3 (Nat.le_refl _) h2⟩
end
mutual
theorem TreeAt.congr {H H' : Hp} : ∀ {b : B} {a hi : Nat}, TreeAt H b a hi → (∀ x, a ≤ x → x < hi → H' x = H x) → TreeAt H' b a hi
 | .mk k s t n m fen stx ls a z kids, adr, hi, h, hH => by
  rw [TreeAt_mk] at h ⊢
  obtain ⟨p, h0, h1, h2, h3, h4, h5, h6, h7, h8, h9, h10, h11, h12, h13⟩ := h
  exact ⟨p, (hH adr (Nat.le_refl _) h1).trans h0, h1, h2, h3, h4, h5, h6, h7, h8, h9, h10, h11, h12, KidsAt.congr h13 fun x hx hx' => hH x (by omega) hx'⟩
theorem KidsAt.congr {H H' : Hp} : ∀ {l : List B} {asv : List Nat} {lo hi : Nat}, KidsAt H l asv lo hi → (∀ x, lo ≤ x → x < hi → H' x = H x) → KidsAt H' l asv lo hi
 | [], asv, lo, hi, h, _ => by
  rw [KidsAt_nil] at h ⊢
  exact h
 | b :: l, asv, lo, hi, h, hH => by
  rw [KidsAt_cons] at h ⊢
  obtain ⟨a, as', mid, e, k1, k2, k3⟩ := h
  have := TreeAt.le k2
  have := KidsAt.le k3
  exact ⟨a, as', mid, e, k1, TreeAt.congr k2 fun x hx hx' => hH x (by omega) (by omega), KidsAt.congr k3 fun x hx hx' => hH x (by omega) hx'⟩
end
theorem KidsAt.app {H : Hp} : ∀ {l m : List B} {asv bs : List Nat} {lo mid hi : Nat}, KidsAt H l asv lo mid → KidsAt H m bs mid hi → KidsAt H (l ++ m) (asv ++ bs) lo hi
 | [], m, asv, bs, lo, mid, hi, h, h2 => by
  obtain ⟨rfl, h0⟩ := KidsAt_nil.1 h
  exact h2.mono h0 (Nat.le_refl _)
 | b :: l, m, asv, bs, lo, mid, hi, h, h2 => by
  obtain ⟨a, as', mi, rfl, k1, k2, k3⟩ := KidsAt_cons.1 h
  rw [List.cons_append, List.cons_append, KidsAt_cons]
  exact ⟨a, as' ++ bs, mi, rfl, k1, k2, KidsAt.app k3 h2⟩
theorem KidsAt.one {H : Hp} {b : B} {a lo hi : Nat} (h : TreeAt H b a hi) (hlo : lo ≤ a) : KidsAt H [b] [a] lo hi := by
 rw [KidsAt_cons]
 exact ⟨a, [], hi, rfl, hlo, h, KidsAt_nil.2 ⟨rfl, Nat.le_refl _⟩⟩
theorem KidsAt.len {H : Hp} : ∀ {l : List B} {asv : List Nat} {lo hi : Nat}, KidsAt H l asv lo hi → asv.length = l.length
 | [], asv, lo, hi, h => by rw [(KidsAt_nil.1 h).1]; rfl
 | b :: l, asv, lo, hi, h => by
  obtain ⟨a, as', mid, rfl, _, _, k3⟩ := KidsAt_cons.1 h
  rw [List.length_cons, List.length_cons, KidsAt.len k3]
def contK (k : Nat) : Prop := k = 1 ∨ k = 2 ∨ k = 3 ∨ k = 4 ∨ k = 13
structure FrAt (p : Pt) (f : Fr) : Prop where
 k : p.k = f.k
 s : p.s = f.s
 t : p.t = []
 n : p.n = f.n
 m : p.m = f.m
 need : p.need = f.need
 a : p.a = f.a
 z : p.z = (f.z : Int)
 ls : p.ls = []
 cnt : p.cnt = 0
 cont : contK f.k
structure LfAt (p : Pt) (l : Lf) : Prop where
 k : p.k = l.k
 s : p.s = []
 t : p.t = l.t
 n : p.n = l.n
 m : p.m = 0
 a : p.a = l.a
 z : p.z = zOf l.k l.ls l.z
 kids : p.kids = []
 ls : p.ls = l.ls
 fen : l.fen = decide (0 < p.cnt)
 code : l.fen = true → p.c = l.c ∧ p.cnt = l.cnt ∧ p.ind = l.need ∧ l.k = 5
 leaf : l.k = 5 ∨ l.k = 6 ∨ l.k = 7
 para : l.k = 7 → l.ls ≠ []
def OpenAt (H : Hp) : List Fr → Option Lf → List Nat → Nat → Nat → Prop
 | [], none => fun asv lo hi => asv = [] ∧ lo ≤ hi
 | [], some l => fun asv lo hi => ∃ a p, asv = [a] ∧ lo ≤ a ∧ a < hi ∧ H a = some p ∧ LfAt p l
 | f :: fs, leaf => fun asv lo hi => ∃ a as' p ks mid, asv = a :: as' ∧ lo ≤ a ∧ H a = some p ∧ FrAt p f ∧ p.kids = ks ++ as'.head?.toList ∧ KidsAt H f.kids ks (a + 1) mid ∧ OpenAt H fs leaf as' mid hi
theorem OpenAt_cons {H : Hp} {f : Fr} {fs : List Fr} {leaf : Option Lf} {asv : List Nat} {lo hi : Nat} : OpenAt H (f :: fs) leaf asv lo hi ↔ ∃ a as' p ks mid, asv = a :: as' ∧ lo ≤ a ∧ H a = some p ∧ FrAt p f ∧ p.kids = ks ++ as'.head?.toList ∧ KidsAt H f.kids ks (a + 1) mid ∧ OpenAt H fs leaf as' mid hi := Iff.rfl
theorem OpenAt.le {H : Hp} : ∀ {fs : List Fr} {leaf : Option Lf} {asv : List Nat} {lo hi : Nat}, OpenAt H fs leaf asv lo hi → lo ≤ hi
 | [], none, asv, lo, hi, h => h.2
 | [], some l, asv, lo, hi, h => by obtain ⟨a, p, _, h1, h2, _⟩ := h; omega
 | f :: fs, leaf, asv, lo, hi, h => by
  obtain ⟨a, as', p, ks, mid, _, h1, _, _, _, h2, h3⟩ := h
  have := OpenAt.le h3
  have := h2.le
  omega
theorem OpenAt.mono {H : Hp} : ∀ {fs : List Fr} {leaf : Option Lf} {asv : List Nat} {lo lo' hi hi' : Nat}, OpenAt H fs leaf asv lo hi → lo' ≤ lo → hi ≤ hi' → OpenAt H fs leaf asv lo' hi'
 | [], none, asv, lo, lo', hi, hi', h, h1, h2 => ⟨h.1, by have := h.2; omega⟩
 | [], some l, asv, lo, lo', hi, hi', h, h1, h2 => by obtain ⟨a, p, e, k1, k2, k3⟩ := h; exact ⟨a, p, e, by omega, by omega, k3⟩
 | f :: fs, leaf, asv, lo, lo', hi, hi', h, h1, h2 => by
  obtain ⟨a, as', p, ks, mid, e, k1, k2, k3, k4, k5, k6⟩ := h
  exact ⟨a, as', p, ks, mid, e, by omega, k2, k3, k4, k5, OpenAt.mono k6 (Nat.le_refl _) h2⟩
theorem OpenAt.congr {H H' : Hp} : ∀ {fs : List Fr} {leaf : Option Lf} {asv : List Nat} {lo hi : Nat}, OpenAt H fs leaf asv lo hi → (∀ x, lo ≤ x → x < hi → H' x = H x) → OpenAt H' fs leaf asv lo hi
 | [], none, asv, lo, hi, h, _ => h
 | [], some l, asv, lo, hi, h, hH => by obtain ⟨a, p, e, k1, k2, k3, k4⟩ := h; exact ⟨a, p, e, k1, k2, (hH a k1 k2).trans k3, k4⟩
 | f :: fs, leaf, asv, lo, hi, h, hH => by
  obtain ⟨a, as', p, ks, mid, e, k1, k2, k3, k4, k5, k6⟩ := h
  have h2 := k5.le
  have h3 := k6.le
  exact ⟨a, as', p, ks, mid, e, k1, (hH a k1 (by omega)).trans k2, k3, k4, k5.congr fun x hx hx' => hH x (by omega) (by omega), OpenAt.congr k6 fun x hx hx' => hH x (by omega) hx'⟩
theorem OpenAt.len {H : Hp} : ∀ {fs : List Fr} {leaf : Option Lf} {asv : List Nat} {lo hi : Nat}, OpenAt H fs leaf asv lo hi → asv.length = fs.length + (if leaf.isSome = true then 1 else 0)
 | [], none, asv, lo, hi, h => by rw [h.1]; rfl
 | [], some l, asv, lo, hi, h => by obtain ⟨a, p, rfl, _⟩ := h; rfl
 | f :: fs, leaf, asv, lo, hi, h => by
  obtain ⟨a, as', p, ks, mid, rfl, _, _, _, _, _, h3⟩ := h
  rw [List.length_cons, OpenAt.len h3, List.length_cons]; omega
theorem OpenAt.mem {H : Hp} : ∀ {fs : List Fr} {leaf : Option Lf} {asv : List Nat} {lo hi : Nat}, OpenAt H fs leaf asv lo hi → ∀ x ∈ asv, lo ≤ x ∧ x < hi
 | [], none, asv, lo, hi, h, x, hx => by rw [h.1] at hx; cases hx
 | [], some l, asv, lo, hi, h, x, hx => by obtain ⟨a, p, rfl, h1, h2, _⟩ := h; rw [List.mem_singleton.1 hx]; exact ⟨h1, h2⟩
 | f :: fs, leaf, asv, lo, hi, h, x, hx => by
  obtain ⟨a, as', p, ks, mid, rfl, h1, _, _, _, h2, h3⟩ := h
  have k1 := h2.le
  have k2 := h3.le
  rcases List.mem_cons.1 hx with rfl | hx
  ·omega
  ·have := OpenAt.mem h3 x hx; omega
theorem cont_ne {k : Nat} (h : contK k) : k ≠ 5 ∧ k ≠ 6 ∧ k ≠ 7 ∧ k ≠ 8 := by unfold contK at h; omega
theorem zOf_cont {k z : Nat} (h : contK k) : zOf k [] z = (z : Int) := by
 unfold zOf
 rw [if_neg]
 unfold white
 have := (cont_ne h).2.2.1
 rw [beq_eq_false_iff_ne.2 this]
 exact Bool.false_ne_true
theorem shut_at {H : Hp} : ∀ {fs : List Fr} {leaf : Option Lf} {asv : List Nat} {lo hi : Nat}, OpenAt H fs leaf asv lo hi → KidsAt H (shut fs leaf) asv.head?.toList lo hi
 | [], none, asv, lo, hi, h => by obtain ⟨rfl, h⟩ := h; exact KidsAt_nil.2 ⟨rfl, h⟩
 | [], some l, asv, lo, hi, h => by
  obtain ⟨a, p, rfl, h1, h2, h3, h4⟩ := h
  refine KidsAt.one ?_ h1
  unfold Lf.b
  rw [TreeAt_mk]
  refine ⟨p, h3, h2, h4.k, h4.s, h4.t, h4.n, h4.m, h4.a, h4.z, h4.ls, h4.fen, h4.para, fun e => ?_, by rw [h4.kids]; exact KidsAt_nil.2 ⟨rfl, by omega⟩⟩
  have := h4.leaf
  omega
 | f :: fs, leaf, asv, lo, hi, h => by
  obtain ⟨a, as', p, ks, mid, rfl, h1, h2, h3, h4, h5, h6⟩ := h
  refine KidsAt.one ?_ h1
  have h7 := shut_at h6
  have k1 := h5.le
  have k2 := h6.le
  unfold Fr.b
  rw [TreeAt_mk]
  refine ⟨p, h2, by omega, h3.k, h3.s, h3.t, h3.n, h3.m, h3.a, by rw [h3.z, zOf_cont h3.cont], h3.ls, by rw [h3.cnt]; rfl, fun e => absurd e (cont_ne h3.cont).2.2.1, fun e => absurd e (cont_ne h3.cont).2.2.2, ?_⟩
  rw [h4]
  exact h5.app h7
theorem settle_at {H : Hp} {us : List Fr} {leaf : Option Lf} : ∀ {ms : List Fr} {asv : List Nat} {lo hi : Nat}, ms ≠ [] → OpenAt H (ms ++ us) leaf asv lo hi → OpenAt H (onLast (grow (shut us leaf)) ms) none (asv.take ms.length) lo hi
 | [], _, _, _, h, _ => absurd rfl h
 | f :: ms, asv, lo, hi, _, h => by
  obtain ⟨a, as', p, ks, mid, rfl, h1, h2, h3, h4, h5, h6⟩ := h
  rw [onLast_cons]
  by_cases hm : ms = []
  ·subst hm
   rw [if_pos rfl]
   refine ⟨a, [], p, ks ++ as'.head?.toList, hi, by simp, h1, h2, ⟨h3.k, h3.s, h3.t, h3.n, h3.m, h3.need, h3.a, h3.z, h3.ls, h3.cnt, h3.cont⟩, by rw [h4]; simp, ?_, rfl, Nat.le_refl _⟩
   exact h5.app (shut_at h6)
  ·rw [if_neg hm]
   have ih := settle_at hm h6
   refine ⟨a, as'.take ms.length, p, ks, mid, by simp, h1, h2, h3, ?_, h5, ih⟩
   rw [h4]
   have hl : 0 < ms.length := List.length_pos_iff.2 hm
   cases as' with
   | nil => simp
   | cons x xs =>
    obtain ⟨n, hn⟩ : ∃ n, ms.length = n + 1 := ⟨ms.length - 1, by omega⟩
    rw [hn, List.take_succ_cons]; rfl
theorem onLast_len (g : Fr → Fr) : ∀ l : List Fr, (onLast g l).length = l.length
 | [] => rfl
 | f :: fs => by
  rw [onLast_cons]
  by_cases h : fs = []
  ·rw [if_pos h, h]; rfl
  ·rw [if_neg h, List.length_cons, List.length_cons, onLast_len g fs]
theorem pop_len : ∀ l : List Fr, (popList l).length = if 2 ≤ l.length ∧ lastK l = 3 then l.length - 1 else l.length
 | [] => rfl
 | [f] => by rw [popList_one, if_neg]; rintro ⟨h, _⟩; simp at h
 | f :: g :: fs => by
  have e : lastK (f :: g :: fs) = lastK (g :: fs) := by rw [lastK_cons f, if_neg (by simp)]
  rw [popList_two, e]
  have h2 : 2 ≤ (f :: g :: fs).length := by simp
  by_cases h : fs = [] ∧ g.k = 3
  ·obtain ⟨rfl, hg⟩ := h
   rw [if_pos ⟨rfl, hg⟩, if_pos ⟨h2, hg⟩]; rfl
  ·rw [if_neg h, List.length_cons, pop_len (g :: fs)]
   by_cases h3 : lastK (g :: fs) = 3
   ·have h4 : fs ≠ [] := fun e => by subst e; exact h ⟨rfl, h3⟩
    have h5 : 2 ≤ (g :: fs).length := by rw [List.length_cons]; have := List.length_pos_iff.2 h4; omega
    rw [if_pos ⟨h5, h3⟩, if_pos ⟨h2, h3⟩]
    simp only [List.length_cons] at h5 ⊢
    omega
   ·rw [if_neg (fun e => h3 e.2), if_neg (fun e => h3 e.2)]
    rfl
theorem pop_at {H : Hp} : ∀ {l : List Fr} {asv : List Nat} {lo hi : Nat}, OpenAt H l none asv lo hi → OpenAt H (popList l) none (asv.take (popList l).length) lo hi
 | [], asv, lo, hi, h => by
  obtain ⟨rfl, h⟩ := h
  exact ⟨rfl, h⟩
 | [f], asv, lo, hi, h => by
  have hl := h.len
  rw [popList_one, List.take_of_length_le (by rw [hl]; exact Nat.le_refl _)]
  exact h
 | f :: g :: fs, asv, lo, hi, h => by
  have hl := h.len
  rw [popList_two]
  obtain ⟨a, as', p, ks, mid, rfl, h1, h2, h3, h4, h5, h6⟩ := h
  by_cases hc : fs = [] ∧ g.k = 3
  ·obtain ⟨rfl, hg⟩ := hc
   rw [if_pos ⟨rfl, hg⟩]
   refine ⟨a, [], p, ks ++ as'.head?.toList, hi, rfl, h1, h2, ⟨h3.k, h3.s, h3.t, h3.n, h3.m, h3.need, h3.a, h3.z, h3.ls, h3.cnt, h3.cont⟩, by rw [h4]; simp, ?_, rfl, Nat.le_refl _⟩
   exact h5.app (shut_at (fs := [g]) (leaf := none) h6)
  ·rw [if_neg hc]
   refine ⟨a, as'.take (popList (g :: fs)).length, p, ks, mid, rfl, h1, h2, h3, ?_, h5, pop_at h6⟩
   have hne : popList (g :: fs) ≠ [] := fun e => by have := popList_ne _ e; cases this
   obtain ⟨n, hn⟩ : ∃ n, (popList (g :: fs)).length = n + 1 := ⟨(popList (g :: fs)).length - 1, by have := List.length_pos_iff.2 hne; omega⟩
   rw [h4, hn]
   cases as' with
   | nil => simp
   | cons x xs => rw [List.take_succ_cons]; rfl
theorem more_at {H H' : Hp} {ys : List Fr} {leaf : Option Lf} {a hi' : Nat} : ∀ {ms : List Fr} {asv : List Nat} {lo hi : Nat}, ms ≠ [] → OpenAt H ms none asv lo hi → hi ≤ a →
  (∀ x, x < hi → asv.getLast? ≠ some x → H' x = H x) → (∀ x p, asv.getLast? = some x → H x = some p → H' x = some { p with kids := p.kids ++ [a] }) → OpenAt H' ys leaf [a] a hi' → OpenAt H' (ms ++ ys) leaf (asv ++ [a]) lo hi'
 | [], _, _, _, h, _, _, _, _, _ => absurd rfl h
 | [f], asv, lo, hi, _, h, ha, h1, h2, hy => by
  obtain ⟨b, as', p, ks, mid, rfl, k1, k2, k3, k4, k5, rfl, k7⟩ := h
  have k8 := k5.le
  refine ⟨b, [a], { p with kids := p.kids ++ [a] }, ks, a, rfl, k1, h2 b p rfl k2, ⟨k3.k, k3.s, k3.t, k3.n, k3.m, k3.need, k3.a, k3.z, k3.ls, k3.cnt, k3.cont⟩, by rw [k4]; simp, ?_, hy⟩
  refine (k5.mono (Nat.le_refl _) (by omega : mid ≤ hi) |>.congr fun x hx hx' => h1 x hx' ?_).mono (Nat.le_refl _) ha
  intro e
  simp at e
  omega
 | f :: g :: ms, asv, lo, hi, _, h, ha, h1, h2, hy => by
  obtain ⟨b, as', p, ks, mid, rfl, k1, k2, k3, k4, k5, k6⟩ := h
  have k8 := k5.le
  have k9 := k6.le
  have hl := k6.len
  have hne : as' ≠ [] := by
   intro e; rw [e] at hl; simp at hl
  have hgl : (b :: as').getLast? = as'.getLast? := by
   cases as' with
   | nil => exact absurd rfl hne
   | cons x xs => exact List.getLast?_cons_cons
  rw [hgl] at h1 h2
  have hlast : ∀ x, as'.getLast? = some x → mid ≤ x := fun x e => (k6.mem x (List.mem_of_getLast? e)).1
  refine ⟨b, as' ++ [a], p, ks, mid, rfl, k1, ?_, k3, ?_, k5.congr fun x hx hx' => h1 x (by omega) (fun e => ?_), more_at (by simp) k6 ha h1 h2 hy⟩
  ·rw [h1 b (by omega) (fun e => by have := hlast b e; omega)]
   exact k2
  ·rw [k4]
   cases as' with
   | nil => exact absurd rfl hne
   | cons x xs => rfl
  ·have := hlast x e; omega
theorem lay_at {H H' : Hp} {b : B} {a hi' : Nat} : ∀ {ms : List Fr} {asv : List Nat} {lo hi : Nat}, ms ≠ [] → OpenAt H ms none asv lo hi → hi ≤ a →
  (∀ x, x < hi → asv.getLast? ≠ some x → H' x = H x) → (∀ x p, asv.getLast? = some x → H x = some p → H' x = some { p with kids := p.kids ++ [a] }) → TreeAt H' b a hi' → OpenAt H' (onLast (grow [b]) ms) none asv lo hi'
 | [], _, _, _, h, _, _, _, _, _ => absurd rfl h
 | [f], asv, lo, hi, _, h, ha, h1, h2, hy => by
  obtain ⟨c, as', p, ks, mid, rfl, k1, k2, k3, k4, k5, rfl, k7⟩ := h
  have k8 := k5.le
  have k9 := hy.le
  rw [onLast_cons, if_pos rfl]
  refine ⟨c, [], { p with kids := p.kids ++ [a] }, ks ++ [a], hi', rfl, k1, h2 c p rfl k2, ⟨k3.k, k3.s, k3.t, k3.n, k3.m, k3.need, k3.a, k3.z, k3.ls, k3.cnt, k3.cont⟩, by rw [k4]; simp, ?_, rfl, Nat.le_refl _⟩
  have := (k5.mono (Nat.le_refl _) (by omega : mid ≤ hi) |>.congr fun x hx hx' => h1 x hx' (fun e => by simp at e; omega)).mono (Nat.le_refl _) ha
  exact this.app (KidsAt.one hy (Nat.le_refl _))
 | f :: g :: ms, asv, lo, hi, _, h, ha, h1, h2, hy => by
  obtain ⟨c, as', p, ks, mid, rfl, k1, k2, k3, k4, k5, k6⟩ := h
  have k8 := k5.le
  have k9 := k6.le
  have hl := k6.len
  have hne : as' ≠ [] := by
   intro e; rw [e] at hl; simp at hl
  have hgl : (c :: as').getLast? = as'.getLast? := by
   cases as' with
   | nil => exact absurd rfl hne
   | cons x xs => exact List.getLast?_cons_cons
  rw [hgl] at h1 h2
  have hlast : ∀ x, as'.getLast? = some x → mid ≤ x := fun x e => (k6.mem x (List.mem_of_getLast? e)).1
  rw [onLast_cons, if_neg (by simp)]
  refine ⟨c, as', p, ks, mid, rfl, k1, ?_, k3, k4, k5.congr fun x hx hx' => h1 x (by omega) (fun e => ?_), lay_at (by simp) k6 ha h1 h2 hy⟩
  ·rw [h1 c (by omega) (fun e => by have := hlast c e; omega)]
   exact k2
  ·have := hlast x e; omega
theorem leaf_at {H H' : Hp} {l l' : Lf} {q : Pt} (hq : LfAt q l') : ∀ {fs : List Fr} {asv : List Nat} {lo hi : Nat}, OpenAt H fs (some l) asv lo hi → (∀ x, asv.getLast? ≠ some x → H' x = H x) → (∀ x, asv.getLast? = some x → H' x = some q) → OpenAt H' fs (some l') asv lo hi
 | [], asv, lo, hi, h, h1, h2 => by
  obtain ⟨a, p, rfl, k1, k2, k3, k4⟩ := h
  exact ⟨a, q, rfl, k1, k2, h2 a rfl, hq⟩
 | f :: fs, asv, lo, hi, h, h1, h2 => by
  obtain ⟨b, as', p, ks, mid, rfl, k1, k2, k3, k4, k5, k6⟩ := h
  have k8 := k5.le
  have hl := k6.len
  have hne : as' ≠ [] := by
   intro e; rw [e] at hl; simp at hl
  have hgl : (b :: as').getLast? = as'.getLast? := by
   cases as' with
   | nil => exact absurd rfl hne
   | cons x xs => exact List.getLast?_cons_cons
  rw [hgl] at h1 h2
  have hlast : ∀ x, as'.getLast? = some x → mid ≤ x := fun x e => (k6.mem x (List.mem_of_getLast? e)).1
  refine ⟨b, as', p, ks, mid, rfl, k1, ?_, k3, k4, k5.congr fun x hx hx' => h1 x (fun e => ?_), leaf_at hq k6 h1 h2⟩
  ·rw [h1 b (fun e => by have := hlast b e; omega)]
   exact k2
  ·have := hlast x e; omega
theorem leaf_get {H : Hp} {l : Lf} : ∀ {fs : List Fr} {asv : List Nat} {lo hi : Nat}, OpenAt H fs (some l) asv lo hi → ∃ a p, asv.getLast? = some a ∧ H a = some p ∧ LfAt p l
 | [], asv, lo, hi, h => by
  obtain ⟨a, p, rfl, k1, k2, k3, k4⟩ := h
  exact ⟨a, p, rfl, k3, k4⟩
 | f :: fs, asv, lo, hi, h => by
  obtain ⟨b, as', p, ks, mid, rfl, k1, k2, k3, k4, k5, k6⟩ := h
  obtain ⟨a, q, h1, h2, h3⟩ := leaf_get k6
  refine ⟨a, q, ?_, h2, h3⟩
  cases as' with
  | nil => cases h1
  | cons x xs => rw [List.getLast?_cons_cons]; exact h1
theorem frame_at {H : Hp} {f : Fr} {ys : List Fr} {leaf : Option Lf} : ∀ {xs : List Fr} {asv : List Nat} {lo hi : Nat}, OpenAt H (xs ++ f :: ys) leaf asv lo hi → ∃ a p, asv[xs.length]? = some a ∧ lo ≤ a ∧ a < hi ∧ H a = some p ∧ FrAt p f ∧ p.kids.isEmpty = (!hasKid f ys leaf) ∧
  ∀ (f' : Fr) (q : Pt), FrAt q f' → f'.kids = f.kids → q.kids = p.kids → OpenAt (H.set a q) (xs ++ f' :: ys) leaf asv lo hi
 | [], asv, lo, hi, h => by
  obtain ⟨a, as', p, ks, mid, rfl, k1, k2, k3, k4, k5, k6⟩ := h
  have k7 := k5.le
  have k8 := k6.le
  refine ⟨a, p, rfl, k1, by omega, k2, k3, ?_, fun f' q hq hk hqk => ?_⟩
  ·rw [k4]
   have hl := k5.len
   have hl2 := k6.len
   unfold hasKid
   cases hks : ks with
   | nil =>
    rw [hks] at hl
    have hfk : f.kids = [] := List.length_eq_zero_iff.1 hl.symm
    rw [hfk]
    cases ys with
    | nil =>
     cases leaf with
     | none =>
      have : as' = [] := List.length_eq_zero_iff.1 hl2
      rw [this]; rfl
     | some l =>
      cases as' with
      | nil => cases hl2
      | cons x xs => rfl
    | cons y ys =>
     cases as' with
     | nil => simp at hl2; omega
     | cons x xs => rfl
   | cons x xs =>
    rw [hks] at hl
    cases hfk : f.kids with
    | nil => rw [hfk] at hl; cases hl
    | cons _ _ => rfl
  ·refine ⟨a, as', q, ks, mid, rfl, k1, Hp.set_eq _ _ _, hq, by rw [hqk, k4], ?_, k6.congr fun x hx hx' => Hp.set_ne _ _ (by omega)⟩
   rw [hk]
   exact k5.congr fun x hx hx' => Hp.set_ne _ _ (by omega)
 | g :: xs, asv, lo, hi, h => by
  obtain ⟨b, as', p0, ks, mid, rfl, k1, k2, k3, k4, k5, k6⟩ := h
  have k7 := k5.le
  obtain ⟨a, p, h1, h2, h3, h4, h5, h6, h7⟩ := frame_at k6
  refine ⟨a, p, h1, by omega, h3, h4, h5, h6, fun f' q hq hk hqk => ?_⟩
  exact ⟨b, as', p0, ks, mid, rfl, k1, by rw [Hp.set_ne _ _ (by omega)]; exact k2, k3, k4, k5.congr fun x hx hx' => Hp.set_ne _ _ (by omega), h7 f' q hq hk hqk⟩
mutual
theorem TreeAt.cap {H : Hp} {M : Nat} (hM : ∀ a p, H a = some p → a < M) : ∀ {b : B} {a hi : Nat}, TreeAt H b a hi → TreeAt H b a (min hi M)
 | .mk k s t n m fen stx ls a z kids, adr, hi, h => by
  rw [TreeAt_mk] at h ⊢
  obtain ⟨p, h0, h1, h2, h3, h4, h5, h6, h7, h8, h9, h10, h11, h12, h13⟩ := h
  have := hM adr p h0
  exact ⟨p, h0, by omega, h2, h3, h4, h5, h6, h7, h8, h9, h10, h11, h12, KidsAt.cap hM (by omega) h13⟩
theorem KidsAt.cap {H : Hp} {M : Nat} (hM : ∀ a p, H a = some p → a < M) : ∀ {l : List B} {asv : List Nat} {lo hi : Nat}, lo ≤ M → KidsAt H l asv lo hi → KidsAt H l asv lo (min hi M)
 | [], asv, lo, hi, hlo, h => by
  rw [KidsAt_nil] at h ⊢
  exact ⟨h.1, by have := h.2; omega⟩
 | b :: l, asv, lo, hi, hlo, h => by
  rw [KidsAt_cons] at h ⊢
  obtain ⟨a, as', mid, e, k1, k2, k3⟩ := h
  have k4 := TreeAt.cap hM k2
  have k5 := k3.le
  have k6 := KidsAt.cap hM (lo := min mid M) (by omega) (KidsAt.mono k3 (Nat.min_le_left _ _) (Nat.le_refl _))
  exact ⟨a, as', min mid M, e, k1, k4, k6⟩
end
theorem OpenAt.cap {H : Hp} {M : Nat} (hM : ∀ a p, H a = some p → a < M) : ∀ {fs : List Fr} {leaf : Option Lf} {asv : List Nat} {lo hi : Nat}, lo ≤ M → OpenAt H fs leaf asv lo hi → OpenAt H fs leaf asv lo (min hi M)
 | [], none, asv, lo, hi, hlo, h => ⟨h.1, by have := h.2; omega⟩
 | [], some l, asv, lo, hi, hlo, h => by
  obtain ⟨a, p, e, k1, k2, k3, k4⟩ := h
  have := hM a p k3
  exact ⟨a, p, e, k1, by omega, k3, k4⟩
 | f :: fs, leaf, asv, lo, hi, hlo, h => by
  obtain ⟨a, as', p, ks, mid, e, k1, k2, k3, k4, k5, k6⟩ := h
  have h1 := hM a p k2
  have h2 := k6.le
  have k7 := KidsAt.cap hM (by omega) k5
  exact ⟨a, as', p, ks, min mid M, e, k1, k2, k3, k4, k7, OpenAt.cap hM (by omega) (k6.mono (Nat.min_le_left _ _) (Nat.le_refl _))⟩
end Bk
end Go.Proofs.YtkiipaaaakhhfaaGreatDoor
end
section
namespace Go.Proofs.YtkiipaaaakhhfaaGreatDoor
open Go Go.RowKit
namespace Bk
set_option maxRecDepth 100000
set_option linter.unusedVariables false
set_option linter.unusedSimpArgs false
def Hb (w : World) (b : Nat) (cs : Array Value) (t : TypeId) : Prop := w.heap[b]? = some (.cells cs t (0, 0))
section
variable {w w' : World} {b : Nat} {cs : Array Value} {t : TypeId}
theorem Hb.lt (h : Hb w b cs t) : b < w.heap.size := (Array.getElem?_eq_some_iff.1 h).1
theorem Hb.keep (h : Hb w b cs t) (e : w'.heap[b]? = w.heap[b]?) : Hb w' b cs t := e.trans h
theorem Hb.below (h : Hb w b cs t) (hb : Below w.heap.size w w') : Hb w' b cs t := h.keep (hb.block b h.lt)
theorem Hb.cell (h : Hb w b cs t) (k : Nat) {v : Value} (hk : cs[k]? = some v) : w.cell? ⟨b, k, none⟩ = some v := by rw [cell_of_row w b k _ _ _ h]; exact hk
theorem Hb.fr (h : Hb w b cs t) (k : Nat) : w.frozen? ⟨b, k, none⟩ = false := frozen_of_row w b k _ _ h
theorem Hb.set {cs' : Array Value} (h : Hb w b cs t) (k : Nat) (v : Value) (e : cs.setIfInBounds k v = cs') : Hb (w.setCell ⟨b, k, none⟩ v) b cs' t := by
 subst e; exact heap_setCell_same w b k cs t v h
theorem Hb.other (h : Hb w b cs t) {p : Addr} (v : Value) (e : b ≠ p.block) : Hb (w.setCell p v) b cs t := (heap_setCell_other w p b v e).trans h
theorem Hb.new (w : World) (cs : Array Value) (t : TypeId) : Hb (w.alloc (.cells cs t)) w.heap.size cs t := heap_alloc_new w _
theorem Hb.alloc (h : Hb w b cs t) (o : Obj) : Hb (w.alloc o) b cs t := h.keep (Below.heap_alloc w o b h.lt)
end
structure Only (X : Nat → Prop) (w w' : World) : Prop where
 os : w'.os = w.os
 tape : w'.tape = w.tape
 output : w'.output = w.output
 size : w.heap.size ≤ w'.heap.size
 block : ∀ k, k < w.heap.size → ¬ X k → w'.heap[k]? = w.heap[k]?
theorem Only.refl (X : Nat → Prop) (w : World) : Only X w w := ⟨rfl, rfl, rfl, Nat.le_refl _, fun _ _ _ => rfl⟩
theorem Only.trans {X : Nat → Prop} {a b c : World} (h : Only X a b) (k : Only X b c) : Only X a c :=
 ⟨k.os.trans h.os, k.tape.trans h.tape, k.output.trans h.output, Nat.le_trans h.size k.size, fun i hi hx =>
  (k.block i (Nat.lt_of_lt_of_le hi h.size) hx).trans (h.block i hi hx)⟩
theorem Only.mono {X Y : Nat → Prop} {a b : World} (h : Only X a b) (hY : ∀ i, i < a.heap.size → X i → Y i) : Only Y a b := ⟨h.os, h.tape, h.output, h.size, fun k hk hx => h.block k hk fun e => hx (hY k hk e)⟩
theorem Only.of_below {X : Nat → Prop} {w w' : World} (h : Below w.heap.size w w') : Only X w w' := ⟨h.os, h.tape, h.output, h.size, fun k hk _ => h.block k hk⟩
theorem Only.below {X : Nat → Prop} {w w' : World} {B : Nat} (h : Only X w w') (hX : ∀ k, X k → B ≤ k) (hB : B ≤ w.heap.size) : Below B w w' :=
 ⟨h.os, h.tape, h.output, h.size, fun k hk => h.block k (by omega) (fun hx => by have := hX k hx; omega)⟩
theorem Only.of_grown {w w' : World} {row : Option Nat} (h : w.grownBy w' row) : Only (fun k => some k = row) w w' := ⟨h.os, h.tape, h.output, h.size, fun k hk hx => h.block k hk hx⟩
theorem Only.setCell {X : Nat → Prop} {a b : World} (h : Only X a b) {p : Addr} (hp : X p.block) (u : Value) : Only X a (b.setCell p u) :=
 h.trans ⟨rfl, rfl, rfl, by simp, fun k hk hx => Below.heap_setCell _ _ _ _ (fun e => hx (by rw [e]; exact hp))⟩
theorem Only.drew {X : Nat → Prop} {a b : World} (h : Only X a b) : Only X a b.drew := ⟨h.os, h.tape, h.output, h.size, h.block⟩
theorem Only.alloc {X : Nat → Prop} {a b : World} (h : Only X a b) (o : Obj) : Only X a (b.alloc o) := h.trans (Only.of_below ((Below.refl _ b).alloc (Nat.le_refl _) o))
def RowW (w : World) (e : TypeId) (v : Value) (xs : List Value) : Prop :=
 (v = .slice none 0 0 ∧ xs = []) ∨ ∃ g cap cur, v = .slice (some ⟨g, 0, none⟩) xs.length cap ∧ w.heap[g]? = some (.cells cur e (0, 0)) ∧ xs.length ≤ cap ∧ cap ≤ maxLen ∧ cap ≤ cur.size ∧ cur.toList.take xs.length = xs
section
variable {w w' : World} {e : TypeId} {v : Value} {xs : List Value}
theorem RowW.nil (w : World) (e : TypeId) : RowW w e (.slice none 0 0) [] := .inl ⟨rfl, rfl⟩
theorem RowW.lt (h : RowW w e v xs) : ∀ g, v.ownBlock = some g → g < w.heap.size := by
 intro g hg
 rcases h with ⟨rfl, _⟩ | ⟨g', cap, cur, rfl, h, _⟩
 ·cases hg
 ·simp only [Value.ownBlock, Option.some.injEq] at hg
  subst hg
  exact (Array.getElem?_eq_some_iff.1 h).1
theorem RowW.keep (h : RowW w e v xs) (hk : ∀ g, v.ownBlock = some g → w'.heap[g]? = w.heap[g]?) : RowW w' e v xs := by
 rcases h with h | ⟨g, cap, cur, rfl, h, h2⟩
 ·exact .inl h
 ·exact .inr ⟨g, cap, cur, rfl, (hk g rfl).trans h, h2⟩
theorem RowW.below (h : RowW w e v xs) (hb : Below w.heap.size w w') : RowW w' e v xs := h.keep fun g hg => hb.block g (h.lt g hg)
theorem RowW.form (h : RowW w e v xs) : ∃ a c, v = .slice a xs.length c ∧ xs.length ≤ c ∧ c ≤ maxLen := by
 rcases h with ⟨rfl, rfl⟩ | ⟨g, cap, cur, rfl, _, h1, h2, _⟩
 ·exact ⟨none, 0, rfl, Nat.le_refl _, by decide⟩
 ·exact ⟨_, _, rfl, h1, h2⟩
theorem RowW.at (h : RowW w e v xs) (hne : xs ≠ []) : ∃ g cap, v = .slice (some ⟨g, 0, none⟩) xs.length cap ∧ xs.length ≤ cap ∧ cap ≤ maxLen ∧ ∀ j u, xs[j]? = some u → w.cell? ⟨g, j, none⟩ = some u := by
 rcases h with ⟨_, h⟩ | ⟨g, cap, cur, rfl, hg, h1, h2, h3, h4⟩
 ·exact absurd h hne
 ·refine ⟨g, cap, rfl, h1, h2, fun j u hu => ?_⟩
  rw [cell_of_row w g j cur e (0, 0) hg]
  rw [← h4, List.getElem?_take] at hu
  split at hu
  ·simpa using hu
  ·cases hu
theorem RowW.cut (h : RowW w e v xs) {a : Option Addr} {n c m : Nat} (hv : v = .slice a n c) (hm : m ≤ n) (h0 : 0 < m) : RowW w e (.slice a m m) (xs.take m) := by
 rcases h with ⟨rfl, rfl⟩ | ⟨g, cap, cur, rfl, hg, h1, h2, h3, h4⟩
 ·cases hv; omega
 ·injection hv with e1 e2 e3
  subst e1 e2 e3
  have hl : (xs.take m).length = m := by rw [List.length_take]; omega
  refine .inr ⟨g, m, cur, by rw [hl], hg, by rw [hl]; exact Nat.le_refl _, by omega, by omega, ?_⟩
  rw [hl]
  conv => rhs; rw [← h4, List.take_take]
  rw [Nat.min_eq_left hm]
end
theorem run_append_w {P : Program} (w : World) (t ty e : TypeId) (i : TypeInfo) (z : Value) (ht : P.underlying t = some (.slice e)) (hi : P.info? e = some i) (hz : i.zero = some z)
  (hsize : i.size = 1) (hby : i.bytes ≤ 16) (hzs : z.cells.size = 1) (v : Value) (xs : List Value) (hrow : RowW w e v xs)
  (a : Addr) (c : Nat) (x : Value) (hnews : ∀ j u, [x][j]? = some u → w.cell? (a.add j) = some u) (h1 : x.oneCell' = true) (h63 : xs.length ≤ 100000000) :
  ∃ v' w', (Builtin.append_ #[t, t] ty #[v, .slice (some a) 1 c]).run P w = .ok v' w' ∧ RowW w' e v' (xs ++ [x]) ∧ w.grownBy w' v.ownBlock ∧ (v'.ownBlock = v.ownBlock ∨ v'.ownBlock = some w.heap.size) := by
 have hml : maxLen = 9223372036854775807 := by rfl
 have hbb : (xs.length + 1) * i.bytes ≤ 140737488355328 := by
  have : (xs.length + 1) * i.bytes ≤ (xs.length + 1) * 16 := Nat.mul_le_mul_left _ hby
  omega
 have grown : ∀ (old : Nat), old < xs.length + 1 → ∀ (row : Option Nat),
   RowW (w.drew.alloc (.cells (xs.toArray ++ [x].toArray ++ Builtin.zeroCells z.cells (grownCap w (xs.length + 1) old e - (xs.length + 1))) e)) e (.slice (some ⟨w.heap.size, 0, none⟩) (xs.length + 1) (grownCap w (xs.length + 1) old e)) (xs ++ [x]) ∧
   w.grownBy (w.drew.alloc (.cells (xs.toArray ++ [x].toArray ++ Builtin.zeroCells z.cells (grownCap w (xs.length + 1) old e - (xs.length + 1))) e)) row := by
  intro old ho row
  have hge := grownCap_ge w (xs.length + 1) old e
  have hcm : grownCap w (xs.length + 1) old e ≤ maxLen := grownCap_le_maxLen w (xs.length + 1) old e (by omega)
  refine ⟨.inr ⟨w.heap.size, _, _, by simp, heap_alloc_new w.drew _, by simpa using hge, hcm, ?_, ?_⟩, ⟨rfl, rfl, rfl, by simp, fun k hk _ => Below.heap_alloc w.drew _ k hk⟩⟩
  ·simp only [Array.size_append, List.size_toArray, size_zeroCells, hzs, List.length_singleton]
   omega
  ·simp only [Array.toList_append, List.append_assoc]
   rw [← List.append_assoc]
   exact List.take_left
 rcases hrow with ⟨rfl, rfl⟩ | ⟨g, cap, cur, rfl, hg, hnc, hcm, hcs, htake⟩
 ·have hr := run_append_nil (P := P) w t ty e i z ht hi hz a 1 c [x] (by rw [hsize]; rfl) hnews (by omega) (by omega) (by have := hbb; simp only [List.length_nil] at this; omega)
  have hgr := grown 0 (by simp) (Value.ownBlock (.slice none 0 0))
  simp only [List.length_nil, Nat.zero_add, List.nil_append, Array.empty_append] at hgr ⊢
  exact ⟨_, _, hr, hgr.1, hgr.2, .inr rfl⟩
 ·by_cases hroom : xs.length + 1 ≤ cap
  ·have hr := run_append_room (P := P) w t ty e i ht hi g xs.length cap cur hg a 1 c [x] (by rw [hsize]; rfl) hnews (by intro u hu; rw [List.mem_singleton.1 hu]; exact h1) hroom (by rw [hsize]; simp; omega)
   refine ⟨_, _, hr, .inr ⟨g, cap, _, by simp, setRow_heap w g cur _ e _ hg, by simpa using hroom, hcm, ?_, ?_⟩, ⟨rfl, rfl, rfl, by simp, fun k _ hk => setRow_other w g k _ (fun e => hk (by simp [Value.ownBlock, e]))⟩, .inl rfl⟩
   ·simp only [List.size_toArray, List.length_append, List.length_take, List.length_drop, Array.length_toList, List.length_singleton, hsize]
    omega
   ·rw [hsize, Nat.mul_one, htake]
    exact List.take_left
  ·have holds : ∀ j u, xs[j]? = some u → w.cell? ((⟨g, 0, none⟩ : Addr).add j) = some u := by
    intro j u hu
    obtain ⟨g', cap', e1, _, _, h4⟩ := RowW.at (w := w) (e := e) (v := .slice (some ⟨g, 0, none⟩) xs.length cap) (xs := xs) (.inr ⟨g, cap, cur, rfl, hg, hnc, hcm, hcs, htake⟩) (fun e => by rw [e] at hu; simp at hu)
    injection e1 with e1 _ _
    injection e1 with e1
    injection e1 with e1
    subst e1
    rw [add_off, Nat.zero_add]
    exact h4 j u hu
   have hr := run_append_grow (P := P) w t ty e i z ht hi hz ⟨g, 0, none⟩ xs.length cap xs (by rw [hsize, Nat.mul_one]) holds a 1 c [x] (by rw [hsize]; rfl) hnews (by omega) (by omega) (growslice_fits (by omega) hbb)
   have hgr := grown cap (by omega) (Value.ownBlock (.slice (some ⟨g, 0, none⟩) xs.length cap))
   exact ⟨_, _, hr, hgr.1, hgr.2, .inr rfl⟩
theorem wpList_append_w {P : Program} (w : World) {ops : Array Oper} {rest : List Oper} {o : Oper} {a : Act} {Q : Exit → Act → World → Prop} (hgd : o.guard = none) (s x : Operand) (t : TypeId)
  (ho : o.op = .call { callee := .builtin .append, args := #[s, x], argTypes := #[t, t] })
  (e : TypeId) (i : TypeInfo) (z : Value) (ht : P.underlying t = some (.slice e)) (hi : P.info? e = some i) (hz : i.zero = some z) (hsize : i.size = 1) (hby : i.bytes ≤ 16) (hzs : z.cells.size = 1)
  (v : Value) (xs : List Value) (hs : a.eval s = v) (hrow : RowW w e v xs)
  (ad : Addr) (c : Nat) (u : Value) (hx : a.eval x = .slice (some ad) 1 c) (hnews : ∀ j y, [u][j]? = some y → w.cell? (ad.add j) = some y) (h1 : u.oneCell' = true) (h63 : xs.length ≤ 100000000)
  (h : ∀ v' w', RowW w' e v' (xs ++ [u]) → w.grownBy w' v.ownBlock → (v'.ownBlock = v.ownBlock ∨ v'.ownBlock = some w.heap.size) → wpList P ops Q rest (a.put o.dst v') w') :
  wpList P ops Q (o :: rest) a w := by
 refine wpList_plain hgd fun K hK => ?_
 obtain ⟨v', w', hr, h2, h3, h4⟩ := run_append_w (P := P) w t o.type e i z ht hi hz hsize hby hzs v xs hrow ad c u hnews h1 h63
 unfold Oper.wp execOp
 simp only [ho, resolve, invoke, builtin, Sem.run_bind, Sem.run_pure, Result.andThen_ok, List.map_toArray, List.map_cons, List.map_nil, hs, hx, hr]
 exact hK _ _ (h v' w' h2 h3 h4)
end Bk
end Go.Proofs.YtkiipaaaakhhfaaGreatDoor
end
