import Derived.Test.YtkiipaaaakhhfaaGreatDoorCBk1
import Derived.Test.YtkiipaaaakhhfaaGreatDoorProg
import Derived.WalkKit
import Derived.BigCall
import Derived.BigQuiet
import Derived.Below
import Derived.WideShapes
import Derived.Deep.LoopGhost
import Derived.OwnWalk
import Derived.Lib.Hide
import Derived.RegionTactic
import Derived.Laws.ResultCell
import Derived.Laws.Rows
import Derived.Test.YtkiipaaaakhhfaaGreatDoorCBk2
import Derived.Deep.Upon
import Derived.Maps.AppendAt
import Derived.Deep.QuietTactic
import Derived.Deep.CutBlock
import Derived.Test.YtkiipaaaakhhfaaGreatDoorCBk3
import Derived.Laws.AppendOwn
import Derived.Test.YtkiipaaaakhhfaaGreatDoorCSc1
import Derived.Lib.SlTrimSet
import Derived.Test.YtkiipaaaakhhfaaGreatDoorCEnt1
import Derived.Test.YtkiipaaaakhhfaaGreatDoorCText1
import Derived.Test.YtkiipaaaakhhfaaGreatDoorCSc3
import Derived.Test.YtkiipaaaakhhfaaGreatDoorCClass1
import Derived.Lib.IndexMore
import Derived.Test.YtkiipaaaakhhfaaGreatDoorCBk8
import Derived.Test.YtkiipaaaakhhfaaGreatDoorCRf1
import Derived.Test.YtkiipaaaakhhfaaGreatDoorCKit1
import Derived.ChangeArms
import Derived.ChangeSlices
import Derived.SizedLaws
import Derived.Test.YtkiipaaaakhhfaaGreatDoorCBk13
import Derived.Test.YtkiipaaaakhhfaaGreatDoorCRf2
import Derived.SliceStrings
import Derived.Lib.LaidU8
import Derived.Laws.BitsAllLaws
import Derived.Laws.BitsLemmas
import Derived.Laws.IdiomStrings
section
set_option linter.unusedVariables false
set_option linter.unusedSimpArgs false
set_option maxRecDepth 100000
namespace Go.Proofs.YtkiipaaaakhhfaaGreatDoor
namespace Bk
section
variable {ρ : Type} (X : Scan ρ)
theorem tail_leaf (foot : Bool) (i n : Nat) {b : Fr} {leaf : Option Lf} {c : UInt8} {t : Str} {L1 : Ln} (hc : bl c = false) (h62 : c ≠ 62) (h : leaves X i (ln b leaf (c :: t)) = some L1) : tail X foot i (n + 1) (ln b leaf (c :: t)) = L1 := by
 have : begins X foot i (n + 1) (ln b leaf (c :: t)) = (true, L1) := by
  rw [begins]
  rw [if_neg (by show ¬ blank (c :: t) = true; rw [blank_cons, hc]; exact Bool.false_ne_true)]
  rw [if_neg (by show ¬ 4 ≤ (⟨c :: t, 0⟩ : Rest).ind; rw [(ind_head hc t 0).1]; decide)]
  rw [if_neg (by show ¬ ((⟨c :: t, 0⟩ : Rest).aft).head? = some 62; rw [(ind_head hc t 0).2]; intro e; injection e with e; exact h62 e), h]
 unfold tail
 rw [this, if_pos rfl]
def ruleB (i : Nat) : B := .mk 9 [] [] 0 0 false false [] i i []
def headB (n : Nat) (h : Str) (i : Nat) : B := .mk 8 (Cl.rgt h) [] n 0 false false [] i i []
end
end Bk
end Go.Proofs.YtkiipaaaakhhfaaGreatDoor
end
section
set_option linter.unusedVariables false
set_option linter.unusedSimpArgs false
set_option maxRecDepth 100000
namespace Go.Proofs.YtkiipaaaakhhfaaGreatDoor
namespace Bk
section
variable {ρ : Type} (X : Scan ρ)
def rb (j : Nat) : B := if j % 3 = 1 then headB 2 [97] j else ruleB j
def wave : Str := List.replicate 9 126
def codeL (info : Str) (a z : Nat) (ls : List Str) : Lf := { nilL with k := 5, fen := true, c := 126, cnt := 9, t := info, a := a, z := z, ls := ls }
structure FenceOk (info : Str) : Prop where
 atx : (X.atx (wave ++ info)).1 = 0
 fence : X.fence (wave ++ info) = (126, 9, info)
 une : X.une info = info
 closes : X.closes wave 126 9 = true
theorem wave_cons (info : Str) : wave ++ info = 126 :: (List.replicate 8 126 ++ info) := rfl
theorem fence_first (foot : Bool) (i : Nat) (b : Fr) {info : Str} (hX : FenceOk X info) : line X foot i ⟨[b], none⟩ (wave ++ info) = ⟨[b], some (codeL info i i [])⟩ := by
 have hf := hX.fence
 have ha := hX.atx
 rw [wave_cons] at hf ha ⊢
 have hl : leaves X i (ln b none (126 :: (List.replicate 8 126 ++ info))) = some ((ln b none (126 :: (List.replicate 8 126 ++ info))).open i { nilL with k := 5, fen := true, c := 126, cnt := 9, need := 0, t := info }) := by
  unfold leaves
  rw [show (ln b none (126 :: (List.replicate 8 126 ++ info))).r.aft = 126 :: (List.replicate 8 126 ++ info) from (ind_head (by decide) _ 0).2, ha, if_neg (by omega), if_pos (by rw [hf]; exact Nat.succ_pos 8), hf]
  rw [show (ln b none (126 :: (List.replicate 8 126 ++ info))).r.ind = 0 from (ind_head (by decide) _ 0).1, hX.une]
 rw [line_none, tail_leaf X foot i _ (by decide) (by decide) hl]
 unfold Ln.open
 rw [show (ln b none (126 :: (List.replicate 8 126 ++ info))).place false = [grow [] b] from rfl, grow_nil]
 rfl
theorem fence_more (foot : Bool) (i a z : Nat) (info : Str) (ls : List Str) (b : Fr) (s : Str) (hX : X.closes (⟨s, 0⟩ : Rest).aft 126 9 = false) :
  ∃ b' z', line X foot i ⟨[b], some (codeL info a z ls)⟩ s = ⟨[b'], some (codeL info a z' (ls ++ [s]))⟩ ∧ b'.kids = b.kids := by
 have ht : takes X i (ln b (some (codeL info a z ls)) s) = (true, (ln b (some (codeL info a z ls)) s).add i s) := by
  rw [takes_code X rfl rfl ⟨rfl, rfl⟩, if_neg (fun e => by have e2 : X.closes (⟨s, 0⟩ : Rest).aft 126 9 = true := e.2; rw [hX] at e2; cases e2)]
  show (true, (ln b (some (codeL info a z ls)) s).add i (Cl.skp s 0 0).1) = _
  rw [skp_zero]
 rw [line_one, rest_eq, ht, if_pos rfl]
 unfold Ln.add
 simp only [show (ln b (some (codeL info a z ls)) s).leaf = some (codeL info a z ls) from rfl, Option.map_some]
 unfold Lf.take
 by_cases hb : blank s = true
 ·rw [if_pos hb]
  exact ⟨b, z, rfl, rfl⟩
 ·rw [if_neg hb]
  exact ⟨b, i, rfl, rfl⟩
theorem fence_go (foot : Bool) (info : Str) : ∀ (l : List Str) (i a z : Nat) (ls : List Str) (b : Fr), (∀ s ∈ l, X.closes (⟨s, 0⟩ : Rest).aft 126 9 = false) →
  ∃ b' z', go X foot i ⟨[b], some (codeL info a z ls)⟩ l = ⟨[b'], some (codeL info a z' (ls ++ l))⟩ ∧ b'.kids = b.kids
 | [], i, a, z, ls, b, _ => ⟨b, z, by rw [List.append_nil]; rfl, rfl⟩
 | s :: l, i, a, z, ls, b, h => by
  obtain ⟨b1, z1, e1, k1⟩ := fence_more X foot i a z info ls b s (h s List.mem_cons_self)
  obtain ⟨b2, z2, e2, k2⟩ := fence_go foot info l (i + 1) a z1 (ls ++ [s]) b1 (fun y hy => h y (List.mem_cons_of_mem _ hy))
  refine ⟨b2, z2, ?_, by rw [k2, k1]⟩
  show go X foot (i + 1) (line X foot i _ s) l = _
  rw [e1, e2, List.append_assoc]
  rfl
theorem fence_end (foot : Bool) (i a z : Nat) (info : Str) (ls : List Str) (b : Fr) (hX : X.closes wave 126 9 = true) :
  line X foot i ⟨[b], some (codeL info a z ls)⟩ wave = ⟨[grow [(codeL info a i ls).b] b], none⟩ := by
 have hw : wave = 126 :: List.replicate 8 126 := rfl
 have ht : takes X i (ln b (some (codeL info a z ls)) wave) = (true, Ln.shut ⟨[b], [], some (codeL info a i ls), ⟨wave, 0⟩⟩) := by
  have h1 : (⟨wave, 0⟩ : Rest).ind = 0 := by rw [hw]; exact (ind_head (by decide) _ 0).1
  have h2 : (⟨wave, 0⟩ : Rest).aft = wave := by rw [hw]; exact (ind_head (by decide) _ 0).2
  rw [takes_code X rfl rfl ⟨rfl, rfl⟩, if_pos ⟨by show (⟨wave, 0⟩ : Rest).ind < 4; rw [h1]; decide, by show X.closes (⟨wave, 0⟩ : Rest).aft 126 9 = true; rw [h2]; exact hX⟩]
  rfl
 rw [line_one, rest_eq, ht, if_pos rfl]
 rfl
theorem out_code (info : Str) (a z : Nat) (ls : List Str) : out X (codeL info a z ls).b = [.mk 5 (ended ls) info 0 0 false a z []] ∧ defsO X (codeL info a z ls).b = [] := by
 unfold Lf.b
 constructor
 ·rw [out, outL_nil]
  rfl
 ·rw [defsO, defsL_nil]
  rfl
theorem fences (foot : Bool) (info : Str) (l : List Str) (hX : FenceOk X info) (hl : ∀ s ∈ l, X.closes (⟨s, 0⟩ : Rest).aft 126 9 = false) (hx : ParaOk X [120]) (ht : PlainT X [[120]]) :
  parse X foot ((wave ++ info) :: l ++ [wave, [120]]) = ([.mk 5 (ended l) info 0 0 false 0 (l.length + 1) [], .mk 7 [120] [] 0 0 false (l.length + 2) (l.length + 2) []], []) := by
 obtain ⟨b1, z1, e1, k1⟩ := fence_go X foot info l 1 0 0 [] docF hl
 have hg : go X foot 0 doc0 ((wave ++ info) :: l ++ [wave, [120]]) = ⟨[grow [(codeL info 0 (l.length + 1) l).b] b1], some (paraL (l.length + 2) (l.length + 2) [[120]])⟩ := by
  have e0 : line X foot 0 doc0 (wave ++ info) = ⟨[docF], some (codeL info 0 0 [])⟩ := fence_first X foot 0 docF hX
  show go X foot 1 (line X foot 0 doc0 (wave ++ info)) (l ++ [wave, [120]]) = _
  rw [e0, go_app, e1]
  show line X foot (1 + l.length + 1) (line X foot (1 + l.length) _ wave) [120] = _
  rw [List.nil_append, fence_end X foot _ _ _ _ _ _ hX.closes, show 1 + l.length = l.length + 1 by omega]
  obtain ⟨c, t, e, h1, h2, h3, h4⟩ := hx.ne
  have hX' := hx.ok
  rw [e] at hX' ⊢
  exact para_first X foot _ _ h1 h2 h3 h4 hX'
 have hk : (go X foot 0 doc0 ((wave ++ info) :: l ++ [wave, [120]])).kids = [(codeL info 0 (l.length + 1) l).b, (paraL (l.length + 2) (l.length + 2) [[120]]).b] := by
  rw [hg]
  show (b1.kids ++ [(codeL info 0 (l.length + 1) l).b]) ++ [(paraL (l.length + 2) (l.length + 2) [[120]]).b] = _
  rw [k1]
  rfl
 unfold parse
 rw [hk, outL_cons, outL_cons, outL_nil, defsL_cons, defsL_cons, defsL_nil, (out_code X _ _ _ _).1, (out_code X _ _ _ _).2, (out_para X _ _ ht).1, (out_para X _ _ ht).2]
 rfl
end
end Bk
end Go.Proofs.YtkiipaaaakhhfaaGreatDoor
end
section
namespace Go.Proofs.YtkiipaaaakhhfaaGreatDoor
open Go Go.RowKit
namespace Bk
set_option maxRecDepth 100000
set_option linter.unusedVariables false
set_option linter.unusedSimpArgs false
theorem OwnS.ssl {w : World} {B : Nat} {v : Value} {L : List Str} (h : OwnS w B v L) : SSl w v L := by
 unfold OwnS at h
 have h0 := h
 rcases h.2 with ⟨rfl, h1⟩ | ⟨g, cap, cur, rfl, _, hg, hn, hm, hs, hc⟩
 ·have : L = [] := List.length_eq_zero_iff.1 h1
  subst this
  exact ⟨none, 0, rfl, by decide, fun h => absurd rfl h⟩
 ·refine ⟨some ⟨g, 0, none⟩, cap, rfl, Nat.le_trans hn hm, fun _ => ⟨g, 0, rfl, fun i hi => ?_⟩⟩
  have := h0.cellAt i (by omega)
  rw [Nat.zero_add, this]
  simp [List.getElem?_eq_getElem hi]
end Bk
end Go.Proofs.YtkiipaaaakhhfaaGreatDoor
end
section
namespace Go.Proofs.YtkiipaaaakhhfaaGreatDoor
open Go Go.RowKit
namespace Bk
set_option maxRecDepth 100000
set_option linter.unusedVariables false
set_option linter.unusedSimpArgs false
set_option maxHeartbeats 4000000 in
theorem few_any (l : List Str) (v : Value) (w : World) (h : SSl w v l) :
  Calls Tryz.prog 12 #[v] w fun e w' => (e = .returned (.bool false) ∨ (e = .returned (.bool true) ∧ FewS l)) ∧ w = w' := by
 obtain ⟨a, cap, rfl, hlm, hk⟩ := h
 unfold maxLen at hlm
 have HK := Lib.hid hk
 clear hk
 obtain ⟨n, hn⟩ : ∃ n, l.length = n := ⟨_, rfl⟩
 rw [hn] at hlm ⊢
 have HN := Lib.hid hn
 clear hn
 by_cases h40 : (40 : Int) < (n : Int)
 ·go_enter Tryz.func12, Tryz.ntmps12
  go_wp2
  go_ret
  exact ⟨.inl rfl, rfl⟩
 go_enter Tryz.func12, Tryz.ntmps12
 go_wp2
 go_loopg [3] n (fun G s3 wr => ∃ i : Nat, i + G = n ∧ s3 = .int .i64 (i : Int) ∧ Hid (∀ j s, j < i → l[j]? = some s → s.length ≤ 80) ∧ w = wr)
 case atStart => exact ⟨0, by omega, rfl, Lib.hid (fun j s hj => by omega), rfl⟩
 case round =>
  obtain ⟨i, hig, rfl, HA, rfl⟩ := hrel
  cases gk with
  | zero =>
   have hlt : ¬ (i : Int) < (n : Int) := by omega
   have hin : i = n := by omega
   have HV : Hid (FewS l) := Lib.hid ⟨by rw [HN.out]; omega, fun s hs => by
    obtain ⟨j, hj⟩ := List.mem_iff_getElem?.1 hs
    have := (List.getElem?_eq_some_iff.1 hj).1
    exact HA.out j s (by rw [hin, ← HN.out]; exact this) hj⟩
   clear hin
   go_wp2
   go_ret
   exact ⟨.inr ⟨rfl, HV.out⟩, rfl⟩
  | succ G =>
   have hlt : (i : Int) < (n : Int) := by omega
   have hil : i < l.length := by have := HN.out; omega
   obtain ⟨s, hs⟩ : ∃ s, l[i] = s := ⟨_, rfl⟩
   have HS : Hid (l[i]? = some s) := Lib.hid (by rw [List.getElem?_eq_getElem hil, hs])
   obtain ⟨b, off, rfl, hcell⟩ := HK.out (fun e => by rw [e] at hil; exact absurd hil (Nat.not_lt_zero _))
   have q0 := hcell i hil
   rw [hs] at q0
   unfold str at q0
   obtain ⟨S, hS⟩ : ∃ S : ByteArray, ⟨s.toArray⟩ = S := ⟨_, rfl⟩
   have HZ : Hid (S.size = s.length) := Lib.hid (by rw [← hS]; rfl)
   rw [hS] at q0
   clear hcell hs hS hil
   by_cases hbig : (80 : Int) < (S.size : Int)
   ·go_wp2
    go_ret
    exact ⟨.inl rfl, rfl⟩
   ·have HA2 : Hid (∀ j r, j < i + 1 → l[j]? = some r → r.length ≤ 80) := Lib.hid (fun j r hj hr => by
     rcases Nat.lt_or_ge j i with h | h
     ·exact HA.out j r h hr
     ·have : j = i := by omega
      subst this
      have := HS.out
      rw [hr] at this
      injection this with this
      subst this
      have := HZ.out
      omega)
    go_wp2
    go_roundg G
    case rel => exact ⟨i + 1, by omega, by go_num, HA2, rfl⟩
    case measure => omega
end Bk
end Go.Proofs.YtkiipaaaakhhfaaGreatDoor
end
section
namespace Go.Proofs.YtkiipaaaakhhfaaGreatDoor
open Go Go.RowKit
namespace Bk
set_option maxRecDepth 100000
set_option linter.unusedVariables false
set_option linter.unusedSimpArgs false
theorem OwnS.more {w w1 w2 : World} {B : Nat} {L : List Str} {x : Str} {u v' : Value} {o : Obj} (hB : w.heap.size ≤ B) (hown : OwnS w1 B u L) (hbw : Below w.heap.size w w1)
  (hown' : w2.ownsRow B 9 1 v' (L.length + 1) (L.map str ++ [str x])) (hgrow : (w1.alloc o).grownBy w2 u.ownBlock) : OwnS w2 B v' (L ++ [x]) ∧ Below w.heap.size w w2 := by
 have hsz := hbw.size
 refine ⟨?_, (hbw.alloc (by omega) _).grown hgrow (by simp; omega) (fun k hk => Nat.le_trans hB (hown.lt k hk).1)⟩
 unfold OwnS
 rw [List.length_append, List.map_append]
 exact hown'
theorem OwnS.form {w : World} {B : Nat} {v : Value} {L : List Str} (h : OwnS w B v L) : ∃ a c, v = .slice a L.length c := by
 rcases h.2 with ⟨rfl, e⟩ | ⟨g, cap, cur, rfl, _⟩
 ·exact ⟨none, 0, by rw [e]⟩
 ·exact ⟨_, _, rfl⟩
theorem InS.one {w : World} {C : Nat → Prop} {b : Blk} {v : Value} (h : InS w C [b] v) : ∃ bb off cp L, v = .slice (some ⟨bb, off, none⟩) 1 cp ∧ Cells9 w bb off b.ow L ∧ InS w C b.kids L := by
 obtain ⟨a, cap, rfl, _, h | ⟨bb, off, rfl, _, hc⟩⟩ := h
 ·cases h
 ·obtain ⟨L, q, g⟩ := hc.get (i := 0) rfl
  rw [Nat.zero_mul, Nat.add_zero] at q
  exact ⟨bb, off, cap, L, rfl, q, g.kids⟩
theorem InS.any {w : World} {C : Nat → Prop} {l : List Blk} {v : Value} (h : InS w C l v) : InS w (fun _ => True) l v := h.carry (fun _ _ _ _ _ => trivial) fun _ _ _ _ h => h
end Bk
end Go.Proofs.YtkiipaaaakhhfaaGreatDoor
end
section
set_option linter.unusedVariables false
set_option linter.unusedSimpArgs false
set_option maxRecDepth 100000
namespace Go.Proofs.YtkiipaaaakhhfaaGreatDoor
namespace Bk
def lowU (c : UInt8) : Prop := 97 ≤ c.toNat ∧ c.toNat ≤ 122
def LowT (s : Str) : Prop := s ≠ [] ∧ ∀ c ∈ s, lowU c
theorem low_ne {c d : UInt8} (h : lowU c) (hd : ¬ (97 ≤ d.toNat ∧ d.toNat ≤ 122)) : c ≠ d := fun e => hd (e ▸ h)
theorem low_bl {c : UInt8} (h : lowU c) : bl c = false := by
 unfold bl
 rw [beq_eq_false_iff_ne.2 (low_ne h (by decide)), beq_eq_false_iff_ne.2 (low_ne h (by decide))]; rfl
theorem low_wht {c : UInt8} (h : lowU c) : Cl.wht c = false := by
 unfold Cl.wht
 have h1 : decide (c.toNat ≤ 13) = false := decide_eq_false (by have := h.1; omega)
 rw [beq_eq_false_iff_ne.2 (low_ne h (by decide)), h1, Bool.and_false]; rfl
theorem low_head {s : Str} (h : LowT s) : ∃ c t, s = c :: t ∧ lowU c ∧ ∀ d ∈ t, lowU d := by
 cases s with
 | nil => exact absurd rfl h.1
 | cons c t => exact ⟨c, t, rfl, h.2 c List.mem_cons_self, fun d hd => h.2 d (List.mem_cons_of_mem _ hd)⟩
theorem rgt_last {x : Str} {c : UInt8} (h : Cl.wht c = false) : Cl.rgt (x ++ [c]) = x ++ [c] := by
 unfold Cl.rgt
 rw [List.reverse_append, List.reverse_singleton, List.singleton_append, List.dropWhile_cons_of_neg (by rw [h]; exact Bool.false_ne_true)]
 simp
theorem low_last {s : Str} (h : LowT s) : ∃ x c, s = x ++ [c] ∧ lowU c := by
 have e := List.dropLast_concat_getLast h.1
 exact ⟨_, _, e.symm, h.2 _ (List.getLast_mem h.1)⟩
theorem lines_cons (s : Str) (t : Str) (l : List Str) : lines (s :: t :: l) = s ++ 10 :: lines (t :: l) := rfl
theorem lines_last : ∀ {l : List Str}, l ≠ [] → (∀ s ∈ l, LowT s) → ∃ x c, lines l = x ++ [c] ∧ lowU c
 | [], h, _ => absurd rfl h
 | [s], _, h => low_last (h s (by simp))
 | s :: t :: l, _, h => by
  obtain ⟨x, c, e, hc⟩ := lines_last (l := t :: l) (by simp) (fun y hy => h y (List.mem_cons_of_mem _ hy))
  exact ⟨s ++ 10 :: x, c, by rw [lines_cons, e]; simp, hc⟩
theorem lines_head {l : List Str} (h : l ≠ []) (hl : ∀ s ∈ l, LowT s) : ∃ c t, lines l = c :: t ∧ lowU c := by
 match l, h with
 | [s], _ =>
  obtain ⟨c, t, e, hc, _⟩ := low_head (hl s (by simp))
  exact ⟨c, t, e, hc⟩
 | s :: t :: l, _ =>
  obtain ⟨c, u, e, hc, _⟩ := low_head (hl s (by simp))
  exact ⟨c, u ++ 10 :: lines (t :: l), by rw [lines_cons, e]; rfl, hc⟩
theorem body_low {l : List Str} (h : l ≠ []) (hl : ∀ s ∈ l, LowT s) : bodyT l = lines l := by
 obtain ⟨x, c, e, hc⟩ := lines_last h hl
 unfold bodyT
 rw [e]
 exact rgt_last (low_wht hc)
def DefsOk {ρ : Type} (X : Scan ρ) : Prop := ∀ s : Str, s.head? ≠ some 91 → X.defs s = ([], s)
theorem plain_low {ρ : Type} {X : Scan ρ} (hX : DefsOk X) {l : List Str} (h : l ≠ []) (hl : ∀ s ∈ l, LowT s) : PlainT X l := by
 obtain ⟨c, t, e, hc⟩ := lines_head h hl
 refine ⟨?_, by rw [e]; simp⟩
 rw [body_low h hl, e]
 refine hX _ ?_
 intro e2
 injection e2 with e2
 exact low_ne hc (by decide) e2
theorem para_low {ρ : Type} {X : Scan ρ} (hX : ∀ s, LowT s → TextOk X s) {s : Str} (h : LowT s) : ParaOk X s := by
 obtain ⟨c, t, e, hc, _⟩ := low_head h
 exact ⟨⟨c, t, e, low_bl hc, low_wht hc, low_ne hc (by decide), low_ne hc (by decide)⟩, hX s h⟩
end Bk
end Go.Proofs.YtkiipaaaakhhfaaGreatDoor
end
section
set_option linter.unusedVariables false
set_option linter.unusedSimpArgs false
set_option maxRecDepth 100000
namespace Go.Proofs.YtkiipaaaakhhfaaGreatDoor
namespace Sc
theorem trimR_snoc (t : List UInt8) (c : UInt8) : trimR (t ++ [c]) = if blk c = true then trimR t else t ++ [c] := by
 unfold trimR
 rw [List.reverse_append]
 simp only [List.reverse_cons, List.reverse_nil, List.nil_append, List.cons_append, List.dropWhile]
 cases blk c with
 | true => simp
 | false => simp
end Sc
end Go.Proofs.YtkiipaaaakhhfaaGreatDoor
end
section
set_option linter.unusedVariables false
set_option linter.unusedSimpArgs false
set_option maxRecDepth 100000
namespace Go.Proofs.YtkiipaaaakhhfaaGreatDoor
namespace Bk
theorem run_none {c x : UInt8} (t : Str) (h : x ≠ c) : Sc.runN c (x :: t) = 0 := Sc.runN_miss t h
theorem atx_not {x : UInt8} (t : Str) (h : x ≠ 35) : (Sc.atxP (x :: t)).1 = 0 := by
 unfold Sc.atxP
 rw [run_none t h, if_neg (by omega)]
theorem fence_not {x : UInt8} (t : Str) (h1 : x ≠ 96) (h2 : x ≠ 126) : (Sc.fenceP (x :: t)).2.1 = 0 := by
 unfold Sc.fenceP
 simp only []
 rw [if_neg (fun e => by rcases e.1 with e | e; exact h1 e; exact h2 e)]
theorem rule_not {x : UInt8} (t : Str) (h1 : x ≠ 42) (h2 : x ≠ 45) (h3 : x ≠ 95) : Sc.ruleP (x :: t) = false := by
 unfold Sc.ruleP
 simp only []
 have : ([42, 45, 95] : List UInt8).contains x = false := by
  rw [List.contains_cons, List.contains_cons, List.contains_cons, List.contains_nil, beq_eq_false_iff_ne.2 h1, beq_eq_false_iff_ne.2 h2, beq_eq_false_iff_ne.2 h3]; rfl
 rw [this]; rfl
theorem set_not {x : UInt8} (t : Str) (h1 : x ≠ 61) (h2 : x ≠ 45) : Sc.setP (x :: t) = 0 := by
 have e : ∀ c : UInt8, x ≠ c → Sc.closesP (x :: t) c 1 = false := fun c hc => by
  unfold Sc.closesP
  rw [run_none t hc]
  rfl
 unfold Sc.setP
 rw [e 61 h1, e 45 h2, if_neg Bool.false_ne_true, if_neg Bool.false_ne_true]
theorem bul_not {x : UInt8} (t : Str) (h1 : x ≠ 45) (h2 : x ≠ 43) (h3 : x ≠ 42) : Sc.bulP (x :: t) = 0 := by
 unfold Sc.bulP
 simp only []
 have : ([45, 43, 42] : List UInt8).contains x = false := by
  rw [List.contains_cons, List.contains_cons, List.contains_cons, List.contains_nil, beq_eq_false_iff_ne.2 h1, beq_eq_false_iff_ne.2 h2, beq_eq_false_iff_ne.2 h3]; rfl
 rw [this, if_neg (fun e => by cases e.1)]
theorem ord_not {x : UInt8} (t : Str) (h : Sc.digU x = false) : (Sc.ordP (x :: t)).2.2 = 0 := by
 have hd : Sc.digN (x :: t) = 0 := by
  unfold Sc.digN
  rw [List.takeWhile_cons_of_neg (by rw [h]; exact Bool.false_ne_true)]; rfl
 unfold Sc.ordP
 rw [hd, List.drop_zero]
 simp only []
 rw [if_neg (by omega)]
theorem low_dig {c : UInt8} (h : lowU c) : Sc.digU c = false := by
 unfold Sc.digU Sc.digi
 have := h.1
 rw [decide_eq_false (show ¬ (c.toNat : Int) ≤ 57 by omega), Bool.and_false]
theorem run_count (c : UInt8) : ∀ t : Str, Sc.runN c t ≤ t.count c
 | [] => Nat.zero_le _
 | x :: t => by
  by_cases h : x = c
  ·subst h
   rw [Sc.runN_hit, List.count_cons_self]
   have := run_count x t
   omega
  ·rw [Sc.runN_miss t h]; exact Nat.zero_le _
theorem closes_few {t : Str} (h : t.count 126 < 9) : Sc.closesP t 126 9 = false := by
 unfold Sc.closesP
 have := run_count 126 t
 rw [decide_eq_false (show ¬ max (9 : Int) 1 ≤ (Sc.runN 126 t : Int) by omega)]; rfl
theorem aft_few {s : Str} {col : Nat} (h : s.count 126 < 9) : ((⟨s, col⟩ : Rest).aft).count 126 < 9 := by
 have h2 : ((⟨s, col⟩ : Rest).aft).count 126 ≤ s.count 126 := by
  unfold Rest.aft
  exact (List.drop_sublist _ _).count_le _
 omega
theorem fence_wave {info : Str} (h : ∀ c ∈ info, lowU c) : Sc.fenceP (wave ++ info) = (126, 9, info) ∧ (Sc.atxP (wave ++ info)).1 = 0 := by
 have hr : Sc.runN 126 (wave ++ info) = 9 := by
  have : Sc.runN 126 info = 0 := by
   cases info with
   | nil => rfl
   | cons c t => exact run_none t (low_ne (h c List.mem_cons_self) (by decide))
  show Sc.runN 126 (126 :: 126 :: 126 :: 126 :: 126 :: 126 :: 126 :: 126 :: 126 :: info) = 9
  simp only [Sc.runN_hit, this]
 have hd : (wave ++ info).drop 9 = info := rfl
 have ht : Sc.trimB info = info := by
  cases info with
  | nil => rfl
  | cons c t =>
   have h2 : ∀ l : Str, (∀ c ∈ l, lowU c) → Sc.trimR l = l := fun l hl => by
    by_cases e : l = []
    ·rw [e]; rfl
    ·obtain ⟨x, d, e2, hd⟩ := low_last ⟨e, hl⟩
     rw [e2, Sc.trimR_snoc, if_neg]
     have : Sc.blk d = false := low_bl hd
     rw [this]; exact Bool.false_ne_true
   unfold Sc.trimB Sc.trimL
   rw [h2 _ h, List.dropWhile_cons_of_neg]
   have : Sc.blk c = false := low_bl (h c List.mem_cons_self)
   rw [this]; exact Bool.false_ne_true
 constructor
 ·rw [wave_cons] at hr hd ⊢
  unfold Sc.fenceP
  simp only []
  rw [hr, hd, ht, if_pos ⟨by decide, by decide, fun e => by have := e.1; revert this; decide⟩]
 ·rw [wave_cons]; exact atx_not _ (by decide)
theorem closes_wave : Sc.closesP wave 126 9 = true := by decide
end Bk
end Go.Proofs.YtkiipaaaakhhfaaGreatDoor
end
section
set_option linter.unusedVariables false
set_option linter.unusedSimpArgs false
set_option maxRecDepth 100000
namespace Go.Proofs.YtkiipaaaakhhfaaGreatDoor
namespace Es
open En
theorem unes_skip : ∀ (k : Nat) (l : List UInt8), unes k l = une (l.drop k)
 | 0, l => rfl
 | k + 1, [] => by rw [unes_nil, List.drop_nil]; rfl
 | k + 1, c :: t => by
  show unes k t = une ((c :: t).drop (k + 1))
  rw [unes_skip k t]
  rfl
theorem une_nil : une [] = [] := rfl
theorem une_step {l : List UInt8} (h : l ≠ []) : une l = (fst l).1 ++ une (l.drop (fst l).2) := by
 cases l with
 | nil => exact absurd rfl h
 | cons c t =>
  have hb := fst_bounds h
  show (fst (c :: t)).1 ++ unes ((fst (c :: t)).2 - 1) t = _
  rw [unes_skip]
  obtain ⟨n, hn⟩ : ∃ n, (fst (c :: t)).2 = n + 1 := ⟨(fst (c :: t)).2 - 1, by omega⟩
  rw [hn]
  rfl
theorem une_plain {c : UInt8} {t : List UInt8} (h1 : c ≠ 92) (h2 : c ≠ 38) : une (c :: t) = c :: une t := by
 rw [une_step (by simp), fst_plain h1 h2]
 rfl
theorem une_cuts : ∀ (a b : List UInt8), (∀ c ∈ a, c ≠ 92 ∧ c ≠ 38) → une (a ++ b) = a ++ une b
 | [], b, _ => rfl
 | c :: t, b, h => by
  rw [List.cons_append, une_plain (h c (by simp)).1 (h c (by simp)).2, une_cuts t b (fun x hx => h x (by simp [hx]))]
  rfl
theorem une_self {a : List UInt8} (h : ∀ c ∈ a, c ≠ 92 ∧ c ≠ 38) : une a = a := by
 have := une_cuts a [] h
 simpa [une_nil] using this
end Es
end Go.Proofs.YtkiipaaaakhhfaaGreatDoor
end
section
namespace Go.Proofs.YtkiipaaaakhhfaaGreatDoor
open Go Go.RowKit
namespace Tx
set_option maxRecDepth 100000
set_option linter.unusedVariables false
set_option linter.unusedSimpArgs false
def OwnL (w : World) (B : Nat) (v : Value) (L : List (List UInt8)) : Prop := w.ownsRow B 9 1 v L.length (L.map str)
theorem OwnL.ssl {w : World} {B : Nat} {v : Value} {L : List (List UInt8)} (h : OwnL w B v L) (hl : L.length ≤ 9223372036854775807) : SSl w v L := by
 unfold OwnL at h
 have h0 := h
 rcases h.2 with ⟨rfl, h1⟩ | ⟨g, cap, cur, rfl, _, hg, hn, _, hs, hc⟩
 ·have : L = [] := List.length_eq_zero_iff.1 h1
  subst this
  exact ⟨none, 0, rfl, hl, fun h => absurd rfl h⟩
 ·refine ⟨some ⟨g, 0, none⟩, cap, rfl, hl, fun _ => ⟨g, 0, rfl, fun i hi => ?_⟩⟩
  have := h0.cellAt i (by omega)
  rw [Nat.zero_add, this]
  simp [List.getElem?_eq_getElem hi]
end Tx
end Go.Proofs.YtkiipaaaakhhfaaGreatDoor
end
section
set_option linter.unusedVariables false
set_option linter.unusedSimpArgs false
namespace Go.Proofs.YtkiipaaaakhhfaaGreatDoor
namespace Tx
theorem lines_cons (b : UInt8) (l : List UInt8) : lines (b :: l) = lineOf (b :: l) :: lines (restOf (b :: l)) := by rw [lines]
end Tx
end Go.Proofs.YtkiipaaaakhhfaaGreatDoor
end
section
namespace Go.Proofs.YtkiipaaaakhhfaaGreatDoor
open Go Go.RowKit
namespace Sc
set_option maxRecDepth 100000
set_option linter.unusedVariables false
set_option linter.unusedSimpArgs false
theorem pre_none {l p : List UInt8} (h : sgn 60 l = none) : Lib.hasPrefix l (60 :: p) = false := by
 cases l with
 | nil => rfl
 | cons c t =>
  have hc : c ≠ 60 := by
   intro e
   rw [e, sgn_self] at h
   cases h
  unfold Lib.hasPrefix
  rw [List.isPrefixOf_cons_cons]
  have : (60 == c) = false := by rw [beq_eq_false_iff_ne]; exact Ne.symm hc
  rw [this]; rfl
theorem htmlS_none {l : List UInt8} (h : sgn 60 l = none) : htmlS l = 0 := by
 have h1 : verP l = false := by unfold verP; rw [h]
 have ht : tagName l = ([], l) := by unfold tagName; rw [h]
 have h2 : knownP l = false := by unfold knownP; rw [ht]; rfl
 have h3 : otherP l = false := by unfold otherP; rw [ht]; rfl
 have h4 : declP l = false := by unfold declP; rw [pre_none h]; rfl
 unfold htmlS
 rw [h1, pre_none h, pre_none h, h4, pre_none h, h2, h3]
 rfl
end Sc
end Go.Proofs.YtkiipaaaakhhfaaGreatDoor
end
section
namespace Go.Proofs.YtkiipaaaakhhfaaGreatDoor
namespace Bk
set_option maxRecDepth 100000
set_option linter.unusedVariables false
set_option linter.unusedSimpArgs false
theorem html_not {x : UInt8} (t : Str) (h : x ≠ 60) : Sc.htmlS (x :: t) = 0 := by
 refine Sc.htmlS_none ?_
 show (if x = 60 then some t else none) = none
 rw [if_neg h]
theorem defsOk : DefsOk (XS defsZ) := fun s hs => by
 show ((Rf.allP s).1.map toRb, (Rf.allP s).2) = ([], s)
 have h0 : (Rf.takeP s).2 = 0 := by
  rcases Nat.eq_zero_or_pos (Rf.takeP s).2 with h | h
  ·exact h
  ·exact absurd (Rf.take_head h) hs
 rw [Rf.all_end h0]
 rfl
theorem textOk {s : Str} (h : LowT s) : TextOk (XS defsZ) s := by
 obtain ⟨c, t, rfl, hc, _⟩ := low_head h
 refine ⟨atx_not _ (low_ne hc (by decide)), fence_not _ (low_ne hc (by decide)) (low_ne hc (by decide)), html_not t (low_ne hc (by decide)), set_not _ (low_ne hc (by decide)) (low_ne hc (by decide)), rule_not _ (low_ne hc (by decide)) (low_ne hc (by decide)) (low_ne hc (by decide)), ?_⟩
 have hb : Sc.bulP (c :: t) = 0 := bul_not _ (low_ne hc (by decide)) (low_ne hc (by decide)) (low_ne hc (by decide))
 unfold sign
 rw [show (XS defsZ).bul (c :: t) = 0 from hb, if_neg (by omega)]
 exact ord_not _ (low_dig hc)
theorem paraOk {s : Str} (h : LowT s) : ParaOk (XS defsZ) s := para_low (fun s hs => textOk hs) h
theorem plainOk {l : List Str} (h : l ≠ []) (hl : ∀ s ∈ l, LowT s) : PlainT (XS defsZ) l := plain_low defsOk h hl
theorem fenceOk {info : Str} (h : ∀ c ∈ info, lowU c) : FenceOk (XS defsZ) info :=
 ⟨(fence_wave h).2, (fence_wave h).1, Es.une_self fun c hc => ⟨low_ne (h c hc) (by decide), low_ne (h c hc) (by decide)⟩, closes_wave⟩
theorem low_x : LowT [120] := ⟨by simp, fun c hc => by rw [List.mem_singleton.1 hc]; unfold lowU; decide⟩
end Bk
end Go.Proofs.YtkiipaaaakhhfaaGreatDoor
end
section
namespace Go.Proofs.YtkiipaaaakhhfaaGreatDoor
open Go Go.ChangeShapes Go.WideShapes Go.ChangeAt Go.ChangeMaps Go.RowKit
namespace Rf
set_option maxRecDepth 100000
set_option linter.unusedVariables false
set_option linter.unusedSimpArgs false
section
variable {H : Type} {enc : TypeId × Value → H} {W : World} {sp : Nat → Bool} {hd : Bool}
theorem len_of {s : ByteArray} {y : DataW H} (r : y = .lit (.string s.data.toList)) (hw : ∀ n ∈ y.weights Tryz.prog 9, n ≤ reachBytes) : s.size ≤ 140737488355328 := by
 have := hw s.data.toList.length (by rw [r]; simp [DataW.weights])
 unfold reachBytes at this
 rw [szR] at this
 omega
theorem open_str {v : Value} {d : DataW H} {ps : List MemPlace} {r : Reach} {b0 : Nat} (hval : Value.okWide Tryz.prog W r b0 9 v)
  (h : DataW.Trod enc Tryz.prog W 0 sp hd 9 v d ps) (hw : ∀ y ∈ d.weights Tryz.prog 9, y ≤ reachBytes) : ∃ s : ByteArray, v = .string s ∧ s.size ≤ 140737488355328 := by
 obtain ⟨s, h1, h2, _, _⟩ := open_string Tryz.underlying9 hval h
 exact ⟨s, h1, len_of h2 hw⟩
end
end Rf
end Go.Proofs.YtkiipaaaakhhfaaGreatDoor
end
section
namespace Go.Proofs.YtkiipaaaakhhfaaGreatDoor
open Go Go.ChangeShapes Go.WideShapes Go.ChangeAt Go.RowKit
namespace Bk
set_option maxRecDepth 100000
theorem open_texts {H : Type} {enc : TypeId × Value → H} {W : World} {v : Value} {d : DataW H} {ps : List MemPlace} {r : Reach} {b0 : Nat} (hval : Value.okWide Tryz.prog W r b0 22 v)
  (h : DataW.Trod enc Tryz.prog W 0 (fun _ => true) true 22 v d ps) : ∃ L : List Str, SSl W v L := by
 obtain ⟨a0, len, cap, rfl⟩ := okWide_slice Tryz.underlying22 hval
 obtain ⟨fuel, hf⟩ := h
 rcases open_strings Tryz.underlying22 Tryz.underlying9 (by kernel_rfl) hf with ⟨hcs, hx⟩ | ⟨a, len', cap', ss, hcs, _, hl, hm, hz, hx, hcell, hws⟩
 ·simp [Value.cells] at hcs
  obtain ⟨rfl, rfl, rfl⟩ := hcs
  exact ⟨[], none, 0, rfl, Nat.zero_le _, fun hne => absurd rfl hne⟩
 ·simp [Value.cells] at hcs
  obtain ⟨rfl, rfl, rfl⟩ := hcs
  simp only [if_true] at hz
  have hlen : ((ss.take len).map (fun s => s.data.toList)).length = len := by simp; omega
  refine ⟨(ss.take len).map (fun s => s.data.toList), some a, cap, by rw [hlen], by rw [hlen]; omega, fun hne => ?_⟩
  have hpos : 0 < len := by rw [← hlen]; exact List.length_pos_iff.2 hne
  obtain ⟨b, off, spot⟩ := a
  have hspot : spot = none := by simpa [Addr.add] using World.cell?_spot (hcell 0 (by omega))
  subst hspot
  refine ⟨b, off, rfl, fun i hi => ?_⟩
  have hi2 : i < len := by rw [hlen] at hi; exact hi
  have hc := hcell i (by omega)
  rw [add_off] at hc
  rw [hc, List.getD, List.getElem?_eq_getElem (by omega)]
  simp [str]
end Bk
end Go.Proofs.YtkiipaaaakhhfaaGreatDoor
end
section
namespace Go.Proofs.YtkiipaaaakhhfaaGreatDoor
open Go Go.RowKit
namespace Bk
set_option maxRecDepth 100000
set_option linter.unusedVariables false
set_option linter.unusedSimpArgs false
theorem strInfo2 : (Tryz.prog.info? 9).map (fun i => (i.zero, i.size, i.bytes)) = some (some (.string ByteArray.empty), 1, 16) := by kernel_rfl
theorem wpList_append_lines {w : World} {ops : Array Oper} {rest : List Oper} {o : Oper} {a : Act} {Q : Exit → Act → World → Prop} (hgd : o.guard = none) (s x : Operand)
  (ho : o.op = .call { callee := .builtin .append, args := #[s, x], argTypes := #[22, 22] }) (B : Nat) (u v : Value) (L l : List Str) (hs : a.eval s = u) (hx : a.eval x = v)
  (hown : OwnS w B u L) (hl : SSl w v l) (hz : L.length + l.length ≤ 1000000) (hB : B ≤ w.heap.size)
  (h : ∀ u' w', OwnS w' B u' (L ++ l) → Below B w w' → wpList Tryz.prog ops Q rest (a.put o.dst u') w') : wpList Tryz.prog ops Q (o :: rest) a w := by
 obtain ⟨i0, hi, hz0, hz1, hz2⟩ := info_parts strInfo2
 obtain ⟨ao, cap, rfl, hlm, hk⟩ := hl
 cases ao with
 | none =>
  have hl0 : l = [] := by
   cases l with
   | nil => rfl
   | cons y r => obtain ⟨b, off, e, _⟩ := hk (by simp); cases e
  subst hl0
  have hu : ∃ g c, u = .slice g L.length c ∧ L.length ≤ c := by
   rcases hown.2 with ⟨rfl, e⟩ | ⟨g, c, cur, rfl, _, _, hle, _⟩
   ·exact ⟨none, 0, by rw [e], by rw [e]; exact Nat.le_refl 0⟩
   ·exact ⟨_, c, rfl, hle⟩
  obtain ⟨g, c, rfl, hle⟩ := hu
  refine wpList_plain hgd fun K hK => ?_
  have hr := run_append_nothing (P := Tryz.prog) w 22 22 o.type 9 i0 (show Tryz.prog.underlying 22 = some (.slice 9) from rfl) hi g L.length c hle _ (Src.ofNil (w := w) (show Tryz.prog.underlying 22 = some (.slice 9) from rfl) cap)
  unfold Oper.wp execOp
  simp only [ho, resolve, invoke, builtin, Sem.run_bind, Sem.run_pure, Result.andThen_ok, List.map_toArray, List.map_cons, List.map_nil, hs, hx, List.length_nil, hr]
  exact hK _ _ (h _ _ (by rw [List.append_nil]; exact hown) (Below.refl _ _))
 | some ad =>
  refine wpList_append_own w hgd s x 22 ho B 9 i0 (.string ByteArray.empty) 1 16 rfl hi hz0 hz1 hz2 rfl (by decide) u L.length (L.map str) hs hown ad l.length cap (l.map str) hx (by simp) ?_ ?_ (by unfold maxLen; omega) (by omega) hB ?_
  ·intro j y hy
   rw [List.getElem?_map] at hy
   obtain ⟨r, hr, rfl⟩ := Option.map_eq_some_iff.1 hy
   obtain ⟨hj, rfl⟩ := List.getElem?_eq_some_iff.1 hr
   obtain ⟨b, off, e, hc⟩ := hk (fun e => by rw [e] at hj; exact absurd hj (Nat.not_lt_zero _))
   injection e with e
   subst e
   rw [add_off]
   exact hc j hj
  ·intro y hy
   obtain ⟨r, _, rfl⟩ := List.mem_map.1 hy
   rfl
  ·intro v' w' h1 h2 _
   refine h v' w' ?_ ((Below.refl _ w).grown h2 hB (fun k hk => (hown.lt k hk).1))
   unfold OwnS
   rw [List.length_append, List.map_append]
   exact h1
end Bk
end Go.Proofs.YtkiipaaaakhhfaaGreatDoor
end
section
namespace Go.Proofs.YtkiipaaaakhhfaaGreatDoor
open Go Go.RowKit
namespace Bk
set_option maxRecDepth 100000
set_option linter.unusedVariables false
set_option linter.unusedSimpArgs false
theorem ended_app : ∀ (l m : List Str), ended (l ++ m) = ended l ++ ended m
 | [], m => rfl
 | s :: l, m => by
  rw [List.cons_append]
  show s ++ 10 :: ended (l ++ m) = (s ++ 10 :: ended l) ++ ended m
  rw [ended_app l m]; simp
def fenced (inf : Str) (l : List Str) : List Str := (wave ++ inf) :: l ++ [wave, [120]]
theorem fenced_fit {inf : Str} {l : List Str} (h : FewS l) (hi : inf.length ≤ 50) : FitS (fenced inf l) := by
 refine ⟨by unfold fenced; simp only [List.length_append, List.length_cons, List.length_nil]; have := h.1; omega, fun s hs => ?_⟩
 unfold fenced at hs
 rcases List.mem_append.1 hs with hs | hs
 ·rcases List.mem_cons.1 hs with rfl | hs
  ·rw [List.length_append]
   have : wave.length = 9 := rfl
   omega
  ·have := h.2 s hs; omega
 ·rcases List.mem_cons.1 hs with rfl | hs
  ·decide
  ·rw [List.mem_singleton.1 hs]; decide
theorem fences_eq (foot : Bool) (inf : Str) (l : List Str) (hi : ∀ c ∈ inf, lowU c) (hl : ∀ s ∈ l, s.count 126 < 9) :
  parse (XS defsZ) foot (fenced inf l) = ([.mk 5 (ended l) inf 0 0 false 0 (l.length + 1) [], .mk 7 [120] [] 0 0 false (l.length + 2) (l.length + 2) []], []) :=
 fences (XS defsZ) foot inf l (fenceOk hi) (fun s hs => closes_few (aft_few (hl s hs))) (paraOk low_x) (plainOk (by simp) (fun s hs => by rw [List.mem_singleton.1 hs]; exact low_x))
set_option maxHeartbeats 16000000 in
theorem fences_law (w : World) (P : Prog11 w (XS defsZ)) (v : Value) (l : List Str) (I : ByteArray) (m : Int) (hl : SSl w v l) :
  Calls Tryz.prog 9 #[v, .string I, .int .i64 m] w fun e w' => e = .returned (.bool true) ∧ Below w.heap.size w w' := by
 have HA := Lib.hid P.awake
 have HF := Lib.hid (fun W (hW : Below w.heap.size w W) => few_any l v W (hl.keep hW))
 have HP := Lib.hid (fun W (hW : Below w.heap.size w W) u (hf : FewS l) (hi : I.data.toList.length ≤ 50) (hu : SSl W u (fenced I.data.toList l)) => P.parse W hW u _ m hu (fenced_fit hf hi))
 have HSS := Lib.hid (fun W (hW : Below w.heap.size w W) => hl.keep hW)
 obtain ⟨ao, cap, e0, hlm, hk⟩ := hl
 subst e0
 obtain ⟨N, hN⟩ : ∃ N, l.length = N := ⟨_, rfl⟩
 rw [hN] at hlm HF HSS ⊢
 have HN := Lib.hid hN
 have HK := Lib.hid hk
 clear hN hk
 unfold maxLen at hlm
 by_cases h50 : (50 : Int) < (I.size : Int)
 ·go_enter Tryz.func9, Tryz.ntmps9
  go_wp2_with fail
  refine HA.out.mono ?_
  rintro e w1 ⟨rfl, hb1⟩
  go_wp2_with fail
  refine (HF.out w1 hb1).mono ?_
  rintro e w2 ⟨he, rfl⟩
  rcases he with rfl | ⟨rfl, hf⟩
  ·go_wp2
   go_ret
   exact ⟨rfl, hb1⟩
  ·go_wp2
   go_ret
   exact ⟨rfl, hb1⟩
 go_enter Tryz.func9, Tryz.ntmps9
 go_wp2_with fail
 refine HA.out.mono ?_
 rintro e w1 ⟨rfl, hb1⟩
 go_wp2_with fail
 refine (HF.out w1 hb1).mono ?_
 rintro e w2 ⟨he, rfl⟩
 rcases he with rfl | ⟨rfl, hf⟩
 ·go_wp2
  go_ret
  exact ⟨rfl, hb1⟩
 have HB1 := Lib.hid hb1
 have HFw := Lib.hid hf
 have hN40 : N ≤ 40 := by rw [← HN.out]; exact hf.1
 have HS1 := Lib.hid (HSS.out w1 hb1)
 have HCell := Lib.hid (fun (i : Nat) (s : Str) (hs : l[i]? = some s) => (by
  have hil : i < l.length := (List.getElem?_eq_some_iff.1 hs).1
  obtain ⟨b, off, e, hcell⟩ := HK.out (fun e => by rw [e] at hil; exact absurd hil (Nat.not_lt_zero _))
  have q := keep_cell hb1 (hcell i hil)
  rw [List.getElem?_eq_getElem hil] at hs
  injection hs with hs
  rw [hs] at q
  exact ⟨b, off, e, q⟩ : ∃ b off, ao = some ⟨b, off, none⟩ ∧ w1.cell? ⟨b, off + i, none⟩ = some (str s)))
 clear hf hb1 HF HSS HA HK
 go_wp2
 go_loopg [8] I.size (fun G s8 wr => ∃ i : Nat, i + G = I.size ∧ s8 = .int .i64 (i : Int) ∧ Hid (∀ (j : Nat) (b : UInt8), j < i → I.data.toList[j]? = some b → lowU b) ∧ wr = w1)
 case atStart => exact ⟨0, by omega, rfl, Lib.hid (fun j b hj => absurd hj (Nat.not_lt_zero _)), rfl⟩
 case round =>
  obtain ⟨i, hig, rfl, HLow, hwr⟩ := hrel
  subst wr
  cases gk with
  | succ G =>
   have hi : i < I.size := by omega
   have hlt : (i : Int) < (I.size : Int) := by omega
   obtain ⟨x, hx⟩ : ∃ x : UInt8, I[i]'hi = x := ⟨_, rfl⟩
   have hxl : I.data.toList[i]? = some x := by rw [← hx]; exact Lib.data_getElem? I i hi
   have HXL := Lib.hid hxl
   have s5 : IntKind.i64.wrap ((i : Int) + 1) = ((i + 1 : Nat) : Int) := by rw [IntWalk.i64_in _ (by omega)]; omega
   clear hxl
   by_cases h97 : (x.toNat : Int) < 97
   ·go_wp2
    go_ret
    exact ⟨rfl, HB1.out⟩
   by_cases h122 : (122 : Int) < (x.toNat : Int)
   ·go_wp2
    go_ret
    exact ⟨rfl, HB1.out⟩
   have HL2 : Hid (∀ (j : Nat) (b : UInt8), j < i + 1 → I.data.toList[j]? = some b → lowU b) := Lib.hid (fun j b hj hb => by
    rcases Nat.lt_or_ge j i with h | h
    ·exact HLow.out j b h hb
    ·obtain rfl : j = i := by omega
     have := HXL.out
     rw [hb] at this
     injection this with this
     rw [this]
     exact ⟨by omega, by omega⟩)
   go_wp2
   go_roundg G
   case rel => exact ⟨i + 1, by omega, rfl, HL2, rfl⟩
   case measure => omega
  | zero =>
   obtain rfl : i = I.size := by omega
   have HInf : Hid (∀ c ∈ I.data.toList, lowU c) := Lib.hid (fun c hc => by
    obtain ⟨j, hj⟩ := List.mem_iff_getElem?.1 hc
    have := (List.getElem?_eq_some_iff.1 hj).1
    rw [Array.length_toList] at this
    exact HLow.out j c this hj)
   clear HLow
   go_wp2
   go_loopg [9, 10] N (fun G s9 s10 wr => ∃ (i : Nat) (Z : ByteArray), i + G = N ∧ s10 = .int .i64 (i : Int) ∧ s9 = .string Z ∧ Hid (Z.data.toList = ended (l.take i)) ∧ Z.size ≤ 81 * i ∧ Hid (∀ (j : Nat) (s : Str), j < i → l[j]? = some s → s.count 126 < 9) ∧ wr = w1)
   case atStart => exact ⟨0, ⟨#[]⟩, by omega, rfl, rfl, Lib.hid rfl, by decide, Lib.hid (fun j s hj => absurd hj (Nat.not_lt_zero _)), rfl⟩
   case round =>
    obtain ⟨i, Z, hig2, rfl, rfl, HZ, hZs, HCt, hwr⟩ := hrel
    subst wr
    cases gk with
    | zero =>
     obtain rfl : i = N := by omega
     have hln : l.take i = l := List.take_of_length_le (by rw [HN.out]; exact Nat.le_refl _)
     have HZl : Hid (Z.data.toList = ended l) := Lib.hid (by rw [HZ.out, hln])
     have HCl : Hid (∀ s ∈ l, s.count 126 < 9) := Lib.hid (fun s hs => by
      obtain ⟨j, hj⟩ := List.mem_iff_getElem?.1 hs
      have := (List.getElem?_eq_some_iff.1 hj).1
      exact HCt.out j s (by have := HN.out; omega) hj)
     have HQ := Lib.hid (fences_eq (P.foot m) I.data.toList l HInf.out HCl.out)
     have hI50 : I.data.toList.length ≤ 50 := by rw [Array.length_toList]; show I.size ≤ 50; omega
     have HI50 := Lib.hid hI50
     obtain ⟨J, hJ⟩ : ∃ J : ByteArray, ⟨(wave ++ I.data.toList).toArray⟩ = J := ⟨_, rfl⟩
     have hJ1 : (⟨#[126, 126, 126, 126, 126, 126, 126, 126, 126]⟩ : ByteArray) ++ I = J := by
      rw [← hJ]
      apply bytes_ext
      rw [ByteArray.data_append, Array.toList_append]
      rfl
     have hJs : J.size ≤ 60 := by
      rw [← hJ1, ByteArray.size_append]
      have : (⟨#[126, 126, 126, 126, 126, 126, 126, 126, 126]⟩ : ByteArray).size = 9 := rfl
      omega
     have hws : (⟨#[126, 126, 126, 126, 126, 126, 126, 126, 126]⟩ : ByteArray).size = 9 := rfl
     have HC1 : Hid (OwnS (w1.alloc (.cells #[.string J] 9)) w1.heap.size (.slice (some ⟨w1.heap.size, 0, none⟩) 1 1) [wave ++ I.data.toList]) := Lib.hid (by
      rw [← hJ]
      exact ⟨rfl, .inr ⟨w1.heap.size, 1, _, rfl, Nat.le_refl _, heap_alloc_new w1 _, Nat.le_refl _, by decide, rfl, rfl⟩⟩)
     have HS2 := Lib.hid (HS1.out.keep ((Below.refl _ w1).alloc (Nat.le_refl _) (.cells #[.string J] 9)))
     have hZ10 : Z.size ≤ 10000 := by omega
     have HII : Hid ((⟨I.data.toList.toArray⟩ : ByteArray) = I) := Lib.hid rfl
     have HZZ : Hid ((⟨(ended l).toArray⟩ : ByteArray) = Z) := Lib.hid (by rw [← HZl.out])
     clear hln hJ hI50 HCt HZ
     go_wp2_with (at_builtin; refine wpList_append_lines rfl _ _ rfl w1.heap.size (.slice (some ⟨w1.heap.size, 0, none⟩) 1 1) (.slice ao i cap) [wave ++ I.data.toList] l rfl rfl HC1.out HS2.out ?e3 (by rw [World.size_alloc]; exact Nat.le_succ _) ?_)
     case e3 => have := HN.out; first | omega | (simp only [List.length_cons, List.length_nil]; omega)
     intro u2 w2 hown2 hb2
     obtain ⟨a2, c2, e2⟩ := OwnS.form (L := (wave ++ I.data.toList) :: l) hown2
     have hl2 : ((wave ++ I.data.toList) :: l).length = i + 1 := by rw [List.length_cons, HN.out]
     rw [hl2] at e2
     subst e2
     have HO2 : Hid (OwnS (w2.alloc (.cells #[.string ⟨#[126, 126, 126, 126, 126, 126, 126, 126, 126]⟩, .string ⟨#[120]⟩] 9)) w1.heap.size (.slice a2 (i + 1) c2) ([wave ++ I.data.toList] ++ l)) := Lib.hid (World.ownsRow.alloc hown2 _)
     have HX2 : Hid (Below w1.heap.size w1 w2) := Lib.hid (((Below.refl _ w1).alloc (Nat.le_refl _) (.cells #[.string J] 9)).trans hb2)
     have HS3 : Hid (SSl (w2.alloc (.cells #[.string ⟨#[126, 126, 126, 126, 126, 126, 126, 126, 126]⟩, .string ⟨#[120]⟩] 9)) (.slice (some ⟨w2.heap.size, 0, none⟩) 2 2) [wave, [120]]) := Lib.hid (ssl_new w2 [wave, [120]] (by decide))
     have HSz : Hid (w1.heap.size ≤ (w2.alloc (.cells #[.string ⟨#[126, 126, 126, 126, 126, 126, 126, 126, 126]⟩, .string ⟨#[120]⟩] 9)).heap.size) := Lib.hid (by rw [World.size_alloc]; have := HX2.out.size; omega)
     clear hown2 hb2 hl2
     go_wp2_with (at_builtin; refine wpList_append_lines rfl _ _ rfl w1.heap.size (.slice a2 (i + 1) c2) (.slice (some ⟨w2.heap.size, 0, none⟩) 2 2) ([wave ++ I.data.toList] ++ l) [wave, [120]] rfl rfl HO2.out HS3.out ?f3 HSz.out ?_)
     case f3 => have := HN.out; first | omega | (simp only [List.length_append, List.length_cons, List.length_nil]; omega)
     intro u3 w3 hown3 hb3
     have HX3 : Hid (Below w1.heap.size w1 w3) := Lib.hid ((HX2.out.alloc HX2.out.size _).trans hb3)
     have HW3 : Hid (Below w.heap.size w w3) := Lib.hid (below_later HB1.out HX3.out)
     have hs3 : SSl w3 u3 (fenced I.data.toList l) := hown3.ssl
     have HPQ := Lib.hid (HP.out w3 HW3.out u3 HFw.out HI50.out hs3)
     rw [HQ.out] at HPQ
     obtain ⟨a3, c3, e3⟩ := OwnS.form (L := fenced I.data.toList l) hown3
     have hl3 : (fenced I.data.toList l).length = i + 3 := by unfold fenced; rw [List.length_append, List.length_cons, HN.out]; rfl
     rw [hl3] at e3
     subst e3
     clear hown3 hb3 hs3 hl3
     go_wp2_with fail
     refine HPQ.out.mono ?_
     rintro e w4 ⟨ub, rb, rfl, hin, hcn, hr, hb4, _⟩
     have HW4 := Lib.hid (below_later HW3.out hb4)
     obtain ⟨ab, cb, rfl, _, h | ⟨bb, off2, rfl, _, hc⟩⟩ := hin
     ·cases h
     obtain ⟨L1, q1, _⟩ := hc.get (i := 0) rfl
     obtain ⟨L2, q2, _⟩ := hc.get (i := 1) rfl
     rw [Nat.zero_mul, Nat.add_zero] at q1
     rw [Nat.one_mul] at q2
     obtain ⟨ar, cr, rfl⟩ := P.formR hr
     rw [P.len0]
     obtain ⟨d0, d1, d2, _, _, _, _, d7, _⟩ := q1
     obtain ⟨f0, f1, _, _, _, _, _, _, _⟩ := q2
     replace d0 : w4.cell? ⟨bb, off2, none⟩ = some (.int .i64 5) := d0
     replace d1 : w4.cell? ⟨bb, off2 + 1, none⟩ = some (.string Z) := by rw [← HZZ.out]; exact d1
     replace d2 : w4.cell? ⟨bb, off2 + 2, none⟩ = some (.string I) := d2
     replace d7 : w4.cell? ⟨bb, off2 + 7, none⟩ = some (.int .i64 ((i + 1 : Nat) : Int)) := by have := d7; rw [show (Blk.mk 5 (ended l) I.data.toList 0 0 false 0 (l.length + 1) []).ow.z = l.length + 1 from rfl, HN.out] at this; exact this
     replace f0 : w4.cell? ⟨bb, off2 + 9, none⟩ = some (.int .i64 7) := f0
     replace f1 : w4.cell? ⟨bb, off2 + 9 + 1, none⟩ = some (.string ⟨#[120]⟩) := f1
     have s5 : IntKind.i64.wrap ((i : Int) + 1) = ((i + 1 : Nat) : Int) := by rw [IntWalk.i64_in _ (by omega)]; omega
     clear hcn hr hb4 hc
     go_wp2
     go_ret
     exact ⟨rfl, HW4.out⟩
    | succ G =>
     have hlt2 : (i : Int) < (N : Int) := by omega
     have hil : i < l.length := by have := HN.out; omega
     obtain ⟨s, hs⟩ : ∃ s, l[i]? = some s := ⟨_, List.getElem?_eq_getElem hil⟩
     obtain ⟨b, off, e9, q0⟩ := HCell.out i s hs
     subst e9
     have hsz : s.length ≤ 80 := HFw.out.2 s (List.mem_of_getElem? hs)
     unfold str at q0
     obtain ⟨S, hS⟩ : ∃ S : ByteArray, ⟨s.toArray⟩ = S := ⟨_, rfl⟩
     have hSd : S.data.toList = s := by rw [← hS]
     have hSz : S.size ≤ 80 := by rw [← hS]; exact hsz
     rw [hS] at q0
     have HSd := Lib.hid hSd
     have HS := Lib.hid hs
     have s5 : IntKind.i64.wrap ((i : Int) + 1) = ((i + 1 : Nat) : Int) := by rw [IntWalk.i64_in _ (by omega)]; omega
     clear hS hSd hs hsz hil
     go_wp2
     go_loopg [11, 12] S.size (fun G2 s11 s12 wr => ∃ (k n : Nat), k + G2 = S.size ∧ s12 = .int .i64 (k : Int) ∧ s11 = .int .i64 (n : Int) ∧ n ≤ k ∧ Hid ((S.data.toList.take k).count 126 = n) ∧ wr = w1)
     case atStart => exact ⟨0, 0, by omega, rfl, rfl, Nat.le_refl _, Lib.hid rfl, rfl⟩
     case round =>
      obtain ⟨k, n, hkg, rfl, rfl, hnk, HCn, hwr⟩ := hrel
      subst wr
      cases gk with
      | zero =>
       obtain rfl : k = S.size := by omega
       have hcn : s.count 126 = n := by
        have := HCn.out
        rw [List.take_of_length_le (by rw [Array.length_toList]; exact Nat.le_refl _), HSd.out] at this
        exact this
       have HCN := Lib.hid hcn
       clear hcn
       by_cases h9 : (9 : Int) ≤ (n : Int)
       ·go_wp2
        go_ret
        exact ⟨rfl, HB1.out⟩
       obtain ⟨Y1, hY1⟩ : ∃ Y1, Z ++ S = Y1 := ⟨_, rfl⟩
       obtain ⟨Y2, hY2⟩ : ∃ Y2, Y1 ++ (⟨#[10]⟩ : ByteArray) = Y2 := ⟨_, rfl⟩
       have hy1 : Y1.size = Z.size + S.size := by rw [← hY1, ByteArray.size_append]
       have hy2 : Y2.size = Y1.size + 1 := by rw [← hY2, ByteArray.size_append]; rfl
       have hy1b : Y1.size ≤ 10000 := by omega
       have hy2b : Y2.size ≤ 10000 := by omega
       have hzb : Z.size ≤ 10000 := by omega
       have HY2 : Hid (Y2.size ≤ 81 * (i + 1)) := Lib.hid (by omega)
       have HZ2 : Hid (Y2.data.toList = ended (l.take (i + 1))) := Lib.hid (by
        rw [List.take_add_one, HS.out, ended_app, ← hY2, ← hY1, ByteArray.data_append, ByteArray.data_append, Array.toList_append, Array.toList_append, HZ.out, HSd.out]
        show (ended (l.take i) ++ s) ++ [10] = ended (l.take i) ++ (s ++ 10 :: [])
        rw [List.append_assoc])
       have HC3 : Hid (∀ (j : Nat) (s : Str), j < i + 1 → l[j]? = some s → s.count 126 < 9) := Lib.hid (fun j s2 hj h2 => by
        rcases Nat.lt_or_ge j i with h | h
        ·exact HCt.out j s2 h h2
        ·obtain rfl : j = i := by omega
         have h3 := HS.out
         rw [h2] at h3
         injection h3 with h3
         have := HCN.out
         rw [h3]
         omega)
       have hsz1 : (⟨#[10]⟩ : ByteArray).size = 1 := rfl
       clear hy1 hy2
       go_wp2
       go_roundg G
       case rel => exact ⟨i + 1, Y2, by omega, rfl, rfl, HZ2, HY2.out, HC3, rfl⟩
       case measure => omega
      | succ G2 =>
       have hkS : k < S.size := by omega
       have hlt3 : (k : Int) < (S.size : Int) := by omega
       obtain ⟨x, hx⟩ : ∃ x : UInt8, S[k]'hkS = x := ⟨_, rfl⟩
       have hxl : S.data.toList[k]? = some x := by rw [← hx]; exact Lib.data_getElem? S k hkS
       have htk : S.data.toList.take (k + 1) = S.data.toList.take k ++ [x] := by rw [List.take_add_one, hxl]; rfl
       have HTk := Lib.hid htk
       have s6 : IntKind.i64.wrap ((k : Int) + 1) = ((k + 1 : Nat) : Int) := by rw [IntWalk.i64_in _ (by omega)]; omega
       have s7 : IntKind.i64.wrap ((n : Int) + 1) = ((n + 1 : Nat) : Int) := by rw [IntWalk.i64_in _ (by omega)]; omega
       clear hxl htk
       by_cases h126 : x = 126
       ·have e1 : ((x.toNat : Int) == 126) = true := by rw [h126]; rfl
        have HC2 : Hid ((S.data.toList.take (k + 1)).count 126 = n + 1) := Lib.hid (by rw [HTk.out, List.count_append, HCn.out, h126]; rfl)
        clear h126
        go_wp2
        go_roundg G2
        case rel => exact ⟨k + 1, n + 1, by omega, rfl, rfl, by omega, HC2, rfl⟩
        case measure => omega
       ·have e1 : ((x.toNat : Int) == 126) = false := beq_eq_false_iff_ne.2 (fun e => h126 (UInt8.toNat_inj.1 (by show x.toNat = 126; omega)))
        have e2 : ¬ (x.toNat : Int) = 126 := fun e => h126 (UInt8.toNat_inj.1 (by show x.toNat = 126; omega))
        have HC2 : Hid ((S.data.toList.take (k + 1)).count 126 = n) := Lib.hid (by
         rw [HTk.out, List.count_append, HCn.out]
         have : List.count 126 [x] = 0 := by rw [List.count_singleton]; rw [if_neg]; intro e; exact h126 (beq_iff_eq.1 e)
         omega)
        clear h126
        go_wp2
        go_roundg G2
        case rel => exact ⟨k + 1, n, by omega, rfl, rfl, by omega, HC2, rfl⟩
        case measure => omega
end Bk
end Go.Proofs.YtkiipaaaakhhfaaGreatDoor
end
