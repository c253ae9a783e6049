/- Layer 7: whether lists of hooks are the same; the reference's own hooks; a registry beside a block. -/
import Derived.Test.YtemcahbpfjlnlaaRegN
import Derived.Deep.LoopGhost
namespace Go.Proofs.Ytemcahbpfjlnlaa
open Go Go.RowKit
namespace Rg
set_option maxRecDepth 100000
set_option linter.unusedVariables false
set_option linter.unusedSimpArgs false

set_option maxHeartbeats 4000000 in
theorem rsame_any {w : World} {v v' : Value} {l : List Hk} (h : Hooks w v l) (h' : Hooks w v' l) :
    Calls Try.prog 30 #[v, v'] w fun e w' => e = .returned (.bool true) ∧ Below w.heap.size w w' := by
  obtain ⟨a, cap, rfl, hlm, hc⟩ := h
  obtain ⟨a', cap', rfl, _, hc'⟩ := h'
  have HC := Lib.hid hc
  have HC' := Lib.hid hc'
  clear hc hc'
  obtain ⟨n, hn⟩ : ∃ n, n = l.length := ⟨_, rfl⟩
  rw [← hn] at hlm ⊢
  unfold maxLen at hlm
  have HLn := Lib.hid hn
  clear hn
  go_enter Try.func30, Try.ntmps30
  go_wp2_with fail
  go_loopg [5] n (fun G s5 wr => ∃ i : Nat, i + G = n ∧ s5 = .int .i64 i ∧ Below w.heap.size w wr)
  case atStart => exact ⟨0, by omega, rfl, Below.refl _ _⟩
  case round =>
    obtain ⟨i, hig, rfl, hbw⟩ := hrel
    cases gk with
    | zero =>
      have hlt : ¬ ((i : Int) < (n : Int)) := by omega
      go_wp2
      go_ret
      exact ⟨rfl, hbw⟩
    | succ G =>
      have hlt : (i : Int) < (n : Int) := by omega
      obtain ⟨o, ho⟩ : ∃ o, l[i]? = some o := ⟨_, List.getElem?_eq_getElem (by have := HLn.out; omega)⟩
      rcases HC.out with rfl | ⟨b, off, rfl, hcell⟩
      · simp at ho
      rcases HC'.out with rfl | ⟨b', off', rfl, hcell'⟩
      · simp at ho
      have K := (hcell i o ho).keep hbw
      have K' := (hcell' i o ho).keep hbw
      have c0 : wr.cell? ⟨b, off + i * 5, none⟩ = some (.string o.name) := K.c0
      have c1 : wr.cell? ⟨b, off + i * 5 + 1, none⟩ = some (.int .i64 o.ph) := K.c1
      have c2 : wr.cell? ⟨b, off + i * 5 + 2, none⟩ = some (.int .i64 o.pri) := K.c2
      have c3 : wr.cell? ⟨b, off + i * 5 + 3, none⟩ = some (.string o.trig) := K.c3
      have c4 : wr.cell? ⟨b, off + i * 5 + 4, none⟩ = some (.int .i64 o.bit) := K.c4
      have d0 : wr.cell? ⟨b', off' + i * 5, none⟩ = some (.string o.name) := K'.c0
      have d1 : wr.cell? ⟨b', off' + i * 5 + 1, none⟩ = some (.int .i64 o.ph) := K'.c1
      have d2 : wr.cell? ⟨b', off' + i * 5 + 2, none⟩ = some (.int .i64 o.pri) := K'.c2
      have d3 : wr.cell? ⟨b', off' + i * 5 + 3, none⟩ = some (.string o.trig) := K'.c3
      have d4 : wr.cell? ⟨b', off' + i * 5 + 4, none⟩ = some (.int .i64 o.bit) := K'.c4
      have hi1 : IntKind.i64.wrap ((i : Int) + 1) = ((i + 1 : Nat) : Int) := by rw [IntKind.wrap_i64]; omega
      have HB := Lib.hid hbw
      clear K K' hcell hcell' ho hbw
      go_wp2_with fail
      go_big_quiet (fail)
      have HB2 := Lib.hid (below_drewN HB.out nq)
      go_wp2
      go_roundg G
      case rel => exact ⟨i + 1, by omega, by first | rfl | go_num, HB2.out⟩
      case measure => omega
theorem same_any {w : World} {v v' : Value} {l : List Hk} (h : Hooks w v l) (h' : Hooks w v' l) :
    Calls Try.prog 15 #[v, v'] w fun e w' => e = .returned (.bool true) ∧ Below w.heap.size w w' := by
  have HS := Lib.hid (rsame_any h h')
  obtain ⟨a, cap, rfl, _, _⟩ := h
  obtain ⟨a', cap', rfl, _, _⟩ := h'
  go_enter Try.func15, Try.ntmps15
  go_wp2_with fail
  refine HS.out.mono ?_
  rintro e w1 ⟨rfl, hb⟩
  go_wp2
  go_ret
  exact ⟨rfl, hb⟩

set_option maxHeartbeats 8000000 in
theorem rcore_any (w : World) :
    Calls Try.prog 26 #[] w fun e w' => ∃ g, e = .returned (.slice (some ⟨g, 0, none⟩) 25 25) ∧ Blk w' g (rowC coreL).toArray 29 ∧ w.heap.size ≤ g ∧ Below w.heap.size w w' := by
  have hb0 := Below.refl w.heap.size w
  go_enter Try.func26, Try.ntmps26
  go_wp2
  have hB : Blk (w.alloc (.cells (rowC coreL).toArray 29)) w.heap.size (rowC coreL).toArray 29 := Blk.new w _ _
  have hb1 := hb0.alloc hb0.size (.cells (rowC coreL).toArray 29)
  go_ret
  exact ⟨w.heap.size, rfl, hB, Nat.le_refl _, hb1⟩
theorem core_hooks {w : World} {g cap : Nat} (h : Blk w g (rowC coreL).toArray 29) : Hooks w (.slice (some ⟨g, 0, none⟩) 25 cap) coreL :=
  Hooks.of_blk (l := coreL) h (by decide) rfl
def coreOk : Bool := (List.range 25).all fun i => match coreL[i]? with
  | some x => (!x.name.data.toList.isEmpty && !named (coreL.take i) x.name.data.toList && !false) && decide (x.name.size ≤ 300) && decide (x.trig.size ≤ 300) && (Lit.int .i64 x.ph).wf
  | none => false
theorem coreOk_true : coreOk = true := by decide +kernel
theorem core_at {i : Nat} {x : Hk} (h : coreL[i]? = some x) : fresh (coreL.take i) false x = true ∧ HkOk x := by
  have hi : i < 25 := (List.getElem?_eq_some_iff.1 h).1
  have := List.all_eq_true.1 coreOk_true i (List.mem_range.2 hi)
  rw [h] at this
  simp only [Bool.and_eq_true, decide_eq_true_eq] at this
  obtain ⟨⟨⟨h1, h2⟩, h3⟩, h4⟩ := this
  refine ⟨?_, hkok_small h2 h3 h4⟩
  rw [fresh_eq]
  simpa using h1

/-- A registry beside a block that it doesn't hold. -/
structure AtB (w w' : World) (X : Nat → Prop) (A : Nat) (m : Int) (hs : List Hk) (sl : Bool) (st : Int) (g : Nat) (cs : Array Value) : Prop where
  at_ : At w w' X A m hs sl st
  blk : Blk w' g cs 29
  nx : ¬ X g
section
variable {w w1 w2 : World} {X : Nat → Prop} {A g : Nat} {m : Int} {hs : List Hk} {sl : Bool} {st : Int} {cs : Array Value}
theorem AtB.add (h : AtB w w1 X A m hs sl st g cs) (x : Hk) (hx : HkOk x) (hl : hs.length < 1000000) :
    Calls Try.prog 13 #[ptr A, hookV x] w1 fun e w' => e = .returned (.bool (fresh hs sl x)) ∧ AtB w w' X A m (if fresh hs sl x then hs ++ [x] else hs) sl st g cs := by
  refine (add_any h.at_.rb x hx hl).mono ?_
  rintro e w' ⟨rfl, h1, h2⟩
  exact ⟨rfl, h.at_.then_only h1 h2, h.blk.only h2 h.nx, h.nx⟩
theorem AtB.sorted (h : AtB w w1 X A m hs sl st g cs) (p : Int) (hp : wfI p) :
    Calls Try.prog 16 #[ptr A, .int .i64 p] w1 fun e w' => ∃ v, e = .returned v ∧ Hooks w' v (told m hs p) ∧ ∃ X', AtB w w' X' A m hs true st g cs := by
  refine (sorted_any h.at_.rb p hp).mono ?_
  rintro e w' ⟨v, rfl, h1, X', h2, _⟩
  exact ⟨v, rfl, h1, X', h.at_.then_sealed h2, h.blk.only h2.on h.nx, fun hx => (h2.new g hx).elim h.nx fun e => by have := h.blk.lt; omega⟩
theorem AtB.below (h : AtB w w1 X A m hs sl st g cs) (hb : Below w1.heap.size w1 w2) : AtB w w2 X A m hs sl st g cs := ⟨h.at_.then_below hb, h.blk.below hb, h.nx⟩
end
end Rg
end Go.Proofs.Ytemcahbpfjlnlaa
