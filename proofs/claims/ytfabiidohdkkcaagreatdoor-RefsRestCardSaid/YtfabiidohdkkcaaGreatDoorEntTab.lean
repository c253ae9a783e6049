/- The two tables of layer 4: a literal of 183 structs, walked by the kernel's reckoning. -/
import Derived.Test.YtfabiidohdkkcaaGreatDoorShelf
import Derived.Test.YtfabiidohdkkcaaGreatDoorEntPure
import Derived.WalkKit
import Derived.BigCall
import Derived.Below
import Derived.Great.BuildSlice
import Derived.Great.Walk
import Derived.Deep.WholeRow
namespace Go.Proofs.YtfabiidohdkkcaaGreatDoor
open Go Go.RowKit Go.Great
namespace En
set_option maxRecDepth 1000000
set_option linter.unusedVariables false

def str (l : List UInt8) : Value := .string ⟨l.toArray⟩
/-- The cells of a table. -/
def cellsT : Array Value := (rowsT.flatMap fun e => [str e.1, .int .i32 e.2]).toArray

/-- Literals of structs, one behind the other: what the frame holds behind them. -/
def builtAll (P : Program) : List Oper → Act → Option Act
  | [], a => some a
  | o :: rest, a =>
    match o.guard, o.op with
    | none, .build t parts =>
      match P.built t (parts.map fun (i, x) => (i, a.eval x)).toList with
      | some cells => builtAll P rest (a.put o.dst (.agg cells))
      | none => none
    | _, _ => none

theorem wpList_builtAll {P : Program} {ops : Array Oper} {Q : Exit → Act → World → Prop} (rest : List Oper) (w : World) :
    ∀ (l : List Oper) (a a' : Act), builtAll P l a = some a' → wpList P ops Q rest a' w → wpList P ops Q (l ++ rest) a w
  | [], a, a', h, hk => by
    simp only [builtAll, Option.some.injEq] at h
    subst h
    exact hk
  | o :: l, a, a', h, hk => by
    unfold builtAll at h
    split at h
    · rename_i t parts hg ho
      split at h
      · rename_i cells hc
        exact wpList_buildTo hg t parts ho o.dst rfl cells hc (wpList_builtAll rest w l _ a' h hk)
      · cases h
    · cases h

theorem wpList_builtN {P : Program} {ops : Array Oper} {Q : Exit → Act → World → Prop} {l : List Oper} {a : Act} {w : World} (n : Nat) (h : (builtAll P (l.take n) a).isSome = true)
    (hk : wpList P ops Q (l.drop n) ((builtAll P (l.take n) a).getD a) w) : wpList P ops Q l a w := by
  obtain ⟨a', ha⟩ := Option.isSome_iff_exists.1 h
  rw [ha] at hk
  have := wpList_builtAll (P := P) (ops := ops) (Q := Q) (l.drop n) w (l.take n) a a' ha hk
  rwa [List.take_append_drop] at this
theorem wpList_eq {P : Program} {ops : Array Oper} {Q : Exit → Act → World → Prop} {l l' : List Oper} {a : Act} {w : World} (h : l = l') (hk : wpList P ops Q l' a w) : wpList P ops Q l a w := h ▸ hk

attribute [local irreducible] wpList Code.wp cellsT builtAll

set_option maxHeartbeats 4000000 in
theorem rtable_any (w : World) :
    Calls Tryz.prog 117 #[] w fun e w' => e = .returned (.slice (some ⟨w.heap.size, 0, none⟩) 183 183) ∧ w' = w.alloc (.cells cellsT 124) := by
  refine calls_of_wp Tryz.func117 rfl ?_
  apply wp_seq_k; intro K hK
  apply wp_region_lit
  refine wpList_runTo rfl (some 0) rfl (.slice none 0 0) w (by kernel_rfl) ?_
  apply wpList_nil
  refine hK _ _ ?_
  clear hK K
  apply wp_seq_k; intro K hK
  apply wp_region_lit
  refine wpList_builtN 183 (by as_aux_lemma => kernel_rfl) ?_
  refine wpList_buildSliceTo rfl 121 124 183 _ rfl w.heap.size rfl (some 184) rfl (by as_aux_lemma => kernel_rfl) cellsT (by as_aux_lemma => kernel_rfl) ?_
  refine wpList_runTo rfl (some 0) rfl (.slice (some ⟨w.heap.size, 0, none⟩) 183 183) (w.alloc (.cells cellsT 124)) (by as_aux_lemma => kernel_rfl) ?_
  apply wpList_nil
  refine hK _ _ ?_
  clear hK K
  apply wp_ret
  exact bodyPost_ret (v := .slice (some ⟨w.heap.size, 0, none⟩) 183 183) (by as_aux_lemma => kernel_rfl) (by as_aux_lemma => kernel_rfl) ⟨rfl, rfl⟩
end En
end Go.Proofs.YtfabiidohdkkcaaGreatDoor
