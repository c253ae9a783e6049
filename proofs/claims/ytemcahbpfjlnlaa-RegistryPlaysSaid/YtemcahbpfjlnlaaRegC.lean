/- Layer 7: a row of hooks, sorted. -/
import Derived.Test.YtemcahbpfjlnlaaRegB
namespace Go.Proofs.Ytemcahbpfjlnlaa
open Go Go.RowKit
namespace Rg
set_option maxRecDepth 100000
set_option linter.unusedVariables false
set_option linter.unusedSimpArgs false

theorem flat_get (l : List Hk) (t : Nat) (ht : t < l.length * 5) : (rowC l)[t]? = some (encH l.toArray[t / 5]!)[t % 5]! := by
  have h1 : t / 5 < l.length := by omega
  have h2 : t % 5 < 5 := Nat.mod_lt _ (by decide)
  have h3 : (hookC l[t / 5])[t % 5]? = some (encH l[t / 5])[t % 5]! := by
    have : t % 5 < (encH l[t / 5]).length := h2
    rw [getElem!_pos (encH l[t / 5]) (t % 5) this]
    simp [encH]
  have := rowC_get (List.getElem?_eq_getElem h1) (t % 5) _ h3
  rw [show t / 5 * 5 + t % 5 = t by omega] at this
  rw [this]
  have e : l.toArray[t / 5]! = l[t / 5] := by rw [getElem!_pos l.toArray (t / 5) (by simpa using h1)]; simp
  rw [e]
theorem flat_eq (l : List Hk) : (Go.Sort.flatK encH 5 l.toArray).toList = rowC l := by
  apply List.ext_getElem?
  intro t
  rcases Nat.lt_or_ge t (l.length * 5) with h | h
  · rw [flat_get l t h]
    have hs : t < (Go.Sort.flatK encH 5 l.toArray).size := by simpa using h
    have := Go.Sort.get_flatK encH 5 l.toArray t (by simpa using h)
    rw [getElem!_pos _ t hs] at this
    rw [← this]
    simp
  · rw [List.getElem?_eq_none (by simpa using h), List.getElem?_eq_none (by rw [rowC_len]; exact h)]
theorem holds_row {w : World} {g : Nat} {cur : Array Value} {l : List Hk} {t : TypeId} (hc : w.heap[g]? = some (.cells cur t (0, 0))) (h : cur.toList.take (l.length * 5) = rowC l) :
    Go.Sort.HoldsK encH 5 w g 0 l.toArray := by
  intro t ht
  have ht' : t < l.length * 5 := by simpa using ht
  refine ⟨?_, frozen_of_row w g _ _ _ hc⟩
  rw [cell_of_row w g _ _ _ _ hc, Nat.zero_add, Go.Sort.get_flatK encH 5 l.toArray t (by simpa using ht')]
  have h1 : (rowC l)[t]? = cur[t]? := by rw [← h, List.getElem?_take_of_lt ht']; simp
  rw [← h1, flat_get l t ht']
  rfl
theorem heap_mapBlock (w : World) (blk j : Nat) (f : Array Value → Array Value) : (Go.Sort.mapBlock w blk f).heap[j]? = if blk = j then (w.heap[j]?).map (Go.Sort.onCells f) else w.heap[j]? := by
  unfold Go.Sort.mapBlock
  simp only [Array.getElem?_modify]
theorem heap_sorted (w : World) (blk n j : Nat) (d : Array Hk) (os : Array Obj) (hj : j < w.heap.size) :
    (Go.Proofs.sortWorldK encH 5 w blk 0 n d os).heap[j]? = if blk = j then (w.heap[j]?).map (Go.Sort.onCells (Go.Sort.putCells id 0 (Go.Sort.flatK encH 5 d))) else w.heap[j]? := by
  have : (Go.Proofs.sortWorldK encH 5 w blk 0 n d os).heap = (Go.Sort.mapBlock (Go.Sort.ahead w n) blk (Go.Sort.putCells id 0 (Go.Sort.flatK encH 5 d))).heap ++ os := rfl
  rw [this, Array.getElem?_append_left (by simp [Go.Sort.mapBlock]; exact hj), heap_mapBlock]
  rfl
theorem only_sorted (w : World) (blk n : Nat) (d : Array Hk) (os : Array Obj) : Only (fun k => k = blk) w (Go.Proofs.sortWorldK encH 5 w blk 0 n d os) := by
  refine ⟨rfl, rfl, rfl, ?_, fun k hk hne => ?_⟩
  · have : (Go.Proofs.sortWorldK encH 5 w blk 0 n d os).heap = (Go.Sort.mapBlock (Go.Sort.ahead w n) blk (Go.Sort.putCells id 0 (Go.Sort.flatK encH 5 d))).heap ++ os := rfl
    rw [this, Array.size_append]
    have : (Go.Sort.mapBlock (Go.Sort.ahead w n) blk (Go.Sort.putCells id 0 (Go.Sort.flatK encH 5 d))).heap.size = w.heap.size := by simp [Go.Sort.mapBlock]
    omega
  · rw [heap_sorted w blk n k d os hk, if_neg (fun e => hne e.symm)]
theorem put_take (F cur : Array Value) (h : F.size ≤ cur.size) : (Go.Sort.putCells id 0 F cur).toList.take F.size = F.toList := by
  apply List.ext_getElem?
  intro t
  rcases Nat.lt_or_ge t F.size with ht | ht
  · rw [List.getElem?_take_of_lt ht]
    simp only [Go.Sort.putCells, Array.getElem?_toList, Array.getElem?_mapIdx]
    rw [Array.getElem?_eq_getElem (show t < cur.size by omega), Option.map_some, if_pos ⟨by omega, by omega⟩, Nat.sub_zero, getElem!_pos F t ht, Array.getElem?_eq_getElem ht]
    rfl
  · rw [List.getElem?_eq_none (by simp; omega), List.getElem?_eq_none (by simpa using ht)]

theorem sort_row {w : World} {base : Nat} {v : Value} {l : List Hk} (h : w.ownsRow base 29 5 v l.length (rowC l)) (hne : l ≠ []) (hl : l.length < 4611686018427387904) :
    Calls Try.prog 47 #[v, .func (.func 48) #[] #[]] w fun e w' =>
      e = .returned (.tuple #[]) ∧ ∃ l', l'.Perm l ∧ InOrder l' ∧ w'.ownsRow base 29 5 v l'.length (rowC l') ∧ Only (fun k => v.ownBlock = some k) w w' := by
  rcases h.2 with ⟨rfl, h0⟩ | ⟨g, cap, cur, rfl, hb, hc, hle, hm, hs, ht⟩
  · exact absurd (List.length_eq_zero_iff.1 h0) hne
  have hg : g < w.heap.size := (Array.getElem?_eq_some_iff.1 hc).1
  have hsz : l.toArray.size = l.length := by simp
  have hS := sort_any g cap l.toArray w (holds_row hc ht) hg (by rw [hsz]; exact hl)
  rw [hsz] at hS
  refine hS.mono ?_
  rintro e w' ⟨rfl, d', n, os, hp, ho, rfl⟩
  rw [← hsz] at hp ho
  obtain ⟨h1, h2⟩ := of_sorted hp ho
  have hlen : d'.toList.length = l.length := by rw [h1.length_eq]
  have hls : d'.size = l.length := by simpa using hlen
  refine ⟨rfl, d'.toList, by simpa using h1, h2, ?_, (only_sorted w g n d' os).mono fun k hk => by rw [hk]; rfl⟩
  refine ⟨rowC_len _, .inr ⟨g, cap, Go.Sort.putCells id 0 (Go.Sort.flatK encH 5 d') cur, by rw [hlen], hb, ?_, by rw [hlen]; exact hle, hm, by simp [Go.Sort.putCells, hs], ?_⟩⟩
  · rw [heap_sorted w g n g d' os hg, if_pos rfl, hc]; rfl
  · have e1 : (Go.Sort.flatK encH 5 d').size = d'.toList.length * 5 := by simp
    have e2 : (Go.Sort.flatK encH 5 d').toList = rowC d'.toList := flat_eq d'.toList
    rw [← e1, put_take _ _ (by rw [e1, hlen, hs]; exact Nat.mul_le_mul_right 5 hle), e2]
end Rg
end Go.Proofs.Ytemcahbpfjlnlaa
