/- Walks of layer 5, the second part: Html. -/
import Derived.Test.YtimmifoicihadaaDoorEscA
import Derived.Deep.LoopGhost
namespace Go.Proofs.YtimmifoicihadaaDoor
open Go Go.RowKit
namespace Es
open En
set_option maxRecDepth 100000
set_option linter.unusedVariables false
set_option linter.unusedSimpArgs false

def str (l : List UInt8) : Value := .string ⟨l.toArray⟩
theorem size_mk (l : List UInt8) : (⟨l.toArray⟩ : ByteArray).size = l.length := by rfl
theorem ret_strL {a b : List UInt8} (h : a = b) : Ending.returned (.string ⟨a.toArray⟩) = .returned (str b) := by rw [h]; rfl
/-- A builder of the call's own that holds these bytes. -/
def BF (B : Nat) (bs : List UInt8) (w : World) : Prop := Lib.IsBuilderF 31 5 B B (Lib.byteCells bs) w
theorem bf_below {W W' : World} {B : Nat} {bs : List UInt8} (h : BF B bs W) (hb : Below W.heap.size W W') : BF B bs W' := by
  have one : ∀ p, Lib.BuilderAtF 31 5 B B p (Lib.byteCells bs) W → Lib.BuilderAtF 31 5 B B p (Lib.byteCells bs) W' := by
    intro p h
    have hlt := h.lt
    obtain ⟨hB, v, hv, hown, hne⟩ := h
    exact ⟨hB, v, (hb.block B hlt).trans hv, hown.kept (row := none) ⟨hb.os, hb.tape, hb.output, hb.size, fun k hk _ => hb.block k hk⟩ (Classical.em _), hne⟩
  exact h.elim (fun x => .inl (one _ x)) (fun x => .inr (one _ x))
theorem byteCells_app (a b : List UInt8) : Lib.byteCells (a ++ b) = Lib.byteCells a ++ Lib.byteCells b := by simp [Lib.byteCells]
theorem strCells_mk (l : List UInt8) : Lib.strCells ⟨l.toArray⟩ = Lib.byteCells l := by simp [Lib.strCells, Lib.byteCells]
theorem bf_str {B : Nat} {p : Value} {bs l r : List UInt8} {w : World} (h : Lib.BuilderAtF 31 5 B B p (Lib.byteCells bs ++ Lib.strCells ⟨l.toArray⟩) w) (hp : p = .pointer (some ⟨B, 0, none⟩)) (hr : r = bs ++ l) : BF B r w := by
  subst hp hr
  refine Or.inr ?_
  rw [byteCells_app, ← strCells_mk l]
  exact h
theorem bf_byte {B : Nat} {p : Value} {bs r : List UInt8} {c : UInt8} {w : World} (h : Lib.BuilderAtF 31 5 B B p (Lib.byteCells bs ++ [.int .u8 (c.toNat : Int)]) w) (hp : p = .pointer (some ⟨B, 0, none⟩)) (hr : r = bs ++ [c]) : BF B r w := by
  subst hp hr
  refine Or.inr ?_
  rw [byteCells_app]
  exact h

set_option maxHeartbeats 2000000 in
theorem html_any (s : ByteArray) (w : World) (hs : s.size ≤ 1000000) :
    Calls Tryd.prog 11 #[.string s] w fun e w' => e = .returned (str (html s.data.toList)) ∧ Below w.heap.size w w' := by
  have hdl := Lib.hid (sz s)
  go_enter Tryd.func11, Tryd.ntmps11
  go_wp2_with (go_at_call 19; refine (Tryd.Builder_Grow_fresh w.heap.size w.heap.size s.size _ (Nat.le_refl _) ?g1 ?g2 ?g3).mono ?_)
  case g1 => simp only [World.alloc, Array.getElem?_push_size]
  case g2 => simp
  case g3 => omega
  rintro e w1 ⟨rfl, hb1, hbw1⟩
  have hbw0 : Below w.heap.size w w1 := ((Below.refl _ w).alloc (Nat.le_refl _) _).trans hbw1
  have hB1 : BF w.heap.size [] w1 := Lib.IsBuilderF.of (Or.inr hb1)
  clear hbw1 hb1
  go_wp2
  go_loopg [10] s.size (fun g s10 wr => ∃ k : Nat, k + g = s.size ∧ s10 = .int .i64 k ∧ BF w.heap.size (html (s.data.toList.take k)) wr ∧ Below w.heap.size w wr)
  case atStart => exact ⟨0, by omega, rfl, hB1, hbw0⟩
  case round =>
    obtain ⟨k, hkg, rfl, hB, hbw⟩ := hrel
    have hsz := hbw.size
    clear hB1 hbw0
    cases gk with
    | zero =>
      have hkl : ¬ ((k : Int) < (s.size : Int)) := by omega
      have hk2 : s.data.toList.length ≤ k := by rw [hdl.out]; omega
      go_wp2_with (go_at_call 22; refine (Tryd.Builder_String_any_f w.heap.size w.heap.size _ _ hB hsz).mono ?_; rintro e w3 ⟨rfl, _, hb3⟩)
      go_ret
      rw [List.take_of_length_le hk2]
      exact ⟨rfl, hbw.trans hb3⟩
    | succ g =>
      have hkl : (k : Int) < (s.size : Int) := by omega
      have hk2 : k < s.size := by omega
      obtain ⟨c, t, hd, hck, _⟩ := cons_at hk2
      have HT : Hid (html (s.data.toList.take (k + 1)) = html (s.data.toList.take k) ++ htB c) := Lib.hid (by
        rw [take_html _ _ (by rw [hdl.out]; exact hk2)]
        congr 2)
      have hlen : (html (s.data.toList.take k)).length ≤ 6000000 := by
        have := (html_len (s.data.toList.take k)).2
        rw [List.length_take, hdl.out] at this
        omega
      clear hd
      by_cases h1 : c = 38
      · subst h1
        go_wp2_with (go_at_call 20; refine (Tryd.Builder_WriteString_k w.heap.size w.heap.size _ _ _ hB ?a1 hsz).mono ?_)
        case a1 => rw [Lib.byteCells_length, size_mk [38, 97, 109, 112, 59]]; simp; omega
        rintro e w3 ⟨rfl, hb3, hbw3, _⟩
        go_wp2
        go_roundg g
        case rel => exact ⟨k + 1, by omega, by go_num, bf_str hb3 rfl HT.out, hbw.trans hbw3⟩
        case measure => omega
      have e1 : ((c.toNat : Int) == 38) = false := u8_ne (n := 38) (by decide) h1
      by_cases h2 : c = 60
      · subst h2
        clear h1 e1
        go_wp2_with (go_at_call 20; refine (Tryd.Builder_WriteString_k w.heap.size w.heap.size _ _ _ hB ?a2 hsz).mono ?_)
        case a2 => rw [Lib.byteCells_length, size_mk [38, 108, 116, 59]]; simp; omega
        rintro e w3 ⟨rfl, hb3, hbw3, _⟩
        go_wp2
        go_roundg g
        case rel => exact ⟨k + 1, by omega, by go_num, bf_str hb3 rfl HT.out, hbw.trans hbw3⟩
        case measure => omega
      have e2 : ((c.toNat : Int) == 60) = false := u8_ne (n := 60) (by decide) h2
      by_cases h3 : c = 62
      · subst h3
        clear h1 h2 e1 e2
        go_wp2_with (go_at_call 20; refine (Tryd.Builder_WriteString_k w.heap.size w.heap.size _ _ _ hB ?a3 hsz).mono ?_)
        case a3 => rw [Lib.byteCells_length, size_mk [38, 103, 116, 59]]; simp; omega
        rintro e w3 ⟨rfl, hb3, hbw3, _⟩
        go_wp2
        go_roundg g
        case rel => exact ⟨k + 1, by omega, by go_num, bf_str hb3 rfl HT.out, hbw.trans hbw3⟩
        case measure => omega
      have e3 : ((c.toNat : Int) == 62) = false := u8_ne (n := 62) (by decide) h3
      by_cases h4 : c = 34
      · subst h4
        clear h1 h2 h3 e1 e2 e3
        go_wp2_with (go_at_call 20; refine (Tryd.Builder_WriteString_k w.heap.size w.heap.size _ _ _ hB ?a4 hsz).mono ?_)
        case a4 => rw [Lib.byteCells_length, size_mk [38, 113, 117, 111, 116, 59]]; simp; omega
        rintro e w3 ⟨rfl, hb3, hbw3, _⟩
        go_wp2
        go_roundg g
        case rel => exact ⟨k + 1, by omega, by go_num, bf_str hb3 rfl HT.out, hbw.trans hbw3⟩
        case measure => omega
      have e4 : ((c.toNat : Int) == 34) = false := u8_ne (n := 34) (by decide) h4
      have HN := Lib.hid (htB_self h1 h2 h3 h4)
      clear h1 h2 h3 h4
      go_wp2_with (go_at_call 21; refine (Tryd.Builder_WriteByte_k w.heap.size w.heap.size _ _ _ hB ?a5 hsz).mono ?_)
      case a5 => rw [Lib.byteCells_length]; omega
      rintro e w3 ⟨rfl, hb3, hbw3, _⟩
      go_wp2
      go_roundg g
      case rel => exact ⟨k + 1, by omega, by go_num, bf_byte hb3 rfl (by rw [HT.out, HN.out]), hbw.trans hbw3⟩
      case measure => omega
end Es
end Go.Proofs.YtimmifoicihadaaDoor
