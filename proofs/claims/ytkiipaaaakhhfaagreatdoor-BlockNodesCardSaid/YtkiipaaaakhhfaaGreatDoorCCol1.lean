import GoSem.Core.Utf8
import Derived.Lib.SlTrimSet
import Derived.Test.YtkiipaaaakhhfaaGreatDoorCShelf1
import Derived.WalkKit
import Derived.BigCall
import Derived.BigQuiet
import Derived.Deep.QuietTactic
import Derived.Lib.Hide
import Derived.Deep.DeepCutAuto
import Derived.OneCell
import Derived.RegionTactic
import Derived.Below
section
set_option linter.unusedVariables false
set_option linter.unusedSimpArgs false
namespace Go.Proofs.YtkiipaaaakhhfaaGreatDoor
namespace Cl
def wd (c : UInt8) (col : Nat) : Nat := if c = 32 then 1 else if c = 9 then 4 - col % 4 else 0
theorem wd_le (c : UInt8) (col : Nat) : wd c col ≤ 4 := by
  unfold wd
  split
  · omega
  · split <;> omega
theorem wd_blank (col : Nat) : wd 32 col = 1 := rfl
def indC : List UInt8 → Nat → Nat
  | [], _ => 0
  | c :: t, col => if wd c col = 0 then 0 else wd c col + indC t (col + wd c col)
def indB : List UInt8 → Nat → Nat
  | [], _ => 0
  | c :: t, col => if wd c col = 0 then 0 else 1 + indB t (col + wd c col)
def skp : List UInt8 → Nat → Nat → List UInt8 × Nat
  | l, col, 0 => (l, col)
  | [], col, _ + 1 => ([], col)
  | c :: t, col, n + 1 => if wd c col = 0 then (c :: t, col) else if n + 1 ≤ wd c col then (List.replicate (wd c col - (n + 1)) 32 ++ t, col + (n + 1)) else skp t (col + wd c col) (n + 1 - wd c col)
theorem indC_z (c : UInt8) (t : List UInt8) (col : Nat) (h : wd c col = 0) : indC (c :: t) col = 0 := by simp [indC, h]
theorem indB_z (c : UInt8) (t : List UInt8) (col : Nat) (h : wd c col = 0) : indB (c :: t) col = 0 := by simp [indB, h]
theorem indC_s (c : UInt8) (t : List UInt8) (col w : Nat) (h : wd c col = w) (h0 : w ≠ 0) : indC (c :: t) col = w + indC t (col + w) := by
  subst h; simp [indC, h0]
theorem indB_s (c : UInt8) (t : List UInt8) (col w : Nat) (h : wd c col = w) (h0 : w ≠ 0) : indB (c :: t) col = 1 + indB t (col + w) := by
  subst h; simp [indB, h0]
theorem indB_le (l : List UInt8) (col : Nat) : indB l col ≤ l.length := by
  induction l generalizing col with
  | nil => simp [indB]
  | cons c t ih => simp only [indB]; split; · simp
                   have := ih (col + wd c col); simp; omega
theorem indC_le (l : List UInt8) (col : Nat) : indC l col ≤ 4 * l.length := by
  induction l generalizing col with
  | nil => simp [indC]
  | cons c t ih => simp only [indC]; split; · simp
                   have := ih (col + wd c col); have := wd_le c col; simp; omega
theorem indC_rep (k : Nat) (t : List UInt8) (col : Nat) : indC (List.replicate k 32 ++ t) col = k + indC t (col + k) := by
  induction k generalizing col with
  | zero => simp
  | succ k ih =>
    rw [List.replicate_succ, List.cons_append]
    rw [indC_s 32 _ col 1 rfl (by decide), ih, show col + 1 + k = col + (k + 1) from by omega]; omega
theorem indB_rep (k : Nat) (t : List UInt8) (col : Nat) : indB (List.replicate k 32 ++ t) col = k + indB t (col + k) := by
  induction k generalizing col with
  | zero => simp
  | succ k ih =>
    rw [List.replicate_succ, List.cons_append]
    rw [indB_s 32 _ col 1 rfl (by decide), ih, show col + 1 + k = col + (k + 1) from by omega]; omega
theorem skp_nil (col n : Nat) : skp [] col n = ([], col) := by cases n <;> simp [skp]
theorem skp_spec (l : List UInt8) (col n : Nat) : indC (skp l col n).1 (skp l col n).2 = indC l col - n ∧ (skp l col n).2 = col + min (indC l col) n ∧
    (skp l col n).1.drop (indB (skp l col n).1 (skp l col n).2) = l.drop (indB l col) := by
  induction l generalizing col n with
  | nil => rw [skp_nil]; simp [indC]
  | cons c t ih =>
    cases n with
    | zero => simp [skp]
    | succ n =>
      simp only [skp]
      by_cases h0 : wd c col = 0
      · rw [if_pos h0]; simp [indC, indB, h0]
      · rw [if_neg h0]
        by_cases hn : n + 1 ≤ wd c col
        · rw [if_pos hn]
          have e : col + (n + 1) + (wd c col - (n + 1)) = col + wd c col := by omega
          refine ⟨?_, ?_, ?_⟩
          · show indC (List.replicate (wd c col - (n + 1)) 32 ++ t) (col + (n + 1)) = _
            rw [indC_rep, e]; simp only [indC]; rw [if_neg h0]; omega
          · show col + (n + 1) = _
            simp only [indC]; rw [if_neg h0]; omega
          · show (List.replicate (wd c col - (n + 1)) 32 ++ t).drop (indB (List.replicate (wd c col - (n + 1)) 32 ++ t) (col + (n + 1))) = _
            rw [indB_rep, e]
            simp only [indB]; rw [if_neg h0, Nat.add_comm 1, List.drop_succ_cons]
            rw [List.drop_append]
            simp
        · rw [if_neg hn]
          obtain ⟨h1, h2, h3⟩ := ih (col + wd c col) (n + 1 - wd c col)
          refine ⟨?_, ?_, ?_⟩
          · rw [h1]; simp only [indC]; rw [if_neg h0]; omega
          · rw [h2]; simp only [indC]; rw [if_neg h0]; omega
          · rw [h3]; simp only [indB]; rw [if_neg h0, Nat.add_comm 1, List.drop_succ_cons]
theorem skp_len (l : List UInt8) (col n : Nat) : (skp l col n).1.length ≤ 4 * l.length := by
  induction l generalizing col n with
  | nil => rw [skp_nil]; simp
  | cons c t ih =>
    cases n with
    | zero => simp [skp]; omega
    | succ n =>
      simp only [skp]
      have := wd_le c col
      split
      · simp; omega
      · split
        · simp; omega
        · have := ih (col + wd c col) (n + 1 - wd c col); simp; omega
def wht (c : UInt8) : Bool := c == 32 || (decide (9 ≤ c.toNat) && decide (c.toNat ≤ 13))
def lft (l : List UInt8) : List UInt8 := l.dropWhile wht
def rgt (l : List UInt8) : List UInt8 := (l.reverse.dropWhile wht).reverse
def cutset : List UInt8 := [9, 10, 11, 12, 13, 32]
theorem cutset_wht : (fun c => cutset.contains c) = wht := by
  funext c
  have : ∀ n : Fin 256, cutset.contains (UInt8.ofNat n.val) = wht (UInt8.ofNat n.val) := by decide +kernel
  have h := this ⟨c.toNat, UInt8.toNat_lt c⟩
  simpa using h
theorem lib_left (l : List UInt8) : Lib.trimLeftS l cutset = lft l := by unfold Lib.trimLeftS lft; rw [cutset_wht]
theorem lib_right (l : List UInt8) : Lib.trimRightS l cutset = rgt l := by unfold Lib.trimRightS rgt; rw [cutset_wht]
theorem lft_cons (c : UInt8) (t : List UInt8) : lft (c :: t) = if wht c then lft t else c :: t := by simp [lft, List.dropWhile_cons]
theorem lft_len (l : List UInt8) : (lft l).length ≤ l.length := by
  induction l with
  | nil => simp [lft]
  | cons c t ih => rw [lft_cons]; split <;> simp; omega
theorem rgt_len (l : List UInt8) : (rgt l).length ≤ l.length := by
  have := lft_len l.reverse; unfold lft at this; unfold rgt; simpa using this
end Cl
end Go.Proofs.YtkiipaaaakhhfaaGreatDoor
end
section
namespace Go.Proofs.YtkiipaaaakhhfaaGreatDoor
open Go Go.RowKit
namespace Cl
set_option maxRecDepth 100000
set_option linter.unusedVariables false
set_option linter.unusedSimpArgs false
def str (l : List UInt8) : Value := .string ⟨l.toArray⟩
theorem clone_any (s : ByteArray) (w : World) (hs : s.size ≤ 281474976710656) :
    Calls Tryz.prog 31 #[.string s] w fun e w' => e = .returned (.string s) ∧ Below w.heap.size w w' := by
  go_enter Tryz.func31, Tryz.ntmps31
  go_wp2_with (go_at_call 50; refine (Tryz.stringslite_Clone s w hs).mono ?_; rintro e w1 ⟨rfl, hb⟩)
  go_ret
  exact ⟨rfl, hb⟩
theorem start_any (col : Nat) (w : World) (h : col ≤ 1073741824) :
    Calls Tryz.prog 88 #[.int .i64 (col : Int)] w fun e w' => e = .returned (.int .i64 (col : Int)) ∧ w = w' := by
  go_enter Tryz.func88, Tryz.ntmps88
  go_wp2
  go_ret
  exact ⟨rfl, rfl⟩
def Var (w : World) (g : Nat) (x : Nat) : Prop := w.heap[g]? = some (.cells #[.int .i64 (x : Int)] 3 (0, 0))
theorem widths_any (col : Nat) (w : World) :
    Calls Tryz.prog 87 #[.int .i64 (col : Int)] w fun e w' => e = .returned (.func (.func 120) #[] #[.pointer (some ⟨w.heap.size, 0, none⟩)]) ∧ Var w' w.heap.size col ∧ Below w.heap.size w w' := by
  go_enter Tryz.func87, Tryz.ntmps87
  go_wp2
  go_ret
  exact ⟨rfl, heap_alloc_new w _, (Below.refl _ w).alloc (Nat.le_refl _) _⟩
theorem wide_any (c : UInt8) (col g : Nat) (w : World) (hv : Var w g col) (hc : col ≤ 4611686018427387904) :
    Calls Tryz.prog 120 #[.int .u8 (c.toNat : Int), .pointer (some ⟨g, 0, none⟩)] w fun e w' => e = .returned (.int .i64 (wd c col : Nat)) ∧ Var w' g (col + wd c col) ∧ Below g w w' := by
  have hcell := cell_of_one hv
  have hfree := free_of_one hv
  have Hset := Lib.hid (fun u => one_setCell (u := u) hv)
  have Hv := Lib.hid hv
  clear hv
  by_cases h1 : c = 32
  · subst h1
    go_enter Tryz.func120, Tryz.ntmps120
    go_wp2
    go_ret
    exact ⟨rfl, by have := Hset.out (.int .i64 ((col : Int) + 1)); exact this, Below.setCell (p := ⟨g, 0, none⟩) (Below.refl g w) (Nat.le_refl g) _⟩
  · have e1 : ((c.toNat : Int) == 32) = false := by
      have : c.toNat ≠ 32 := fun e => h1 (UInt8.toNat_inj.1 (by simpa using e))
      simp; omega
    by_cases h2 : c = 9
    · subst h2
      have hm : (col : Int) % 4 = ((col % 4 : Nat) : Int) := by omega
      have hm0 : ((col : Int) % 4) ≤ 3 := by omega
      have hm1 : 0 ≤ ((col : Int) % 4) := by omega
      have Hm := Lib.hid hm
      have Hw : Hid ((wd 9 col : Nat) = 4 - col % 4) := Lib.hid rfl
      clear h1 e1 hm
      go_enter Tryz.func120, Tryz.ntmps120
      go_wp2
      go_ret
      have e2 : (4 : Int) - (col : Int) % 4 = ((wd 9 col : Nat) : Int) := by rw [Hw.out, Hm.out]; omega
      have e3 : (col : Int) + (4 - (col : Int) % 4) = ((col + wd 9 col : Nat) : Int) := by rw [Hw.out, Hm.out]; omega
      rw [e3, e2]
      exact ⟨rfl, Hset.out _, Below.setCell (p := ⟨g, 0, none⟩) (Below.refl g w) (Nat.le_refl g) _⟩
    · have e2 : ((c.toNat : Int) == 9) = false := by
        have : c.toNat ≠ 9 := fun e => h2 (UInt8.toNat_inj.1 (by simpa using e))
        simp; omega
      have Hw : Hid (wd c col = 0) := Lib.hid (by unfold wd; rw [if_neg h1, if_neg h2])
      clear h1 h2
      go_enter Tryz.func120, Tryz.ntmps120
      go_wp2
      go_ret
      rw [Hw.out]
      exact ⟨rfl, by have := Hset.out (.int .i64 (col : Int)); exact this, Below.setCell (p := ⟨g, 0, none⟩) (Below.refl g w) (Nat.le_refl g) _⟩
theorem sz (s : ByteArray) : s.data.toList.length = s.size := by rw [Array.length_toList]; rfl
theorem cons_at {s : ByteArray} {k : Nat} (h : k < s.size) : ∃ c t, s.data.toList.drop k = c :: t ∧ s[k] = c ∧ s.data.toList.drop (k + 1) = t := by
  cases hd : s.data.toList.drop k with
  | nil => have := congrArg List.length hd; rw [List.length_drop, sz] at this; simp at this; omega
  | cons x t =>
    refine ⟨x, t, rfl, ?_, ?_⟩
    · have := congrArg (fun l => l[0]?) hd
      simp at this
      rw [Array.getElem?_eq_getElem (show k < s.data.size from h)] at this
      exact Option.some.inj this
    · rw [← List.drop_drop, hd]; rfl
theorem ret_int2 {a b x y : Int} (h1 : a = x) (h2 : b = y) : Ending.returned (.tuple #[.int .i64 a, .int .i64 b]) = .returned (.tuple #[.int .i64 x, .int .i64 y]) := by rw [h1, h2]
theorem Var.below {w w' : World} {B g x : Nat} (h : Var w g x) (hb : Below B w w') (hg : g < B) : Var w' g x := (hb.block g hg).trans h
theorem Var.lt {w : World} {g x : Nat} (h : Var w g x) : g < w.heap.size := lt_of_block h
def IRel (l : List UInt8) (col k a : Nat) : Prop := indC l col = a + indC (l.drop k) (col + a) ∧ indB l col = k + indB (l.drop k) (col + a) ∧ a ≤ 4 * k
theorem irel_start (l : List UInt8) (col : Nat) : IRel l col 0 0 := by simp [IRel]
theorem irel_step {l : List UInt8} {col k a x : Nat} {c : UInt8} {t : List UInt8} (h : IRel l col k a) (hd : l.drop k = c :: t) (ht : l.drop (k + 1) = t) (hx : wd c (col + a) = x) (h0 : x ≠ 0) : IRel l col (k + 1) (a + x) := by
  obtain ⟨h1, h2, h3⟩ := h
  have h4 := wd_le c (col + a)
  refine ⟨?_, ?_, by omega⟩
  · rw [h1, hd, indC_s c t _ x hx h0, ht, ← Nat.add_assoc col]; omega
  · rw [h2, hd, indB_s c t _ x hx h0, ht, ← Nat.add_assoc col]; omega
theorem irel_stop {l : List UInt8} {col k a : Nat} {c : UInt8} {t : List UInt8} (h : IRel l col k a) (hd : l.drop k = c :: t) (hx : wd c (col + a) = 0) : indC l col = a ∧ indB l col = k := by
  obtain ⟨h1, h2, h3⟩ := h
  rw [hd, indC_z c t _ hx] at h1
  rw [hd, indB_z c t _ hx] at h2
  exact ⟨by omega, by omega⟩
theorem irel_end {l : List UInt8} {col k a : Nat} (h : IRel l col k a) (hk : l.length ≤ k) : indC l col = a ∧ indB l col = k := by
  obtain ⟨h1, h2, h3⟩ := h
  rw [List.drop_eq_nil_of_le hk] at h1 h2
  simp [indC] at h1; simp [indB] at h2
  exact ⟨h1, h2⟩
set_option maxHeartbeats 1000000 in
theorem indent_any (s : ByteArray) (col : Nat) (w : World) (hs : s.size ≤ 1099511627776) (hc : col ≤ 1073741824) :
    Calls Tryz.prog 52 #[.string s, .int .i64 (col : Int)] w fun e w' => e = .returned (.tuple #[.int .i64 (indC s.data.toList col : Nat), .int .i64 (indB s.data.toList col : Nat)]) ∧ Below w.heap.size w w' := by
  go_enter Tryz.func52, Tryz.ntmps52
  go_wp2_with (first
    | (go_at_call 88; refine (start_any col _ hc).mono ?_; rintro e w' ⟨rfl, rfl⟩)
    | (go_at_call 87; refine (widths_any col w).mono ?_; rintro e w1 ⟨rfl, hv, hb⟩))
  have HB := Lib.hid hb
  clear hb
  go_loopw [7, 15] (fun v7 v15 wr => ∃ k a : Nat, k ≤ s.size ∧ v15 = .int .i64 (k : Int) ∧ v7 = .int .i64 (a : Int) ∧ Var wr w.heap.size (col + a) ∧ Hid (Below w.heap.size w wr) ∧ Hid (IRel s.data.toList col k a)) (fun _ v15 _ => s.size - (intOf v15).toNat)
  case atStart => exact ⟨0, 0, Nat.zero_le _, rfl, rfl, hv, HB, Lib.hid (irel_start _ _)⟩
  case round =>
    obtain ⟨k, a, hk, rfl, rfl, hvr, HBr, HI⟩ := hrel
    have ha : a ≤ 4 * k := HI.out.2.2
    clear hv HB
    by_cases hlt : k < s.size
    · obtain ⟨c, t, hd, hck, ht⟩ := cons_at hlt
      have HD := Lib.hid hd
      have HT := Lib.hid ht
      clear hd ht
      obtain ⟨x, hx⟩ : ∃ x, wd c (col + a) = x := ⟨_, rfl⟩
      have hx4 : x ≤ 4 := by rw [← hx]; exact wd_le _ _
      have HW := Lib.hid (wide_any c (col + a) w.heap.size wr hvr (by omega))
      rw [hx] at HW
      have Hx := Lib.hid hx
      clear hx hvr
      by_cases h0 : x = 0
      · subst h0
        go_wp2_with (go_at_call 120; refine HW.out.mono ?_; rintro e w2 ⟨rfl, hv2, hb2⟩)
        have hst := irel_stop HI.out HD.out Hx.out
        go_ret2
        exact ⟨ret_int2 (by omega) (by omega), HBr.out.trans hb2⟩
      · have hxb : ((x : Int) == 0) = false := by simp; omega
        have Hx0 := Lib.hid h0
        have hx1 : 1 ≤ x := by omega
        clear h0
        go_wp2_with (go_at_call 120; refine HW.out.mono ?_; rintro e w2 ⟨rfl, hv2, hb2⟩)
        go_roundw
        case rel => exact ⟨k + 1, a + x, by omega, by go_num, by go_num, by rw [← Nat.add_assoc]; exact hv2, Lib.hid (HBr.out.trans hb2), Lib.hid (irel_step HI.out HD.out HT.out Hx.out Hx0.out)⟩
        case measure => simp [intOf]; omega
    · have hst := irel_end HI.out (by rw [sz]; omega)
      have H1 := Lib.hid hst
      clear hst
      go_wp2
      go_ret2
      exact ⟨ret_int2 (by rw [H1.out.1]) (by rw [H1.out.2]; omega), HBr.out⟩
def Bld (B b : Nat) (acc : List UInt8) (w : World) : Prop := Lib.IsBuilder 132 5 B b (Lib.byteCells acc) w
theorem rep_snoc (k : Nat) : List.replicate (k + 1) (32 : UInt8) = List.replicate k 32 ++ [32] := List.replicate_succ'
theorem strCells_eq (s : ByteArray) : Lib.strCells s = Lib.byteCells s.data.toList := rfl
set_option maxHeartbeats 1000000 in
theorem blanks_any (n : Nat) (s : ByteArray) (w : World) (hs : s.size ≤ 1099511627776) (hn : n ≤ 8796093022208) :
    Calls Tryz.prog 143 #[.int .i64 (n : Int), .string s] w fun e w' => e = .returned (str (List.replicate n 32 ++ s.data.toList)) ∧ Below w.heap.size w w' := by
  go_enter Tryz.func143, Tryz.ntmps143
  go_wp2_with (go_at_call 130; rw [show (n : Int) + (s.size : Int) = ((n + s.size : Nat) : Int) from by omega]; refine (Tryz.Builder_Grow_fresh w.heap.size w.heap.size (n + s.size) _ (Nat.le_refl _) ?g1 ?g2 ?g3).mono ?_)
  case g1 => simp only [World.alloc, Array.getElem?_push_size]
  case g2 => simp
  case g3 => omega
  rintro e w1 ⟨rfl, hb1, hbw1⟩
  have hbw0 : Below w.heap.size w w1 := ((Below.refl _ w).alloc (Nat.le_refl _) _).trans hbw1
  have hB1 : Bld w.heap.size w.heap.size [] w1 := Or.inr hb1
  clear hbw1 hb1
  go_wp2
  go_loopw [12] (fun v12 wr => ∃ k : Nat, k ≤ n ∧ v12 = .int .i64 (k : Int) ∧ Bld w.heap.size w.heap.size (List.replicate k 32) wr ∧ Below w.heap.size w wr) (fun v12 _ => n - (intOf v12).toNat)
  case atStart => exact ⟨0, Nat.zero_le _, rfl, hB1, hbw0⟩
  case round =>
    obtain ⟨k, hk, rfl, hB, hbw⟩ := hrel
    have hsz := hbw.size
    have hl : (Lib.byteCells (List.replicate k (32 : UInt8))).length = k := by rw [Lib.byteCells_length]; simp
    have Hl := Lib.hid hl
    clear hl hB1 hbw0
    by_cases hlt : k < n
    · go_wp2_with (go_at_call 116; refine (Tryz.Builder_WriteByte w.heap.size w.heap.size _ 32 _ hB (by rw [Hl.out]; omega) hsz).mono ?_; rintro e w2 ⟨rfl, hb2, hbw2⟩)
      go_roundw
      case rel =>
        refine ⟨k + 1, by omega, by go_num, ?_, hbw.trans hbw2⟩
        rw [rep_snoc]; unfold Bld; refine Or.inr ?_
        simpa [Lib.byteCells] using hb2
      case measure => simp [intOf]; omega
    · obtain rfl : k = n := by omega
      clear hlt
      go_wp2_with (go_at_call 115; refine (Tryz.Builder_WriteString w.heap.size w.heap.size _ s _ hB (by rw [Hl.out]; omega) hsz).mono ?_; rintro e w2 ⟨rfl, hb2, hbw2⟩)
      have hB2 : Bld w.heap.size w.heap.size (List.replicate k 32 ++ s.data.toList) w2 := by
        unfold Bld; refine Or.inr ?_
        rw [strCells_eq] at hb2
        simpa [Lib.byteCells] using hb2
      have hbw3 := hbw.trans hbw2
      have hsz3 := hbw3.size
      clear hb2 hbw2 hB
      go_wp2_with (go_at_call 117; refine (Tryz.Builder_String_any w.heap.size w.heap.size _ _ hB2 hsz3).mono ?_; rintro e w4 ⟨rfl, hb4⟩)
      go_ret
      exact ⟨rfl, hbw3.trans hb4⟩
def skS (l : List UInt8) (col n : Nat) : Value := .tuple #[str (skp l col n).1, .int .i64 ((skp l col n).2 : Nat)]
def SRel (l : List UInt8) (col n k c m : Nat) : Prop := skp l col n = skp (l.drop k) c m ∧ 1 ≤ m ∧ m ≤ n ∧ c + m = col + n
theorem srel_start (l : List UInt8) (col n : Nat) (h : 1 ≤ n) : SRel l col n 0 col n := ⟨rfl, h, Nat.le_refl _, rfl⟩
theorem srel_step {l : List UInt8} {col n k c m x : Nat} {b : UInt8} {t : List UInt8} (h : SRel l col n k c m) (hd : l.drop k = b :: t) (ht : l.drop (k + 1) = t) (hx : wd b c = x) (h0 : x ≠ 0) (hm : x < m) : SRel l col n (k + 1) (c + x) (m - x) := by
  obtain ⟨h1, h2, h3, h4⟩ := h
  refine ⟨?_, by omega, by omega, by omega⟩
  obtain ⟨i, rfl⟩ : ∃ i, m = i + 1 := ⟨m - 1, by omega⟩
  rw [h1, hd, ht]
  simp only [skp]
  rw [hx, if_neg h0, if_neg (by omega)]
theorem srel_none {l : List UInt8} {col n k c m : Nat} {b : UInt8} {t : List UInt8} (h : SRel l col n k c m) (hd : l.drop k = b :: t) (hx : wd b c = 0) : skp l col n = (l.drop k, c) := by
  obtain ⟨h1, h2, h3, h4⟩ := h
  obtain ⟨i, rfl⟩ : ∃ i, m = i + 1 := ⟨m - 1, by omega⟩
  rw [h1, hd]
  simp only [skp]
  rw [if_pos hx]
theorem srel_cut {l : List UInt8} {col n k c m x : Nat} {b : UInt8} {t : List UInt8} (h : SRel l col n k c m) (hd : l.drop k = b :: t) (ht : l.drop (k + 1) = t) (hx : wd b c = x) (h0 : x ≠ 0) (hm : m ≤ x) : skp l col n = (List.replicate (x - m) 32 ++ l.drop (k + 1), c + m) := by
  obtain ⟨h1, h2, h3, h4⟩ := h
  obtain ⟨i, rfl⟩ : ∃ i, m = i + 1 := ⟨m - 1, by omega⟩
  rw [h1, hd, ht]
  simp only [skp]
  rw [hx, if_neg h0, if_pos hm]
theorem srel_end {l : List UInt8} {col n k c m : Nat} (h : SRel l col n k c m) (hk : l.length ≤ k) : skp l col n = ([], c) := by
  rw [h.1, List.drop_eq_nil_of_le hk, skp_nil]
theorem ret_skip {s : ByteArray} {x : Int} {l : List UInt8} {col n : Nat} {r : List UInt8 × Nat} (h : skp l col n = r) (h1 : s.data.toList = r.1) (h2 : x = (r.2 : Nat)) : Ending.returned (.tuple #[.string s, .int .i64 x]) = .returned (skS l col n) := by
  unfold skS
  rw [h, ← h1, h2]; rfl
theorem ret_skip' {v : List UInt8} {x : Int} {l : List UInt8} {col n : Nat} {r : List UInt8 × Nat} (h : skp l col n = r) (h1 : v = r.1) (h2 : x = (r.2 : Nat)) : Ending.returned (.tuple #[str v, .int .i64 x]) = .returned (skS l col n) := by
  unfold skS
  rw [h, h1, h2]
set_option maxHeartbeats 2000000 in
theorem skip_any (s : ByteArray) (col n : Nat) (w : World) (hs : s.size ≤ 1099511627776) (hc : col ≤ 1073741824) (hn : n ≤ 1073741824) :
    Calls Tryz.prog 113 #[.string s, .int .i64 (col : Int), .int .i64 (n : Int)] w fun e w' => e = .returned (skS s.data.toList col n) ∧ Below w.heap.size w w' := by
  by_cases hn0 : n = 0
  · subst hn0
    go_enter Tryz.func113, Tryz.ntmps113
    go_wp2_with (go_at_call 31; refine (clone_any s w (by omega)).mono ?_; rintro e w1 ⟨rfl, hb⟩)
    go_ret2
    exact ⟨ret_skip (r := (s.data.toList, col)) (by simp [skp]) rfl rfl, hb⟩
  · have hn1 : 1 ≤ n := by omega
    clear hn0
    go_enter Tryz.func113, Tryz.ntmps113
    go_wp2_with (first
      | (go_at_call 88; refine (start_any col _ hc).mono ?_; rintro e w' ⟨rfl, rfl⟩)
      | (go_at_call 87; refine (widths_any col w).mono ?_; rintro e w1 ⟨rfl, hv, hb⟩))
    have HB := Lib.hid hb
    clear hb
    go_loopw [1, 2, 22] (fun v1 v2 v22 wr => ∃ k c m : Nat, k ≤ s.size ∧ v22 = .int .i64 (k : Int) ∧ v1 = .int .i64 (c : Int) ∧ v2 = .int .i64 (m : Int) ∧ Var wr w.heap.size c ∧ Hid (Below w.heap.size w wr) ∧ Hid (SRel s.data.toList col n k c m)) (fun _ _ v22 _ => s.size - (intOf v22).toNat)
    case atStart => exact ⟨0, col, n, Nat.zero_le _, rfl, rfl, rfl, hv, HB, Lib.hid (srel_start _ _ _ hn1)⟩
    case round =>
      obtain ⟨k, c, m, hk, rfl, rfl, rfl, hvr, HBr, HI⟩ := hrel
      have hm1 : 1 ≤ m := HI.out.2.1
      have hmn : m ≤ n := HI.out.2.2.1
      have hcm : c + m ≤ 2147483648 := by rw [HI.out.2.2.2]; omega
      have hsz := HBr.out.size
      clear hv HB
      by_cases hlt : k < s.size
      · obtain ⟨b, t, hd, hck, ht⟩ := cons_at hlt
        have HD := Lib.hid hd
        have HT := Lib.hid ht
        clear hd ht
        obtain ⟨x, hx⟩ : ∃ x, wd b c = x := ⟨_, rfl⟩
        have hx4 : x ≤ 4 := by rw [← hx]; exact wd_le _ _
        have HW := Lib.hid (wide_any b c w.heap.size wr hvr (by omega))
        rw [hx] at HW
        have Hx := Lib.hid hx
        clear hx hvr
        by_cases h0 : x = 0
        · subst h0
          have hxs : (s.extract k s.size).size ≤ 281474976710656 := by simp; omega
          go_wp2_with (first
            | (go_at_call 120; refine HW.out.mono ?_; rintro e w2 ⟨rfl, hv2, hb2⟩)
            | (go_at_call 31; refine (clone_any _ _ hxs).mono ?_; rintro e w3 ⟨rfl, hb3⟩))
          have hbw := HBr.out.trans hb2
          go_ret2
          exact ⟨ret_skip (srel_none HI.out HD.out Hx.out) (Lib.extract_to_end _ _) rfl, hbw.trans (hb3.mono hbw.size)⟩
        · have hxb : ((x : Int) == 0) = false := by simp; omega
          have Hx0 := Lib.hid h0
          have hx1 : 1 ≤ x := by omega
          clear h0
          by_cases hxm : m ≤ x
          · have hxm' : (m : Int) ≤ (x : Int) := by omega
            have hxs : (s.extract (k + 1) s.size).size ≤ 1099511627776 := by simp; omega
            have HX := Lib.hid (fun W => blanks_any (x - m) (s.extract (k + 1) s.size) W hxs (by omega))
            have hsub : ((x - m : Nat) : Int) = (x : Int) - (m : Int) := by omega
            rw [hsub] at HX
            clear hsub
            go_wp2_with (first
              | (go_at_call 120; refine HW.out.mono ?_; rintro e w2 ⟨rfl, hv2, hb2⟩)
              | (go_at_call 143; refine (HX.out _).mono ?_; rintro e w3 ⟨rfl, hb3⟩))
            have hbw := HBr.out.trans hb2
            go_ret2
            exact ⟨ret_skip' (srel_cut HI.out HD.out HT.out Hx.out Hx0.out hxm) (by first | rw [Lib.extract_to_end] | rw [List.take_of_length_le (by rw [List.length_drop, sz]; omega)]) (by simp), hbw.trans (hb3.mono hbw.size)⟩
          · have hxm' : (x : Int) < (m : Int) := by omega
            have Hxm := Lib.hid hxm
            clear hxm
            go_wp2_with (go_at_call 120; refine HW.out.mono ?_; rintro e w2 ⟨rfl, hv2, hb2⟩)
            go_roundw
            case rel => exact ⟨k + 1, c + x, m - x, by omega, by go_num, by go_num, by go_num, hv2, Lib.hid (HBr.out.trans hb2), Lib.hid (srel_step HI.out HD.out HT.out Hx.out Hx0.out (by omega))⟩
            case measure => simp [intOf]; omega
      · have hst := Lib.hid (srel_end HI.out (by rw [sz]; omega))
        go_wp2
        go_ret2
        exact ⟨ret_skip hst.out rfl rfl, HBr.out⟩
theorem cut_ascii : ∀ (j : Nat) b, (⟨#[9, 10, 11, 12, 13, 32]⟩ : ByteArray).data.toList[j]? = some b → b.toNat < 128 := Go.Proofs.ascii_of_all (by decide)
theorem trimLeft_any (s : ByteArray) (w : World) (hs : s.size ≤ 1099511627776) :
    Calls Tryz.prog 73 #[.string s] w fun e w' => e = .returned (str (lft s.data.toList)) ∧ Below w.heap.size w w' := by
  have HT := Lib.hid (Tryz.strings_TrimLeft_ascii s ⟨#[9, 10, 11, 12, 13, 32]⟩ w (by decide) cut_ascii)
  rw [show (⟨#[9, 10, 11, 12, 13, 32]⟩ : ByteArray).data.toList = cutset from rfl, lib_left] at HT
  have hsz : (⟨(lft s.data.toList).toArray⟩ : ByteArray).size ≤ 281474976710656 := by
    have := lft_len s.data.toList; rw [sz] at this
    show (lft s.data.toList).length ≤ _; omega
  unfold str
  generalize (⟨(lft s.data.toList).toArray⟩ : ByteArray) = r at *
  go_enter Tryz.func73, Tryz.ntmps73
  go_wp2_with (first
    | (go_at_call 112; refine HT.out.mono ?_; rintro e w1 ⟨rfl, hb1⟩)
    | (go_at_call 31; refine (clone_any _ _ hsz).mono ?_; rintro e w2 ⟨rfl, hb2⟩))
  go_ret
  exact ⟨rfl, hb1.trans (hb2.mono hb1.size)⟩
theorem trimRight_any (s : ByteArray) (w : World) (hs : s.size ≤ 1099511627776) :
    Calls Tryz.prog 100 #[.string s] w fun e w' => e = .returned (str (rgt s.data.toList)) ∧ Below w.heap.size w w' := by
  have HT := Lib.hid (Tryz.strings_TrimRight_ascii s ⟨#[9, 10, 11, 12, 13, 32]⟩ w (by omega) (by decide) cut_ascii)
  rw [show (⟨#[9, 10, 11, 12, 13, 32]⟩ : ByteArray).data.toList = cutset from rfl, lib_right] at HT
  have hsz : (⟨(rgt s.data.toList).toArray⟩ : ByteArray).size ≤ 281474976710656 := by
    have := rgt_len s.data.toList; rw [sz] at this
    show (rgt s.data.toList).length ≤ _; omega
  unfold str
  generalize (⟨(rgt s.data.toList).toArray⟩ : ByteArray) = r at *
  go_enter Tryz.func100, Tryz.ntmps100
  go_wp2_with (first
    | (go_at_call 53; refine HT.out.mono ?_; rintro e w1 ⟨rfl, hb1⟩)
    | (go_at_call 31; refine (clone_any _ _ hsz).mono ?_; rintro e w2 ⟨rfl, hb2⟩))
  go_ret
  exact ⟨rfl, hb1.trans (hb2.mono hb1.size)⟩
end Cl
end Go.Proofs.YtkiipaaaakhhfaaGreatDoor
end
