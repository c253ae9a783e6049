/- Layer 7: hooks in order. -/
import Derived.Sort.Walk0
import Derived.Sort.Lot0
import Derived.Sort.LotA
import Derived.Lib.Bytealg
import Derived.Lib.Small
import Derived.WideShapes
import Derived.Shelf.SlSortCmp.Insertion
namespace Go.Proofs.Ytemcahbpfjlnlaa
open Go Go.RowKit
namespace Rg

structure Hk where
  name : ByteArray
  ph : Int
  pri : Int
  trig : ByteArray
  bit : Int
  deriving DecidableEq
instance : Inhabited Hk := ⟨⟨⟨#[]⟩, 0, 0, ⟨#[]⟩, 0⟩⟩

/-! ### bytes in order -/
theorem cb_refl : ∀ a, Lib.compareBytes a a = 0
  | [] => rfl
  | x :: a => by rw [Lib.compareBytes, if_neg (UInt8.lt_irrefl x), if_neg (UInt8.lt_irrefl x), cb_refl a]
theorem cb_zero : ∀ {a b}, Lib.compareBytes a b = 0 → a = b
  | [], [], _ => rfl
  | [], _ :: _, h => by simp [Lib.compareBytes] at h
  | _ :: _, [], h => by simp [Lib.compareBytes] at h
  | x :: a, y :: b, h => by
    rw [Lib.compareBytes] at h
    split at h
    · omega
    · split at h
      · omega
      · rename_i h1 h2
        have : x = y := UInt8.le_antisymm (UInt8.not_lt.1 h2) (UInt8.not_lt.1 h1)
        rw [this, cb_zero h]
theorem cb_neg : ∀ a b, Lib.compareBytes b a = - Lib.compareBytes a b
  | [], [] => rfl
  | [], _ :: _ => rfl
  | _ :: _, [] => rfl
  | x :: a, y :: b => by
    rw [Lib.compareBytes, Lib.compareBytes]
    by_cases h1 : x < y
    · have h2 : ¬ y < x := UInt8.not_lt.2 (UInt8.le_of_lt h1)
      simp [h1, h2]
    · by_cases h2 : y < x
      · simp [h1, h2]
      · simp [h1, h2, cb_neg a b]
theorem cb_lt : ∀ a b, Op.bytesLess a b = decide (Lib.compareBytes a b < 0)
  | [], [] => rfl
  | [], _ :: _ => rfl
  | _ :: _, [] => rfl
  | x :: a, y :: b => by
    rw [Op.bytesLess, Lib.compareBytes]
    by_cases h1 : x < y
    · simp [h1]
    · by_cases h2 : y < x
      · have : ¬ x = y := fun e => h1 (e ▸ h2)
        simp [h1, h2, this]
      · have : x = y := UInt8.le_antisymm (UInt8.not_lt.1 h2) (UInt8.not_lt.1 h1)
        subst this
        simp [h1, cb_lt a b]
theorem cb_iff (a b : List UInt8) : Lib.compareBytes a b < 0 ↔ a < b := by
  have h1 := cb_lt a b
  rw [Go.Proofs.bytesLess_eq] at h1
  simpa using h1.symm
theorem cb_trans {a b c : List UInt8} (h1 : Lib.compareBytes a b < 0) (h2 : Lib.compareBytes b c < 0) : Lib.compareBytes a c < 0 :=
  (cb_iff _ _).2 (List.lt_trans ((cb_iff _ _).1 h1) ((cb_iff _ _).1 h2))
theorem bytes_eq {a b : ByteArray} (h : a.data.toList = b.data.toList) : a = b := Go.WideShapes.bytes_inj h

/-! ### hooks in order -/
def orI (x y : Int) : Int := if x = 0 then y else x
def cmpH (a b : Hk) : Int := orI (Lib.compareInt a.pri b.pri) (Lib.compareBytes a.name.data.toList b.name.data.toList)
theorem ci_cases (x y : Int) : (x < y ∧ Lib.compareInt x y = -1) ∨ (x = y ∧ Lib.compareInt x y = 0) ∨ (y < x ∧ Lib.compareInt x y = 1) := by
  unfold Lib.compareInt
  by_cases h1 : x < y
  · left; simp [h1]
  · by_cases h2 : x > y
    · right; right; simp [h1, h2]
    · right; left; simp [h1, h2]; omega
theorem cmpH_lt (a b : Hk) : cmpH a b < 0 ↔ a.pri < b.pri ∨ a.pri = b.pri ∧ Lib.compareBytes a.name.data.toList b.name.data.toList < 0 := by
  unfold cmpH orI
  rcases ci_cases a.pri b.pri with ⟨h, e⟩ | ⟨h, e⟩ | ⟨h, e⟩ <;> rw [e] <;> simp <;> omega
theorem cmpH_refl (a : Hk) : ¬ cmpH a a < 0 := by rw [cmpH_lt, cb_refl]; omega
theorem cmpH_trans {a b c : Hk} (h1 : cmpH a b < 0) (h2 : cmpH b c < 0) : cmpH a c < 0 := by
  rw [cmpH_lt] at *
  rcases h1 with h1 | ⟨e1, h1⟩ <;> rcases h2 with h2 | ⟨e2, h2⟩
  · left; omega
  · left; omega
  · left; omega
  · right; exact ⟨by omega, cb_trans h1 h2⟩
theorem cmpH_tie {a b : Hk} (h1 : ¬ cmpH a b < 0) (h2 : ¬ cmpH b a < 0) : a.pri = b.pri ∧ a.name = b.name := by
  rw [cmpH_lt] at *
  have hp : a.pri = b.pri := by omega
  refine ⟨hp, bytes_eq (cb_zero ?_)⟩
  have := cb_neg a.name.data.toList b.name.data.toList
  omega
theorem cmpH_ntrans {a b c : Hk} (h1 : ¬ cmpH a b < 0) (h2 : ¬ cmpH b c < 0) : ¬ cmpH a c < 0 := by
  intro h
  rw [cmpH_lt] at *
  have n1 := cb_neg a.name.data.toList b.name.data.toList
  have n2 := cb_neg b.name.data.toList c.name.data.toList
  rcases h with h | ⟨e, h⟩
  · omega
  · have e1 : a.pri = b.pri := by omega
    have e2 : b.pri = c.pri := by omega
    have g1 : ¬ Lib.compareBytes a.name.data.toList b.name.data.toList < 0 := fun x => h1 (.inr ⟨e1, x⟩)
    have g2 : ¬ Lib.compareBytes b.name.data.toList c.name.data.toList < 0 := fun x => h2 (.inr ⟨e2, x⟩)
    by_cases z1 : Lib.compareBytes a.name.data.toList b.name.data.toList = 0
    · rw [cb_zero z1] at h; exact g2 h
    · have := cb_trans (a := b.name.data.toList) (b := a.name.data.toList) (c := c.name.data.toList) (by omega) h
      exact g2 this
theorem swo : Go.Sort.SWO (Go.Proofs.ltOf cmpH) where
  irrefl x := by simp only [Go.Proofs.ltOf, decide_eq_false_iff_not]; exact cmpH_refl x
  trans x y z h1 h2 := by simp only [Go.Proofs.ltOf, decide_eq_true_eq] at *; exact cmpH_trans h1 h2
  ntrans x y z h1 h2 := by simp only [Go.Proofs.ltOf, decide_eq_false_iff_not] at *; exact cmpH_ntrans h1 h2

/-- No two have one name. -/
def Names (hs : List Hk) : Prop := hs.Pairwise fun a b => a.name ≠ b.name
/-- In order. -/
def InOrder (l : List Hk) : Prop := l.Pairwise fun a b => ¬ cmpH b a < 0
theorem Names.eq {hs : List Hk} (h : Names hs) {a b : Hk} (ha : a ∈ hs) (hb : b ∈ hs) (e : a.name = b.name) : a = b := by
  induction hs with
  | nil => cases ha
  | cons x r ih =>
    obtain ⟨h1, h2⟩ := List.pairwise_cons.1 h
    rcases List.mem_cons.1 ha with rfl | ha' <;> rcases List.mem_cons.1 hb with rfl | hb'
    · rfl
    · exact absurd e (h1 b hb')
    · exact absurd e.symm (h1 a ha')
    · exact ih h2 ha' hb'
theorem Names.perm {l l' : List Hk} (h : Names l) (hp : l.Perm l') : Names l' := (hp.pairwise_iff (fun {_ _} hne => Ne.symm hne)).1 h
theorem Names.filter {l : List Hk} (h : Names l) (p : Hk → Bool) : Names (l.filter p) := List.Pairwise.filter p h
theorem Names.snoc {l : List Hk} (h : Names l) {x : Hk} (hx : ∀ y ∈ l, y.name ≠ x.name) : Names (l ++ [x]) := by
  refine List.pairwise_append.2 ⟨h, List.pairwise_singleton _ _, ?_⟩
  intro a ha b hb
  rw [List.mem_singleton] at hb
  subst hb; exact hx a ha
theorem unique {l l' : List Hk} (hn : Names l) (hp : l.Perm l') (h : InOrder l) (h' : InOrder l') : l = l' := by
  refine List.Perm.eq_of_pairwise (le := fun a b => ¬ cmpH b a < 0) ?_ h h' hp
  intro a b ha hb h1 h2
  exact hn.eq ha (hp.mem_iff.2 hb) (cmpH_tie h2 h1).2

def ins (h : Hk) : List Hk → List Hk
  | [] => [h]
  | x :: r => if cmpH x h < 0 then x :: ins h r else h :: x :: r
def sortH : List Hk → List Hk
  | [] => []
  | h :: r => ins h (sortH r)
theorem ins_perm (h : Hk) : ∀ l, (ins h l).Perm (h :: l)
  | [] => List.Perm.refl _
  | x :: r => by
    unfold ins
    split
    · exact ((ins_perm h r).cons x).trans (List.Perm.swap h x r)
    · exact List.Perm.refl _
theorem sortH_perm : ∀ l, (sortH l).Perm l
  | [] => List.Perm.refl _
  | h :: r => (ins_perm h _).trans ((sortH_perm r).cons h)
theorem cmpH_nlt {a b : Hk} (h : cmpH a b < 0) : ¬ cmpH b a < 0 := fun h' => cmpH_refl a (cmpH_trans h h')
theorem ins_order (h : Hk) : ∀ l, InOrder l → InOrder (ins h l)
  | [], _ => List.pairwise_singleton _ _
  | x :: r, hl => by
    obtain ⟨h1, h2⟩ := List.pairwise_cons.1 hl
    unfold ins
    split
    · rename_i hx
      refine List.pairwise_cons.2 ⟨?_, ins_order h r h2⟩
      intro y hy
      rcases List.mem_cons.1 ((ins_perm h r).mem_iff.1 hy) with rfl | hy'
      · exact cmpH_nlt hx
      · exact h1 y hy'
    · rename_i hx
      refine List.pairwise_cons.2 ⟨?_, hl⟩
      intro y hy
      rcases List.mem_cons.1 hy with rfl | hy'
      · exact hx
      · exact cmpH_ntrans (h1 y hy') hx
theorem sortH_order : ∀ l, InOrder (sortH l)
  | [] => List.Pairwise.nil
  | h :: r => ins_order h _ (sortH_order r)

/-- Is a hook on? -/
def onB (m : Int) (h : Hk) : Bool := h.bit == 0 || bits .and .i64 h.bit m != 0
def pick (m p : Int) (h : Hk) : Bool := h.ph == p && onB m h
/-- What is told of a phase. -/
def told (m : Int) (hs : List Hk) (p : Int) : List Hk := sortH (hs.filter (pick m p))
theorem told_order (m : Int) (hs : List Hk) (p : Int) : InOrder (told m hs p) := sortH_order _
theorem told_perm (m : Int) (hs : List Hk) (p : Int) : (told m hs p).Perm (hs.filter (pick m p)) := sortH_perm _
theorem told_names {hs : List Hk} (h : Names hs) (m p : Int) : Names (told m hs p) := (h.filter _).perm (told_perm m hs p).symm
theorem told_eq {hs l : List Hk} {m p : Int} (hn : Names hs) (hp : l.Perm (hs.filter (pick m p))) (ho : InOrder l) : l = told m hs p :=
  unique ((hn.filter _).perm hp.symm) (hp.trans (told_perm m hs p).symm) ho (told_order m hs p)
theorem told_swap {hs hs' : List Hk} (hn : Names hs) (hp : hs.Perm hs') (m p : Int) : told m hs p = told m hs' p :=
  told_eq (hn.perm hp) ((told_perm m hs p).trans (hp.filter _)) (told_order m hs p)
theorem told_mem {m p : Int} {hs : List Hk} {h : Hk} : h ∈ told m hs p ↔ h ∈ hs ∧ h.ph = p ∧ onB m h = true := by
  rw [(told_perm m hs p).mem_iff, List.mem_filter]
  simp [pick]
theorem told_len (m p : Int) (hs : List Hk) : (told m hs p).length ≤ hs.length := by
  rw [(told_perm m hs p).length_eq]; exact List.length_filter_le _ _

/-- A row that the library has sorted. -/
theorem of_sorted {d d' : Array Hk} (hp : Go.Sort.PermIn 0 d.size d d') (hs : Go.Sort.SortedIn (Go.Proofs.ltOf cmpH) 0 d.size d') : d'.toList.Perm d.toList ∧ InOrder d'.toList := by
  obtain ⟨hsz, _, hperm⟩ := hp
  have e1 : d'.extract 0 d.size = d' := by rw [← hsz]; exact Array.extract_size
  rw [e1, Array.extract_size] at hperm
  refine ⟨hperm, ?_⟩
  unfold InOrder
  rw [List.pairwise_iff_getElem]
  intro i j hi hj hij
  have hi' : i < d'.size := by simpa using hi
  have hj' : j < d'.size := by simpa using hj
  have := hs i j (Nat.zero_le _) hij (by omega)
  rw [getElem!_pos d' i hi', getElem!_pos d' j hj'] at this
  simpa [Go.Proofs.ltOf] using this

/-- What a byte triggers. -/
def trigB (b : Int) (h : Hk) : Bool := h.trig.data.toList.isEmpty || h.trig.data.toList.any fun x => decide ((x.toNat : Int) = b)
/-- Steps. -/
def stepF (s n : Int) : Int := if n ≤ 0 then s else s + min n (4611686018427387904 - s)
theorem stepF_range {s n : Int} (h0 : 0 ≤ s) (h1 : s ≤ 4611686018427387904) : 0 ≤ stepF s n ∧ stepF s n ≤ 4611686018427387904 := by
  unfold stepF
  split
  · exact ⟨h0, h1⟩
  · have := Int.min_le_right n (4611686018427387904 - s)
    have : 0 ≤ min n (4611686018427387904 - s) := by rw [Int.le_min]; omega
    omega
end Rg
end Go.Proofs.Ytemcahbpfjlnlaa
