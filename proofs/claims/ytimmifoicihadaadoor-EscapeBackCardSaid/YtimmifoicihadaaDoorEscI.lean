/- What the laws of layer 5 need beside: a row of bytes of the call's own, what a loop over a text has seen. -/
import Derived.Test.YtimmifoicihadaaDoorEscH
import Derived.Laws.AppendOwn
import Derived.Laws.IdiomStrings
namespace Go.Proofs.YtimmifoicihadaaDoor
open Go Go.RowKit
namespace Es
open En
set_option maxRecDepth 100000
set_option linter.unusedVariables false
set_option linter.unusedSimpArgs false

theorem info5 : (Tryd.prog.info? 5).map (fun i => (i.zero, i.size, i.bytes)) = some (some (.int .u8 0), 1, 1) := by kernel_rfl
theorem add_eq (b off j : Nat) : (⟨b, off, none⟩ : Addr).add j = ⟨b, off + j, none⟩ := by
  unfold Addr.add
  split
  · subst_vars; rfl
  · rfl
/-- string(v) of a row of the call's own. -/
theorem conv_own {w : World} {B : Nat} {v : Value} {acc : List UInt8} (h : w.ownsRow B 5 1 v acc.length (Lib.byteCells acc)) :
    (convert 27 9 v).run Tryd.prog w = .ok (.string ⟨acc.toArray⟩) w := by
  rcases h.2 with ⟨rfl, h0⟩ | ⟨g, cap, cur, rfl, _, hg, hn, _, hs, hc⟩
  · have : acc = [] := List.length_eq_zero_iff.1 h0
    subst this
    have h1 := run_convert_bytes_string (P := Tryd.prog) w 27 9 5 none 0 0 Tryd.underlying27 Tryd.underlying5 Tryd.underlying9
    rw [h1]
    rfl
  · refine run_convert_bytes_back w 27 9 5 ⟨g, 0, none⟩ cap acc Tryd.underlying27 Tryd.underlying5 Tryd.underlying9 ?_
    intro j hj
    have hj2 : j < cur.size := by omega
    have e1 : (cur.toList.take (acc.length * 1))[j]? = (Lib.byteCells acc)[j]? := by rw [hc]
    rw [List.getElem?_take_of_lt (by omega)] at e1
    simp [Lib.byteCells, List.getElem?_eq_getElem hj] at e1
    rw [add_eq]
    simp [World.cell?, hg, e1]
/-- One byte more. -/
theorem own_step {w wr w1 : World} {acc : List UInt8} {x : UInt8} {u v' : Value} {o : Obj} (hown : wr.ownsRow w.heap.size 5 1 u acc.length (Lib.byteCells acc)) (hbw : Below w.heap.size w wr)
    (hown' : w1.ownsRow w.heap.size 5 1 v' (acc.length + 1) (Lib.byteCells acc ++ [.int .u8 (x.toNat : Nat)])) (hgrow : (wr.alloc o).grownBy w1 u.ownBlock) :
    w1.ownsRow w.heap.size 5 1 v' (acc ++ [x]).length (Lib.byteCells (acc ++ [x])) ∧ Below w.heap.size w w1 := by
  have hsz := hbw.size
  refine ⟨by simpa [Lib.byteCells] using hown', (hbw.alloc (by omega) _).grown hgrow (by simp; omega) (fun k hk => (hown.lt k hk).1)⟩

/-- Every byte among the first k is so. -/
def AllTo (p : UInt8 → Prop) (l : List UInt8) (k : Nat) : Prop := ∀ c ∈ l.take k, p c
theorem allTo_zero (p : UInt8 → Prop) (l : List UInt8) : AllTo p l 0 := by intro c hc; simp at hc
theorem AllTo.step {p : UInt8 → Prop} {l : List UInt8} {k : Nat} {c : UInt8} {t : List UInt8} (h : AllTo p l k) (hd : l.drop k = c :: t) (hc : p c) : AllTo p l (k + 1) := by
  have hget : l[k]? = some c := by
    have := congrArg (fun x => x[0]?) hd
    simpa using this
  obtain ⟨hlt, hge⟩ := List.getElem?_eq_some_iff.1 hget
  intro x hx
  rw [List.take_succ_eq_append_getElem hlt, hge, List.mem_append] at hx
  rcases hx with hx | hx
  · exact h x hx
  · simp at hx
    rw [hx]
    exact hc
theorem AllTo.all {p : UInt8 → Prop} {l : List UInt8} {k : Nat} (h : AllTo p l k) (hk : l.length ≤ k) : ∀ c ∈ l, p c := by
  unfold AllTo at h
  rwa [List.take_of_length_le hk] at h
theorem mk_self (s : ByteArray) : (⟨s.data.toList.toArray⟩ : ByteArray) = s := by cases s; simp
theorem frm_str {w : World} {f : FuncId} {args : Array Value} {r : List UInt8} {s : ByteArray} (h : Frm w f args (.string ⟨r.toArray⟩)) (hr : (⟨r.toArray⟩ : ByteArray) = s) : Frm w f args (.string s) := hr ▸ h
theorem app_data (a b : ByteArray) : (a ++ b).data.toList = a.data.toList ++ b.data.toList := by rw [ByteArray.data_append, Array.toList_append]
end Es
end Go.Proofs.YtimmifoicihadaaDoor
