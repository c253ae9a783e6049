/- Layer 7: this document's own hooks; the example. -/
import Derived.Test.YtemcahbpfjlnlaaRegJ
namespace Go.Proofs.Ytemcahbpfjlnlaa
open Go Go.RowKit Go.MuLone
namespace Rg
set_option maxRecDepth 100000
set_option linter.unusedVariables false
set_option linter.unusedSimpArgs false

def coreL : List Hk := [
  ⟨⟨#[113, 117, 111, 116, 101]⟩, 1, 100, ⟨#[]⟩, 0⟩,
  ⟨⟨#[102, 101, 110, 99, 101]⟩, 1, 200, ⟨#[]⟩, 0⟩,
  ⟨⟨#[99, 111, 100, 101]⟩, 1, 210, ⟨#[]⟩, 0⟩,
  ⟨⟨#[104, 101, 97, 100, 105, 110, 103]⟩, 1, 300, ⟨#[]⟩, 0⟩,
  ⟨⟨#[114, 117, 108, 101]⟩, 1, 400, ⟨#[]⟩, 0⟩,
  ⟨⟨#[104, 116, 109, 108]⟩, 1, 500, ⟨#[]⟩, 0⟩,
  ⟨⟨#[108, 105, 115, 116]⟩, 1, 600, ⟨#[]⟩, 0⟩,
  ⟨⟨#[116, 97, 98, 108, 101]⟩, 1, 700, ⟨#[]⟩, 1⟩,
  ⟨⟨#[110, 111, 116, 101]⟩, 1, 150, ⟨#[]⟩, 32⟩,
  ⟨⟨#[101, 115, 99, 97, 112, 101]⟩, 2, 100, ⟨#[92]⟩, 0⟩,
  ⟨⟨#[101, 110, 116, 105, 116, 121]⟩, 2, 110, ⟨#[38]⟩, 0⟩,
  ⟨⟨#[115, 112, 97, 110]⟩, 2, 120, ⟨#[96]⟩, 0⟩,
  ⟨⟨#[97, 117, 116, 111]⟩, 2, 130, ⟨#[60]⟩, 0⟩,
  ⟨⟨#[114, 97, 119]⟩, 2, 140, ⟨#[60]⟩, 0⟩,
  ⟨⟨#[101, 109, 112, 104]⟩, 2, 200, ⟨#[42, 95]⟩, 0⟩,
  ⟨⟨#[115, 116, 114, 105, 107, 101]⟩, 2, 210, ⟨#[126]⟩, 2⟩,
  ⟨⟨#[108, 105, 110, 107]⟩, 2, 300, ⟨#[91, 33, 93]⟩, 0⟩,
  ⟨⟨#[110, 111, 116, 101, 114, 101, 102]⟩, 2, 290, ⟨#[91]⟩, 32⟩,
  ⟨⟨#[98, 114, 101, 97, 107]⟩, 2, 400, ⟨#[10]⟩, 0⟩,
  ⟨⟨#[116, 97, 115, 107, 115]⟩, 3, 100, ⟨#[]⟩, 4⟩,
  ⟨⟨#[117, 114, 108, 115]⟩, 3, 200, ⟨#[]⟩, 8⟩,
  ⟨⟨#[110, 111, 116, 101, 115]⟩, 3, 300, ⟨#[]⟩, 32⟩,
  ⟨⟨#[115, 108, 117, 103, 115]⟩, 3, 400, ⟨#[]⟩, 64⟩,
  ⟨⟨#[104, 116, 109, 108, 45, 111, 117, 116]⟩, 4, 100, ⟨#[]⟩, 0⟩,
  ⟨⟨#[102, 105, 108, 116, 101, 114]⟩, 4, 200, ⟨#[]⟩, 16⟩]
theorem Hooks.of_blk {w : World} {B cap : Nat} {cs : Array Value} {t : TypeId} {l : List Hk} (h : Blk w B cs t) (hl : l.length ≤ maxLen) (hcs : cs.toList.take (l.length * 5) = rowC l) : Hooks w (.slice (some ⟨B, 0, none⟩) l.length cap) l := by
  refine ⟨_, cap, rfl, hl, .inr ⟨B, 0, rfl, fun i o ho => ?_⟩⟩
  have hlt : i < l.length := (List.getElem?_eq_some_iff.1 ho).1
  have hc : ∀ j v, (hookC o)[j]? = some v → w.cell? ⟨B, i * 5 + j, none⟩ = some v := fun j v hj => by
    refine h.cell _ ?_
    have h1 := rowC_get ho j v hj
    have hj5 : j < 5 := by have := (Array.getElem?_eq_some_iff.1 hj).1; simpa [hookC] using this
    rw [← hcs, List.getElem?_take_of_lt (by omega)] at h1
    simpa using h1
  rw [Nat.zero_add]
  exact ⟨hc 0 _ rfl, hc 1 _ rfl, hc 2 _ rfl, hc 3 _ rfl, hc 4 _ rfl⟩

theorem hook_any (p : Int) (n : ByteArray) (q : Int) (t : ByteArray) (b : Int) (w : World) :
    Calls Try.prog 40 #[.int .i64 p, .string n, .int .i64 q, .string t, .int .i64 b] w fun e w' => e = .returned (hookV ⟨n, p, q, t, b⟩) ∧ Below w.heap.size w w' := by
  go_enter Try.func40, Try.ntmps40
  go_wp2
  have hB := Blk.new w (hookC ⟨n, p, q, t, b⟩) 29
  unfold hookC at hB
  refine bodyPost_ret (v := hookV ⟨n, p, q, t, b⟩) (results_cell_row rfl _ _ w.heap.size _ (hookC ⟨n, p, q, t, b⟩) (0, 0) _ rfl hB Try.underlying29 rfl infoHook) rfl ⟨rfl, ?_⟩
  exact (Below.refl _ w).alloc (Nat.le_refl _) _

set_option maxHeartbeats 8000000 in
theorem core_any (w : World) :
    Calls Try.prog 25 #[] w fun e w' => ∃ g, e = .returned (.slice (some ⟨g, 0, none⟩) 25 25) ∧ Blk w' g (rowC coreL).toArray 29 ∧ w.heap.size ≤ g ∧ Below w.heap.size w w' := by
  have HH := Lib.hid (fun p n q t b (W : World) (hW : Below w.heap.size w W) => (hook_any p n q t b W).mono (R' := fun e w' => e = .returned (hookV ⟨n, p, q, t, b⟩) ∧ Below w.heap.size w w') (by rintro e w' ⟨rfl, hb⟩; exact ⟨rfl, hW.trans (hb.mono hW.size)⟩))
  have hb0 := Below.refl w.heap.size w
  unfold hookV hookC at HH
  go_enter Try.func25, Try.ntmps25
  iterate 25 (go_wp2_with fail; refine (HH.out _ _ _ _ _ _ hb0).mono ?_; clear hb0; rintro e w' ⟨rfl, hb0⟩)
  go_wp2

  have hB : Blk (w'.alloc (.cells (rowC coreL).toArray 29)) w'.heap.size (rowC coreL).toArray 29 := Blk.new w' _ _
  have hb1 := hb0.alloc hb0.size (.cells (rowC coreL).toArray 29)
  go_ret
  exact ⟨w'.heap.size, rfl, hB, hb0.size, hb1⟩
end Rg
end Go.Proofs.Ytemcahbpfjlnlaa
