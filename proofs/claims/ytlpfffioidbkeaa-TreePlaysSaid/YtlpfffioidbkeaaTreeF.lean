/- Layer 6: Few. -/
import Derived.Test.YtlpfffioidbkeaaTreeA
namespace Go.Proofs.Ytlpfffioidbkeaa
open Go Go.RowKit
namespace Tr
set_option maxRecDepth 100000
set_option linter.unusedVariables false
set_option linter.unusedSimpArgs false

mutual
/-- Every text of a tree is shorter than 2^47. -/
def Sz : Tree → Prop | .mk o kids => o.s.size ≤ 140737488355328 ∧ o.t.size ≤ 140737488355328 ∧ SzL kids
def SzL : List Tree → Prop | [] => True | t :: ts => Sz t ∧ SzL ts
end
theorem SzL.get {l : List Tree} (h : SzL l) : ∀ t ∈ l, Sz t := by
  induction l with
  | nil => intro t ht; cases ht
  | cons a l ih => rw [SzL] at h; intro t ht; rcases List.mem_cons.1 ht with rfl | ht; exact h.1; exact ih h.2 t ht
theorem few_range (T : Tree) : ∀ left : Int, Sz T → 0 ≤ left → few T left ≤ left ∧ -1000000000000000 ≤ few T left := by
  induction T using Tree.ind with
  | h o kids ih =>
    intro left hs h0
    rw [Sz] at hs
    rw [few]
    have hk := hs.2.2
    have : ∀ x : Int, x ≤ left → -1000000000000000 ≤ x → fewL kids x ≤ left ∧ -1000000000000000 ≤ fewL kids x := by
      clear hs
      induction kids with
      | nil => intro x h1 h2; rw [fewL]; exact ⟨h1, h2⟩
      | cons t ts ih2 =>
        intro x h1 h2
        rw [SzL] at hk
        rw [fewL]
        split
        · rename_i hx
          have := ih t (by simp) x hk.1 hx
          exact ih2 (fun t ht => ih t (by simp [ht])) hk.2 _ (by omega) this.2
        · exact ⟨h1, h2⟩
    exact this _ (by omega) (by omega)
theorem fewL_neg {l : List Tree} {x : Int} (h : ¬ 0 ≤ x) : fewL l x = x := by
  cases l with
  | nil => rw [fewL]
  | cons t ts => rw [fewL, if_neg h]

theorem few_cnt (T : Tree) : ∀ left : Int, 0 ≤ few T left → few T left + (T.cnt : Int) ≤ left := by
  induction T using Tree.ind with
  | h o kids ih =>
    intro left h
    rw [few] at h ⊢
    rw [Tree.cnt]
    have key : ∀ x : Int, 0 ≤ fewL kids x → fewL kids x + (cntL kids : Int) ≤ x := by
      clear h
      induction kids with
      | nil => intro x h; rw [fewL, cntL]; omega
      | cons t ts ih2 =>
        intro x h
        rw [fewL] at h ⊢
        rw [cntL]
        by_cases hx : 0 ≤ x
        · rw [if_pos hx] at h ⊢
          have h2 := ih2 (fun t ht => ih t (by simp [ht])) _ h
          by_cases hy : 0 ≤ few t x
          · have := ih t (by simp) x hy
            omega
          · rw [fewL_neg hy] at h; omega
        · rw [if_neg hx] at h; omega
    have := key _ h
    omega
theorem dep_le_cnt (T : Tree) : T.dep ≤ T.cnt := by
  induction T using Tree.ind with
  | h o kids ih =>
    rw [Tree.dep, Tree.cnt]
    have : depL kids ≤ cntL kids := by
      induction kids with
      | nil => rw [depL, cntL]; omega
      | cons t ts ih2 =>
        rw [depL, cntL]
        have := ih t (by simp)
        have := ih2 (fun t ht => ih t (by simp [ht]))
        omega
    omega

set_option maxHeartbeats 4000000 in
theorem fewf_any {B : Nat → Prop} (T : Tree) : ∀ (w : World) (L : Value) (left : Int), In w B T L → Sz T → 0 ≤ left → left ≤ 1000000000 →
    Calls Try.prog 50 #[nodeV T.own L, .int .i64 left] w fun e w' => e = .returned (.int .i64 (few T left)) ∧ Below w.heap.size w w' := by
  induction T using Tree.ind with
  | h o kids ih =>
    intro w L left hin hsz0 hl0 hl1
    rw [In] at hin
    obtain ⟨a, cap, rfl, hlc, hcm, hk⟩ := hin
    rw [few]
    rw [Sz] at hsz0
    obtain ⟨hs1, hs2, hs3⟩ := hsz0
    unfold maxLen at hcm
    have HK := Lib.hid hk
    clear hk
    have IH := Lib.hid ih
    clear ih
    have HZ := Lib.hid hs3.get
    clear hs3
    obtain ⟨left1, HL1⟩ : ∃ x, Hid (left - 1 - o.s.size - o.t.size = x) := ⟨_, rfl⟩
    rw [HL1.out]
    have hr1 : left1 ≤ 1000000000 := by have := HL1.out; omega
    have hr2 : -1000000000000000 ≤ left1 := by have := HL1.out; omega
    show Calls _ _ #[nodeV o _, _] _ _
    unfold nodeV
    go_enter Try.func50, Try.ntmps50
    go_wp2
    rw [HL1.out]
    have hl00 := hl0
    clear hs1 hs2 hl0 hl1 hl00
    go_loopg [1, 5] kids.length (fun g s1 s5 wr => ∃ (i : Nat) (x : Int), i + g = kids.length ∧ s5 = .int .i64 i ∧ s1 = .int .i64 x ∧ Hid (fewL (kids.drop i) x = fewL kids left1) ∧ x ≤ 1000000000 ∧ -1000000000000000 ≤ x ∧ Below w.heap.size w wr ∧ CellsAt wr w.heap.size 0 o (.slice a kids.length cap))
    case atStart => exact ⟨0, left1, by omega, rfl, rfl, Lib.hid rfl, hr1, hr2, (Below.refl _ w).alloc (Nat.le_refl _) _, box_cells w o _ 24⟩
    case round =>
      obtain ⟨i, x, hig, rfl, rfl, HA, hx1, hx2, hbw, hbx⟩ := hrel
      have b6 : wr.cell? ⟨w.heap.size, 6, none⟩ = _ := hbx.c6
      have HB := Lib.hid hbx
      clear hbx
      have hsz := hbw.size
      cases gk with
      | zero =>
        have hlt : ¬ ((i : Int) < (kids.length : Int)) := by omega
        have HE : Hid (x = fewL kids left1) := Lib.hid (by have := HA.out; rw [List.drop_eq_nil_of_le (by omega)] at this; simpa [fewL] using this)
        go_wp2
        go_ret
        exact ⟨ret_int HE.out, hbw⟩
      | succ g =>
        obtain ⟨t, hd, hmem⟩ := drop_cons hig
        rcases HK.out with rfl | ⟨b, off, rfl, hbB, hkl⟩
        · simp at hd
        obtain ⟨L1, hcell, hin1⟩ := hkl.get hd
        obtain ⟨a1, cap1, rfl, _, _⟩ := hin1.slice
        obtain ⟨c0, c1, c2, c3, c4, c5, c6⟩ := cell_at hcell hbw
        have hi1 : In wr B t _ := hin1.keep hbw
        have hlt : (i : Int) < (kids.length : Int) := by omega
        by_cases hx0 : 0 ≤ x
        · have HA2 : Hid (fewL (kids.drop (i + 1)) (few t x) = fewL kids left1) := Lib.hid (by have := HA.out; rw [hd, fewL, if_pos hx0] at this; exact this)
          have HR := Lib.hid (few_range t x (HZ.out t hmem) hx0)
          have HC := Lib.hid (fun W (hW : Below wr.heap.size wr W) => IH.out t hmem W _ x (hi1.keep hW) (HZ.out t hmem) hx0 hx1)
          unfold nodeV at HC
          clear hd HK hkl hcell hin1 hi1
          go_wp2_with fail
          refine (HC.out _ ?_).mono ?_
          · exact Below.refl _ wr
          rintro e w2 ⟨rfl, hb2⟩
          have hbw2 : Below w.heap.size w w2 := hbw.trans (hb2.mono hsz)
          generalize few t x = y at *
          go_wp2
          go_roundg g
          case rel => exact ⟨i + 1, y, by omega, by go_num, rfl, HA2, by have := HR.out; omega, by have := HR.out; omega, hbw2, cell_at HB.out hb2⟩
          case measure => omega
        · have HE : Hid (x = fewL kids left1) := Lib.hid (by rw [← HA.out, fewL_neg hx0])
          clear hd HK hkl hcell hin1 hi1
          go_wp2
          go_ret
          exact ⟨ret_int HE.out, hbw⟩

theorem few_any {B : Nat → Prop} {T : Tree} {w : World} {L : Value} {left : Int} (hin : In w B T L) (hs : Sz T) (h0 : 0 ≤ left) (h1 : left ≤ 1000000000) :
    Calls Try.prog 33 #[nodeV T.own L, .int .i64 left] w fun e w' => e = .returned (.bool (decide (0 ≤ few T left))) ∧ Below w.heap.size w w' := by
  obtain ⟨a, cap, rfl, _, _⟩ := hin.slice
  have HC := Lib.hid (fun W (hW : Below w.heap.size w W) => fewf_any T W _ left (hin.keep hW) hs h0 h1)
  unfold nodeV at HC ⊢
  clear hin
  generalize few T left = y at *
  go_enter Try.func33, Try.ntmps33
  go_wp2_with fail
  refine (HC.out _ ?_).mono ?_
  · exact (Below.refl _ w).alloc (Nat.le_refl _) _
  rintro e w2 ⟨rfl, hb2⟩
  go_wp2
  go_ret
  exact ⟨rfl, below_later ((Below.refl _ w).alloc (Nat.le_refl _) _) hb2⟩
end Tr
end Go.Proofs.Ytlpfffioidbkeaa
