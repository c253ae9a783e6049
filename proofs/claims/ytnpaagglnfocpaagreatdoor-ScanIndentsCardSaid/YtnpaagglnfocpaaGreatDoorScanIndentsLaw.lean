/- ScanIndents: the law's walk. -/
import Derived.Test.YtnpaagglnfocpaaGreatDoorScW
namespace Go.Proofs.YtnpaagglnfocpaaGreatDoor
open Go Go.RowKit
namespace ScanIndents
open Sc
set_option maxRecDepth 100000
set_option linter.unusedVariables false
set_option linter.unusedSimpArgs false

/-- Texts in a block of the call's own. -/
def TB (w : World) (g : Nat) (L : List ByteArray) : Prop := ∃ fr, w.heap[g]? = some (.cells (L.map (fun S => Value.string S)).toArray 9 fr)
theorem TB.cell {w : World} {g : Nat} {L : List ByteArray} (h : TB w g L) {i : Nat} {S : ByteArray} (hi : L[i]? = some S) : w.cell? ⟨g, i, none⟩ = some (.string S) := by
  obtain ⟨fr, hb⟩ := h
  simp [World.cell?, hb, hi]
theorem TB.below {w w' : World} {g B : Nat} {L : List ByteArray} (h : TB w g L) (hB : Below B w w') (hg : g < B) : TB w' g L := by
  obtain ⟨fr, hb⟩ := h
  exact ⟨fr, (hB.block g hg).trans hb⟩
theorem LaidB {w w' : World} (h : LaidS w) (hB : Below w.heap.size w w') : LaidS w' := h.below hB

set_option maxHeartbeats 8000000 in
theorem law_any (s : ByteArray) (w : World) (hL : LaidS w) (hs : s.size ≤ maxLen) :
    Calls Tryz.prog 8 #[.string s] w fun e w' => e = .returned (.bool true) ∧ Below w.heap.size w w' := by
  unfold maxLen at hs
  have HA := Lib.hid (frm_awake hL)
  have hb0 := Below.refl w.heap.size w
  by_cases hbig : 1000 < s.size
  · have hb' : (1000 : Int) < (s.size : Int) := by omega
    clear hL
    go_enter Tryz.func8, Tryz.ntmps8
    go_wp2_with fail
    refine (HA.out _ hb0).mono ?_
    rintro e w1 ⟨rfl, hb1⟩
    go_wp2
    go_ret
    exact ⟨rfl, hb1⟩
  · have hb' : (s.size : Int) ≤ 1000 := by omega
    have HL := Lib.hid hL
    obtain ⟨A, hA⟩ : ∃ A : ByteArray, (⟨#[32]⟩ : ByteArray) ++ s = A := ⟨_, rfl⟩
    obtain ⟨B, hB⟩ : ∃ B : ByteArray, (⟨#[9]⟩ : ByteArray) ++ s = B := ⟨_, rfl⟩
    obtain ⟨C, hC⟩ : ∃ C : ByteArray, (⟨#[120]⟩ : ByteArray) ++ s = C := ⟨_, rfl⟩
    have HZ : Hid (∀ (i : Nat) (S : ByteArray), ([A, B, ⟨#[]⟩, C] : List ByteArray)[i]? = some S → S.size ≤ 100000 ∧ Zeros S.data.toList) := Lib.hid (by
      intro i S hi
      have one : ∀ (c : UInt8) (X : ByteArray), (⟨#[c]⟩ : ByteArray) ++ s = X → X.size ≤ 100000 ∧ X.data.toList = c :: s.data.toList := fun c X h => by
        have e : X.data.toList = c :: s.data.toList := by rw [← h, app_data]; rfl
        refine ⟨?_, e⟩
        rw [← sz, e, List.length_cons, sz]; omega
      have hm := List.mem_of_getElem? hi
      simp only [List.mem_cons, List.not_mem_nil, or_false] at hm
      rcases hm with rfl | rfl | rfl | rfl
      · obtain ⟨h1, h2⟩ := one _ _ hA; exact ⟨h1, by rw [h2]; exact zeros_32 _⟩
      · obtain ⟨h1, h2⟩ := one _ _ hB; exact ⟨h1, by rw [h2]; exact zeros_9 _⟩
      · exact ⟨by decide, zeros_nil⟩
      · obtain ⟨h1, h2⟩ := one _ _ hC; exact ⟨h1, by rw [h2]; exact zeros_x _⟩)
    clear hL hbig
    go_enter Tryz.func8, Tryz.ntmps8
    go_wp2_with fail
    refine (HA.out _ hb0).mono ?_
    rintro e w1 ⟨rfl, hb1⟩
    have HB1 := Lib.hid hb1
    have hw1 := hb1.size
    go_wp2_with fail
    have hTB : Hid (TB (w1.alloc (.cells #[.string A, .string B, .string ⟨#[]⟩, .string C] 9)) w1.heap.size [A, B, ⟨#[]⟩, C]) := Lib.hid ⟨_, new_block _ _⟩
    have hBn : Hid (Below w.heap.size w (w1.alloc (.cells #[.string A, .string B, .string ⟨#[]⟩, .string C] 9))) := Lib.hid (hb1.alloc hw1 _)
    have hLen : (w1.alloc (.cells #[.string A, .string B, .string ⟨#[]⟩, .string C] 9)).heap.size = w1.heap.size + 1 := alloc_size _ _
    obtain ⟨g, hg⟩ : ∃ g, w1.heap.size = g := ⟨_, rfl⟩
    have HG := Lib.hid hg
    go_loopg [27] 4 (fun G v27 wr => ∃ i : Nat, i + G = 4 ∧ v27 = .int .i64 (i : Int) ∧ Hid (TB wr w1.heap.size [A, B, ⟨#[]⟩, C]) ∧ Hid (Below w.heap.size w wr) ∧ Hid (w1.heap.size < wr.heap.size))
    case atStart => exact ⟨0, by omega, rfl, hTB, hBn, Lib.hid (by rw [hLen]; omega)⟩
    case round =>
      obtain ⟨i, hi, rfl, HTB, HB, HSz⟩ := hrel
      clear hb1
      by_cases hlt : i < 4
      · obtain ⟨S, hS⟩ : ∃ S, ([A, B, ⟨#[]⟩, C] : List ByteArray)[i]? = some S := ⟨_, List.getElem?_eq_getElem (by simpa using hlt)⟩
        have hlt' : (i : Int) < 4 := by omega
        have c0 := HTB.out.cell hS
        obtain ⟨z1, z2⟩ := HZ.out i S hS
        have hLw := HL.out.below HB.out
        have F1 := Lib.hid (frm_atx hLw z1 (a := 0) (b := ⟨#[]⟩) z2.atx)
        have F2 := Lib.hid (frm_fence hLw z1 (c := 0) (a := 0) (b := ⟨#[]⟩) z2.fence)
        have F3 := Lib.hid (frm_ord hLw z1 z2.ord)
        have F4 := Lib.hid (frm_rule hLw z1 z2.rule)
        have F5 := Lib.hid (frm_html hLw z1 z2.html)
        have F6 := Lib.hid (frm_bul hLw z1 z2.bul)
        have F7 := Lib.hid (frm_set hLw z1 z2.set)
        have F8 := Lib.hid (frm_tag hLw z1 z2.tag)
        have hbr := Below.refl wr.heap.size wr
        clear hS z1 z2 hLw hg hLen
        rw [show (((0 : UInt8).toNat : Nat) : Int) = 0 from rfl] at F2 F3
        simp only [show ((0 : Nat) : Int) = 0 from rfl] at F1 F2 F3 F5 F6 F7 F8
        go_wp2_with (first | (go_at_call 11; refine (F1.out _ (by assumption)).mono ?_; rintro e w1 ⟨rfl, hb⟩) | (go_at_call 13; refine (F2.out _ (by assumption)).mono ?_; rintro e w1 ⟨rfl, hb⟩) | (go_at_call 15; refine (F3.out _ (by assumption)).mono ?_; rintro e w1 ⟨rfl, hb⟩) | (go_at_call 17; refine (F4.out _ (by assumption)).mono ?_; rintro e w1 ⟨rfl, hb⟩) | (go_at_call 27; refine (F5.out _ (by assumption)).mono ?_; rintro e w1 ⟨rfl, hb⟩) | (go_at_call 23; refine (F6.out _ (by assumption)).mono ?_; rintro e w1 ⟨rfl, hb⟩) | (go_at_call 19; refine (F7.out _ (by assumption)).mono ?_; rintro e w1 ⟨rfl, hb⟩) | (go_at_call 25; refine (F8.out _ (by assumption)).mono ?_; rintro e w1 ⟨rfl, hb⟩))
        go_roundg (gk - 1)
        case rel => exact ⟨i + 1, by omega, by go_num, Lib.hid (HTB.out.below hb (by exact HSz.out)), Lib.hid (HB.out.trans (hb.mono HB.out.size)), Lib.hid (Nat.lt_of_lt_of_le HSz.out hb.size)⟩
        case measure => omega
      · have hlt' : ¬ (i : Int) < 4 := by omega
        go_wp2
        go_ret
        exact ⟨rfl, HB.out⟩
end ScanIndents
end Go.Proofs.YtnpaagglnfocpaaGreatDoor
