/- RefsFinds: Find and Add, the program's and the document's. -/
import Derived.Test.YtfabiidohdkkcaaGreatDoorRfXa
import Derived.Test.YtfabiidohdkkcaaGreatDoorRfXb
namespace Go.Proofs.YtfabiidohdkkcaaGreatDoor
open Go Go.RowKit Rf
namespace RefsFinds
set_option maxRecDepth 100000
set_option linter.unusedVariables false
set_option linter.unusedSimpArgs false

set_option maxHeartbeats 8000000 in
theorem law_any (l m : List Rb) (v v' : Value) (x : ByteArray) (w : World) (h : Refs w v l) (hzl : ∀ r ∈ l, RefZ r) (h' : Refs w v' m) (hzm : ∀ r ∈ m, RefZ r) (hxm : x.size ≤ 140737488355328) (hP : Prog10 w) (hAdd : AddOk w) :
    Calls Tryz.prog 4 #[v, v', .string x] w fun e w' => e = .returned (.bool true) ∧ Below w.heap.size w w' := by
  have HA := Lib.hid (awake_any w hP)
  have HF1 := Lib.hid (fun W (hb : Below w.heap.size w W) => few_any l v W (h.keep hb) hzl)
  have HF2 := Lib.hid (fun W (hb : Below w.heap.size w W) => few_any m v' W (h'.keep hb) hzm)
  have HP := Lib.hid hP
  have HZl := Lib.hid hzl
  have HZm := Lib.hid hzm
  have HAdd := Lib.hid hAdd
  have HL := Lib.hid h
  have HM := Lib.hid h'
  obtain ⟨a, cap, rfl, _, _⟩ := h
  obtain ⟨a', cap', rfl, _, _⟩ := h'
  obtain ⟨nl, hnl⟩ : ∃ nl, l.length = nl := ⟨_, rfl⟩
  obtain ⟨nm, hnm⟩ : ∃ nm, m.length = nm := ⟨_, rfl⟩
  rw [hnl] at HF1 HL ⊢
  rw [hnm] at HF2 HM ⊢
  have HNL := Lib.hid hnl
  have HNM := Lib.hid hnm
  clear hP hAdd hzl hzm hnl hnm
  go_enter Tryz.func4, Tryz.ntmps4
  go_wp2_with fail
  refine HA.out.mono ?_
  rintro e w1 ⟨rfl, hb1⟩
  have W1 := Lib.hid hb1
  clear hb1 HA
  go_wp2_with fail
  refine (HF1.out _ W1.out).mono ?_
  rintro e w2 ⟨hf1, hb2⟩
  have W2 := Lib.hid (below_later W1.out hb2)
  clear hb2 W1 HF1
  rcases hf1 with rfl | ⟨rfl, hfl⟩
  · go_wp2
    go_ret
    exact ⟨rfl, W2.out⟩
  have HFl := Lib.hid hfl
  clear hfl
  go_wp2_with fail
  refine (HF2.out _ W2.out).mono ?_
  rintro e w3 ⟨hf2, hb3⟩
  have W3 := Lib.hid (below_later W2.out hb3)
  clear hb3 W2 HF2
  rcases hf2 with rfl | ⟨rfl, hfm⟩
  · go_wp2
    go_ret
    exact ⟨rfl, W3.out⟩
  have HFm := Lib.hid hfm
  clear hfm
  by_cases hx1 : (1000 : Int) < (x.size : Int)
  · go_wp2
    go_ret
    exact ⟨rfl, W3.out⟩
  obtain ⟨y, hy⟩ : ∃ y : ByteArray, y.data.toList = Ks.lab x.data.toList := ⟨⟨(Ks.lab x.data.toList).toArray⟩, rfl⟩
  obtain ⟨b, ok, hF⟩ := find_is l y
  have hl40 : l.length ≤ 40 := HFl.out.1
  have hm40 : m.length ≤ 40 := HFm.out.1
  have HT := Lib.hid (HP.out.find w3 W3.out l _ x y b ok (by omega) hy (by omega) HZl.out (HL.out.keep W3.out) hF)
  have HR := Lib.hid (fun W (hb : Below w.heap.size w W) => rfind_any l _ x y W (by omega) hy (HL.out.keep hb) b ok hF)
  have HAd := Lib.hid (fun W (hb : Below w.heap.size w W) => HAdd.out W hb l m _ _ (HL.out.keep hb) (HM.out.keep hb) (by omega) (by omega) HZl.out HZm.out)
  have HRd := Lib.hid (fun W (hb : Below w.heap.size w W) => radd_any l m _ _ W (HL.out.keep hb) (HM.out.keep hb) (by omega) (by omega))
  have HS := Lib.hid (fun (l : List Rb) v v' W h h' => rsame_self l v v' W h h')
  unfold refV refC at HT HR
  clear hy hF hl40 hm40 HFl HFm HP HAdd HZl HZm
  go_wp2_with fail
  refine HT.out.mono ?_
  rintro e w4 ⟨rfl, hb4⟩
  have K4 : Hid (Blk (w4.alloc (.cells (refC b) 24)) w4.heap.size (refC b) 24) := Lib.hid (Blk.new _ _ _)
  have W4 : Hid (Below w.heap.size w (w4.alloc (.cells (refC b) 24))) := Lib.hid (by
    have := below_later W3.out hb4
    exact this.alloc this.size _)
  unfold refC at K4 W4
  clear hb4 HT W3
  go_wp2_with fail
  refine (HR.out _ W4.out).mono ?_
  rintro e w5 ⟨rfl, hb5⟩
  have K5 : Hid (Blk (w5.alloc (.cells (refC b) 24)) w5.heap.size (refC b) 24) := Lib.hid (Blk.new _ _ _)
  have K4' := (K4.out.below hb5).alloc (.cells (refC b) 24)
  have W5 : Hid (Below w.heap.size w (w5.alloc (.cells (refC b) 24))) := Lib.hid (by
    have := below_later W4.out hb5
    exact this.alloc this.size _)
  unfold refC at K5 W5 K4'
  have c0 := K4'.cell 0 rfl
  have c1 := K4'.cell 1 rfl
  have c2 := K4'.cell 2 rfl
  have K7 := K5.out.alloc (.cells #[.string b.lab, .string b.dst, .string b.tit] 24)
  have d0 := K7.cell 0 rfl
  have d1 := K7.cell 1 rfl
  have d2 := K7.cell 2 rfl
  have hsz : (w5.alloc (.cells #[.string b.lab, .string b.dst, .string b.tit] 24)).heap.size = w5.heap.size + 1 := by simp
  have HX := Lib.hid (two_rows (w5.alloc (.cells #[.string b.lab, .string b.dst, .string b.tit] 24)) b)
  have HB6 : Hid (Below (w5.alloc (.cells #[.string b.lab, .string b.dst, .string b.tit] 24)).heap.size (w5.alloc (.cells #[.string b.lab, .string b.dst, .string b.tit] 24)) (((w5.alloc (.cells #[.string b.lab, .string b.dst, .string b.tit] 24)).alloc (.cells (refC b) 24)).alloc (.cells (refC b) 24))) := Lib.hid (((Below.refl _ _).alloc (Nat.le_refl _) _).alloc (by simp) _)
  unfold refC at HX HB6
  rw [hsz] at HX
  clear hb5 HR W4 K4 K5 K7 K4' hsz
  go_wp2_with fail
  refine (HS.out [b] _ _ _ HX.out.1 HX.out.2).mono ?_
  rintro e w6 ⟨rfl, hb6⟩
  have W6 := Lib.hid (below_later W5.out (below_later HB6.out hb6))
  clear hb6 HX HB6 W5 c0 c1 c2 d0 d1 d2
  go_wp2_with fail
  refine (HAd.out _ W6.out).mono ?_
  rintro e w7 ⟨u7, rfl, hr7, hb7⟩
  have R7 := Lib.hid hr7
  have W7 := Lib.hid (below_later W6.out hb7)
  clear hr7 hb7 HAd W6
  go_wp2_with fail
  refine (HRd.out _ W7.out).mono ?_
  rintro e w8 ⟨u8, rfl, hr8, hb8⟩
  have R8 := Lib.hid (Refs.of_owns hr8)
  have R7' := Lib.hid (R7.out.keep hb8)
  have W8 := Lib.hid (below_later W7.out hb8)
  clear hr8 hb8 HRd W7 R7
  go_wp2_with fail
  refine (HS.out (addB l m) _ _ _ R7'.out R8.out).mono ?_
  rintro e w9 ⟨rfl, hb9⟩
  go_wp2
  go_ret
  exact ⟨rfl, below_later W8.out hb9⟩
end RefsFinds
end Go.Proofs.YtfabiidohdkkcaaGreatDoor
