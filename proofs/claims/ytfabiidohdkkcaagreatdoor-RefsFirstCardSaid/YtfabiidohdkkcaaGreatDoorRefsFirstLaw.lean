/- RefsFirst: the first one counts. -/
import Derived.Test.YtfabiidohdkkcaaGreatDoorRfXa
import Derived.Test.YtfabiidohdkkcaaGreatDoorRfXb
namespace Go.Proofs.YtfabiidohdkkcaaGreatDoor
open Go Go.RowKit Rf
namespace RefsFirst
set_option maxRecDepth 100000
set_option linter.unusedVariables false
set_option linter.unusedSimpArgs false

/-- What Find tells of all, by what it tells of both. -/
theorem first_is {l m : List Rb} {y : ByteArray} {b1 b2 : Rb} {ok1 ok2 : Bool} (h1 : FindIs l y b1 ok1) (h2 : FindIs m y b2 ok2) :
    ∃ b3 ok3, FindIs (addB (addB [] l) m) y b3 ok3 ∧ ((ok1 = true ∧ b3 = b1 ∧ ok3 = true) ∨ (ok1 = false ∧ b3 = b2 ∧ ok3 = ok2)) := by
  have e := findB_all l m y
  rcases h1 with ⟨h1, _, rfl⟩ | ⟨h1, rfl⟩
  · rw [h1, Option.none_or] at e
    refine ⟨b2, ok2, ?_, .inr ⟨rfl, rfl, rfl⟩⟩
    unfold FindIs
    rw [e]; exact h2
  · rw [h1, Option.some_or] at e
    exact ⟨b1, true, .inr ⟨e, rfl⟩, .inl ⟨rfl, rfl, rfl⟩⟩
set_option maxHeartbeats 16000000 in
theorem law_any (l m : List Rb) (v v' : Value) (x : ByteArray) (w : World) (h : Refs w v l) (hzl : ∀ r ∈ l, RefZ r) (h' : Refs w v' m) (hzm : ∀ r ∈ m, RefZ r) (hxm : x.size ≤ 140737488355328) (hP : Prog10 w) (hAdd : AddOk w) :
    Calls Tryz.prog 6 #[v, v', .string x] w fun e w' => e = .returned (.bool true) ∧ Below w.heap.size w w' := by
  have HA := Lib.hid (awake_any w hP)
  have HF1 := Lib.hid (fun W (hb : Below w.heap.size w W) => few_any l v W (h.keep hb) hzl)
  have HF2 := Lib.hid (fun W (hb : Below w.heap.size w W) => few_any m v' W (h'.keep hb) hzm)
  have HP := Lib.hid hP
  have HZl := Lib.hid hzl
  have HZm := Lib.hid hzm
  have HZ1 := Lib.hid (addB_z (fun r hr => (by cases hr)) hzl : ∀ r ∈ addB [] l, RefZ r)
  have HZ2 := Lib.hid (addB_z HZ1.out hzm)
  have HAdd := Lib.hid hAdd
  have HL := Lib.hid h
  have HM := Lib.hid h'
  obtain ⟨a, cap, rfl, _, _⟩ := h
  obtain ⟨a', cap', rfl, _, _⟩ := h'
  obtain ⟨nl, hnl⟩ : ∃ nl, l.length = nl := ⟨_, rfl⟩
  obtain ⟨nm, hnm⟩ : ∃ nm, m.length = nm := ⟨_, rfl⟩
  rw [hnl] at HF1 HL ⊢
  rw [hnm] at HF2 HM ⊢
  have HNL := Lib.hid hnl
  have HNM := Lib.hid hnm
  clear hP hAdd hzl hzm hnl hnm
  go_enter Tryz.func6, Tryz.ntmps6
  go_wp2_with fail
  refine HA.out.mono ?_
  rintro e w1 ⟨rfl, hb1⟩
  have W1 := Lib.hid hb1
  clear hb1 HA
  go_wp2_with fail
  refine (HF1.out _ W1.out).mono ?_
  rintro e w2 ⟨hf1, hb2⟩
  have W2 := Lib.hid (below_later W1.out hb2)
  clear hb2 W1 HF1
  rcases hf1 with rfl | ⟨rfl, hfl⟩
  · go_wp2
    go_ret
    exact ⟨rfl, W2.out⟩
  have HFl := Lib.hid hfl
  clear hfl
  go_wp2_with fail
  refine (HF2.out _ W2.out).mono ?_
  rintro e w3 ⟨hf2, hb3⟩
  have W3 := Lib.hid (below_later W2.out hb3)
  clear hb3 W2 HF2
  rcases hf2 with rfl | ⟨rfl, hfm⟩
  · go_wp2
    go_ret
    exact ⟨rfl, W3.out⟩
  have HFm := Lib.hid hfm
  clear hfm
  by_cases hx1 : (1000 : Int) < (x.size : Int)
  · go_wp2
    go_ret
    exact ⟨rfl, W3.out⟩
  obtain ⟨y, hy⟩ : ∃ y : ByteArray, y.data.toList = Ks.lab x.data.toList := ⟨⟨(Ks.lab x.data.toList).toArray⟩, rfl⟩
  obtain ⟨b1, ok1, hF1⟩ := find_is l y
  obtain ⟨b2, ok2, hF2⟩ := find_is m y
  obtain ⟨b3, ok3, hF3, hrel⟩ := first_is hF1 hF2
  have hl40 : l.length ≤ 40 := HFl.out.1
  have hm40 : m.length ≤ 40 := HFm.out.1
  have hn1 : nl ≤ 40 := by rw [← HNL.out]; exact hl40
  have hn2 : nm ≤ 40 := by rw [← HNM.out]; exact hm40
  have ha1 := addB_len l []
  have ha2 := addB_len m (addB [] l)
  rw [List.length_nil] at ha1
  have HAd1 := Lib.hid (HAdd.out w3 W3.out [] l _ _ (Refs.nil w3) (HL.out.keep W3.out) (by decide) (by omega) (fun r hr => (by cases hr)) HZl.out)
  have HAd2 := Lib.hid (fun W (hb : Below w.heap.size w W) v (hv : Refs W v (addB [] l)) => HAdd.out W hb (addB [] l) m v _ hv (HM.out.keep hb) (by omega) (by omega) HZ1.out HZm.out)
  have HT1 := Lib.hid (fun W (hb : Below w.heap.size w W) => HP.out.find W hb l _ x y b1 ok1 (by omega) hy (by omega) HZl.out (HL.out.keep hb) hF1)
  have HT2 := Lib.hid (fun W (hb : Below w.heap.size w W) => HP.out.find W hb m _ x y b2 ok2 (by omega) hy (by omega) HZm.out (HM.out.keep hb) hF2)
  have HT3 := Lib.hid (fun W (hb : Below w.heap.size w W) v (hv : Refs W v (addB (addB [] l) m)) => HP.out.find W hb (addB (addB [] l) m) v x y b3 ok3 (by omega) hy (by omega) HZ2.out hv hF3)
  have HS := Lib.hid (fun (l : List Rb) v v' W h h' => rsame_self l v v' W h h')
  obtain ⟨na, hna⟩ : ∃ na, (addB (addB [] l) m).length = na := ⟨_, rfl⟩
  have hna2 : na ≤ nl + nm := by rw [← hna, ← HNL.out, ← HNM.out]; omega
  have HNA := Lib.hid hna
  have hrel := Lib.hid hrel
  unfold refV refC at HT1 HT2 HT3
  clear hy hF1 hF2 hF3 hl40 hm40 HFl HFm HP HAdd ha1 ha2 hna HZl HZm HZ1 HZ2
  go_wp2_with fail
  refine HAd1.out.mono ?_
  rintro e w4 ⟨u4, rfl, hr4, hb4⟩
  have R4 := Lib.hid hr4
  have W4 := Lib.hid (below_later W3.out hb4)
  clear hr4 hb4 HAd1 W3
  go_wp2_with fail
  refine (HAd2.out _ W4.out _ R4.out).mono ?_
  rintro e w5 ⟨u5, rfl, hr5, hb5⟩
  have R5 := Lib.hid hr5
  have W5 := Lib.hid (below_later W4.out hb5)
  obtain ⟨a5, c5, rfl, _, _⟩ := hr5
  rw [HNA.out] at R5 ⊢
  clear hb5 HAd2 W4 R4
  go_wp2_with fail
  refine (HT1.out _ W5.out).mono ?_
  rintro e w6 ⟨rfl, hb6⟩
  have R6 := Lib.hid ((R5.out.keep hb6).keep ((Below.refl _ w6).alloc (Nat.le_refl _) (.cells (refC b1) 24)))
  have K6 : Hid (Blk (w6.alloc (.cells (refC b1) 24)) w6.heap.size (refC b1) 24) := Lib.hid (Blk.new _ _ _)
  have W6 : Hid (Below w.heap.size w (w6.alloc (.cells (refC b1) 24))) := Lib.hid (by
    have := below_later W5.out hb6
    exact this.alloc this.size _)
  unfold refC at K6 W6 R6
  clear hb6 HT1 W5 R5
  go_wp2_with fail
  refine (HT2.out _ W6.out).mono ?_
  rintro e w7 ⟨rfl, hb7⟩
  have R7 := Lib.hid ((R6.out.keep hb7).keep ((Below.refl _ w7).alloc (Nat.le_refl _) (.cells (refC b2) 24)))
  have K6' := Lib.hid ((K6.out.below hb7).alloc (.cells (refC b2) 24))
  have K7 : Hid (Blk (w7.alloc (.cells (refC b2) 24)) w7.heap.size (refC b2) 24) := Lib.hid (Blk.new _ _ _)
  have W7 : Hid (Below w.heap.size w (w7.alloc (.cells (refC b2) 24))) := Lib.hid (by
    have := below_later W6.out hb7
    exact this.alloc this.size _)
  unfold refC at K7 W7 R7 K6'
  clear hb7 HT2 W6 R6 K6
  go_wp2_with fail
  refine (HT3.out _ W7.out _ R7.out).mono ?_
  rintro e w8 ⟨rfl, hb8⟩
  have K6 := Lib.hid ((K6'.out.below hb8).alloc (.cells (refC b3) 24))
  have K7' := Lib.hid ((K7.out.below hb8).alloc (.cells (refC b3) 24))
  have K8 : Hid (Blk (w8.alloc (.cells (refC b3) 24)) w8.heap.size (refC b3) 24) := Lib.hid (Blk.new _ _ _)
  have W8 : Hid (Below w.heap.size w (w8.alloc (.cells (refC b3) 24))) := Lib.hid (by
    have := below_later W7.out hb8
    exact this.alloc this.size _)
  unfold refC at K8 W8 K6 K7'
  clear hb8 HT3 W7 R7 K6' K7
  have hsz : (w8.alloc (.cells #[.string b3.lab, .string b3.dst, .string b3.tit] 24)).heap.size = w8.heap.size + 1 := by simp
  have HX := Lib.hid (two_rows (w8.alloc (.cells #[.string b3.lab, .string b3.dst, .string b3.tit] 24)) b3)
  have HB6 : Hid (Below (w8.alloc (.cells #[.string b3.lab, .string b3.dst, .string b3.tit] 24)).heap.size (w8.alloc (.cells #[.string b3.lab, .string b3.dst, .string b3.tit] 24)) (((w8.alloc (.cells #[.string b3.lab, .string b3.dst, .string b3.tit] 24)).alloc (.cells (refC b3) 24)).alloc (.cells (refC b3) 24))) := Lib.hid (((Below.refl _ _).alloc (Nat.le_refl _) _).alloc (by simp) _)
  unfold refC at HX HB6
  rw [hsz] at HX
  clear hsz
  rcases hrel.out with ⟨rfl, rfl, rfl⟩ | ⟨rfl, rfl, rfl⟩
  · have c0 := K6.out.cell 0 rfl
    have c1 := K6.out.cell 1 rfl
    have c2 := K6.out.cell 2 rfl
    have K9 := K8.out.alloc (.cells #[.string b3.lab, .string b3.dst, .string b3.tit] 24)
    have d0 := K9.cell 0 rfl
    have d1 := K9.cell 1 rfl
    have d2 := K9.cell 2 rfl
    clear K6 K7' K8 K9 hrel
    go_wp2_with fail
    refine (HS.out [b3] _ _ _ HX.out.1 HX.out.2).mono ?_
    rintro e w9 ⟨rfl, hb9⟩
    go_wp2
    go_ret
    exact ⟨rfl, below_later W8.out (below_later HB6.out hb9)⟩
  · have c0 := K7'.out.cell 0 rfl
    have c1 := K7'.out.cell 1 rfl
    have c2 := K7'.out.cell 2 rfl
    have K9 := K8.out.alloc (.cells #[.string b3.lab, .string b3.dst, .string b3.tit] 24)
    have d0 := K9.cell 0 rfl
    have d1 := K9.cell 1 rfl
    have d2 := K9.cell 2 rfl
    have hn3 : (nl : Int) + (nm : Int) ≤ 1000 := by omega
    have hle : decide ((na : Int) ≤ (nl : Int) + (nm : Int)) = true := decide_eq_true (by omega)
    have hle2 : (na : Int) ≤ (nl : Int) + (nm : Int) := by omega
    clear K6 K7' K8 K9 hrel hna2
    cases ok3 with
    | false =>
      clear c0 c1 c2 d0 d1 d2
      go_wp2
      go_ret
      exact ⟨rfl, W8.out⟩
    | true =>
      go_wp2_with fail
      refine (HS.out [b3] _ _ _ HX.out.1 HX.out.2).mono ?_
      rintro e w9 ⟨rfl, hb9⟩
      clear c0 c1 c2 d0 d1 d2
      go_wp2
      go_ret
      exact ⟨rfl, below_later W8.out (below_later HB6.out hb9)⟩
end RefsFirst
end Go.Proofs.YtfabiidohdkkcaaGreatDoor
