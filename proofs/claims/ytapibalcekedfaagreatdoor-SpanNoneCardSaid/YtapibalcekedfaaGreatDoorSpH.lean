/- Walks of layer 12, the eighth part: the program's codes, addresses, HTML. -/
import Derived.Test.YtapibalcekedfaaGreatDoorSpG
import Derived.Lib.Replace
import Derived.Lib.CountLaws
namespace Go.Proofs.YtapibalcekedfaaGreatDoor
open Go Go.RowKit
namespace Sp
open Sc
set_option maxRecDepth 100000
set_option linter.unusedVariables false
set_option linter.unusedSimpArgs false

/-! ### ends of lines as blanks -/
theorem map_no {a : List UInt8} (h : ∀ c ∈ a, c ≠ 10) : a.map bl10 = a := by
  induction a with
  | nil => rfl
  | cons c t ih =>
    rw [List.map_cons, ih (fun d hd => h d (List.mem_cons_of_mem _ hd))]
    unfold bl10
    rw [if_neg (h c (List.mem_cons_self ..))]
theorem index_one (x : UInt8) (l : List UInt8) : (∃ a r, l = a ++ x :: r ∧ (∀ c ∈ a, c ≠ x) ∧ Lib.index l [x] = ((a.length : Nat) : Int)) ∨ ((∀ c ∈ l, c ≠ x) ∧ Lib.index l [x] = -1) := by
  have hge := Lib.index_ge l [x]
  rcases cut_one x l with ⟨a, r, h1, h2, h3⟩ | ⟨h1, h2⟩
  · unfold Lib.cut at h1
    by_cases h : 0 ≤ Lib.index l [x]
    · rw [if_pos h] at h1
      have e1 := (Prod.mk.inj h1).1
      have e3 := congrArg List.length (Prod.mk.inj (Prod.mk.inj h1).2).1
      rw [List.length_drop, h2, List.length_append, List.length_cons] at e3
      simp only [List.length_cons, List.length_nil] at e3
      have e2 := congrArg List.length e1
      rw [List.length_take, h2, List.length_append, List.length_cons] at e2
      refine .inl ⟨a, r, h2, h3, ?_⟩
      rw [← h2] at e2 e3
      omega
    · rw [if_neg h] at h1
      cases (Prod.mk.inj (Prod.mk.inj h1).2).2
  · unfold Lib.cut at h1
    by_cases h : 0 ≤ Lib.index l [x]
    · rw [if_pos h] at h1
      cases (Prod.mk.inj (Prod.mk.inj h1).2).2
    · exact .inr ⟨h2, by omega⟩
theorem replaceK_10 : ∀ (m : Nat) (l : List UInt8), l.length ≤ m → Lib.replaceK [10] [32] (Lib.count l [10]) l = l.map bl10
  | m, l, hm => by
    rcases index_one 10 l with ⟨a, r, h1, h2, h3⟩ | ⟨h1, h2⟩
    · cases m with
      | zero =>
        have hl : l = [] := List.length_eq_zero_iff.1 (by omega)
        rw [hl] at h1
        cases a <;> cases h1
      | succ m =>
        have hc := Lib.count_hit (sub := [10]) (by simp) h3
        have hd : l.drop (a.length + ([10] : List UInt8).length) = r := by
          rw [h1, show a ++ 10 :: r = (a ++ [10]) ++ r by simp]
          exact List.drop_left' (by simp)
        rw [hd] at hc
        rw [hc, Nat.add_comm, Lib.replaceK_hit _ _ _ _ _ h3, hd, replaceK_10 m r (by have := congrArg List.length h1; rw [List.length_append, List.length_cons] at this; omega)]
        have ht : l.take a.length = a := by rw [h1]; exact List.take_left' rfl
        rw [ht, h1, List.map_append, map_no h2, List.map_cons]
        simp [bl10]
    · rw [Lib.count_miss h2, map_no h1]; rfl
theorem replaceAll_10 (l : List UInt8) : Lib.replaceAll l [10] [32] = l.map bl10 := by
  unfold Lib.replaceAll Lib.replace
  rw [if_neg (by decide)]
  unfold Lib.replaceNum
  rw [if_pos (.inl (by decide))]
  exact replaceK_10 l.length l (Nat.le_refl _)
theorem other_trim (l : List UInt8) : (Lib.trimS l [32]).isEmpty = !other l := by
  have hk : (fun c : UInt8 => ([32] : List UInt8).contains c) = (fun c => c == 32) := funext fun c => by rw [List.contains_cons, List.contains_nil, Bool.or_false]
  have hall : ∀ m : List UInt8, (m.dropWhile (fun c => c == 32)).isEmpty = m.all (fun c => c == 32) := fun m => by
    induction m with
    | nil => rfl
    | cons a t ih => rw [List.dropWhile_cons, List.all_cons]; cases (a == 32) <;> simp [ih]
  have hsplit : ∀ m : List UInt8, (m.dropWhile (fun c => c == 32)).all (fun c => c == 32) = m.all (fun c => c == 32) := fun m => by
    induction m with
    | nil => rfl
    | cons a t ih => rw [List.dropWhile_cons, List.all_cons]; cases h : (a == 32) <;> simp [ih, h]
  unfold Lib.trimS Lib.trimLeftS Lib.trimRightS
  rw [hk, hall, List.all_reverse, hsplit, List.all_reverse]
  unfold other
  rw [Bool.eq_iff_iff]
  simp
theorem suf_last (l : List UInt8) (c : UInt8) : Lib.hasSuffix l [c] = decide (l.getLast? = some c) := by
  unfold Lib.hasSuffix List.isSuffixOf
  rw [List.reverse_singleton, ← List.head?_reverse]
  exact pre_head1 l.reverse c

theorem suf_any (s : ByteArray) (c : UInt8) (w : World) (hs : s.size ≤ 1000000) :
    Calls Tryz.prog 40 #[.string s, .string ⟨#[c]⟩] w fun e w' => e = .returned (.bool (decide (s.data.toList.getLast? = some c))) ∧ w = w' := by
  have := Tryz.strings_HasSuffix s ⟨#[c]⟩ w (by omega)
  rw [show (⟨#[c]⟩ : ByteArray).data.toList = [c] from rfl, suf_last] at this
  exact this.mono fun _ _ ⟨a, b⟩ => ⟨a, b.symm⟩
theorem countB_10 (s : ByteArray) : Lib.countB s ⟨#[10]⟩ ≤ s.size + 1 := by
  have := Lib.count_le s.data.toList [10]
  rw [sz] at this
  exact this
theorem repl_any {s T : ByteArray} (hT : s.data.toList.map bl10 = T.data.toList) (w : World) (hs : s.size ≤ 1000000) (hL : LaidP w) :
    Calls Tryz.prog 39 #[.string s, .string ⟨#[10]⟩, .string ⟨#[32]⟩] w fun e w' => e = .returned (.string T) ∧ Below w.heap.size w w' := by
  obtain ⟨m, hm⟩ := hL
  have hc := countB_10 s
  have := Tryz.strings_ReplaceAll s ⟨#[10]⟩ ⟨#[32]⟩ m w (by omega) hm (by decide) (by rw [show (⟨#[32]⟩ : ByteArray).size = 1 from rfl]; omega)
  rw [show (⟨#[10]⟩ : ByteArray).data.toList = [10] from rfl, show (⟨#[32]⟩ : ByteArray).data.toList = [32] from rfl, replaceAll_10, hT, ba_self] at this
  exact this
theorem trim32_any (s : ByteArray) (w : World) (hs : s.size ≤ 1000000) :
    Calls Tryz.prog 41 #[.string s, .string ⟨#[32]⟩] w fun e w' => e = .returned (.string ⟨(Lib.trimS s.data.toList [32]).toArray⟩) ∧ Below w.heap.size w w' :=
  Tryz.strings_Trim_ascii s ⟨#[32]⟩ w (by omega) (by decide) (ascii_cut [32] (by decide))

set_option maxHeartbeats 2000000 in
theorem content_any (s : ByteArray) (w : World) (hs : s.size ≤ 1000000) (hL : LaidP w) :
    Calls Tryz.prog 20 #[.string s] w fun e w' => e = .returned (.string ⟨(content s.data.toList).toArray⟩) ∧ Below w.heap.size w w' := by
  obtain ⟨T, hT⟩ := ba_mk (s.data.toList.map bl10)
  have HR := Lib.hid (repl_any hT w hs hL)
  have hTs : T.size = s.size := by rw [← sz, ← hT, List.length_map, sz]
  have hTz : T.size ≤ 1000000 := by omega
  have HC : Hid (content s.data.toList = if T.data.toList.head? = some 32 ∧ T.data.toList.getLast? = some 32 ∧ other T.data.toList = true then (T.data.toList.drop 1).dropLast else T.data.toList) := Lib.hid (by unfold content; rw [hT])
  have HP := Lib.hid (fun w => pre1_any T 32 w)
  have HS := Lib.hid (fun w => suf_any T 32 w hTz)
  have HTr := Lib.hid (fun w => trim32_any T w hTz)
  have HO := Lib.hid (other_trim T.data.toList)
  have HCl := Lib.hid (fun w => clone_any T w (by omega))
  have HTe := Lib.hid (ba_self T)
  clear hT hL hTs
  obtain ⟨V, hV⟩ : ∃ V, (⟨(content s.data.toList).toArray⟩ : ByteArray) = V := ⟨_, rfl⟩
  rw [hV]
  have HV := Lib.hid hV.symm
  clear hV
  by_cases h1 : T.data.toList.head? = some 32
  · by_cases h2 : T.data.toList.getLast? = some 32
    · rw [decide_eq_true h1] at HP
      rw [decide_eq_true h2] at HS
      cases ho : other T.data.toList with
      | true =>
        have HX : Hid ((Lib.trimS T.data.toList [32]).isEmpty = false) := Lib.hid (by rw [HO.out, ho]; rfl)
        have hTl : 2 ≤ T.size := by
          rw [← sz]
          cases hl : T.data.toList with
          | nil => rw [hl] at h1; cases h1
          | cons a t =>
            cases t with
            | nil =>
              rw [hl] at ho h1
              obtain rfl := Option.some.inj h1
              cases ho
            | cons b u => simp
        have HVV : Hid (V = T.extract 1 (T.size - 1)) := Lib.hid (by
          rw [HV.out, HC.out, if_pos ⟨h1, h2, ho⟩]
          refine (ba_eq ?_).symm
          rw [Lib.extract_data, List.dropLast_eq_take, List.length_drop, sz])
        obtain ⟨M, hM⟩ : ∃ M, T.size = M + 1 := ⟨T.size - 1, by omega⟩
        rw [hM, Nat.add_sub_cancel] at HVV
        have hM2 : (T.size : Int) - 1 = (M : Int) := by omega
        have hM3 : (M : Int) ≤ (T.size : Int) := by omega
        have hM4 : (1 : Int) ≤ (M : Int) := by omega
        obtain ⟨E, hE⟩ : ∃ E, T.extract 1 M = E := ⟨_, rfl⟩
        rw [hE] at HVV
        have hEz : E.size ≤ 1000000 := by rw [← hE]; simp; omega
        have HCl2 := Lib.hid (fun w => clone_any E w (by omega))
        clear h1 h2 ho HC hM HTe HO
        generalize Lib.trimS T.data.toList [32] = x at *
        have hx : x.isEmpty = false := HX.out
        go_enter Tryz.func20, Tryz.ntmps20
        go_wp2_with fail
        refine HR.out.mono ?_
        rintro e w1 ⟨rfl, hb1⟩
        go_wp2_with fail
        refine (HP.out _).mono ?_
        rintro e w2 ⟨rfl, rfl⟩
        go_wp2_with fail
        refine (HS.out _).mono ?_
        rintro e w2 ⟨rfl, rfl⟩
        go_wp2_with fail
        refine (HTr.out _).mono ?_
        rintro e w2 ⟨rfl, hb2⟩
        go_wp2_with fail
        refine (HCl2.out _).mono ?_
        rintro e w3 ⟨rfl, hb3⟩
        go_wp2
        go_ret
        exact ⟨ret_str HVV.out.symm, hb1.trans ((hb2.trans (hb3.mono hb2.size)).mono hb1.size)⟩
      | false =>
        have HX : Hid ((Lib.trimS T.data.toList [32]).isEmpty = true) := Lib.hid (by rw [HO.out, ho]; rfl)
        have HVV : Hid (V = T) := Lib.hid (by rw [HV.out, HC.out, if_neg (by rw [ho]; simp), HTe.out])
        clear h1 h2 ho HC HTe HO
        generalize Lib.trimS T.data.toList [32] = x at *
        have hx : x.isEmpty = true := HX.out
        go_enter Tryz.func20, Tryz.ntmps20
        go_wp2_with fail
        refine HR.out.mono ?_
        rintro e w1 ⟨rfl, hb1⟩
        go_wp2_with fail
        refine (HP.out _).mono ?_
        rintro e w2 ⟨rfl, rfl⟩
        go_wp2_with fail
        refine (HS.out _).mono ?_
        rintro e w2 ⟨rfl, rfl⟩
        go_wp2_with fail
        refine (HTr.out _).mono ?_
        rintro e w2 ⟨rfl, hb2⟩
        go_wp2_with fail
        refine (HCl.out _).mono ?_
        rintro e w3 ⟨rfl, hb3⟩
        go_wp2
        go_ret
        exact ⟨ret_str HVV.out.symm, hb1.trans ((hb2.trans (hb3.mono hb2.size)).mono hb1.size)⟩
    · have HVV : Hid (V = T) := Lib.hid (by rw [HV.out, HC.out, if_neg (fun h => h2 h.2.1), HTe.out])
      rw [decide_eq_true h1] at HP
      rw [decide_eq_false h2] at HS
      clear h1 h2 HC HTe HO
      go_enter Tryz.func20, Tryz.ntmps20
      go_wp2_with fail
      refine HR.out.mono ?_
      rintro e w1 ⟨rfl, hb1⟩
      go_wp2_with fail
      refine (HP.out _).mono ?_
      rintro e w2 ⟨rfl, rfl⟩
      go_wp2_with fail
      refine (HS.out _).mono ?_
      rintro e w2 ⟨rfl, rfl⟩
      go_wp2_with fail
      refine (HCl.out _).mono ?_
      rintro e w3 ⟨rfl, hb3⟩
      go_wp2
      go_ret
      exact ⟨ret_str HVV.out.symm, hb1.trans (hb3.mono hb1.size)⟩
  · have HVV : Hid (V = T) := Lib.hid (by rw [HV.out, HC.out, if_neg (fun h => h1 h.1), HTe.out])
    rw [decide_eq_false h1] at HP
    clear h1 HC HTe HO
    go_enter Tryz.func20, Tryz.ntmps20
    go_wp2_with fail
    refine HR.out.mono ?_
    rintro e w1 ⟨rfl, hb1⟩
    go_wp2_with fail
    refine (HP.out _).mono ?_
    rintro e w2 ⟨rfl, rfl⟩
    go_wp2_with fail
    refine (HCl.out _).mono ?_
    rintro e w3 ⟨rfl, hb3⟩
    go_wp2
    go_ret
    exact ⟨ret_str HVV.out.symm, hb1.trans (hb3.mono hb1.size)⟩

/-! ### codes -/
theorem idxB_one (x : UInt8) : ∀ l : List UInt8, (∃ a r, l = a ++ x :: r ∧ (∀ c ∈ a, c ≠ x) ∧ Lib.indexByte l x = ((a.length : Nat) : Int)) ∨ ((∀ c ∈ l, c ≠ x) ∧ Lib.indexByte l x = -1)
  | [] => .inr ⟨fun c h => (by cases h), rfl⟩
  | b :: t => by
    have hix := idxB_cons b t x
    by_cases hb : b = x
    · subst hb
      refine .inl ⟨[], t, rfl, fun c h => (by cases h), ?_⟩
      rw [hix, if_pos (by simp)]; rfl
    · rw [if_neg (by simpa using hb)] at hix
      rcases idxB_one x t with ⟨a, r, h1, h2, h3⟩ | ⟨h1, h2⟩
      · refine .inl ⟨b :: a, r, by rw [h1]; rfl, fun c hc => ?_, ?_⟩
        · rcases List.mem_cons.1 hc with rfl | hc
          · exact hb
          · exact h2 c hc
        · rw [hix, h3]
          have : ((a.length : Int) == -1) = false := by simp
          rw [this]; simp
      · refine .inr ⟨fun c hc => ?_, ?_⟩
        · rcases List.mem_cons.1 hc with rfl | hc
          · exact hb
          · exact h1 c hc
        · rw [hix, h2]; rfl
theorem idxB96_any (s : ByteArray) (w : World) :
    Calls Tryz.prog 19 #[.string s, .int .u8 96] w fun e w' => e = .returned (.int .i64 (Lib.indexByte s.data.toList 96)) ∧ w = w' :=
  (Tryz.strings_IndexByte s 96 w).mono fun _ _ ⟨a, b⟩ => ⟨a, b.symm⟩
theorem codeAt_none {l : List UInt8} {n i : Nat} (h : ∀ c ∈ l.drop i, c ≠ 96) : codeAt l n i = none := by
  unfold codeAt
  rw [seek_no h]; rfl
theorem codeAt_free {l a r : List UInt8} {n i : Nat} (h : l.drop i = a ++ 96 :: r) (ha : ∀ c ∈ a, c ≠ 96) : codeAt l n i = codeAt l n (i + a.length) ∧ l[i + a.length]? = some 96 := by
  have hd : l.drop (i + a.length) = 96 :: r := by rw [← List.drop_drop, h]; exact List.drop_left' rfl
  constructor
  · unfold codeAt
    rw [hd, h, seek_free _ _ ha, Option.map_map]
    congr 1
    funext k
    simp only [Function.comp]
    rw [show i + (k + a.length) = i + a.length + k by omega]
  · have : (l.drop (i + a.length))[0]? = some 96 := by rw [hd]; rfl
    rwa [List.getElem?_drop, Nat.add_zero] at this

set_option maxHeartbeats 4000000 in
theorem code_any (s : ByteArray) (w : World) (hs : s.size ≤ 1000000) (hL : LaidP w) :
    Calls Tryz.prog 10 #[.string s] w fun e w' => e = .returned (codeV (codeP s.data.toList)) ∧ Below w.heap.size w w' := by
  have hs' : (s.size : Int) ≤ 1000000 := by omega
  have HL := Lib.hid hL
  obtain ⟨V, hV⟩ : ∃ V, codeV (codeP s.data.toList) = V := ⟨_, rfl⟩
  rw [hV]
  have HV := Lib.hid hV.symm
  have HP := Lib.hid (pre1_any s 96 w)
  clear hV hL
  by_cases h96 : s.data.toList.head? = some 96
  · rw [decide_eq_true h96] at HP
    have HRun := Lib.hid (run_any s w hs)
    have hnl := runP_le s.data.toList
    rw [sz] at hnl
    have hn1 := runP_pos (l := s.data.toList) (by intro h; rw [h] at h96; cases h96)
    have HV1 : Hid (V = codeV (codeAt s.data.toList (runP s.data.toList) (runP s.data.toList))) := Lib.hid (by rw [HV.out, codeAt_start h96])
    generalize runP s.data.toList = n at *
    clear h96 HV
    go_enter Tryz.func10, Tryz.ntmps10
    go_wp2_with fail
    refine HP.out.mono ?_
    rintro e w1 ⟨rfl, rfl⟩
    go_wp2_with fail
    refine HRun.out.mono ?_
    rintro e w1 ⟨rfl, hb1⟩
    have HB1 := Lib.hid hb1
    clear hb1 HRun HP
    go_wp2_with fail
    go_loopg [5] (s.size - n) (fun G v5 wr => ∃ i : Nat, i + G = s.size ∧ n ≤ i ∧ v5 = .int .i64 (i : Int) ∧ Hid (Below w.heap.size w wr) ∧ Hid (V = codeV (codeAt s.data.toList n i)))
    case atStart => exact ⟨n, by omega, by omega, rfl, HB1, HV1⟩
    case round =>
      obtain ⟨i, hig, hni, rfl, HB, HR⟩ := hrel
      clear HB1 HV1
      have hle' : (i : Int) ≤ (s.size : Int) := by omega
      obtain ⟨S, hS⟩ : ∃ S, s.extract i s.size = S := ⟨_, rfl⟩
      have HSl : Hid (S.data.toList = s.data.toList.drop i) := Lib.hid (by rw [← hS, ext_rest])
      have HI := Lib.hid (fun w => idxB96_any S w)
      rcases idxB_one 96 S.data.toList with ⟨a, r, h1, h2, h3⟩ | ⟨h1, h2⟩
      · rw [h3] at HI
        obtain ⟨q1, q2⟩ := codeAt_free (l := s.data.toList) (n := n) (i := i) (HSl.out.symm.trans h1) h2
        have HR2 : Hid (V = codeV (codeAt s.data.toList n (i + a.length))) := Lib.hid (by rw [HR.out, q1])
        have hal : i + a.length < s.size := by
          have := (List.getElem?_eq_some_iff.1 q2).1
          rwa [sz] at this
        generalize a.length = m at *
        obtain ⟨F, hF⟩ : ∃ F, s.extract (i + m) s.size = F := ⟨_, rfl⟩
        have HFl : Hid (F.data.toList = s.data.toList.drop (i + m)) := Lib.hid (by rw [← hF, ext_rest])
        have hFs : F.size + (i + m) = s.size := by rw [← sz, HFl.out, List.length_drop, sz]; omega
        have HRun := Lib.hid (fun W => run_any F W (by omega))
        have hkl := runP_le F.data.toList
        have hk1 := runP_pos (l := F.data.toList) (by intro h; have := congrArg List.length h; rw [sz, List.length_nil] at this; omega)
        rw [sz] at hkl
        have HK1 : Hid (runP F.data.toList ≠ n → codeAt s.data.toList n (i + m) = codeAt s.data.toList n (i + m + runP F.data.toList)) := Lib.hid (by rw [HFl.out]; exact fun h => codeAt_run q2 h)
        have HK2 : Hid (runP F.data.toList = n → codeAt s.data.toList n (i + m) = some (content (seg s.data.toList n (i + m)), i + m + n)) := Lib.hid (by rw [HFl.out]; exact fun h => codeAt_hit q2 h)
        generalize runP F.data.toList = k at *
        have hm0 : ¬ (m : Int) < 0 := by omega
        have him : (i : Int) + (m : Int) = ((i + m : Nat) : Int) := by omega
        obtain ⟨p, hp⟩ : ∃ p, i + m = p := ⟨_, rfl⟩
        have hip : i ≤ p := by omega
        rw [hp] at HR2 HFl HK1 HK2 hF him hal hFs
        have hps : (p : Int) ≤ (s.size : Int) := by omega
        have hnp : (n : Int) ≤ (p : Int) := by omega
        have HSS := Lib.hid hFs
        clear h1 h2 h3 q1 q2 HSl HFl hp
        by_cases hkn : k = n
        · subst hkn
          have hkk : ((k : Int) == (k : Int)) = true := by simp
          have HV3 : Hid (V = .tuple #[.string ⟨(content (seg s.data.toList k p)).toArray⟩, .int .i64 ((p : Int) + (k : Int))]) := Lib.hid (by
            rw [HR2.out, HK2.out rfl]
            show Value.tuple #[.string ⟨(content (seg s.data.toList k p)).toArray⟩, .int .i64 ((p + k : Nat) : Int)] = _
            rw [Int.natCast_add])
          obtain ⟨M, hM⟩ : ∃ M, s.extract k p = M := ⟨_, rfl⟩
          have HMl : Hid (M.data.toList = seg s.data.toList k p) := Lib.hid (by
            rw [← hM, Lib.extract_data]
            unfold seg
            rw [List.drop_take])
          have hMz : M.size ≤ 1000000 := by rw [← hM]; simp; omega
          rw [← HMl.out] at HV3
          have HCt : Hid (∀ W, Below w.heap.size w W → Calls Tryz.prog 20 #[.string M] W fun e w' => e = .returned (.string ⟨(content M.data.toList).toArray⟩) ∧ Below w.heap.size w w') := Lib.hid (fun W hW => (content_any M W hMz (HL.out.below hW)).mono fun e w' ⟨a, b⟩ => ⟨a, hW.trans (b.mono hW.size)⟩)
          clear HK1 HK2 HMl hFs
          go_wp2_with fail
          refine (HI.out _).mono ?_
          rintro e w2 ⟨rfl, rfl⟩
          go_wp2_with fail
          refine (HRun.out _).mono ?_
          rintro e w2 ⟨rfl, hb2⟩
          go_wp2_with fail
          refine (HCt.out _ (HB.out.trans (hb2.mono HB.out.size))).mono ?_
          rintro e w3 ⟨rfl, hb3⟩
          go_wp2
          go_ret2
          exact ⟨retV HV3.out.symm, hb3⟩
        · have hkn' : ((k : Int) == (n : Int)) = false := by simp; omega
          have HR3 : Hid (V = codeV (codeAt s.data.toList n (p + k))) := Lib.hid (by rw [HR2.out, HK1.out hkn])
          clear HK1 HK2
          go_wp2_with fail
          refine (HI.out _).mono ?_
          rintro e w2 ⟨rfl, rfl⟩
          go_wp2_with fail
          refine (HRun.out _).mono ?_
          rintro e w2 ⟨rfl, hb2⟩
          have HB2 := Lib.hid (HB.out.trans (hb2.mono HB.out.size))
          clear hb2
          go_wp2
          go_roundg (s.size - (p + k))
          case rel => exact ⟨p + k, by omega, by omega, by go_num, HB2, HR3⟩
          case measure => omega
      · rw [h2] at HI
        have HVV : Hid (V = .tuple #[.string ⟨#[]⟩, .int .i64 0]) := Lib.hid (by rw [HR.out, codeAt_none (by rw [← HSl.out]; exact h1)]; rfl)
        clear h1 h2
        go_wp2_with fail
        refine (HI.out _).mono ?_
        rintro e w2 ⟨rfl, rfl⟩
        go_wp2
        go_ret2
        exact ⟨retV HVV.out.symm, HB.out⟩
  · rw [decide_eq_false h96] at HP
    have HVV : Hid (V = .tuple #[.string ⟨#[]⟩, .int .i64 0]) := Lib.hid (by rw [HV.out, codeP_no h96]; rfl)
    clear h96
    go_enter Tryz.func10, Tryz.ntmps10
    go_wp2_with fail
    refine HP.out.mono ?_
    rintro e w1 ⟨rfl, rfl⟩
    go_wp2
    go_ret2
    exact ⟨retV HVV.out.symm, Below.refl _ _⟩
end Sp
end Go.Proofs.YtapibalcekedfaaGreatDoor
