/- Walks of layer 12, the seventh part: the program's addresses and mailboxes. -/
import Derived.Test.YtapibalcekedfaaGreatDoorSpF
namespace Go.Proofs.YtapibalcekedfaaGreatDoor
open Go Go.RowKit
namespace Sp
open Sc
set_option maxRecDepth 100000
set_option linter.unusedVariables false
set_option linter.unusedSimpArgs false

/-- What of the package variables the walks ask: that a number lies where the library's does. -/
def LaidP (w : World) : Prop := ∃ m : Int, w.cell? ⟨0, 0, none⟩ = some (.int .i64 m)
theorem cell_ltP {w : World} {p : Addr} {v : Value} (h : w.cell? p = some v) : p.block < w.heap.size := by
  unfold World.cell? at h
  cases hb : w.heap[p.block]? with
  | none => rw [hb] at h; simp at h
  | some o => exact (Array.getElem?_eq_some_iff.1 hb).1
theorem LaidP.below {w w' : World} (h : LaidP w) (hB : Below w.heap.size w w') : LaidP w' := by
  obtain ⟨m, hm⟩ := h
  exact ⟨m, (hB.cell (p := ⟨0, 0, none⟩) (cell_ltP hm)).trans hm⟩

/-! ### what a byte is made of -/
theorem idxB_cons (b : UInt8) (t : List UInt8) (c : UInt8) : Lib.indexByte (b :: t) c = if b == c then 0 else if Lib.indexByte t c == -1 then -1 else Lib.indexByte t c + 1 := rfl
theorem idxB_mem (l : List UInt8) (c : UInt8) : l.contains c = decide (0 ≤ Lib.indexByte l c) := by
  induction l with
  | nil => rfl
  | cons b t ih =>
    rw [List.contains_cons, ih, idxB_cons]
    have hge := Lib.indexByte_ge t c
    generalize Lib.indexByte t c = z at *
    by_cases h : b = c
    · subst h; simp
    · have h1 : (b == c) = false := by simpa using h
      have h2 : (c == b) = false := by simpa using (fun e => h e.symm)
      rw [h1, h2, Bool.false_or, if_neg (by simp)]
      by_cases h3 : z = -1
      · subst h3; rfl
      · rw [if_neg (by simpa using h3), decide_eq_decide]
        omega
theorem natOf (c : UInt8) : ((c.toNat : Int).toNat.toUInt8) = c := by rw [Int.toNat_natCast]; exact UInt8.ofNat_toNat

theorem made1_any (g0 : List UInt8) (c : UInt8) (g : Nat) (w : World) (h : SVar w g ⟨g0.toArray⟩) :
    Calls Tryz.prog 67 #[.int .u8 (c.toNat : Int), .pointer (some ⟨g, 0, none⟩)] w fun e' w' => e' = .returned (.bool (made g0 c)) ∧ w = w' := by
  have c1 := cell_of_one h
  have HX : Hid (∀ (w : World), Calls Tryz.prog 19 #[.string ⟨g0.toArray⟩, .int .u8 (c.toNat : Int)] w fun e w' => e = .returned (.int .i64 (Lib.indexByte g0 c)) ∧ w' = w) := Lib.hid (fun w => by
    have := Tryz.strings_IndexByte ⟨g0.toArray⟩ (c.toNat : Int) w
    rw [natOf] at this
    exact this)
  have HM := Lib.hid (idxB_mem g0 c)
  have HL := Lib.hid (does_letter.2 c w)
  have HG := Lib.hid (does_digit.2 c w)
  have HV : Hid (made g0 c = (letU c || digU c || g0.contains c)) := Lib.hid rfl
  clear h
  generalize g0.contains c = p at *
  generalize letU c = l at *
  generalize digU c = d at *
  generalize Lib.indexByte g0 c = z at *
  generalize made g0 c = r at *
  rcases four l d p with rfl | ⟨rfl, rfl⟩ | ⟨rfl, rfl, rfl⟩ | ⟨rfl, rfl, rfl⟩
  case _ =>
    go_enter Tryz.func67, Tryz.ntmps67
    go_wp2_with fail
    refine HL.out.mono ?_
    rintro e w1 ⟨rfl, rfl⟩
    go_wp2
    go_ret
    exact ⟨ret_bool' (by rw [HV.out]; rfl), rfl⟩
  case _ =>
    go_enter Tryz.func67, Tryz.ntmps67
    go_wp2_with fail
    refine HL.out.mono ?_
    rintro e w1 ⟨rfl, rfl⟩
    go_wp2_with fail
    refine HG.out.mono ?_
    rintro e w1 ⟨rfl, rfl⟩
    go_wp2
    go_ret
    exact ⟨ret_bool' (by rw [HV.out]; rfl), rfl⟩
  case _ | _ =>
    go_enter Tryz.func67, Tryz.ntmps67
    go_wp2_with fail
    refine HL.out.mono ?_
    rintro e w1 ⟨rfl, rfl⟩
    go_wp2_with fail
    refine HG.out.mono ?_
    rintro e w1 ⟨rfl, rfl⟩
    go_wp2_with fail
    refine (HX.out _).mono ?_
    rintro e w1 ⟨rfl, rfl⟩
    go_wp2
    go_ret
    exact ⟨ret_bool' (by rw [HV.out, ← HM.out]; rfl), rfl⟩
theorem tells_made {w : World} {g : Nat} {g0 : List UInt8} (h : SVar w g ⟨g0.toArray⟩) : Tells w 67 #[.pointer (some ⟨g, 0, none⟩)] (made g0) :=
  ⟨fun _ _ => by kernel_rfl, fun c W hW => made1_any g0 c g W (h.below hW)⟩
theorem madeOf_any (s : ByteArray) (w : World) :
    Calls Tryz.prog 43 #[.string s] w fun e w' => e = .returned (.func (.func 67) #[] #[.pointer (some ⟨w.heap.size, 0, none⟩)]) ∧ SVar w' w.heap.size s ∧ Below w.heap.size w w' := by
  go_enter Tryz.func43, Tryz.ntmps43
  go_wp2
  go_ret
  exact ⟨rfl, heap_alloc_new w _, (Below.refl _ w).alloc (Nat.le_refl _) _⟩

theorem pre_head1 (l : List UInt8) (c : UInt8) : Lib.hasPrefix l [c] = decide (l.head? = some c) := by
  unfold Lib.hasPrefix
  cases l with
  | nil => rfl
  | cons x t =>
    rw [pre_one, Bool.eq_iff_iff]
    simp only [List.head?_cons, Option.some.injEq, beq_iff_eq, decide_eq_true_eq]
    exact eq_comm
theorem preP_any (s p : ByteArray) (w : World) :
    Calls Tryz.prog 18 #[.string s, .string p] w fun e w' => e = .returned (.bool (Lib.hasPrefix s.data.toList p.data.toList)) ∧ w = w' :=
  (Tryz.strings_HasPrefix s p w).mono fun _ _ ⟨a, b⟩ => ⟨a, b.symm⟩
theorem pre1_any (s : ByteArray) (c : UInt8) (w : World) :
    Calls Tryz.prog 18 #[.string s, .string ⟨#[c]⟩] w fun e w' => e = .returned (.bool (decide (s.data.toList.head? = some c))) ∧ w = w' := by
  have := preP_any s ⟨#[c]⟩ w
  rw [show (⟨#[c]⟩ : ByteArray).data.toList = [c] from rfl, pre_head1] at this
  exact this

/-! ### schemes -/
set_option maxHeartbeats 2000000 in
theorem scheme_any (s : ByteArray) (w : World) (hs : s.size ≤ 1000000) :
    Calls Tryz.prog 24 #[.string s] w fun e w' => e = .returned (.bool (schP s.data.toList)) ∧ Below w.heap.size w w' := by
  have hs' : (s.size : Int) ≤ 1000000 := by omega
  have HM := Lib.hid (madeOf_any ⟨#[43, 46, 45]⟩ w)
  have HC : Hid (∀ W, SVar W w.heap.size ⟨#[43, 46, 45]⟩ → Calls Tryz.prog 22 #[.string s, .func (.func 67) #[] #[.pointer (some ⟨w.heap.size, 0, none⟩)]] W fun e w' => e = .returned (.int .i64 (cnt (made signA) s.data.toList : Nat)) ∧ W = w') := Lib.hid (fun W hv => count_any s W hs (tells_made (g0 := signA) hv))
  have hle := cnt_le (made signA) s.data.toList
  rw [sz] at hle
  obtain ⟨B, hB⟩ : ∃ B, schP s.data.toList = B := ⟨_, rfl⟩
  have HB : Hid (B = (decide (2 ≤ cnt (made signA) s.data.toList) && decide (cnt (made signA) s.data.toList ≤ 32) && (match s.data.toList with
    | c :: _ => letU c
    | [] => false) && decide ((s.data.toList.drop (cnt (made signA) s.data.toList)).head? = some 58))) := Lib.hid hB.symm
  rw [hB]
  clear hB
  generalize cnt (made signA) s.data.toList = n at *
  by_cases h1 : 2 ≤ n
  · by_cases h2 : n ≤ 32
    · have g1 : ¬ (n : Int) < 2 := by omega
      have g2 : ¬ (32 : Int) < (n : Int) := by omega
      have h0' : (0 : Int) < (s.size : Int) := by omega
      have h0 : 0 < s.size := by omega
      have hns : (n : Int) ≤ (s.size : Int) := by omega
      obtain ⟨c, t, hd, hck, ht⟩ := cons_at h0
      rw [List.drop_zero] at hd
      obtain ⟨S, hS⟩ : ∃ S, s.extract n s.size = S := ⟨_, rfl⟩
      have HP := Lib.hid (fun w => pre1_any S 58 w)
      have HB2 : Hid (B = (letU c && decide (S.data.toList.head? = some 58))) := Lib.hid (by
        rw [HB.out, decide_eq_true h1, decide_eq_true h2, ← hS, ext_rest, hd]
        simp only [Bool.true_and])
      have HL := Lib.hid (fun w => does_letter.2 c w)
      clear HB hd ht h1 h2
      generalize decide (S.data.toList.head? = some 58) = p at *
      generalize letU c = l at *
      cases l with
      | true =>
        go_enter Tryz.func24, Tryz.ntmps24
        go_wp2_with fail
        refine HM.out.mono ?_
        rintro e w1 ⟨rfl, hv, hb1⟩
        go_wp2_with fail
        refine (HC.out _ hv).mono ?_
        rintro e w2 ⟨rfl, rfl⟩
        go_wp2_with fail
        refine (HL.out _).mono ?_
        rintro e w2 ⟨rfl, rfl⟩
        go_wp2_with fail
        refine (HP.out _).mono ?_
        rintro e w2 ⟨rfl, rfl⟩
        go_wp2
        go_ret
        exact ⟨ret_bool' (by rw [HB2.out]; rfl), hb1⟩
      | false =>
        go_enter Tryz.func24, Tryz.ntmps24
        go_wp2_with fail
        refine HM.out.mono ?_
        rintro e w1 ⟨rfl, hv, hb1⟩
        go_wp2_with fail
        refine (HC.out _ hv).mono ?_
        rintro e w2 ⟨rfl, rfl⟩
        go_wp2_with fail
        refine (HL.out _).mono ?_
        rintro e w2 ⟨rfl, rfl⟩
        go_wp2
        go_ret
        exact ⟨ret_bool' (by rw [HB2.out]; rfl), hb1⟩
    · have g1 : ¬ (n : Int) < 2 := by omega
      have g2 : (32 : Int) < (n : Int) := by omega
      have HB2 : Hid (B = false) := Lib.hid (by rw [HB.out, decide_eq_false h2]; simp)
      clear HB
      go_enter Tryz.func24, Tryz.ntmps24
      go_wp2_with fail
      refine HM.out.mono ?_
      rintro e w1 ⟨rfl, hv, hb1⟩
      go_wp2_with fail
      refine (HC.out _ hv).mono ?_
      rintro e w2 ⟨rfl, rfl⟩
      go_wp2
      go_ret
      exact ⟨ret_bool' HB2.out.symm, hb1⟩
  · have g1 : (n : Int) < 2 := by omega
    have HB2 : Hid (B = false) := Lib.hid (by rw [HB.out, decide_eq_false h1]; simp)
    clear HB
    go_enter Tryz.func24, Tryz.ntmps24
    go_wp2_with fail
    refine HM.out.mono ?_
    rintro e w1 ⟨rfl, hv, hb1⟩
    go_wp2_with fail
    refine (HC.out _ hv).mono ?_
    rintro e w2 ⟨rfl, rfl⟩
    go_wp2
    go_ret
    exact ⟨ret_bool' HB2.out.symm, hb1⟩

/-! ### hosts -/
theorem part_any (s : ByteArray) (w : World) (hs : s.size ≤ 1000000) :
    Calls Tryz.prog 70 #[.string s] w fun e w' => e = .returned (.bool (partP s.data.toList)) ∧ Below w.heap.size w w' := by
  have hs' : (s.size : Int) ≤ 1000000 := by omega
  have HM := Lib.hid (madeOf_any ⟨#[45]⟩ w)
  have HC : Hid (∀ W, SVar W w.heap.size ⟨#[45]⟩ → Calls Tryz.prog 46 #[.string s, .func (.func 67) #[] #[.pointer (some ⟨w.heap.size, 0, none⟩)]] W fun e w' => e = .returned (.bool (s.data.toList.all (made signD))) ∧ W = w') := Lib.hid (fun W hv => isAll_any s W hs (tells_made (g0 := signD) hv))
  obtain ⟨B, hB⟩ : ∃ B, partP s.data.toList = B := ⟨_, rfl⟩
  have HB : Hid (B = (!s.data.toList.isEmpty && decide (s.data.toList.length ≤ 63) && s.data.toList.all (made signD) && decide (s.data.toList.head? ≠ some 45) && decide (s.data.toList.getLast? ≠ some 45))) := Lib.hid hB.symm
  rw [hB]
  clear hB
  generalize s.data.toList.all (made signD) = a at *
  by_cases h0 : 0 < s.size
  · have he := emp_f h0
    have h0' : (0 : Int) < (s.size : Int) := by omega
    by_cases h63 : s.size ≤ 63
    · have g63 : ¬ (63 : Int) < (s.size : Int) := by omega
      cases a with
      | false =>
        have HB2 : Hid (B = false) := Lib.hid (by rw [HB.out]; simp)
        clear HB
        go_enter Tryz.func70, Tryz.ntmps70
        go_wp2_with fail
        refine HM.out.mono ?_
        rintro e w1 ⟨rfl, hv, hb1⟩
        go_wp2_with fail
        refine (HC.out _ hv).mono ?_
        rintro e w2 ⟨rfl, rfl⟩
        go_wp2
        go_ret
        exact ⟨ret_bool' HB2.out.symm, hb1⟩
      | true =>
        obtain ⟨M, hM⟩ : ∃ M, s.size = M + 1 := ⟨s.size - 1, by omega⟩
        have hMs : M < s.size := by omega
        obtain ⟨x, hx⟩ : ∃ x, s[0] = x := ⟨_, rfl⟩
        obtain ⟨y, hy⟩ : ∃ y, s[M] = y := ⟨_, rfl⟩
        have hM2 : (s.size : Int) - 1 = (M : Int) := by omega
        have hM3 : (M : Int) < (s.size : Int) := by omega
        have ex : ((x.toNat : Int) != 45) = !(x == 45) := by unfold bne; rw [show ((45 : Int)) = ((45 : Nat) : Int) from rfl, eq_u8 x 45 (by decide)]; rfl
        have ey : ((y.toNat : Int) != 45) = !(y == 45) := by unfold bne; rw [show ((45 : Int)) = ((45 : Nat) : Int) from rfl, eq_u8 y 45 (by decide)]; rfl
        have HB2 : Hid (B = (!(x == 45) && !(y == 45))) := Lib.hid (by
          have e1 : s.data.toList.head? = some x := by rw [List.head?_eq_getElem?]; exact get_of h0 hx
          have e2 : s.data.toList.getLast? = some y := by rw [List.getLast?_eq_getElem?, sz, hM]; exact get_of hMs hy
          have e3 : s.data.toList.isEmpty = false := by rw [← toList_eq]; exact he
          rw [HB.out, e1, e2, e3, sz, decide_eq_true h63]
          by_cases hx : x = 45 <;> by_cases hy : y = 45 <;> simp [hx, hy])
        clear HB hM
        cases hqx : (x == 45) with
        | true =>
          rw [hqx] at ex HB2
          clear hqx
          go_enter Tryz.func70, Tryz.ntmps70
          go_wp2_with fail
          refine HM.out.mono ?_
          rintro e w1 ⟨rfl, hv, hb1⟩
          go_wp2_with fail
          refine (HC.out _ hv).mono ?_
          rintro e w2 ⟨rfl, rfl⟩
          go_wp2
          go_ret
          exact ⟨ret_bool' HB2.out.symm, hb1⟩
        | false =>
          rw [hqx] at ex HB2
          clear hqx
          generalize (y == 45) = q at *
          go_enter Tryz.func70, Tryz.ntmps70
          go_wp2_with fail
          refine HM.out.mono ?_
          rintro e w1 ⟨rfl, hv, hb1⟩
          go_wp2_with fail
          refine (HC.out _ hv).mono ?_
          rintro e w2 ⟨rfl, rfl⟩
          go_wp2
          go_ret
          exact ⟨ret_bool' (by rw [HB2.out]; rfl), hb1⟩
    · have g63 : (63 : Int) < (s.size : Int) := by omega
      have HB2 : Hid (B = false) := Lib.hid (by rw [HB.out, sz, decide_eq_false h63]; simp)
      clear HB
      go_enter Tryz.func70, Tryz.ntmps70
      go_wp2
      go_ret
      exact ⟨ret_bool' HB2.out.symm, Below.refl _ _⟩
  · have he := emp_t (nil_ofS h0)
    have HB2 : Hid (B = false) := Lib.hid (by rw [HB.out, nil_ofS h0]; rfl)
    clear HB
    go_enter Tryz.func70, Tryz.ntmps70
    go_wp2
    go_ret
    exact ⟨ret_bool' HB2.out.symm, Below.refl _ _⟩

theorem cut_call (s : ByteArray) (x : UInt8) (w : World) (hz : s.size ≤ 1000000) (hL : LaidP w) : ∃ A B : ByteArray, ∃ ok : Bool, Lib.cut s.data.toList [x] = (A.data.toList, B.data.toList, ok) ∧
    ∀ W, Below w.heap.size w W → Calls Tryz.prog 45 #[.string s, .string ⟨#[x]⟩] W fun e w' => e = .returned (.tuple #[.string A, .string B, .bool ok]) ∧ Below w.heap.size w w' := by
  obtain ⟨A, hA⟩ := ba_mk (Lib.cut s.data.toList [x]).1
  obtain ⟨B, hB⟩ := ba_mk (Lib.cut s.data.toList [x]).2.1
  refine ⟨A, B, (Lib.cut s.data.toList [x]).2.2, by rw [← hA, ← hB], fun W hW => ?_⟩
  obtain ⟨m, hm⟩ := hL.below hW
  have := Tryz.strings_Cut s ⟨#[x]⟩ m W (by omega) hm
  rw [show (⟨#[x]⟩ : ByteArray).data.toList = [x] from rfl, hA, hB, ba_self, ba_self] at this
  exact this.mono fun e w' ⟨h1, n, h2⟩ => ⟨h1, by rw [h2]; exact below_drewN hW n⟩
/-- What a cut at one sign tells, as texts. -/
theorem cut_tells {s A B : ByteArray} {ok : Bool} {x : UInt8} (h : Lib.cut s.data.toList [x] = (A.data.toList, B.data.toList, ok)) :
    (ok = true ∧ s.data.toList = A.data.toList ++ x :: B.data.toList ∧ (∀ c ∈ A.data.toList, c ≠ x) ∧ A.size + B.size + 1 = s.size) ∨ (ok = false ∧ A.data.toList = s.data.toList ∧ (∀ c ∈ s.data.toList, c ≠ x) ∧ A.size = s.size) := by
  rcases cut_one x s.data.toList with ⟨a, r, h1, h2, h3⟩ | ⟨h1, h2⟩
  · rw [h1] at h
    obtain ⟨e1, h⟩ := Prod.mk.inj h
    obtain ⟨e2, e3⟩ := Prod.mk.inj h
    subst e1 e2 e3
    left
    have hl := congrArg List.length h2
    rw [sz, List.length_append, List.length_cons, sz, sz] at hl
    exact ⟨rfl, h2, h3, by omega⟩
  · rw [h1] at h
    obtain ⟨e1, h⟩ := Prod.mk.inj h
    obtain ⟨e2, e3⟩ := Prod.mk.inj h
    subst e3
    right
    exact ⟨rfl, e1.symm, h2, by rw [← sz, ← sz, e1]⟩

set_option maxHeartbeats 2000000 in
theorem host_any (s : ByteArray) (w : World) (hs : s.size ≤ 1000000) (hL : LaidP w) :
    Calls Tryz.prog 47 #[.string s] w fun e w' => e = .returned (.bool (hostP [] s.data.toList)) ∧ Below w.heap.size w w' := by
  have HL := Lib.hid hL
  obtain ⟨V, hV⟩ : ∃ V, hostP [] s.data.toList = V := ⟨_, rfl⟩
  have HV0 := Lib.hid hV.symm
  rw [hV]
  clear hV hL
  go_enter Tryz.func47, Tryz.ntmps47
  go_wp2_with fail
  go_loopg [0] s.size (fun G v0 wr => ∃ R : ByteArray, v0 = .string R ∧ R.size ≤ G ∧ G ≤ s.size ∧ Hid (V = hostP [] R.data.toList) ∧ Hid (Below w.heap.size w wr))
  case atStart => exact ⟨s, rfl, Nat.le_refl _, Nat.le_refl _, HV0, Lib.hid (Below.refl _ _)⟩
  case round =>
    obtain ⟨R, rfl, hRg, hgs, HY, HB⟩ := hrel
    obtain ⟨A, B, ok, hcut, hC⟩ := cut_call R 46 wr (by omega) (HL.out.below HB.out)
    have HC := Lib.hid (hC wr (Below.refl _ _))
    rcases cut_tells hcut with ⟨rfl, h1, h2, h3⟩ | ⟨rfl, h1, h2, h3⟩
    · have HV : Hid (V = (partP A.data.toList && hostP [] B.data.toList)) := Lib.hid (by rw [HY.out, h1, hostP_free _ _ _ h2, hostP_dot]; rfl)
      have HP := Lib.hid (fun W => part_any A W (by omega))
      have HS := Lib.hid h3
      clear hcut hC h1 h2 h3
      generalize partP A.data.toList = p at *
      cases p with
      | false =>
        go_wp2_with fail
        refine HC.out.mono ?_
        rintro e w1 ⟨rfl, hb1⟩
        go_wp2_with fail
        refine (HP.out _).mono ?_
        rintro e w2 ⟨rfl, hb2⟩
        go_wp2
        go_ret
        exact ⟨ret_bool' (by rw [HV.out]; rfl), HB.out.trans ((hb1.trans (hb2.mono hb1.size)).mono HB.out.size)⟩
      | true =>
        go_wp2_with fail
        refine HC.out.mono ?_
        rintro e w1 ⟨rfl, hb1⟩
        go_wp2_with fail
        refine (HP.out _).mono ?_
        rintro e w2 ⟨rfl, hb2⟩
        have HB2 := Lib.hid (HB.out.trans ((hb1.trans (hb2.mono hb1.size)).mono HB.out.size))
        clear hb1 hb2
        go_wp2
        go_roundg B.size
        case rel => exact ⟨B, rfl, Nat.le_refl _, by have := HS.out; omega, Lib.hid (by rw [HV.out]; rfl), HB2⟩
        case measure => have := HS.out; omega
    · have HV : Hid (V = partP A.data.toList) := Lib.hid (by
        rw [HY.out, h1]
        have := hostP_free R.data.toList [] [] h2
        rw [List.append_nil, List.nil_append] at this
        exact this)
      have HP := Lib.hid (fun W => part_any A W (by omega))
      clear hcut hC h1 h2 h3
      generalize partP A.data.toList = p at *
      cases p with
      | false =>
        go_wp2_with fail
        refine HC.out.mono ?_
        rintro e w1 ⟨rfl, hb1⟩
        go_wp2_with fail
        refine (HP.out _).mono ?_
        rintro e w2 ⟨rfl, hb2⟩
        go_wp2
        go_ret
        exact ⟨ret_bool' HV.out.symm, HB.out.trans ((hb1.trans (hb2.mono hb1.size)).mono HB.out.size)⟩
      | true =>
        go_wp2_with fail
        refine HC.out.mono ?_
        rintro e w1 ⟨rfl, hb1⟩
        go_wp2_with fail
        refine (HP.out _).mono ?_
        rintro e w2 ⟨rfl, hb2⟩
        go_wp2
        go_ret
        exact ⟨ret_bool' HV.out.symm, HB.out.trans ((hb1.trans (hb2.mono hb1.size)).mono HB.out.size)⟩

theorem mailQ_no {x cur : List UInt8} (h : ∀ c ∈ x, c ≠ 64) : mailQ cur x = false := by
  have := mailQ_free x cur [] h
  rw [List.append_nil] at this
  rw [this]; rfl
set_option maxHeartbeats 2000000 in
theorem mail_any (s : ByteArray) (w : World) (hs : s.size ≤ 1000000) (hL : LaidP w) :
    Calls Tryz.prog 26 #[.string s] w fun e w' => e = .returned (.bool (mailP s.data.toList)) ∧ Below w.heap.size w w' := by
  obtain ⟨A, B, ok, hcut, hC⟩ := cut_call s 64 w hs hL
  have HC := Lib.hid (hC w (Below.refl _ _))
  rcases cut_tells hcut with ⟨rfl, h1, h2, h3⟩ | ⟨rfl, h1, h2, h3⟩
  · have HV : Hid (mailP s.data.toList = (!A.data.toList.isEmpty && A.data.toList.all (made signN) && hostP [] B.data.toList)) := Lib.hid (by
      unfold mailP
      rw [h1, mailQ_free _ _ _ h2, mailQ_hit]; rfl)
    have hAz : A.size ≤ 1000000 := by omega
    have hBz : B.size ≤ 1000000 := by omega
    have HM := Lib.hid (fun w => madeOf_any ⟨#[46, 33, 35, 36, 37, 38, 39, 42, 43, 47, 61, 63, 94, 95, 96, 123, 124, 125, 126, 45]⟩ w)
    have HAll : Hid (∀ W g, SVar W g ⟨#[46, 33, 35, 36, 37, 38, 39, 42, 43, 47, 61, 63, 94, 95, 96, 123, 124, 125, 126, 45]⟩ → Calls Tryz.prog 46 #[.string A, .func (.func 67) #[] #[.pointer (some ⟨g, 0, none⟩)]] W fun e w' => e = .returned (.bool (A.data.toList.all (made signN))) ∧ W = w') := Lib.hid (fun W g hv => isAll_any A W hAz (tells_made (g0 := signN) hv))
    have HH : Hid (∀ W, Below w.heap.size w W → Calls Tryz.prog 47 #[.string B] W fun e w' => e = .returned (.bool (hostP [] B.data.toList)) ∧ Below w.heap.size w w') := Lib.hid (fun W hW => (host_any B W hBz (hL.below hW)).mono fun e w' ⟨a, b⟩ => ⟨a, hW.trans (b.mono hW.size)⟩)
    clear hcut hC h1 h2 h3 hL
    generalize A.data.toList.all (made signN) = a at *
    generalize hostP [] B.data.toList = h at *
    generalize mailP s.data.toList = V at *
    by_cases h0 : 0 < A.size
    · have he := emp_f h0
      have HV2 : Hid (V = (a && h)) := Lib.hid (by rw [HV.out, ← toList_eq, he]; rfl)
      clear HV
      cases a with
      | false =>
        go_enter Tryz.func26, Tryz.ntmps26
        go_wp2_with fail
        refine HC.out.mono ?_
        rintro e w1 ⟨rfl, hb1⟩
        go_wp2_with fail
        refine (HM.out _).mono ?_
        rintro e w2 ⟨rfl, hv, hb2⟩
        go_wp2_with fail
        refine (HAll.out _ _ hv).mono ?_
        rintro e w3 ⟨rfl, rfl⟩
        go_wp2
        go_ret
        exact ⟨ret_bool' (by rw [HV2.out]; rfl), hb1.trans (hb2.mono hb1.size)⟩
      | true =>
        go_enter Tryz.func26, Tryz.ntmps26
        go_wp2_with fail
        refine HC.out.mono ?_
        rintro e w1 ⟨rfl, hb1⟩
        go_wp2_with fail
        refine (HM.out _).mono ?_
        rintro e w2 ⟨rfl, hv, hb2⟩
        have hb3 := hb1.trans (hb2.mono hb1.size)
        go_wp2_with fail
        refine (HAll.out _ _ hv).mono ?_
        rintro e w3 ⟨rfl, rfl⟩
        go_wp2_with fail
        refine (HH.out _ hb3).mono ?_
        rintro e w4 ⟨rfl, hb4⟩
        go_wp2
        go_ret
        exact ⟨ret_bool' (by rw [HV2.out]; rfl), hb4⟩
    · have he := emp_t (nil_ofS h0)
      have HV2 : Hid (V = false) := Lib.hid (by rw [HV.out, ← toList_eq, he]; rfl)
      clear HV
      go_enter Tryz.func26, Tryz.ntmps26
      go_wp2_with fail
      refine HC.out.mono ?_
      rintro e w1 ⟨rfl, hb1⟩
      go_wp2
      go_ret
      exact ⟨ret_bool' HV2.out.symm, hb1⟩
  · have HV : Hid (mailP s.data.toList = false) := Lib.hid (mailQ_no h2)
    clear hcut hC h1 h2 h3 hL
    go_enter Tryz.func26, Tryz.ntmps26
    go_wp2_with fail
    refine HC.out.mono ?_
    rintro e w1 ⟨rfl, hb1⟩
    go_wp2
    go_ret
    exact ⟨ret_bool' HV.out.symm, hb1⟩
end Sp
end Go.Proofs.YtapibalcekedfaaGreatDoor
