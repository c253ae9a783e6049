/- Walks of layer 9, the fifth part: Title, Dest. -/
import Derived.Test.YtfabiidohdkkcaaGreatDoorLkD
namespace Go.Proofs.YtfabiidohdkkcaaGreatDoor
open Go Go.RowKit
namespace Lk
open Es
set_option maxRecDepth 100000
set_option linter.unusedVariables false
set_option linter.unusedSimpArgs false

theorem ret3 {a b : ByteArray} {m n : Int} {x y : Bool} (h1 : a = b) (h2 : m = n) (h3 : x = y) : Ending.returned (.tuple #[.string a, .int .i64 m, .bool x]) = .returned (.tuple #[.string b, .int .i64 n, .bool y]) := by rw [h1, h2, h3]

/-! ### addresses -/
def dstV (l : List UInt8) : Value := .tuple #[str (destP l).1, .int .i64 ((destP l).2.1 : Nat), .bool (destP l).2.2]
theorem dest_bare {l : List UInt8} (h : l.head? ≠ some 60) : destP l = if bareN l = 0 then ([], 0, false) else (une (l.take (bareN l)), bareN l, true) := by
  cases l with
  | nil => rfl
  | cons c t =>
    have hc : c ≠ 60 := fun e => h (by rw [e]; rfl)
    have hd := bareN_dst (c :: t)
    unfold destP
    simp only
    rw [if_neg hc, hd]
    unfold bareN
    by_cases h0 : 0 < (fnd opS 0 false (c :: t)).2
    · simp only [if_pos h0, if_true]
    · simp only [if_neg h0]
theorem bareN_le (l : List UInt8) : bareN l ≤ l.length := by
  unfold bareN
  split
  · exact Nat.zero_le _
  · exact fnd_le _ _ _

set_option maxHeartbeats 2000000 in
theorem dest_any (s : ByteArray) (w : World) (hz : s.size ≤ 1000000) (hL : LaidL w) :
    Calls Tryz.prog 22 #[.string s] w fun e w' => e = .returned (dstV s.data.toList) ∧ Below w.heap.size w w' := by
  have HLw := Lib.hid hL
  by_cases hh : s.data.toList.head? = some 60
  · obtain ⟨t, ht⟩ := head_cons hh
    obtain ⟨T, hT⟩ := ba_mkL t
    have HC := Lib.hid (pre_hit ht w T hT)
    have hTs : T.size + 1 = s.size := by rw [← szL T, ← szL s, ht, hT]; rfl
    have HP := Lib.hid (fun W (h : LaidL W) => upTo_any T 62 [60, 10] W (by omega) h.kinds)
    rw [hT, ← up_ang] at HP
    rw [ht]
    unfold dstV
    cases hr : angF false t with
    | none =>
      have HV : Hid (destP (60 :: t) = ([], 0, false)) := Lib.hid (by unfold destP; simp only [if_true, hr])
      rw [hr] at HP
      unfold upV at HP
      rw [HV.out]
      clear hr hT ht hh hL
      go_enter Tryz.func22, Tryz.ntmps22
      go_wp2_with fail
      refine HC.out.mono ?_
      rintro e w1 ⟨rfl, rfl⟩
      go_wp2_with fail
      refine (HP.out _ HLw.out).mono ?_
      rintro e w2 ⟨rfl, hb2⟩
      go_wp2
      go_ret3
      exact ⟨rfl, hb2⟩
    | some i =>
      have HV : Hid (destP (60 :: t) = (une (t.take i), i + 2, true)) := Lib.hid (by unfold destP; simp only [if_true, hr])
      have hlt : i < t.length := find_lt _ false i hr
      rw [← hT, szL] at hlt
      obtain ⟨I, hI⟩ : ∃ I, I = T.extract 0 i := ⟨_, rfl⟩
      have hIl : I.data.toList = t.take i := by rw [hI, ext_toL, hT]
      have hIs : I.size = i := by rw [← szL I, hIl, List.length_take, ← hT, szL]; omega
      rw [hr] at HP
      unfold upV at HP
      simp only at HP
      rw [← hI] at HP
      have HU := Lib.hid (fun W (h : LaidL W) => unescape_any I W (by omega) h.kinds)
      rw [hIl] at HU
      rw [HV.out]
      have hIs2 : (I.size : Int) = (i : Int) := by omega
      clear hr hT ht hh hL hI hIl hIs HV
      generalize une (t.take i) = u at *
      unfold str at HU
      go_enter Tryz.func22, Tryz.ntmps22
      go_wp2_with fail
      refine HC.out.mono ?_
      rintro e w1 ⟨rfl, rfl⟩
      go_wp2_with fail
      refine (HP.out _ HLw.out).mono ?_
      rintro e w2 ⟨rfl, hb2⟩
      go_wp2_with fail
      refine (HU.out _ (HLw.out.below hb2)).mono ?_
      rintro e w3 ⟨rfl, hb3⟩
      go_wp2
      go_ret3
      exact ⟨ret3 rfl (by omega) rfl, hb2.trans (hb3.mono hb2.size)⟩
  · have HC := Lib.hid (pre_miss hh w)
    have HB := Lib.hid (bare_any s w hz hL.kinds)
    have HV := Lib.hid (dest_bare hh)
    have hle := bareN_le s.data.toList
    rw [szL] at hle
    obtain ⟨n, hn⟩ : ∃ n, n = bareN s.data.toList := ⟨_, rfl⟩
    rw [← hn] at HB HV hle
    unfold dstV
    rw [HV.out]
    by_cases h0 : n = 0
    · rw [if_pos h0]
      subst h0
      clear hh hL hn
      go_enter Tryz.func22, Tryz.ntmps22
      go_wp2_with fail
      refine HC.out.mono ?_
      rintro e w1 ⟨rfl, rfl⟩
      go_wp2_with fail
      refine HB.out.mono ?_
      rintro e w2 ⟨rfl, hb2⟩
      go_wp2
      go_ret3
      exact ⟨rfl, hb2⟩
    · rw [if_neg h0]
      have hnb : ((n : Int) == 0) = false := by simp; omega
      have hle2 : (n : Int) ≤ (s.size : Int) := by omega
      obtain ⟨I, hI⟩ : ∃ I, I = s.extract 0 n := ⟨_, rfl⟩
      have hIl : I.data.toList = s.data.toList.take n := by rw [hI, ext_toL]
      have hIs : I.size ≤ 1000000 := by rw [← szL I, hIl, List.length_take, szL]; omega
      have HI := Lib.hid hI
      have HU := Lib.hid (fun W (h : LaidL W) => unescape_any I W (by omega) h.kinds)
      rw [hIl] at HU
      clear hh hL hn h0 HV hI hIl
      generalize une (s.data.toList.take n) = u at *
      unfold str at HU
      go_enter Tryz.func22, Tryz.ntmps22
      go_wp2_with fail
      refine HC.out.mono ?_
      rintro e w1 ⟨rfl, rfl⟩
      go_wp2_with fail
      refine HB.out.mono ?_
      rintro e w2 ⟨rfl, hb2⟩
      go_wp2_with fail
      rw [← HI.out]
      refine (HU.out _ (HLw.out.below hb2)).mono ?_
      rintro e w3 ⟨rfl, hb3⟩
      go_wp2
      go_ret3
      exact ⟨ret3 rfl rfl rfl, hb2.trans (hb3.mono hb2.size)⟩

/-! ### titles -/
def titV (l : List UInt8) : Value := .tuple #[str (titP l).1, .int .i64 ((titP l).2 : Nat)]
/-- What the walk of a title asks, whatever its sign. -/
theorem tit_parts (s : ByteArray) (w : World) (hz : s.size ≤ 1000000) (hL : LaidL w) {c : UInt8} {t : List UInt8} (ht : s.data.toList = c :: t) (hc : c = 34 ∨ c = 39 ∨ c = 40) :
    (titF c false t = none ∧ titP s.data.toList = ([], 0) ∧ ∀ W, LaidL W → Calls Tryz.prog 35 #[.string (s.extract 1 s.size), .int .u8 ((endB c).toNat : Int), .string ⟨(bars c).toArray⟩] W fun e w' => e = .returned (.tuple #[.string ⟨#[]⟩, .bool false]) ∧ Below W.heap.size W w')
    ∨ ∃ (I : ByteArray) (u : List UInt8) (b : Bool) (i : Nat), I.size = i ∧ i ≤ 1000000 ∧ titP s.data.toList = (if b = true then ([], 0) else (u, i + 2))
      ∧ (∀ W, LaidL W → Calls Tryz.prog 35 #[.string (s.extract 1 s.size), .int .u8 ((endB c).toNat : Int), .string ⟨(bars c).toArray⟩] W fun e w' => e = .returned (.tuple #[.string I, .bool true]) ∧ Below W.heap.size W w')
      ∧ (∀ W, LaidL W → Calls Tryz.prog 90 #[.string I] W fun e w' => e = .returned (.bool b) ∧ Below W.heap.size W w')
      ∧ (∀ W, LaidL W → Calls Tryz.prog 39 #[.string I] W fun e w' => e = .returned (.string ⟨u.toArray⟩) ∧ Below W.heap.size W w') := by
  have hTl : (s.extract 1 s.size).data.toList = t := by rw [ext_restL, ht]; rfl
  have hTs : (s.extract 1 s.size).size ≤ 1000000 := by simp; omega
  have HP := fun W (h : LaidL W) => upTo_any (s.extract 1 s.size) (endB c) (bars c) W hTs h.kinds
  rw [hTl, ← up_tit hc] at HP
  have hP : titP (c :: t) = match titF c false t with
      | none => ([], 0)
      | some i => if gapP (t.take i) = true then ([], 0) else (une (t.take i), i + 2) := if_pos hc
  rw [ht, hP]
  cases hr : titF c false t with
  | none =>
    rw [hr] at HP
    exact .inl ⟨rfl, rfl, HP⟩
  | some i =>
    have hlt : i < t.length := find_lt _ false i hr
    have hts : t.length ≤ 1000000 := by rw [← hTl, szL]; exact hTs
    rw [hr] at HP
    have hIl : ((s.extract 1 s.size).extract 0 i).data.toList = t.take i := by rw [ext_toL, hTl]
    have hIs : ((s.extract 1 s.size).extract 0 i).size = i := by rw [← szL, hIl, List.length_take]; omega
    refine .inr ⟨(s.extract 1 s.size).extract 0 i, une (t.take i), gapP (t.take i), i, hIs, by omega, rfl, HP, fun W h => ?_, fun W h => ?_⟩
    · have := gap_any ((s.extract 1 s.size).extract 0 i) W (by omega) h
      rw [hIl] at this; exact this
    · have := unescape_any ((s.extract 1 s.size).extract 0 i) W (by omega) h.kinds
      rw [hIl] at this; exact this

set_option maxHeartbeats 4000000 in
theorem title_any (s : ByteArray) (w : World) (hz : s.size ≤ 1000000) (hL : LaidL w) :
    Calls Tryz.prog 69 #[.string s] w fun e w' => e = .returned (titV s.data.toList) ∧ Below w.heap.size w w' := by
  have HLw := Lib.hid hL
  by_cases h0 : 0 < s.size
  · obtain ⟨c, t, hd, hck, _⟩ := consAt h0
    rw [List.drop_zero] at hd
    have he := empF h0
    have h1 : (1 : Int) ≤ (s.size : Int) := by omega
    have h01 : (0 : Int) < (s.size : Int) := by omega
    by_cases hc : c = 34 ∨ c = 39 ∨ c = 40
    · rcases tit_parts s w hz hL hd hc with ⟨_, hV, hP⟩ | ⟨I, u, b, i, hI, hi, hV, hP, hG, hU⟩
      · have HV := Lib.hid hV
        have HP := Lib.hid hP
        unfold titV
        rw [HV.out]
        clear hL hd hV hP
        rcases hc with rfl | rfl | rfl
        all_goals
          go_enter Tryz.func69, Tryz.ntmps69
          go_wp2_with fail
          refine (HP.out _ HLw.out).mono ?_
          rintro e w2 ⟨rfl, hb2⟩
          go_wp2
          go_ret2
          exact ⟨rfl, hb2⟩
      · have HV := Lib.hid hV
        have HP := Lib.hid hP
        have HG := Lib.hid hG
        have HU := Lib.hid hU
        have hI2 : (I.size : Int) = (i : Int) := by omega
        unfold titV
        rw [HV.out]
        clear hL hd hV hP hG hU hI HV
        cases b with
        | true =>
          rcases hc with rfl | rfl | rfl
          all_goals
            go_enter Tryz.func69, Tryz.ntmps69
            go_wp2_with fail
            refine (HP.out _ HLw.out).mono ?_
            rintro e w2 ⟨rfl, hb2⟩
            go_wp2_with fail
            refine (HG.out _ (HLw.out.below hb2)).mono ?_
            rintro e w3 ⟨rfl, hb3⟩
            go_wp2
            go_ret2
            exact ⟨rfl, hb2.trans (hb3.mono hb2.size)⟩
        | false =>
          rcases hc with rfl | rfl | rfl
          all_goals
            go_enter Tryz.func69, Tryz.ntmps69
            go_wp2_with fail
            refine (HP.out _ HLw.out).mono ?_
            rintro e w2 ⟨rfl, hb2⟩
            go_wp2_with fail
            refine (HG.out _ (HLw.out.below hb2)).mono ?_
            rintro e w3 ⟨rfl, hb3⟩
            have hb := hb2.trans (hb3.mono hb2.size)
            go_wp2_with fail
            refine (HU.out _ (HLw.out.below hb)).mono ?_
            rintro e w4 ⟨rfl, hb4⟩
            go_wp2
            go_ret2
            exact ⟨ret2 rfl (by first | rfl | omega), hb.trans (hb4.mono hb.size)⟩
    · have HV : Hid (titP s.data.toList = ([], 0)) := Lib.hid (by rw [hd]; exact if_neg hc)
      have n34 : ((c.toNat : Int) == 34) = false := (eqU c 34 (by decide)).trans (beq_eq_false_iff_ne.2 fun e => hc (.inl e))
      have n39 : ((c.toNat : Int) == 39) = false := (eqU c 39 (by decide)).trans (beq_eq_false_iff_ne.2 fun e => hc (.inr (.inl e)))
      have n40 : ((c.toNat : Int) == 40) = false := (eqU c 40 (by decide)).trans (beq_eq_false_iff_ne.2 fun e => hc (.inr (.inr e)))
      unfold titV
      rw [HV.out]
      clear hL hd hc
      go_enter Tryz.func69, Tryz.ntmps69
      go_wp2
      go_ret2
      exact ⟨rfl, Below.refl _ _⟩
  · have hs : s = ⟨#[]⟩ := ba_eqL (l := []) (List.length_eq_zero_iff.1 (by rw [szL]; omega))
    subst hs
    clear hL h0
    unfold titV
    rw [show titP (⟨#[]⟩ : ByteArray).data.toList = ([], 0) from rfl]
    go_enter Tryz.func69, Tryz.ntmps69
    go_wp2
    go_ret2
    exact ⟨rfl, Below.refl _ _⟩
end Lk
end Go.Proofs.YtfabiidohdkkcaaGreatDoor
