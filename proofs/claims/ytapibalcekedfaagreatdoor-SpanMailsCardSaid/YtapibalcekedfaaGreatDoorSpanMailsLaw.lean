/- SpanMails: the law's walk. -/
import Derived.Test.YtapibalcekedfaaGreatDoorSpJ
import Derived.Test.YtapibalcekedfaaGreatDoorSpQ
namespace Go.Proofs.YtapibalcekedfaaGreatDoor
open Go Go.RowKit
namespace SpanMails
open Sp Sc
set_option maxRecDepth 100000
set_option linter.unusedVariables false
set_option linter.unusedSimpArgs false

/-- A small letter. -/
def lo (c : UInt8) : Bool := decide (97 ≤ c.toNat) && decide (c.toNat ≤ 122)
theorem lo_all (c : UInt8) (h : lo c = true) : made signA c = true ∧ made signN c = true ∧ made signD c = true ∧ inA c = true ∧ letU c = true ∧ inN c = true ∧ keyB c = true ∧ keyG c = true ∧ wht c = false ∧ c ≠ 62 ∧ c ≠ 64 ∧ c ≠ 46 ∧ c ≠ 45 ∧ c ≠ 47 := by
  have := all_u8 (p := fun c => !lo c || (made signA c && made signN c && made signD c && inA c && letU c && inN c && keyB c && keyG c && !wht c && c != 62 && c != 64 && c != 46 && c != 45 && c != 47)) (by decide +kernel) c
  rw [h] at this
  simpa [and_assoc] using this
theorem lo_imp {p : UInt8 → Bool} (hp : ∀ c, lo c = true → p c = true) {l : List UInt8} (h : ∀ c ∈ l, lo c = true) : l.all p = true := by
  rw [List.all_eq_true]
  exact fun c hc => hp c (h c hc)
theorem part_lo {l : List UInt8} (h : ∀ c ∈ l, lo c = true) (h0 : l ≠ []) (h1 : l.length ≤ 63) : partP l = true := by
  rw [part_of (lo_imp (fun c hc => (lo_all c hc).2.2.1) h), decide_eq_true h1]
  have e0 : l.isEmpty = false := by cases l with
    | nil => exact absurd rfl h0
    | cons _ _ => rfl
  have e1 : l.head? ≠ some 45 := by
    intro e
    exact (lo_all 45 (h 45 (List.mem_of_mem_head? e))).2.2.2.2.2.2.2.2.2.2.2.2.1 rfl
  have e2 : l.getLast? ≠ some 45 := by
    intro e
    exact (lo_all 45 (h 45 (List.mem_of_getLast? e))).2.2.2.2.2.2.2.2.2.2.2.2.1 rfl
  rw [e0, decide_eq_true e1, decide_eq_true e2]; rfl
theorem sch_no {A r : List UInt8} {c : UInt8} (hA : ∀ c ∈ A, lo c = true) (hc : made signA c = false) (h58 : c ≠ 58) : schP (A ++ c :: r) = false := by
  obtain ⟨e1, e2⟩ := cnt_app (p := made signA) (lo_imp (fun c hc => (lo_all c hc).1) hA) r hc
  unfold schP
  rw [e1, List.drop_left' rfl, List.head?_cons, decide_eq_false (p := (some c = some 58)) (fun e => h58 (Option.some.inj e)), Bool.and_false]
theorem mail1 {A B t : List UInt8} (hA : ∀ c ∈ A, lo c = true) (hB : ∀ c ∈ B, lo c = true) (a1 : 2 ≤ A.length) (a2 : A.length ≤ 32) (b1 : 1 ≤ B.length) (b2 : B.length ≤ 60) :
    autoP (60 :: ((A ++ 64 :: (B ++ 46 :: A)) ++ 62 :: t)) = some (true, A ++ 64 :: (B ++ 46 :: A)) := by
  have hA0 : A ≠ [] := by rintro rfl; simp at a1
  have hB0 : B ≠ [] := by rintro rfl; simp at b1
  rw [auto_ref, sch_no hA (by decide) (by decide), Bool.false_and, if_neg (by simp), if_pos]
  · unfold mailP
    rw [mailQ_free _ _ _ (fun c hc => (lo_all c (hA c hc)).2.2.2.2.2.2.2.2.2.2.1), mailQ_hit, List.nil_append, lo_imp (fun c hc => (lo_all c hc).2.1) hA, hostP_free _ _ _ (fun c hc => (lo_all c (hB c hc)).2.2.2.2.2.2.2.2.2.2.2.1), hostP_dot, List.nil_append, part_lo hB hB0 (by omega)]
    have := hostP_free A [] [] (fun c hc => (lo_all c (hA c hc)).2.2.2.2.2.2.2.2.2.2.2.1)
    rw [List.append_nil, List.nil_append] at this
    rw [this, hostP_nil, part_lo hA hA0 (by omega)]
    cases A with
    | nil => exact absurd rfl hA0
    | cons _ _ => rfl
  · intro c hc
    rcases List.mem_append.1 hc with h | h
    · exact (lo_all c (hA c h)).2.2.2.2.2.2.2.2.2.1
    · rcases List.mem_cons.1 h with rfl | h
      · decide
      · rcases List.mem_append.1 h with h | h
        · exact (lo_all c (hB c h)).2.2.2.2.2.2.2.2.2.1
        · rcases List.mem_cons.1 h with rfl | h
          · decide
          · exact (lo_all c (hA c h)).2.2.2.2.2.2.2.2.2.1
theorem mail2 {A B t : List UInt8} (hA : ∀ c ∈ A, lo c = true) (hB : ∀ c ∈ B, lo c = true) (a1 : 2 ≤ A.length) (a2 : A.length ≤ 32) :
    autoP (60 :: ((A ++ 58 :: B) ++ 62 :: t)) = some (false, A ++ 58 :: B) := by
  have hin : (A ++ 58 :: B).all inA = true := by
    rw [List.all_append, List.all_cons, lo_imp (fun c hc => (lo_all c hc).2.2.2.1) hA, lo_imp (fun c hc => (lo_all c hc).2.2.2.1) hB]; rfl
  obtain ⟨e1, e2⟩ := cnt_app (p := made signA) (lo_imp (fun c hc => (lo_all c hc).1) hA) B (show made signA 58 = false by decide)
  rw [auto_ref, hin, Bool.and_true, if_pos]
  · unfold schP
    rw [e1, List.drop_left' rfl, decide_eq_true a1, decide_eq_true a2]
    cases A with
    | nil => simp at a1
    | cons c u =>
      simp only [List.cons_append]
      rw [(lo_all c (hA c (List.mem_cons_self ..))).2.2.2.2.1]; rfl
  · intro c hc
    rcases List.mem_append.1 hc with h | h
    · exact (lo_all c (hA c h)).2.2.2.2.2.2.2.2.2.1
    · rcases List.mem_cons.1 h with rfl | h
      · decide
      · exact (lo_all c (hB c h)).2.2.2.2.2.2.2.2.2.1
theorem mail3 {A B : List UInt8} (hA : ∀ c ∈ A, lo c = true) (hB : ∀ c ∈ B, lo c = true) : autoP (60 :: ((A ++ 32 :: B) ++ 62 :: [])) = none := by
  rw [auto_ref, sch_no hA (by decide) (by decide), Bool.false_and, if_neg (by simp), if_neg]
  · have : mailP (A ++ 32 :: B) = false := by
      apply mailQ_no
      intro c hc
      rcases List.mem_append.1 hc with h | h
      · exact (lo_all c (hA c h)).2.2.2.2.2.2.2.2.2.2.1
      · rcases List.mem_cons.1 h with rfl | h
        · decide
        · exact (lo_all c (hB c h)).2.2.2.2.2.2.2.2.2.2.1
    rw [this]; simp
  · intro c hc
    rcases List.mem_append.1 hc with h | h
    · exact (lo_all c (hA c h)).2.2.2.2.2.2.2.2.2.1
    · rcases List.mem_cons.1 h with rfl | h
      · decide
      · exact (lo_all c (hB c h)).2.2.2.2.2.2.2.2.2.1
theorem drop_run {p : UInt8 → Bool} {A : List UInt8} (hA : A.all p = true) {c : UInt8} (r : List UInt8) (hc : p c = false) : (A ++ c :: r).dropWhile p = c :: r := by
  induction A with
  | nil => rw [List.nil_append, List.dropWhile_cons_of_neg (by rw [hc]; simp)]
  | cons x t ih =>
    rw [List.all_cons, Bool.and_eq_true] at hA
    rw [List.cons_append, List.dropWhile_cons_of_pos hA.1, ih hA.2]
theorem mail4 {A B : List UInt8} (hA : ∀ c ∈ A, lo c = true) (hB : ∀ c ∈ B, lo c = true) (a1 : A ≠ []) (b1 : B ≠ []) : rawP (60 :: (A ++ 32 :: (B ++ [62]))) = A.length + B.length + 3 := by
  have ht : tagD (60 :: (A ++ 32 :: (B ++ [62]))) = some [] := by
    cases A with
    | nil => exact absurd rfl a1
    | cons a A' =>
    cases B with
    | nil => exact absurd rfl b1
    | cons b B' =>
      have la := lo_all a (hA a (List.mem_cons_self ..))
      have lb := lo_all b (hB b (List.mem_cons_self ..))
      have hA' : A'.all inN = true := lo_imp (fun c hc => (lo_all c hc).2.2.2.2.2.1) (fun c hc => hA c (List.mem_cons_of_mem _ hc))
      have hB' : B'.all keyG = true := lo_imp (fun c hc => (lo_all c hc).2.2.2.2.2.2.2.1) (fun c hc => hB c (List.mem_cons_of_mem _ hc))
      unfold tagD
      rw [sgn_self]
      simp only [List.cons_append]
      rw [sgn_no _ la.2.2.2.2.2.2.2.2.2.2.2.2.2]
      try simp only
      have hn : name (a :: (A' ++ 32 :: b :: (B' ++ [62]))) = some (32 :: b :: (B' ++ [62])) := by
        unfold name word
        try simp only
        rw [if_pos la.2.2.2.2.1, drop_run hA' _ (by decide)]
      rw [hn, Option.bind_some]
      have hg : gap (32 :: b :: (B' ++ [62])) = b :: (B' ++ [62]) := by
        unfold gap
        rw [List.dropWhile_cons_of_pos (by decide), List.dropWhile_cons_of_neg (by rw [lb.2.2.2.2.2.2.2.2.1]; simp)]
      have hk : (B' ++ [62]).dropWhile keyG = [62] := drop_run hB' [] k62
      unfold bodyF
      rw [show (32 :: b :: (B' ++ [62])).length + 1 = ((B' ++ [62]).length + 1) + 1 + 1 by simp]
      unfold body
      rw [hg]
      try simp only
      rw [if_neg lb.2.2.2.2.2.2.2.2.2.1, if_neg lb.2.2.2.2.2.2.2.2.2.2.2.2.2, if_pos ⟨lb.2.2.2.2.2.2.1, by simp⟩, hk]
      have hg2 : gap [62] = [62] := by decide
      rw [hg2]
      try simp only
      unfold body
      rw [hg2]
      rfl
  have hn := tagN_of ht
  simp only [List.length_cons, List.length_append, List.length_nil] at hn
  unfold rawP
  rw [if_pos (by rw [hn]; omega), hn]
  omega

set_option maxHeartbeats 8000000 in
theorem law_any (a b : ByteArray) (w : World) (hL : LaidP w) (hs : a.size ≤ maxLen) (hm : b.size ≤ maxLen) :
    Calls Tryz.prog 8 #[.string a, .string b] w fun e w' => e = .returned (.bool true) ∧ Below w.heap.size w w' := by
  unfold maxLen at hs hm
  have HA := Lib.hid (frm_awake hL)
  have hb0 := Below.refl w.heap.size w
  by_cases h1 : 2 ≤ a.size
  case neg =>
    have g1 : (a.size : Int) < 2 := by omega
    clear hL
    go_enter Tryz.func8, Tryz.ntmps8
    go_wp2_with fail
    refine (HA.out _ hb0).mono ?_
    rintro e w1 ⟨rfl, hb1⟩
    go_wp2
    go_ret
    exact ⟨rfl, hb1⟩
  have g1 : ¬ (a.size : Int) < 2 := by omega
  by_cases h2 : a.size ≤ 32
  case neg =>
    have g2 : (32 : Int) < (a.size : Int) := by omega
    clear hL
    go_enter Tryz.func8, Tryz.ntmps8
    go_wp2_with fail
    refine (HA.out _ hb0).mono ?_
    rintro e w1 ⟨rfl, hb1⟩
    go_wp2
    go_ret
    exact ⟨rfl, hb1⟩
  have g2 : ¬ (32 : Int) < (a.size : Int) := by omega
  by_cases h3 : 0 < b.size
  case neg =>
    have he := emp_t (nil_ofS h3)
    clear hL
    go_enter Tryz.func8, Tryz.ntmps8
    go_wp2_with fail
    refine (HA.out _ hb0).mono ?_
    rintro e w1 ⟨rfl, hb1⟩
    go_wp2
    go_ret
    exact ⟨rfl, hb1⟩
  have he := emp_f h3
  by_cases h4 : b.size ≤ 60
  case neg =>
    have g4 : (60 : Int) < (b.size : Int) := by omega
    clear hL
    go_enter Tryz.func8, Tryz.ntmps8
    go_wp2_with fail
    refine (HA.out _ hb0).mono ?_
    rintro e w1 ⟨rfl, hb1⟩
    go_wp2
    go_ret
    exact ⟨rfl, hb1⟩
  have g4 : ¬ (60 : Int) < (b.size : Int) := by omega
  have aI : (a.size : Int) ≤ 32 := by omega
  have bI : (b.size : Int) ≤ 60 := by omega
  have HLa := Lib.hid hL
  have HSz : Hid (2 ≤ a.size ∧ a.size ≤ 32 ∧ 0 < b.size ∧ b.size ≤ 60) := Lib.hid ⟨h1, h2, h3, h4⟩
  obtain ⟨AB, hAB⟩ : ∃ AB, a ++ b = AB := ⟨_, rfl⟩
  have sAB : AB.size ≤ 92 := by rw [← hAB, app_size]; omega
  have sABI : (AB.size : Int) ≤ 92 := by omega
  have HABd : Hid (AB.data.toList = a.data.toList ++ b.data.toList) := Lib.hid (by rw [← hAB, app_data])
  clear hs hm hL h1 h2 h3 h4
  go_enter Tryz.func8, Tryz.ntmps8
  go_wp2_with fail
  refine (HA.out _ hb0).mono ?_
  rintro e w1 ⟨rfl, hb1⟩
  have HB1 := Lib.hid hb1
  clear hb1 hb0
  go_wp2_with fail
  go_loopg [6] AB.size (fun g v6 wr => ∃ i : Nat, i + g = AB.size ∧ v6 = .int .i64 (i : Int) ∧ w1 = wr ∧ Hid (∀ c ∈ AB.data.toList.take i, lo c = true))
  case atStart => exact ⟨0, by omega, rfl, rfl, Lib.hid (by rw [List.take_zero]; intro c hc; cases hc)⟩
  case round =>
    obtain ⟨i, hig, rfl, rfl, HN⟩ := hrel
    by_cases hlt : i < AB.size
    · have hlt' : (i : Int) < (AB.size : Int) := by omega
      obtain ⟨c, hc⟩ : ∃ c, AB[i] = c := ⟨_, rfl⟩
      have HG := Lib.hid (get_of hlt hc)
      by_cases hl : lo c = true
      · have HN2 : Hid (∀ c ∈ AB.data.toList.take (i + 1), lo c = true) := Lib.hid (by
          rw [take_snoc HG.out]
          intro d hd
          rcases List.mem_append.1 hd with hd | hd
          · exact HN.out d hd
          · rw [List.mem_singleton.1 hd]; exact hl)
        unfold lo at hl
        simp only [Bool.and_eq_true, decide_eq_true_eq] at hl
        have c1 : ¬ (c.toNat : Int) < 97 := by omega
        have c2 : ¬ (122 : Int) < (c.toNat : Int) := by omega
        clear hl
        go_wp2
        go_roundg (gk - 1)
        case rel => exact ⟨i + 1, by omega, by go_num, rfl, HN2⟩
        case measure => omega
      · unfold lo at hl
        simp only [Bool.and_eq_true, decide_eq_true_eq] at hl
        by_cases c1 : c.toNat < 97
        · have c1' : (c.toNat : Int) < 97 := by omega
          clear hl c1
          go_wp2
          go_ret
          exact ⟨rfl, HB1.out⟩
        · have c1' : ¬ (c.toNat : Int) < 97 := by omega
          have c2' : (122 : Int) < (c.toNat : Int) := by omega
          clear hl c1
          go_wp2
          go_ret
          exact ⟨rfl, HB1.out⟩
    · have hlt' : ¬ (i : Int) < (AB.size : Int) := by omega
      have e1 : AB.data.toList.take i = AB.data.toList := List.take_of_length_le (by rw [sz]; omega)
      rw [e1, HABd.out] at HN
      have HA1 : Hid (∀ c ∈ a.data.toList, lo c = true) := Lib.hid (fun c hc => HN.out c (List.mem_append_left _ hc))
      have HB2 : Hid (∀ c ∈ b.data.toList, lo c = true) := Lib.hid (fun c hc => HN.out c (List.mem_append_right _ hc))
      obtain ⟨K1, e1'⟩ : ∃ K, (⟨#[60]⟩ : ByteArray) ++ a = K := ⟨_, rfl⟩
      obtain ⟨K2, e2⟩ : ∃ K, K1 ++ (⟨#[64]⟩ : ByteArray) = K := ⟨_, rfl⟩
      obtain ⟨K3, e3⟩ : ∃ K, K2 ++ b = K := ⟨_, rfl⟩
      obtain ⟨K4, e4⟩ : ∃ K, K3 ++ (⟨#[46]⟩ : ByteArray) = K := ⟨_, rfl⟩
      obtain ⟨K5, e5⟩ : ∃ K, K4 ++ a = K := ⟨_, rfl⟩
      obtain ⟨K6, e6⟩ : ∃ K, K5 ++ (⟨#[62, 122]⟩ : ByteArray) = K := ⟨_, rfl⟩
      obtain ⟨K7, e7⟩ : ∃ K, K1 ++ (⟨#[58]⟩ : ByteArray) = K := ⟨_, rfl⟩
      obtain ⟨K8, e8⟩ : ∃ K, K7 ++ b = K := ⟨_, rfl⟩
      obtain ⟨K9, e9⟩ : ∃ K, K8 ++ (⟨#[62, 122]⟩ : ByteArray) = K := ⟨_, rfl⟩
      obtain ⟨L1, e10⟩ : ∃ K, K1 ++ (⟨#[32]⟩ : ByteArray) = K := ⟨_, rfl⟩
      obtain ⟨L2, e11⟩ : ∃ K, L1 ++ b = K := ⟨_, rfl⟩
      obtain ⟨L3, e12⟩ : ∃ K, L2 ++ (⟨#[62]⟩ : ByteArray) = K := ⟨_, rfl⟩
      obtain ⟨Y1, f1⟩ : ∃ K, a ++ (⟨#[64]⟩ : ByteArray) = K := ⟨_, rfl⟩
      obtain ⟨Y2, f2⟩ : ∃ K, Y1 ++ b = K := ⟨_, rfl⟩
      obtain ⟨Y3, f3⟩ : ∃ K, Y2 ++ (⟨#[46]⟩ : ByteArray) = K := ⟨_, rfl⟩
      obtain ⟨Y4, f4⟩ : ∃ K, Y3 ++ a = K := ⟨_, rfl⟩
      obtain ⟨Y5, f5⟩ : ∃ K, (⟨#[109, 97, 105, 108, 116, 111, 58]⟩ : ByteArray) ++ Y4 = K := ⟨_, rfl⟩
      obtain ⟨U1, f6⟩ : ∃ K, a ++ (⟨#[58]⟩ : ByteArray) = K := ⟨_, rfl⟩
      obtain ⟨U2, f7⟩ : ∃ K, U1 ++ b = K := ⟨_, rfl⟩
      have one : ∀ c : UInt8, (⟨#[c]⟩ : ByteArray).size = 1 := fun _ => rfl
      have two : (⟨#[62, 122]⟩ : ByteArray).size = 2 := rfl
      obtain ⟨z1, z2, z3, z4⟩ := HSz.out
      have s1 : K1.size ≤ 33 := by rw [← e1', app_size, one]; omega
      have s2 : K2.size ≤ 34 := by rw [← e2, app_size, one]; omega
      have s3 : K3.size ≤ 94 := by rw [← e3, app_size]; omega
      have s4 : K4.size ≤ 95 := by rw [← e4, app_size, one]; omega
      have s5 : K5.size ≤ 127 := by rw [← e5, app_size]; omega
      have s6 : K6.size ≤ 129 := by rw [← e6, app_size, two]; omega
      have s7 : K7.size ≤ 34 := by rw [← e7, app_size, one]; omega
      have s8 : K8.size ≤ 94 := by rw [← e8, app_size]; omega
      have s9 : K9.size ≤ 96 := by rw [← e9, app_size, two]; omega
      have s10 : L1.size ≤ 34 := by rw [← e10, app_size, one]; omega
      have s11 : L2.size ≤ 94 := by rw [← e11, app_size]; omega
      have s12 : L3.size ≤ 95 := by rw [← e12, app_size, one]; omega
      have t1 : Y1.size ≤ 33 := by rw [← f1, app_size, one]; omega
      have t2 : Y2.size ≤ 93 := by rw [← f2, app_size]; omega
      have t3 : Y3.size ≤ 94 := by rw [← f3, app_size, one]; omega
      have t4 : Y4.size ≤ 126 := by rw [← f4, app_size]; omega
      have t5 : Y5.size ≤ 133 := by rw [← f5, app_size, show (⟨#[109, 97, 105, 108, 116, 111, 58]⟩ : ByteArray).size = 7 from rfl]; omega
      have t6 : U1.size ≤ 33 := by rw [← f6, app_size, one]; omega
      have t7 : U2.size ≤ 93 := by rw [← f7, app_size]; omega
      have y4 : Y4.data.toList = a.data.toList ++ 64 :: (b.data.toList ++ 46 :: a.data.toList) := by
        rw [← f4, app_data, ← f3, app_data, ← f2, app_data, ← f1, app_data]; simp
      have u2 : U2.data.toList = a.data.toList ++ 58 :: b.data.toList := by
        rw [← f7, app_data, ← f6, app_data]; simp
      have d6 : K6.data.toList = 60 :: ((a.data.toList ++ 64 :: (b.data.toList ++ 46 :: a.data.toList)) ++ 62 :: [122]) := by
        rw [← e6, app_data, ← e5, app_data, ← e4, app_data, ← e3, app_data, ← e2, app_data, ← e1', app_data]; simp
      have d9 : K9.data.toList = 60 :: ((a.data.toList ++ 58 :: b.data.toList) ++ 62 :: [122]) := by
        rw [← e9, app_data, ← e8, app_data, ← e7, app_data, ← e1', app_data]; simp
      have d12 : L3.data.toList = 60 :: (a.data.toList ++ 32 :: (b.data.toList ++ [62])) := by
        rw [← e12, app_data, ← e11, app_data, ← e10, app_data, ← e1', app_data]; simp
      obtain ⟨N1, n1⟩ : ∃ N, Y4.size + 2 = N := ⟨_, rfl⟩
      obtain ⟨N2, n2⟩ : ∃ N, U2.size + 2 = N := ⟨_, rfl⟩
      obtain ⟨N4, n4⟩ : ∃ N, a.size + b.size + 3 = N := ⟨_, rfl⟩
      have F1 := Lib.hid (frm_auto HLa.out (s := K6) (b := Y5) (c := Y4) (n := (N1 : Int)) (by omega) (by
        rw [d6, mail1 HA1.out HB2.out (by rw [sz]; omega) (by rw [sz]; omega) (by rw [sz]; omega) (by rw [sz]; omega), ← y4]
        show Value.tuple #[.string ⟨(mailto ++ Y4.data.toList).toArray⟩, .string ⟨Y4.data.toList.toArray⟩, .int .i64 ((Y4.data.toList.length + 2 : Nat) : Int)] = _
        have e : (⟨(mailto ++ Y4.data.toList).toArray⟩ : ByteArray) = Y5 := (ba_eq (by rw [← f5, app_data]; rfl)).symm
        rw [e, ba_self, sz, n1]))
      have F2 := Lib.hid (frm_auto HLa.out (s := K9) (b := U2) (c := U2) (n := (N2 : Int)) (by omega) (by
        rw [d9, mail2 HA1.out HB2.out (by rw [sz]; omega) (by rw [sz]; omega), ← u2]
        show Value.tuple #[.string ⟨U2.data.toList.toArray⟩, .string ⟨U2.data.toList.toArray⟩, .int .i64 ((U2.data.toList.length + 2 : Nat) : Int)] = _
        rw [ba_self, sz, n2]))
      have F3 := Lib.hid (frm_auto HLa.out (s := L3) (b := ⟨#[]⟩) (c := ⟨#[]⟩) (n := 0) (by omega) (by
        rw [d12, show a.data.toList ++ 32 :: (b.data.toList ++ [62]) = (a.data.toList ++ 32 :: b.data.toList) ++ 62 :: [] by simp, mail3 HA1.out HB2.out]; rfl))
      have F4 := Lib.hid (frm_raw HLa.out (s := L3) (n := N4) (by omega) (by
        rw [d12, mail4 HA1.out HB2.out (by intro h; have := congrArg List.length h; rw [sz, List.length_nil] at this; omega) (by intro h; have := congrArg List.length h; rw [sz, List.length_nil] at this; omega), sz, sz, n4]))
      have k1 : ((N1 : Int) == (Y4.size : Int) + 2) = true := by rw [beq_iff_eq]; omega
      have k2 : ((N2 : Int) == (U2.size : Int) + 2) = true := by rw [beq_iff_eq]; omega
      have k4 : ((N4 : Int) == (a.size : Int) + (b.size : Int) + 3) = true := by rw [beq_iff_eq]; omega
      clear y4 u2 d6 d9 d12 n1 n2 n4 z1 z2 z3 z4 one two e1 HN HA1 HB2 HABd HSz HLa
      go_wp2_with fail
      refine (F1.out _ HB1.out).mono ?_
      rintro e w2 ⟨rfl, hb2⟩
      go_wp2_with fail
      refine (F2.out _ hb2).mono ?_
      rintro e w3 ⟨rfl, hb3⟩
      go_wp2_with fail
      refine (F3.out _ hb3).mono ?_
      rintro e w4 ⟨rfl, hb4⟩
      go_wp2_with fail
      refine (F4.out _ hb4).mono ?_
      rintro e w5 ⟨rfl, hb5⟩
      go_wp2
      go_ret
      exact ⟨rfl, hb5⟩
end SpanMails
end Go.Proofs.YtapibalcekedfaaGreatDoor
