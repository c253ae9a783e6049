/- Walks of layer 8, the fourth part: what a tag is made of. -/
import Derived.Test.YtapibalcekedfaaGreatDoorScC
import Derived.Test.YtapibalcekedfaaGreatDoorShelf
namespace Go.Proofs.YtapibalcekedfaaGreatDoor
open Go Go.RowKit
namespace Sc
set_option maxRecDepth 100000
set_option linter.unusedVariables false
set_option linter.unusedSimpArgs false

theorem RD.alloc {w : World} {B : Nat} {s : ByteArray} {l : List UInt8} (h : RD w B s l) (o : Obj) : RD (w.alloc o) B s l := by
  obtain ⟨k, h1, h2, h3⟩ := h
  exact ⟨k, h1, h2, h3.alloc o⟩
theorem RD.lt {w : World} {B : Nat} {s : ByteArray} {l : List UInt8} (h : RD w B s l) : B < w.heap.size := by
  obtain ⟨k, h1, h2, h3⟩ := h
  exact h3.lt
theorem RD.drewN {w : World} {B : Nat} {s : ByteArray} {l : List UInt8} (h : RD w B s l) (n : Nat) : RD (w.drewN n) B s l := h
theorem alloc_size (w : World) (o : Obj) : (w.alloc o).heap.size = w.heap.size + 1 := Array.size_push _
theorem new_block (w : World) (o : Obj) : (w.alloc o).heap[w.heap.size]? = some o := by show (w.heap.push o)[w.heap.size]? = some o; exact Array.getElem?_push_size

theorem idx_cons (b : UInt8) (t : List UInt8) (c : UInt8) : Lib.indexByte (b :: t) c = if b == c then 0 else if Lib.indexByte t c == -1 then -1 else Lib.indexByte t c + 1 := rfl
theorem idx_mem (l : List UInt8) (c : UInt8) : l.contains c = decide (0 ≤ Lib.indexByte l c) := by
  induction l with
  | nil => rfl
  | cons b t ih =>
    rw [List.contains_cons, ih, idx_cons]
    have hge := Lib.indexByte_ge t c
    generalize Lib.indexByte t c = z at *
    by_cases h : b = c
    · subst h; simp
    · have h1 : (b == c) = false := by simpa using h
      have h2 : (c == b) = false := by simpa using (fun e => h e.symm)
      rw [h1, h2, Bool.false_or, if_neg (by simp)]
      by_cases h3 : z = -1
      · subst h3; rfl
      · rw [if_neg (by simpa using h3), decide_eq_decide]
        omega
theorem idx_drop (x : UInt8) : ∀ (t : List UInt8), x ∈ t → 0 ≤ Lib.indexByte t x ∧ t.drop ((Lib.indexByte t x).toNat + 1) = ((t.dropWhile (fun y => y != x)).drop 1) ∧ (Lib.indexByte t x).toNat < t.length
  | [], h => by cases h
  | c :: t, h => by
    rw [idx_cons]
    by_cases hc : c = x
    · subst hc
      simp
    · have h1 : (c == x) = false := by simpa using hc
      have h2 : (c != x) = true := by simpa using hc
      have hm : x ∈ t := by
        rcases List.mem_cons.1 h with e | e
        · exact absurd e.symm hc
        · exact e
      obtain ⟨i1, i2, i3⟩ := idx_drop x t hm
      rw [h1, if_neg (by simp)]
      generalize Lib.indexByte t x = z at *
      rw [if_neg (by simp; omega)]
      obtain ⟨n, rfl⟩ : ∃ n : Nat, z = (n : Int) := ⟨z.toNat, by omega⟩
      refine ⟨by omega, ?_, by simp at i3 ⊢; omega⟩
      rw [show ((n : Int) + 1).toNat = n + 1 by omega]
      simp only [List.drop_succ_cons, List.dropWhile, h2]
      simpa using i2

theorem does_inBare : DoesB 125 bareB := by
  refine ⟨fun _ _ => by kernel_rfl, ?_⟩
  intro c w
  have h1 := Lib.hid (does_white.2 c w)
  have h2 : Hid (Calls Tryz.prog 19 #[.string ⟨#[34, 39, 61, 60, 62, 96]⟩, .int .u8 (c.toNat : Int)] w fun e w' => e = .returned (.int .i64 (Lib.indexByte [34, 39, 61, 60, 62, 96] c)) ∧ w' = w) := Lib.hid (by
    have := Tryz.strings_IndexByte ⟨#[34, 39, 61, 60, 62, 96]⟩ (c.toNat : Int) w
    rw [show ((c.toNat : Int).toNat.toUInt8) = c by rw [Int.toNat_natCast]; exact UInt8.ofNat_toNat] at this
    exact this)
  have HV : Hid (bareB c = (!wht c && !decide (0 ≤ Lib.indexByte [34, 39, 61, 60, 62, 96] c))) := Lib.hid (by unfold bareB; rw [idx_mem])
  generalize wht c = x at *
  generalize Lib.indexByte [34, 39, 61, 60, 62, 96] c = z at *
  cases x with
  | true =>
    go_enter Tryz.func125, Tryz.ntmps125
    go_wp2_with (first | (go_at_call 111; refine h1.out.mono ?_; rintro e w' ⟨rfl, rfl⟩))
    go_ret
    exact ⟨ret_bool' (by rw [HV.out]; rfl), rfl⟩
  | false =>
    by_cases hz : z < 0
    · have HZ : Hid (decide (0 ≤ z) = false) := Lib.hid (by simp; omega)
      go_enter Tryz.func125, Tryz.ntmps125
      go_wp2_with (first | (go_at_call 111; refine h1.out.mono ?_; rintro e w' ⟨rfl, rfl⟩) | (go_at_call 19; refine h2.out.mono ?_; rintro e w' ⟨rfl, rfl⟩))
      go_ret
      exact ⟨ret_bool' (by rw [HV.out, HZ.out]; rfl), rfl⟩
    · have HZ : Hid (decide (0 ≤ z) = true) := Lib.hid (by simp; omega)
      go_enter Tryz.func125, Tryz.ntmps125
      go_wp2_with (first | (go_at_call 111; refine h1.out.mono ?_; rintro e w' ⟨rfl, rfl⟩) | (go_at_call 19; refine h2.out.mono ?_; rintro e w' ⟨rfl, rfl⟩))
      go_ret
      exact ⟨ret_bool' (by rw [HV.out, HZ.out, decide_eq_false (Int.not_lt.2 hz)]; rfl), rfl⟩
theorem does_bare : Does 122 bare := by
  refine ⟨fun _ _ => by kernel_rfl, ?_⟩
  intro W B s l hs h
  have HW := Lib.hid (word_any does_inBare does_inBare W B s l hs h)
  have HE : Hid (word bareB bareB = bare) := Lib.hid rfl
  rw [HE.out] at HW
  clear h
  go_enter Tryz.func122, Tryz.ntmps122
  go_wp2_with fail
  refine HW.out.mono ?_
  rintro e w1 ⟨rfl, h1, h2⟩
  go_wp2
  go_ret
  exact ⟨rfl, h1, h2⟩

set_option maxHeartbeats 2000000 in
theorem quoted_any (x : UInt8) (W : World) (B : Nat) (s : ByteArray) (l : List UInt8) (hs : s.size ≤ 1000000) (h : RD W B s l) :
    Calls Tryz.prog 126 #[.pointer (some ⟨B, 0, none⟩), .int .u8 (x.toNat : Int)] W fun e W' => e = .returned (.bool (quo x l).isSome) ∧ RD W' B s ((quo x l).getD l) ∧ Gr B W W' := by
  have HS := Lib.hid (sign_any x W B s l hs h)
  have HRD := Lib.hid h
  obtain ⟨k, hk, hl, hr⟩ := h
  have HL := Lib.hid hl
  have c1 := hr.c1
  clear hr hl
  have hs2 : (s.size : Int) ≤ 1000000 := by omega
  cases hsg : sgn x l with
  | none =>
    have HV : Hid (quo x l = none) := Lib.hid (by
      cases l with
      | nil => rfl
      | cons c t =>
        simp only [sgn] at hsg
        simp only [quo]
        split at hsg
        · cases hsg
        · rename_i hc; rw [if_neg hc])
    rw [hsg] at HS
    clear hsg
    go_enter Tryz.func126, Tryz.ntmps126
    go_wp2_with fail
    refine HS.out.mono ?_
    rintro e w1 ⟨rfl, h1, h2⟩
    have HX := Lib.hid h1
    clear h1 c1
    go_wp2
    go_ret
    rw [HV.out]
    exact ⟨rfl, HX.out, h2⟩
  | some t =>
    have hlx := sgn_some hsg
    have HV : Hid (quo x l = if x ∈ t then some ((t.dropWhile (fun y => y != x)).drop 1) else none) := Lib.hid (by rw [hlx]; simp [quo])
    have hkt : k < s.size ∧ t = s.data.toList.drop (k + 1) := by
      rw [hlx] at HL
      have hl := HL.out
      have : k < s.size := by
        have := congrArg List.length hl
        rw [List.length_drop, sz] at this
        simp at this; omega
      obtain ⟨c, t', hd, _, ht⟩ := cons_at this
      rw [hd] at hl
      simp only [List.cons.injEq] at hl
      exact ⟨this, by rw [ht]; exact hl.2⟩
    obtain ⟨hks, htk⟩ := hkt
    have HTK := Lib.hid htk
    rw [hsg] at HS
    clear hsg hlx htk
    have HI : Hid (∀ (S : ByteArray) (w : World), S.data.toList = t → Calls Tryz.prog 19 #[.string S, .int .u8 (x.toNat : Int)] w fun e w' => e = .returned (.int .i64 (Lib.indexByte t x)) ∧ w' = w) := Lib.hid (by
      intro S w hS
      have := Tryz.strings_IndexByte S (x.toNat : Int) w
      rw [show ((x.toNat : Int).toNat.toUInt8) = x by rw [Int.toNat_natCast]; exact UInt8.ofNat_toNat, hS] at this
      exact this)
    have HX : Hid ((s.extract (k + 1) s.size).data.toList = t) := Lib.hid (by
      rw [Lib.extract_data, HTK.out, List.take_of_length_le (by rw [List.length_drop, sz]; omega)])
    have HI2 := Lib.hid (fun w => HI.out (s.extract (k + 1) s.size) w HX.out)
    by_cases hx : x ∈ t
    · obtain ⟨i1, i2, i3⟩ := idx_drop x t hx
      have HV2 : Hid (quo x l = some (t.drop ((Lib.indexByte t x).toNat + 1))) := Lib.hid (by rw [HV.out, if_pos hx, i2])
      have hlt : t.length = s.size - (k + 1) := by rw [HTK.out, List.length_drop, sz]
      generalize Lib.indexByte t x = z at *
      obtain ⟨n, rfl⟩ : ∃ n : Nat, z = (n : Int) := ⟨z.toNat, by omega⟩
      rw [Int.toNat_natCast] at i3 HV2
      have hn2 : k + 1 + (n + 1) ≤ s.size := by omega
      have HV3 : Hid (quo x l = some (s.data.toList.drop (k + 1 + (n + 1)))) := Lib.hid (by rw [HV2.out, HTK.out, List.drop_drop])
      clear i1 i2 i3 hx hlt HI
      go_enter Tryz.func126, Tryz.ntmps126
      go_wp2_with fail
      refine HS.out.mono ?_
      rintro e w1 ⟨rfl, h1, h2⟩
      obtain ⟨k1, hk1, hm1, hr1⟩ := h1
      obtain rfl : k1 = k + 1 := by
        have h3 : t.length = s.size - k1 := by
          have : t = s.data.toList.drop k1 := hm1
          rw [this, List.length_drop, sz]
        have h4 : t.length = s.size - (k + 1) := by rw [HTK.out, List.length_drop, sz]
        omega
      clear c1
      have c0 := hr1.c0
      have c1 := hr1.c1
      have f1 := hr1.fr 1
      have HR1 := Lib.hid hr1
      have HG1 := Lib.hid h2
      have hle : ((k + 1 : Nat) : Int) ≤ (s.size : Int) := by omega
      clear hr1 h2 hm1 HRD HS
      go_wp2_with fail
      go_big_quiet (exact Calls.quiet_of_same (HI2.out _))
      go_wp2
      go_ret
      rw [HV3.out]
      refine ⟨rfl, ⟨k + 1 + (n + 1), hn2, rfl, ?_⟩, (HG1.out.drewN nq).set _⟩
      have := (HR1.out.drewN nq).set (k + 1 + (n + 1))
      have e1 : (((k + 1 + (n + 1) : Nat)) : Int) = ((k + 1 : Nat) : Int) + ((n : Int) + 1) := by omega
      rw [e1] at this
      exact this
    · have hneg : Lib.indexByte t x < 0 := by
        have := idx_mem t x
        have h2 : t.contains x = false := by simpa using hx
        rw [h2] at this
        have := of_decide_eq_false this.symm
        omega
      have HV2 : Hid (quo x l = none) := Lib.hid (by rw [HV.out, if_neg hx])
      generalize Lib.indexByte t x = z at *
      clear hx HI
      go_enter Tryz.func126, Tryz.ntmps126
      go_wp2_with fail
      refine HS.out.mono ?_
      rintro e w1 ⟨rfl, h1, h2⟩
      obtain ⟨k1, hk1, hm1, hr1⟩ := h1
      obtain rfl : k1 = k + 1 := by
        have h3 : t.length = s.size - k1 := by
          have : t = s.data.toList.drop k1 := hm1
          rw [this, List.length_drop, sz]
        have h4 : t.length = s.size - (k + 1) := by rw [HTK.out, List.length_drop, sz]
        omega
      clear c1
      have c0 := hr1.c0
      have c1 := hr1.c1
      have f1 := hr1.fr 1
      have HR1 := Lib.hid hr1
      have HG1 := Lib.hid h2
      have hle : ((k + 1 : Nat) : Int) ≤ (s.size : Int) := by omega
      clear hr1 h2 hm1 HRD HS
      go_wp2_with fail
      go_big_quiet (exact Calls.quiet_of_same (HI2.out _))
      go_wp2
      go_ret
      rw [HV2.out]
      exact ⟨rfl, ⟨k, hk, HL.out, (HR1.out.drewN nq).set k⟩, (HG1.out.drewN nq).set _⟩
theorem does_single : Does 123 (quo 39) := by
  refine ⟨fun _ _ => by kernel_rfl, ?_⟩
  intro W B s l hs h
  have HW := Lib.hid (quoted_any 39 W B s l hs h)
  rw [show (((39 : UInt8).toNat : Nat) : Int) = 39 from rfl] at HW
  clear h
  go_enter Tryz.func123, Tryz.ntmps123
  go_wp2_with fail
  refine HW.out.mono ?_
  rintro e w1 ⟨rfl, h1, h2⟩
  go_wp2
  go_ret
  exact ⟨rfl, h1, h2⟩
theorem does_double : Does 124 (quo 34) := by
  refine ⟨fun _ _ => by kernel_rfl, ?_⟩
  intro W B s l hs h
  have HW := Lib.hid (quoted_any 34 W B s l hs h)
  rw [show (((34 : UInt8).toNat : Nat) : Int) = 34 from rfl] at HW
  clear h
  go_enter Tryz.func124, Tryz.ntmps124
  go_wp2_with fail
  refine HW.out.mono ?_
  rintro e w1 ⟨rfl, h1, h2⟩
  go_wp2
  go_ret
  exact ⟨rfl, h1, h2⟩
theorem getD_white (l : List UInt8) : (white l).getD l = gap l := by
  cases h : white l with
  | none => exact (white_none h).symm
  | some r => exact (white_gap h).1
theorem does_gap : Does 75 (fun l => some (gap l)) := by
  refine ⟨fun _ _ => by kernel_rfl, ?_⟩
  intro W B s l hs h
  have hmf : ∀ (fn : Fn) (first cap : Array Value) (w : World), (Instr.makeFunc fn first cap).run Tryz.prog w = .ok (.func fn first cap) w := fun _ _ _ _ => rfl
  have HC := Lib.hid (maybe_any (x := (98, white)) does_whites W B s l hs h)
  unfold mv at HC
  simp only [Option.isSome_some, Option.getD_some] at HC ⊢
  clear h
  go_enter Tryz.func75, Tryz.ntmps75
  go_wp2_with fail
  refine HC.out.mono ?_
  rintro e w1 ⟨rfl, h1, h2⟩
  have HX := Lib.hid h1
  clear h1
  go_wp2
  go_ret
  exact ⟨rfl, (by have := HX.out; rw [getD_white] at this; exact this), h2⟩
theorem does_slashOrNot : Does 76 (fun l => some (slashOr l)) := by
  refine ⟨fun _ _ => by kernel_rfl, ?_⟩
  intro W B s l hs h
  have hmf : ∀ (fn : Fn) (first cap : Array Value) (w : World), (Instr.makeFunc fn first cap).run Tryz.prog w = .ok (.func fn first cap) w := fun _ _ _ _ => rfl
  have HC := Lib.hid (maybe_any (x := (78, (sgn 47))) does_slash W B s l hs h)
  unfold mv at HC
  simp only [Option.isSome_some, Option.getD_some] at HC ⊢
  clear h
  go_enter Tryz.func76, Tryz.ntmps76
  go_wp2_with fail
  refine HC.out.mono ?_
  rintro e w1 ⟨rfl, h1, h2⟩
  have HX := Lib.hid h1
  clear h1
  go_wp2
  go_ret
  exact ⟨rfl, HX.out, h2⟩
theorem value_eq (l : List UInt8) : value l = (match bare l with | some r => some r | none => match quo 39 l with | some r => some r | none => match quo 34 l with | some r => some r | none => none) := by
  unfold value
  cases bare l with
  | some r => rfl
  | none => cases quo 39 l with
    | some r => rfl
    | none => cases quo 34 l <;> rfl
def parts_value : List Part := [(122, bare), (123, (quo 39)), (124, (quo 34))]
theorem doesAll_value : DoesAll parts_value := by
  intro x hx
  simp only [parts_value, List.mem_cons, List.mem_nil_iff, or_false] at hx
  rcases hx with rfl | rfl | rfl
  · exact does_bare
  · exact does_single
  · exact does_double
theorem eq_value (l : List UInt8) : firstP parts_value l = value l := (value_eq l).symm
set_option maxHeartbeats 1000000 in
theorem does_value : Does 121 value := by
  refine ⟨fun _ _ => by kernel_rfl, ?_⟩
  intro W B s l hs h
  have hmf : ∀ (fn : Fn) (first cap : Array Value) (w : World), (Instr.makeFunc fn first cap).run Tryz.prog w = .ok (.func fn first cap) w := fun _ _ _ _ => rfl
  have hlt := h.lt
  have HRD := Lib.hid h
  rw [← eq_value]
  clear h
  go_enter Tryz.func121, Tryz.ntmps121
  go_wp2_with fail
  refine (first_any doesAll_value (by decide) _ B W.heap.size s l hs (HRD.out.alloc _) ⟨_, new_block _ _⟩ (by omega)).mono ?_
  rintro e w1 ⟨rfl, h1, h2⟩
  go_wp2
  go_ret
  exact ⟨rfl, h1, ((Gr.refl B W).alloc _).trans h2⟩
def parts_worth : List Part := [(75, (fun l => some (gap l))), (120, (sgn 61)), (75, (fun l => some (gap l))), (121, value)]
theorem doesAll_worth : DoesAll parts_worth := by
  intro x hx
  simp only [parts_worth, List.mem_cons, List.mem_nil_iff, or_false] at hx
  rcases hx with rfl | rfl | rfl | rfl
  · exact does_gap
  · exact does_equals
  · exact does_gap
  · exact does_value
theorem eq_worth (l : List UInt8) : allP parts_worth l = worth l := by
  show ((some (gap l)).bind _) = worth l
  unfold worth
  simp only [Option.bind_some, parts_worth, allP]
  cases sgn 61 (gap l) with
  | none => rfl
  | some t =>
    simp only [Option.bind_some]
    cases value (gap t) <;> rfl
set_option maxHeartbeats 1000000 in
theorem does_worth : Does 118 worth := by
  refine ⟨fun _ _ => by kernel_rfl, ?_⟩
  intro W B s l hs h
  have hmf : ∀ (fn : Fn) (first cap : Array Value) (w : World), (Instr.makeFunc fn first cap).run Tryz.prog w = .ok (.func fn first cap) w := fun _ _ _ _ => rfl
  have hlt := h.lt
  have HRD := Lib.hid h
  rw [← eq_worth]
  clear h
  go_enter Tryz.func118, Tryz.ntmps118
  go_wp2_with fail
  refine (all_any doesAll_worth (by decide) _ B W.heap.size s l hs (HRD.out.alloc _) ⟨_, new_block _ _⟩ (by omega)).mono ?_
  rintro e w1 ⟨rfl, h1, h2⟩
  go_wp2
  go_ret
  exact ⟨rfl, h1, ((Gr.refl B W).alloc _).trans h2⟩
theorem does_worthOrNot : Does 110 (fun l => some ((worth l).getD l)) := by
  refine ⟨fun _ _ => by kernel_rfl, ?_⟩
  intro W B s l hs h
  have hmf : ∀ (fn : Fn) (first cap : Array Value) (w : World), (Instr.makeFunc fn first cap).run Tryz.prog w = .ok (.func fn first cap) w := fun _ _ _ _ => rfl
  have HC := Lib.hid (maybe_any (x := (118, worth)) does_worth W B s l hs h)
  unfold mv at HC
  simp only [Option.isSome_some, Option.getD_some] at HC ⊢
  clear h
  go_enter Tryz.func110, Tryz.ntmps110
  go_wp2_with fail
  refine HC.out.mono ?_
  rintro e w1 ⟨rfl, h1, h2⟩
  have HX := Lib.hid h1
  clear h1
  go_wp2
  go_ret
  exact ⟨rfl, HX.out, h2⟩
def parts_attribute : List Part := [(98, white), (109, key), (110, (fun l => some ((worth l).getD l)))]
theorem doesAll_attribute : DoesAll parts_attribute := by
  intro x hx
  simp only [parts_attribute, List.mem_cons, List.mem_nil_iff, or_false] at hx
  rcases hx with rfl | rfl | rfl
  · exact does_whites
  · exact does_key
  · exact does_worthOrNot
theorem eq_attribute (l : List UInt8) : allP parts_attribute l = attr l := by
  unfold attr
  simp only [parts_attribute, allP]
  cases white l with
  | none => rfl
  | some t =>
    simp only [Option.bind_some]
set_option maxHeartbeats 1000000 in
theorem does_attribute : Does 96 attr := by
  refine ⟨fun _ _ => by kernel_rfl, ?_⟩
  intro W B s l hs h
  have hmf : ∀ (fn : Fn) (first cap : Array Value) (w : World), (Instr.makeFunc fn first cap).run Tryz.prog w = .ok (.func fn first cap) w := fun _ _ _ _ => rfl
  have hlt := h.lt
  have HRD := Lib.hid h
  rw [← eq_attribute]
  clear h
  go_enter Tryz.func96, Tryz.ntmps96
  go_wp2_with fail
  refine (all_any doesAll_attribute (by decide) _ B W.heap.size s l hs (HRD.out.alloc _) ⟨_, new_block _ _⟩ (by omega)).mono ?_
  rintro e w1 ⟨rfl, h1, h2⟩
  go_wp2
  go_ret
  exact ⟨rfl, h1, ((Gr.refl B W).alloc _).trans h2⟩
theorem attr_len {l r : List UInt8} (h : attr l = some r) : r.length < l.length := by
  rcases attr_cases l with ⟨h1, _⟩ | ⟨r2, h1, h2⟩ | ⟨r2, h1, _, hl, _⟩
  · rw [h1] at h; cases h
  · rw [h1] at h; cases h
    exact (refA_some h2).2 r rfl
  · rw [h1] at h; cases h
    exact hl
theorem often_attrs : ∀ (n : Nat) (l : List UInt8), oftenP attr n l = attrs n l
  | 0, l => rfl
  | n + 1, l => by
    simp only [oftenP, attrs]
    cases attr l with
    | none => rfl
    | some r => exact often_attrs n r
theorem does_attributes : Does 74 (fun l => some (attrs l.length l)) := by
  refine ⟨fun _ _ => by kernel_rfl, ?_⟩
  intro W B s l hs h
  have hmf : ∀ (fn : Fn) (first cap : Array Value) (w : World), (Instr.makeFunc fn first cap).run Tryz.prog w = .ok (.func fn first cap) w := fun _ _ _ _ => rfl
  have HC := Lib.hid (often_any (x := (96, attr)) does_attribute (fun _ _ h => attr_len h) W B s l hs h)
  unfold mv at HC
  simp only [Option.isSome_some, Option.getD_some] at HC ⊢
  clear h
  go_enter Tryz.func74, Tryz.ntmps74
  go_wp2_with fail
  refine HC.out.mono ?_
  rintro e w1 ⟨rfl, h1, h2⟩
  have HX := Lib.hid h1
  clear h1
  go_wp2
  go_ret
  exact ⟨rfl, (by have := HX.out; rw [often_attrs] at this; exact this), h2⟩
def parts_open : List Part := [(72, (sgn 60)), (73, name), (74, (fun l => some (attrs l.length l))), (75, (fun l => some (gap l))), (76, (fun l => some (slashOr l))), (77, (sgn 62))]
theorem doesAll_open : DoesAll parts_open := by
  intro x hx
  simp only [parts_open, List.mem_cons, List.mem_nil_iff, or_false] at hx
  rcases hx with rfl | rfl | rfl | rfl | rfl | rfl
  · exact does_less
  · exact does_name
  · exact does_attributes
  · exact does_gap
  · exact does_slashOrNot
  · exact does_greater
theorem eq_open (l : List UInt8) : allP parts_open l = openP l := by
  unfold openP tailP
  simp only [parts_open, allP]
  cases sgn 60 l with
  | none => rfl
  | some a =>
    simp only [Option.bind_some]
    cases name a with
    | none => rfl
    | some b =>
      simp only [Option.bind_some]
      cases sgn 62 (slashOr (gap (attrs b.length b))) <;> rfl
set_option maxHeartbeats 1000000 in
theorem does_open : Does 51 openP := by
  refine ⟨fun _ _ => by kernel_rfl, ?_⟩
  intro W B s l hs h
  have hmf : ∀ (fn : Fn) (first cap : Array Value) (w : World), (Instr.makeFunc fn first cap).run Tryz.prog w = .ok (.func fn first cap) w := fun _ _ _ _ => rfl
  have hlt := h.lt
  have HRD := Lib.hid h
  rw [← eq_open]
  clear h
  go_enter Tryz.func51, Tryz.ntmps51
  go_wp2_with fail
  refine (all_any doesAll_open (by decide) _ B W.heap.size s l hs (HRD.out.alloc _) ⟨_, new_block _ _⟩ (by omega)).mono ?_
  rintro e w1 ⟨rfl, h1, h2⟩
  go_wp2
  go_ret
  exact ⟨rfl, h1, ((Gr.refl B W).alloc _).trans h2⟩
def parts_closing : List Part := [(72, (sgn 60)), (78, (sgn 47)), (73, name), (75, (fun l => some (gap l))), (77, (sgn 62))]
theorem doesAll_closing : DoesAll parts_closing := by
  intro x hx
  simp only [parts_closing, List.mem_cons, List.mem_nil_iff, or_false] at hx
  rcases hx with rfl | rfl | rfl | rfl | rfl
  · exact does_less
  · exact does_slash
  · exact does_name
  · exact does_gap
  · exact does_greater
theorem eq_closing (l : List UInt8) : allP parts_closing l = closeP l := by
  unfold closeP
  simp only [parts_closing, allP]
  cases sgn 60 l with
  | none => rfl
  | some a =>
    simp only [Option.bind_some]
    cases sgn 47 a with
    | none => rfl
    | some b =>
      simp only [Option.bind_some]
      cases name b with
      | none => rfl
      | some c =>
        simp only [Option.bind_some]
        cases sgn 62 (gap c) <;> rfl
set_option maxHeartbeats 1000000 in
theorem does_closing : Does 52 closeP := by
  refine ⟨fun _ _ => by kernel_rfl, ?_⟩
  intro W B s l hs h
  have hmf : ∀ (fn : Fn) (first cap : Array Value) (w : World), (Instr.makeFunc fn first cap).run Tryz.prog w = .ok (.func fn first cap) w := fun _ _ _ _ => rfl
  have hlt := h.lt
  have HRD := Lib.hid h
  rw [← eq_closing]
  clear h
  go_enter Tryz.func52, Tryz.ntmps52
  go_wp2_with fail
  refine (all_any doesAll_closing (by decide) _ B W.heap.size s l hs (HRD.out.alloc _) ⟨_, new_block _ _⟩ (by omega)).mono ?_
  rintro e w1 ⟨rfl, h1, h2⟩
  go_wp2
  go_ret
  exact ⟨rfl, h1, ((Gr.refl B W).alloc _).trans h2⟩
def parts_tag : List Part := [(51, openP), (52, closeP)]
theorem doesAll_tag : DoesAll parts_tag := by
  intro x hx
  simp only [parts_tag, List.mem_cons, List.mem_nil_iff, or_false] at hx
  rcases hx with rfl | rfl
  · exact does_open
  · exact does_closing
theorem eq_tag (l : List UInt8) : firstP parts_tag l = tagO l := by
  unfold tagO
  simp only [parts_tag, firstP]
  cases openP l with
  | some r => rfl
  | none => cases closeP l <;> rfl
set_option maxHeartbeats 1000000 in
theorem tag_any (s : ByteArray) (w : World) (hs : s.size ≤ 1000000) :
    Calls Tryz.prog 29 #[.string s] w fun e w' => e = .returned (.int .i64 (tagN s.data.toList : Nat)) ∧ Below w.heap.size w w' := by
  have hmf : ∀ (fn : Fn) (first cap : Array Value) (w : World), (Instr.makeFunc fn first cap).run Tryz.prog w = .ok (.func fn first cap) w := fun _ _ _ _ => rfl
  have HN : Hid (tagN s.data.toList = s.size - ((tagO s.data.toList).getD s.data.toList).length) := Lib.hid (by
    unfold tagN
    cases tagO s.data.toList with
    | none => simp only [Option.getD_none]; rw [sz]; omega
    | some r => simp only [Option.getD_some]; rw [sz])
  go_enter Tryz.func29, Tryz.ntmps29
  go_wp2_with fail
  have hRK : Hid (RK (w.alloc (.cells #[.string s, .int .i64 0] 48)) w.heap.size s 0) := Lib.hid (new_block _ _)
  have hz1 := alloc_size w (.cells #[.string s, .int .i64 0] 48)
  have hPB : Hid (∀ o, (w.alloc (.cells #[.string s, .int .i64 0] 48) |>.alloc o).heap[w.heap.size + 1]? = some o) := Lib.hid (fun o => by rw [← hz1]; exact new_block _ _)
  refine (first_any doesAll_tag (by decide) _ w.heap.size (w.heap.size + 1) s s.data.toList hs (RD.alloc ⟨0, Nat.zero_le _, rfl, hRK.out⟩ _) ⟨_, hPB.out _⟩ (by omega)).mono ?_
  rintro e w1 ⟨rfl, h1, h2⟩
  rw [eq_tag] at h1
  obtain ⟨k, hk, hl, hr⟩ := h1
  have c1 := hr.c1
  have HK : Hid (tagN s.data.toList = k) := Lib.hid (by
    rw [HN.out, hl, List.length_drop, sz]; omega)
  have HB : Hid (Below w.heap.size w w1) := Lib.hid ((((Below.refl _ w).alloc (Nat.le_refl _) _).alloc (by rw [hz1]; omega) _).trans (h2.below (Nat.le_refl _) (by rw [alloc_size, hz1]; omega)))
  clear hl hr h2
  go_wp2
  go_ret
  rw [HK.out]
  exact ⟨rfl, HB.out⟩
end Sc
end Go.Proofs.YtapibalcekedfaaGreatDoor
