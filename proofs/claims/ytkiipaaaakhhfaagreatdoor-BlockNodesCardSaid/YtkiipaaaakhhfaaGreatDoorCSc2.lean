import Derived.Test.YtkiipaaaakhhfaaGreatDoorCSc1
import Derived.Test.YtkiipaaaakhhfaaGreatDoorCShelf1
import Derived.Laws.DeepStrings4
import Derived.Deep.CutBlock
section
namespace Go.Proofs.YtkiipaaaakhhfaaGreatDoor
open Go Go.RowKit
namespace Sc
set_option maxRecDepth 100000
set_option linter.unusedVariables false
set_option linter.unusedSimpArgs false
theorem RD.alloc {w : World} {B : Nat} {s : ByteArray} {l : List UInt8} (h : RD w B s l) (o : Obj) : RD (w.alloc o) B s l := by
 obtain ⟨k, h1, h2, h3⟩ := h
 exact ⟨k, h1, h2, h3.alloc o⟩
theorem RD.lt {w : World} {B : Nat} {s : ByteArray} {l : List UInt8} (h : RD w B s l) : B < w.heap.size := by
 obtain ⟨k, h1, h2, h3⟩ := h
 exact h3.lt
theorem RD.drewN {w : World} {B : Nat} {s : ByteArray} {l : List UInt8} (h : RD w B s l) (n : Nat) : RD (w.drewN n) B s l := h
theorem alloc_size (w : World) (o : Obj) : (w.alloc o).heap.size = w.heap.size + 1 := Array.size_push _
theorem new_block (w : World) (o : Obj) : (w.alloc o).heap[w.heap.size]? = some o := by show (w.heap.push o)[w.heap.size]? = some o; exact Array.getElem?_push_size
theorem idx_cons (b : UInt8) (t : List UInt8) (c : UInt8) : Lib.indexByte (b :: t) c = if b == c then 0 else if Lib.indexByte t c == -1 then -1 else Lib.indexByte t c + 1 := rfl
theorem idx_mem (l : List UInt8) (c : UInt8) : l.contains c = decide (0 ≤ Lib.indexByte l c) := by
 induction l with
 | nil => rfl
 | cons b t ih =>
  rw [List.contains_cons, ih, idx_cons]
  have hge := Lib.indexByte_ge t c
  generalize Lib.indexByte t c = z at *
  by_cases h : b = c
  ·subst h; simp
  ·have h1 : (b == c) = false := by simpa using h
   have h2 : (c == b) = false := by simpa using (fun e => h e.symm)
   rw [h1, h2, Bool.false_or, if_neg (by simp)]
   by_cases h3 : z = -1
   ·subst h3; rfl
   ·rw [if_neg (by simpa using h3), decide_eq_decide]
    omega
theorem idx_drop (x : UInt8) : ∀ (t : List UInt8), x ∈ t → 0 ≤ Lib.indexByte t x ∧ t.drop ((Lib.indexByte t x).toNat + 1) = ((t.dropWhile (fun y => y != x)).drop 1) ∧ (Lib.indexByte t x).toNat < t.length
 | [], h => by cases h
 | c :: t, h => by
  rw [idx_cons]
  by_cases hc : c = x
  ·subst hc
   simp
  ·have h1 : (c == x) = false := by simpa using hc
   have h2 : (c != x) = true := by simpa using hc
   have hm : x ∈ t := by
    rcases List.mem_cons.1 h with e | e
    ·exact absurd e.symm hc
    ·exact e
   obtain ⟨i1, i2, i3⟩ := idx_drop x t hm
   rw [h1, if_neg (by simp)]
   generalize Lib.indexByte t x = z at *
   rw [if_neg (by simp; omega)]
   obtain ⟨n, rfl⟩ : ∃ n : Nat, z = (n : Int) := ⟨z.toNat, by omega⟩
   refine ⟨by omega, ?_, by simp at i3 ⊢; omega⟩
   rw [show ((n : Int) + 1).toNat = n + 1 by omega]
   simp only [List.drop_succ_cons, List.dropWhile, h2]
   simpa using i2
theorem does_inBare : DoesB 244 bareB := by
 refine ⟨fun _ _ => by kernel_rfl, ?_⟩
 intro c w
 have h1 := Lib.hid (does_white.2 c w)
 have h2 : Hid (Calls Tryz.prog 83 #[.string ⟨#[34, 39, 61, 60, 62, 96]⟩, .int .u8 (c.toNat : Int)] w fun e w' => e = .returned (.int .i64 (Lib.indexByte [34, 39, 61, 60, 62, 96] c)) ∧ w' = w) := Lib.hid (by
  have := Tryz.strings_IndexByte ⟨#[34, 39, 61, 60, 62, 96]⟩ (c.toNat : Int) w
  rw [show ((c.toNat : Int).toNat.toUInt8) = c by rw [Int.toNat_natCast]; exact UInt8.ofNat_toNat] at this
  exact this)
 have HV : Hid (bareB c = (!wht c && !decide (0 ≤ Lib.indexByte [34, 39, 61, 60, 62, 96] c))) := Lib.hid (by unfold bareB; rw [idx_mem])
 generalize wht c = x at *
 generalize Lib.indexByte [34, 39, 61, 60, 62, 96] c = z at *
 cases x with
 | true =>
  go_enter Tryz.func244, Tryz.ntmps244
  go_wp2_with (first | (go_at_call 230; refine h1.out.mono ?_; rintro e w' ⟨rfl, rfl⟩))
  go_ret
  exact ⟨ret_bool' (by rw [HV.out]; rfl), rfl⟩
 | false =>
  by_cases hz : z < 0
  ·have HZ : Hid (decide (0 ≤ z) = false) := Lib.hid (by simp; omega)
   go_enter Tryz.func244, Tryz.ntmps244
   go_wp2_with (first | (go_at_call 230; refine h1.out.mono ?_; rintro e w' ⟨rfl, rfl⟩) | (go_at_call 83; refine h2.out.mono ?_; rintro e w' ⟨rfl, rfl⟩))
   go_ret
   exact ⟨ret_bool' (by rw [HV.out, HZ.out]; rfl), rfl⟩
  ·have HZ : Hid (decide (0 ≤ z) = true) := Lib.hid (by simp; omega)
   go_enter Tryz.func244, Tryz.ntmps244
   go_wp2_with (first | (go_at_call 230; refine h1.out.mono ?_; rintro e w' ⟨rfl, rfl⟩) | (go_at_call 83; refine h2.out.mono ?_; rintro e w' ⟨rfl, rfl⟩))
   go_ret
   exact ⟨ret_bool' (by rw [HV.out, HZ.out, decide_eq_false (Int.not_lt.2 hz)]; rfl), rfl⟩
theorem does_bare : Does 241 bare := by
 refine ⟨fun _ _ => by kernel_rfl, ?_⟩
 intro W B s l hs h
 have HW := Lib.hid (word_any does_inBare does_inBare W B s l hs h)
 have HE : Hid (word bareB bareB = bare) := Lib.hid rfl
 rw [HE.out] at HW
 clear h
 go_enter Tryz.func241, Tryz.ntmps241
 go_wp2_with fail
 refine HW.out.mono ?_
 rintro e w1 ⟨rfl, h1, h2⟩
 go_wp2
 go_ret
 exact ⟨rfl, h1, h2⟩
set_option maxHeartbeats 2000000 in
theorem quoted_any (x : UInt8) (W : World) (B : Nat) (s : ByteArray) (l : List UInt8) (hs : s.size ≤ 1000000) (h : RD W B s l) :
  Calls Tryz.prog 245 #[.pointer (some ⟨B, 0, none⟩), .int .u8 (x.toNat : Int)] W fun e W' => e = .returned (.bool (quo x l).isSome) ∧ RD W' B s ((quo x l).getD l) ∧ Gr B W W' := by
 have HS := Lib.hid (sign_any x W B s l hs h)
 have HRD := Lib.hid h
 obtain ⟨k, hk, hl, hr⟩ := h
 have HL := Lib.hid hl
 have c1 := hr.c1
 clear hr hl
 have hs2 : (s.size : Int) ≤ 1000000 := by omega
 cases hsg : sgn x l with
 | none =>
  have HV : Hid (quo x l = none) := Lib.hid (by
   cases l with
   | nil => rfl
   | cons c t =>
    simp only [sgn] at hsg
    simp only [quo]
    split at hsg
    ·cases hsg
    ·rename_i hc; rw [if_neg hc])
  rw [hsg] at HS
  clear hsg
  go_enter Tryz.func245, Tryz.ntmps245
  go_wp2_with fail
  refine HS.out.mono ?_
  rintro e w1 ⟨rfl, h1, h2⟩
  have HX := Lib.hid h1
  clear h1 c1
  go_wp2
  go_ret
  rw [HV.out]
  exact ⟨rfl, HX.out, h2⟩
 | some t =>
  have hlx := sgn_some hsg
  have HV : Hid (quo x l = if x ∈ t then some ((t.dropWhile (fun y => y != x)).drop 1) else none) := Lib.hid (by rw [hlx]; simp [quo])
  have hkt : k < s.size ∧ t = s.data.toList.drop (k + 1) := by
   rw [hlx] at HL
   have hl := HL.out
   have : k < s.size := by
    have := congrArg List.length hl
    rw [List.length_drop, sz] at this
    simp at this; omega
   obtain ⟨c, t', hd, _, ht⟩ := cons_at this
   rw [hd] at hl
   simp only [List.cons.injEq] at hl
   exact ⟨this, by rw [ht]; exact hl.2⟩
  obtain ⟨hks, htk⟩ := hkt
  have HTK := Lib.hid htk
  rw [hsg] at HS
  clear hsg hlx htk
  have HI : Hid (∀ (S : ByteArray) (w : World), S.data.toList = t → Calls Tryz.prog 83 #[.string S, .int .u8 (x.toNat : Int)] w fun e w' => e = .returned (.int .i64 (Lib.indexByte t x)) ∧ w' = w) := Lib.hid (by
   intro S w hS
   have := Tryz.strings_IndexByte S (x.toNat : Int) w
   rw [show ((x.toNat : Int).toNat.toUInt8) = x by rw [Int.toNat_natCast]; exact UInt8.ofNat_toNat, hS] at this
   exact this)
  have HX : Hid ((s.extract (k + 1) s.size).data.toList = t) := Lib.hid (by
   rw [Lib.extract_data, HTK.out, List.take_of_length_le (by rw [List.length_drop, sz]; omega)])
  have HI2 := Lib.hid (fun w => HI.out (s.extract (k + 1) s.size) w HX.out)
  by_cases hx : x ∈ t
  ·obtain ⟨i1, i2, i3⟩ := idx_drop x t hx
   have HV2 : Hid (quo x l = some (t.drop ((Lib.indexByte t x).toNat + 1))) := Lib.hid (by rw [HV.out, if_pos hx, i2])
   have hlt : t.length = s.size - (k + 1) := by rw [HTK.out, List.length_drop, sz]
   generalize Lib.indexByte t x = z at *
   obtain ⟨n, rfl⟩ : ∃ n : Nat, z = (n : Int) := ⟨z.toNat, by omega⟩
   rw [Int.toNat_natCast] at i3 HV2
   have hn2 : k + 1 + (n + 1) ≤ s.size := by omega
   have HV3 : Hid (quo x l = some (s.data.toList.drop (k + 1 + (n + 1)))) := Lib.hid (by rw [HV2.out, HTK.out, List.drop_drop])
   clear i1 i2 i3 hx hlt HI
   go_enter Tryz.func245, Tryz.ntmps245
   go_wp2_with fail
   refine HS.out.mono ?_
   rintro e w1 ⟨rfl, h1, h2⟩
   obtain ⟨k1, hk1, hm1, hr1⟩ := h1
   obtain rfl : k1 = k + 1 := by
    have h3 : t.length = s.size - k1 := by
     have : t = s.data.toList.drop k1 := hm1
     rw [this, List.length_drop, sz]
    have h4 : t.length = s.size - (k + 1) := by rw [HTK.out, List.length_drop, sz]
    omega
   clear c1
   have c0 := hr1.c0
   have c1 := hr1.c1
   have f1 := hr1.fr 1
   have HR1 := Lib.hid hr1
   have HG1 := Lib.hid h2
   have hle : ((k + 1 : Nat) : Int) ≤ (s.size : Int) := by omega
   clear hr1 h2 hm1 HRD HS
   go_wp2_with fail
   go_big_quiet (exact Calls.quiet_of_same (HI2.out _))
   go_wp2
   go_ret
   rw [HV3.out]
   refine ⟨rfl, ⟨k + 1 + (n + 1), hn2, rfl, ?_⟩, (HG1.out.drewN nq).set _⟩
   have := (HR1.out.drewN nq).set (k + 1 + (n + 1))
   have e1 : (((k + 1 + (n + 1) : Nat)) : Int) = ((k + 1 : Nat) : Int) + ((n : Int) + 1) := by omega
   rw [e1] at this
   exact this
  ·have hneg : Lib.indexByte t x < 0 := by
    have := idx_mem t x
    have h2 : t.contains x = false := by simpa using hx
    rw [h2] at this
    have := of_decide_eq_false this.symm
    omega
   have HV2 : Hid (quo x l = none) := Lib.hid (by rw [HV.out, if_neg hx])
   generalize Lib.indexByte t x = z at *
   clear hx HI
   go_enter Tryz.func245, Tryz.ntmps245
   go_wp2_with fail
   refine HS.out.mono ?_
   rintro e w1 ⟨rfl, h1, h2⟩
   obtain ⟨k1, hk1, hm1, hr1⟩ := h1
   obtain rfl : k1 = k + 1 := by
    have h3 : t.length = s.size - k1 := by
     have : t = s.data.toList.drop k1 := hm1
     rw [this, List.length_drop, sz]
    have h4 : t.length = s.size - (k + 1) := by rw [HTK.out, List.length_drop, sz]
    omega
   clear c1
   have c0 := hr1.c0
   have c1 := hr1.c1
   have f1 := hr1.fr 1
   have HR1 := Lib.hid hr1
   have HG1 := Lib.hid h2
   have hle : ((k + 1 : Nat) : Int) ≤ (s.size : Int) := by omega
   clear hr1 h2 hm1 HRD HS
   go_wp2_with fail
   go_big_quiet (exact Calls.quiet_of_same (HI2.out _))
   go_wp2
   go_ret
   rw [HV2.out]
   exact ⟨rfl, ⟨k, hk, HL.out, (HR1.out.drewN nq).set k⟩, (HG1.out.drewN nq).set _⟩
theorem does_single : Does 242 (quo 39) := by
 refine ⟨fun _ _ => by kernel_rfl, ?_⟩
 intro W B s l hs h
 have HW := Lib.hid (quoted_any 39 W B s l hs h)
 rw [show (((39 : UInt8).toNat : Nat) : Int) = 39 from rfl] at HW
 clear h
 go_enter Tryz.func242, Tryz.ntmps242
 go_wp2_with fail
 refine HW.out.mono ?_
 rintro e w1 ⟨rfl, h1, h2⟩
 go_wp2
 go_ret
 exact ⟨rfl, h1, h2⟩
theorem does_double : Does 243 (quo 34) := by
 refine ⟨fun _ _ => by kernel_rfl, ?_⟩
 intro W B s l hs h
 have HW := Lib.hid (quoted_any 34 W B s l hs h)
 rw [show (((34 : UInt8).toNat : Nat) : Int) = 34 from rfl] at HW
 clear h
 go_enter Tryz.func243, Tryz.ntmps243
 go_wp2_with fail
 refine HW.out.mono ?_
 rintro e w1 ⟨rfl, h1, h2⟩
 go_wp2
 go_ret
 exact ⟨rfl, h1, h2⟩
theorem getD_white (l : List UInt8) : (white l).getD l = gap l := by
 cases h : white l with
 | none => exact (white_none h).symm
 | some r => exact (white_gap h).1
theorem does_gap : Does 195 (fun l => some (gap l)) := by
 refine ⟨fun _ _ => by kernel_rfl, ?_⟩
 intro W B s l hs h
 have hmf : ∀ (fn : Fn) (first cap : Array Value) (w : World), (Instr.makeFunc fn first cap).run Tryz.prog w = .ok (.func fn first cap) w := fun _ _ _ _ => rfl
 have HC := Lib.hid (maybe_any (x := (217, white)) does_whites W B s l hs h)
 unfold mv at HC
 simp only [Option.isSome_some, Option.getD_some] at HC ⊢
 clear h
 go_enter Tryz.func195, Tryz.ntmps195
 go_wp2_with fail
 refine HC.out.mono ?_
 rintro e w1 ⟨rfl, h1, h2⟩
 have HX := Lib.hid h1
 clear h1
 go_wp2
 go_ret
 exact ⟨rfl, (by have := HX.out; rw [getD_white] at this; exact this), h2⟩
theorem does_slashOrNot : Does 196 (fun l => some (slashOr l)) := by
 refine ⟨fun _ _ => by kernel_rfl, ?_⟩
 intro W B s l hs h
 have hmf : ∀ (fn : Fn) (first cap : Array Value) (w : World), (Instr.makeFunc fn first cap).run Tryz.prog w = .ok (.func fn first cap) w := fun _ _ _ _ => rfl
 have HC := Lib.hid (maybe_any (x := (198, (sgn 47))) does_slash W B s l hs h)
 unfold mv at HC
 simp only [Option.isSome_some, Option.getD_some] at HC ⊢
 clear h
 go_enter Tryz.func196, Tryz.ntmps196
 go_wp2_with fail
 refine HC.out.mono ?_
 rintro e w1 ⟨rfl, h1, h2⟩
 have HX := Lib.hid h1
 clear h1
 go_wp2
 go_ret
 exact ⟨rfl, HX.out, h2⟩
theorem value_eq (l : List UInt8) : value l = (match bare l with | some r => some r | none => match quo 39 l with | some r => some r | none => match quo 34 l with | some r => some r | none => none) := by
 unfold value
 cases bare l with
 | some r => rfl
 | none => cases quo 39 l with
  | some r => rfl
  | none => cases quo 34 l <;> rfl
def parts_value : List Part := [(241, bare), (242, (quo 39)), (243, (quo 34))]
theorem doesAll_value : DoesAll parts_value := by
 intro x hx
 simp only [parts_value, List.mem_cons, List.mem_nil_iff, or_false] at hx
 rcases hx with rfl | rfl | rfl
 ·exact does_bare
 ·exact does_single
 ·exact does_double
theorem eq_value (l : List UInt8) : firstP parts_value l = value l := (value_eq l).symm
set_option maxHeartbeats 1000000 in
theorem does_value : Does 240 value := by
 refine ⟨fun _ _ => by kernel_rfl, ?_⟩
 intro W B s l hs h
 have hmf : ∀ (fn : Fn) (first cap : Array Value) (w : World), (Instr.makeFunc fn first cap).run Tryz.prog w = .ok (.func fn first cap) w := fun _ _ _ _ => rfl
 have hlt := h.lt
 have HRD := Lib.hid h
 rw [← eq_value]
 clear h
 go_enter Tryz.func240, Tryz.ntmps240
 go_wp2_with fail
 refine (first_any doesAll_value (by decide) _ B W.heap.size s l hs (HRD.out.alloc _) ⟨_, new_block _ _⟩ (by omega)).mono ?_
 rintro e w1 ⟨rfl, h1, h2⟩
 go_wp2
 go_ret
 exact ⟨rfl, h1, ((Gr.refl B W).alloc _).trans h2⟩
def parts_worth : List Part := [(195, (fun l => some (gap l))), (239, (sgn 61)), (195, (fun l => some (gap l))), (240, value)]
theorem doesAll_worth : DoesAll parts_worth := by
 intro x hx
 simp only [parts_worth, List.mem_cons, List.mem_nil_iff, or_false] at hx
 rcases hx with rfl | rfl | rfl | rfl
 ·exact does_gap
 ·exact does_equals
 ·exact does_gap
 ·exact does_value
theorem eq_worth (l : List UInt8) : allP parts_worth l = worth l := by
 show ((some (gap l)).bind _) = worth l
 unfold worth
 simp only [Option.bind_some, parts_worth, allP]
 cases sgn 61 (gap l) with
 | none => rfl
 | some t =>
  simp only [Option.bind_some]
  cases value (gap t) <;> rfl
set_option maxHeartbeats 1000000 in
theorem does_worth : Does 236 worth := by
 refine ⟨fun _ _ => by kernel_rfl, ?_⟩
 intro W B s l hs h
 have hmf : ∀ (fn : Fn) (first cap : Array Value) (w : World), (Instr.makeFunc fn first cap).run Tryz.prog w = .ok (.func fn first cap) w := fun _ _ _ _ => rfl
 have hlt := h.lt
 have HRD := Lib.hid h
 rw [← eq_worth]
 clear h
 go_enter Tryz.func236, Tryz.ntmps236
 go_wp2_with fail
 refine (all_any doesAll_worth (by decide) _ B W.heap.size s l hs (HRD.out.alloc _) ⟨_, new_block _ _⟩ (by omega)).mono ?_
 rintro e w1 ⟨rfl, h1, h2⟩
 go_wp2
 go_ret
 exact ⟨rfl, h1, ((Gr.refl B W).alloc _).trans h2⟩
theorem does_worthOrNot : Does 229 (fun l => some ((worth l).getD l)) := by
 refine ⟨fun _ _ => by kernel_rfl, ?_⟩
 intro W B s l hs h
 have hmf : ∀ (fn : Fn) (first cap : Array Value) (w : World), (Instr.makeFunc fn first cap).run Tryz.prog w = .ok (.func fn first cap) w := fun _ _ _ _ => rfl
 have HC := Lib.hid (maybe_any (x := (236, worth)) does_worth W B s l hs h)
 unfold mv at HC
 simp only [Option.isSome_some, Option.getD_some] at HC ⊢
 clear h
 go_enter Tryz.func229, Tryz.ntmps229
 go_wp2_with fail
 refine HC.out.mono ?_
 rintro e w1 ⟨rfl, h1, h2⟩
 have HX := Lib.hid h1
 clear h1
 go_wp2
 go_ret
 exact ⟨rfl, HX.out, h2⟩
def parts_attribute : List Part := [(217, white), (228, key), (229, (fun l => some ((worth l).getD l)))]
theorem doesAll_attribute : DoesAll parts_attribute := by
 intro x hx
 simp only [parts_attribute, List.mem_cons, List.mem_nil_iff, or_false] at hx
 rcases hx with rfl | rfl | rfl
 ·exact does_whites
 ·exact does_key
 ·exact does_worthOrNot
theorem eq_attribute (l : List UInt8) : allP parts_attribute l = attr l := by
 unfold attr
 simp only [parts_attribute, allP]
 cases white l with
 | none => rfl
 | some t =>
  simp only [Option.bind_some]
set_option maxHeartbeats 1000000 in
theorem does_attribute : Does 215 attr := by
 refine ⟨fun _ _ => by kernel_rfl, ?_⟩
 intro W B s l hs h
 have hmf : ∀ (fn : Fn) (first cap : Array Value) (w : World), (Instr.makeFunc fn first cap).run Tryz.prog w = .ok (.func fn first cap) w := fun _ _ _ _ => rfl
 have hlt := h.lt
 have HRD := Lib.hid h
 rw [← eq_attribute]
 clear h
 go_enter Tryz.func215, Tryz.ntmps215
 go_wp2_with fail
 refine (all_any doesAll_attribute (by decide) _ B W.heap.size s l hs (HRD.out.alloc _) ⟨_, new_block _ _⟩ (by omega)).mono ?_
 rintro e w1 ⟨rfl, h1, h2⟩
 go_wp2
 go_ret
 exact ⟨rfl, h1, ((Gr.refl B W).alloc _).trans h2⟩
theorem attr_len {l r : List UInt8} (h : attr l = some r) : r.length < l.length := by
 rcases attr_cases l with ⟨h1, _⟩ | ⟨r2, h1, h2⟩ | ⟨r2, h1, _, hl, _⟩
 ·rw [h1] at h; cases h
 ·rw [h1] at h; cases h
  exact (refA_some h2).2 r rfl
 ·rw [h1] at h; cases h
  exact hl
theorem often_attrs : ∀ (n : Nat) (l : List UInt8), oftenP attr n l = attrs n l
 | 0, l => rfl
 | n + 1, l => by
  simp only [oftenP, attrs]
  cases attr l with
  | none => rfl
  | some r => exact often_attrs n r
theorem does_attributes : Does 194 (fun l => some (attrs l.length l)) := by
 refine ⟨fun _ _ => by kernel_rfl, ?_⟩
 intro W B s l hs h
 have hmf : ∀ (fn : Fn) (first cap : Array Value) (w : World), (Instr.makeFunc fn first cap).run Tryz.prog w = .ok (.func fn first cap) w := fun _ _ _ _ => rfl
 have HC := Lib.hid (often_any (x := (215, attr)) does_attribute (fun _ _ h => attr_len h) W B s l hs h)
 unfold mv at HC
 simp only [Option.isSome_some, Option.getD_some] at HC ⊢
 clear h
 go_enter Tryz.func194, Tryz.ntmps194
 go_wp2_with fail
 refine HC.out.mono ?_
 rintro e w1 ⟨rfl, h1, h2⟩
 have HX := Lib.hid h1
 clear h1
 go_wp2
 go_ret
 exact ⟨rfl, (by have := HX.out; rw [often_attrs] at this; exact this), h2⟩
def parts_open : List Part := [(193, (sgn 60)), (164, name), (194, (fun l => some (attrs l.length l))), (195, (fun l => some (gap l))), (196, (fun l => some (slashOr l))), (197, (sgn 62))]
theorem doesAll_open : DoesAll parts_open := by
 intro x hx
 simp only [parts_open, List.mem_cons, List.mem_nil_iff, or_false] at hx
 rcases hx with rfl | rfl | rfl | rfl | rfl | rfl
 ·exact does_less
 ·exact does_name
 ·exact does_attributes
 ·exact does_gap
 ·exact does_slashOrNot
 ·exact does_greater
theorem eq_open (l : List UInt8) : allP parts_open l = openP l := by
 unfold openP tailP
 simp only [parts_open, allP]
 cases sgn 60 l with
 | none => rfl
 | some a =>
  simp only [Option.bind_some]
  cases name a with
  | none => rfl
  | some b =>
   simp only [Option.bind_some]
   cases sgn 62 (slashOr (gap (attrs b.length b))) <;> rfl
set_option maxHeartbeats 1000000 in
theorem does_open : Does 173 openP := by
 refine ⟨fun _ _ => by kernel_rfl, ?_⟩
 intro W B s l hs h
 have hmf : ∀ (fn : Fn) (first cap : Array Value) (w : World), (Instr.makeFunc fn first cap).run Tryz.prog w = .ok (.func fn first cap) w := fun _ _ _ _ => rfl
 have hlt := h.lt
 have HRD := Lib.hid h
 rw [← eq_open]
 clear h
 go_enter Tryz.func173, Tryz.ntmps173
 go_wp2_with fail
 refine (all_any doesAll_open (by decide) _ B W.heap.size s l hs (HRD.out.alloc _) ⟨_, new_block _ _⟩ (by omega)).mono ?_
 rintro e w1 ⟨rfl, h1, h2⟩
 go_wp2
 go_ret
 exact ⟨rfl, h1, ((Gr.refl B W).alloc _).trans h2⟩
def parts_closing : List Part := [(193, (sgn 60)), (198, (sgn 47)), (164, name), (195, (fun l => some (gap l))), (197, (sgn 62))]
theorem doesAll_closing : DoesAll parts_closing := by
 intro x hx
 simp only [parts_closing, List.mem_cons, List.mem_nil_iff, or_false] at hx
 rcases hx with rfl | rfl | rfl | rfl | rfl
 ·exact does_less
 ·exact does_slash
 ·exact does_name
 ·exact does_gap
 ·exact does_greater
theorem eq_closing (l : List UInt8) : allP parts_closing l = closeP l := by
 unfold closeP
 simp only [parts_closing, allP]
 cases sgn 60 l with
 | none => rfl
 | some a =>
  simp only [Option.bind_some]
  cases sgn 47 a with
  | none => rfl
  | some b =>
   simp only [Option.bind_some]
   cases name b with
   | none => rfl
   | some c =>
    simp only [Option.bind_some]
    cases sgn 62 (gap c) <;> rfl
set_option maxHeartbeats 1000000 in
theorem does_closing : Does 174 closeP := by
 refine ⟨fun _ _ => by kernel_rfl, ?_⟩
 intro W B s l hs h
 have hmf : ∀ (fn : Fn) (first cap : Array Value) (w : World), (Instr.makeFunc fn first cap).run Tryz.prog w = .ok (.func fn first cap) w := fun _ _ _ _ => rfl
 have hlt := h.lt
 have HRD := Lib.hid h
 rw [← eq_closing]
 clear h
 go_enter Tryz.func174, Tryz.ntmps174
 go_wp2_with fail
 refine (all_any doesAll_closing (by decide) _ B W.heap.size s l hs (HRD.out.alloc _) ⟨_, new_block _ _⟩ (by omega)).mono ?_
 rintro e w1 ⟨rfl, h1, h2⟩
 go_wp2
 go_ret
 exact ⟨rfl, h1, ((Gr.refl B W).alloc _).trans h2⟩
def parts_tag : List Part := [(173, openP), (174, closeP)]
theorem doesAll_tag : DoesAll parts_tag := by
 intro x hx
 simp only [parts_tag, List.mem_cons, List.mem_nil_iff, or_false] at hx
 rcases hx with rfl | rfl
 ·exact does_open
 ·exact does_closing
theorem eq_tag (l : List UInt8) : firstP parts_tag l = tagO l := by
 unfold tagO
 simp only [parts_tag, firstP]
 cases openP l with
 | some r => rfl
 | none => cases closeP l <;> rfl
set_option maxHeartbeats 1000000 in
theorem tag_any (s : ByteArray) (w : World) (hs : s.size ≤ 1000000) :
  Calls Tryz.prog 157 #[.string s] w fun e w' => e = .returned (.int .i64 (tagN s.data.toList : Nat)) ∧ Below w.heap.size w w' := by
 have hmf : ∀ (fn : Fn) (first cap : Array Value) (w : World), (Instr.makeFunc fn first cap).run Tryz.prog w = .ok (.func fn first cap) w := fun _ _ _ _ => rfl
 have HN : Hid (tagN s.data.toList = s.size - ((tagO s.data.toList).getD s.data.toList).length) := Lib.hid (by
  unfold tagN
  cases tagO s.data.toList with
  | none => simp only [Option.getD_none]; rw [sz]; omega
  | some r => simp only [Option.getD_some]; rw [sz])
 go_enter Tryz.func157, Tryz.ntmps157
 go_wp2_with fail
 have hRK : Hid (RK (w.alloc (.cells #[.string s, .int .i64 0] 159)) w.heap.size s 0) := Lib.hid (new_block _ _)
 have hz1 := alloc_size w (.cells #[.string s, .int .i64 0] 159)
 have hPB : Hid (∀ o, (w.alloc (.cells #[.string s, .int .i64 0] 159) |>.alloc o).heap[w.heap.size + 1]? = some o) := Lib.hid (fun o => by rw [← hz1]; exact new_block _ _)
 refine (first_any doesAll_tag (by decide) _ w.heap.size (w.heap.size + 1) s s.data.toList hs (RD.alloc ⟨0, Nat.zero_le _, rfl, hRK.out⟩ _) ⟨_, hPB.out _⟩ (by omega)).mono ?_
 rintro e w1 ⟨rfl, h1, h2⟩
 rw [eq_tag] at h1
 obtain ⟨k, hk, hl, hr⟩ := h1
 have c1 := hr.c1
 have HK : Hid (tagN s.data.toList = k) := Lib.hid (by
  rw [HN.out, hl, List.length_drop, sz]; omega)
 have HB : Hid (Below w.heap.size w w1) := Lib.hid ((((Below.refl _ w).alloc (Nat.le_refl _) _).alloc (by rw [hz1]; omega) _).trans (h2.below (Nat.le_refl _) (by rw [alloc_size, hz1]; omega)))
 clear hl hr h2
 go_wp2
 go_ret
 rw [HK.out]
 exact ⟨rfl, HB.out⟩
end Sc
end Go.Proofs.YtkiipaaaakhhfaaGreatDoor
end
section
namespace Go.Proofs.YtkiipaaaakhhfaaGreatDoor
open Go Go.RowKit
namespace Sc
set_option maxRecDepth 100000
set_option linter.unusedVariables false
set_option linter.unusedSimpArgs false
theorem ba_eq {S : ByteArray} {l : List UInt8} (h : S.data.toList = l) : S = ⟨l.toArray⟩ := by
 subst h
 cases S; simp
theorem ba_self (S : ByteArray) : (⟨S.data.toList.toArray⟩ : ByteArray) = S := (ba_eq rfl).symm
theorem ext_rest (s : ByteArray) (a : Nat) : (s.extract a s.size).data.toList = s.data.toList.drop a := by
 rw [Lib.extract_data, List.take_of_length_le]
 rw [List.length_drop, sz]
 omega
theorem ext_to (s : ByteArray) (a : Nat) : (s.extract 0 a).data.toList = s.data.toList.take a := by
 rw [Lib.extract_data, List.drop_zero]; rfl
theorem toList_eq (a : ByteArray) : a.toList = a.data.toList := Go.ByteArray.toList_eq a
theorem emp_false {S : ByteArray} (h : 0 < S.size) : S.toList.isEmpty = false := by
 rw [toList_eq]
 cases hl : S.data.toList with
 | nil => have := congrArg List.length hl; rw [sz, List.length_nil] at this; omega
 | cons _ _ => rfl
theorem ret_str {a b : ByteArray} (h : a = b) : Ending.returned (.string a) = .returned (.string b) := by rw [h]
theorem nil_of {S : ByteArray} (h : ¬ 0 < S.size) : S.data.toList = [] := List.length_eq_zero_iff.1 (by rw [sz]; omega)
theorem cons_of {S : ByteArray} (h : 0 < S.size) : ∃ c t, S.data.toList = c :: t ∧ S[0] = c ∧ (S.extract 1 S.size).data.toList = t ∧ (S.extract 1 S.size).size = S.size - 1 := by
 obtain ⟨c, t, hd, hck, ht⟩ := cons_at h
 refine ⟨c, t, by simpa using hd, hck, by rw [ext_rest]; exact ht, by simp⟩
def nameS (l : List UInt8) : List UInt8 × List UInt8 := match name l with
 | some r => (l.take (l.length - r.length), r)
 | none => ([], l)
end Sc
end Go.Proofs.YtkiipaaaakhhfaaGreatDoor
end
section
namespace Go.Proofs.YtkiipaaaakhhfaaGreatDoor
open Go Go.RowKit
namespace Sc
set_option maxRecDepth 100000
set_option linter.unusedVariables false
set_option linter.unusedSimpArgs false
theorem emp_true {S : ByteArray} (h : S.data.toList = []) : S.toList.isEmpty = true := by rw [toList_eq, h]; rfl
end Sc
end Go.Proofs.YtkiipaaaakhhfaaGreatDoor
end
section
namespace Go.Proofs.YtkiipaaaakhhfaaGreatDoor
open Go Go.RowKit
namespace Sc
set_option maxRecDepth 100000
set_option linter.unusedVariables false
set_option linter.unusedSimpArgs false
theorem ba_mk (l : List UInt8) : ∃ S : ByteArray, l = S.data.toList := ⟨⟨l.toArray⟩, by simp⟩
end Sc
end Go.Proofs.YtkiipaaaakhhfaaGreatDoor
end
section
namespace Go.Proofs.YtkiipaaaakhhfaaGreatDoor
open Go Go.RowKit
namespace Sc
set_option maxRecDepth 100000
set_option linter.unusedVariables false
set_option linter.unusedSimpArgs false
theorem clone_any (s : ByteArray) (w : World) (hs : s.size ≤ 281474976710656) :
  Calls Tryz.prog 31 #[.string s] w fun e w' => e = .returned (.string s) ∧ Below w.heap.size w w' := by
 go_enter Tryz.func31, Tryz.ntmps31
 go_wp2_with (go_at_call 50; refine (Tryz.stringslite_Clone s w hs).mono ?_; rintro e w1 ⟨rfl, hb⟩)
 go_ret
 exact ⟨rfl, hb⟩
theorem ascii_cut (cs : List UInt8) (h : cs.all (fun c => decide (c.toNat < 128)) = true) : ∀ (j : Nat) b, cs[j]? = some b → b.toNat < 128 := by
 intro j b hb
 have := List.all_eq_true.1 h b (List.mem_of_getElem? hb)
 simpa using this
theorem trim_any (s : ByteArray) (w : World) (hs : s.size ≤ 1000000) :
  Calls Tryz.prog 129 #[.string s, .string ⟨#[32, 9]⟩] w fun e w' => e = .returned (.string ⟨(trimB s.data.toList).toArray⟩) ∧ Below w.heap.size w w' := by
 have := Tryz.strings_Trim_ascii s ⟨#[32, 9]⟩ w (by omega) (by decide) (ascii_cut [32, 9] (by decide))
 rw [lib_trimB] at this
 exact this
theorem trimr_any (s : ByteArray) (w : World) (hs : s.size ≤ 1000000) :
  Calls Tryz.prog 53 #[.string s, .string ⟨#[32, 9]⟩] w fun e w' => e = .returned (.string ⟨(trimR s.data.toList).toArray⟩) ∧ Below w.heap.size w w' := by
 have := Tryz.strings_TrimRight_ascii s ⟨#[32, 9]⟩ w (by omega) (by decide) (ascii_cut [32, 9] (by decide))
 rw [lib_trimR] at this
 exact this
theorem run_any (s : ByteArray) (c : UInt8) (w : World) (hs : s.size ≤ 1000000) :
  Calls Tryz.prog 123 #[.string s, .int .u8 (c.toNat : Int)] w fun e w' => e = .returned (.int .i64 (runN c s.data.toList : Nat)) ∧ w = w' := by
 go_enter Tryz.func123, Tryz.ntmps123
 go_wp2_with fail
 go_loopg [5] s.size (fun G v5 wr => ∃ m : Nat, m + G = s.size ∧ v5 = .int .i64 (m : Int) ∧ w = wr ∧ Hid (runN c s.data.toList = m + runN c (s.data.toList.drop m)))
 case atStart => exact ⟨0, by omega, rfl, rfl, Lib.hid (by simp)⟩
 case round =>
  obtain ⟨m, hm, rfl, rfl, HR⟩ := hrel
  by_cases hlt : m < s.size
  ·obtain ⟨x, t, hd, hck, ht⟩ := cons_at hlt
   have hlt' : (m : Int) < (s.size : Int) := by omega
   by_cases hx : x = c
   ·have he : ((x.toNat : Int) == (c.toNat : Int)) = true := by rw [hx]; simp
    have HY : Hid (runN c s.data.toList = (m + 1) + runN c (s.data.toList.drop (m + 1))) := Lib.hid (by rw [HR.out, hd, ht, hx, runN_hit]; omega)
    clear hd ht hx
    go_wp2
    go_roundg (gk - 1)
    case rel => exact ⟨m + 1, by omega, by go_num, rfl, HY⟩
    case measure => omega
   ·have he : ((x.toNat : Int) == (c.toNat : Int)) = false := by
     rw [beq_eq_false_iff_ne]; intro e; exact hx (UInt8.toNat_inj.1 (Int.ofNat.inj e))
    have HN : Hid (runN c s.data.toList = m) := Lib.hid (by rw [HR.out, hd, runN_miss t hx]; rfl)
    clear hd ht hx
    go_wp2
    go_ret
    rw [HN.out]
    exact ⟨rfl, rfl⟩
  ·have hlt' : ¬ (m : Int) < (s.size : Int) := by omega
   have HN : Hid (runN c s.data.toList = m) := Lib.hid (by rw [HR.out, drop_all (by omega), runN_nil]; rfl)
   go_wp2
   go_ret
   rw [HN.out]
   exact ⟨rfl, rfl⟩
theorem atEnd_any (s : ByteArray) (w : World) :
  Calls Tryz.prog 127 #[.string s] w fun e w' => e = .returned (.bool (atE s.data.toList)) ∧ w = w' := by
 by_cases h0 : 0 < s.size
 ·obtain ⟨c, t, hd, hck, ht, hsz⟩ := cons_of h0
  have he := emp_false h0
  have hs0 : (0 : Int) < (s.size : Int) := by omega
  have HV : Hid (atE s.data.toList = blk c) := Lib.hid (by rw [hd]; rfl)
  have HB := Lib.hid (does_blank.2 c w)
  clear hd ht hsz
  go_enter Tryz.func127, Tryz.ntmps127
  go_wp2_with (first | (go_at_call 137; refine HB.out.mono ?_; rintro e w1 ⟨rfl, rfl⟩))
  go_ret
  exact ⟨ret_bool' HV.out.symm, rfl⟩
 ·have hn := nil_of h0
  have he := emp_true hn
  have HV : Hid (atE s.data.toList = true) := Lib.hid (by rw [hn]; rfl)
  clear hn
  go_enter Tryz.func127, Tryz.ntmps127
  go_wp2
  go_ret
  exact ⟨ret_bool' HV.out.symm, rfl⟩
theorem only_any (s : ByteArray) (w : World) (hs : s.size ≤ 1000000) :
  Calls Tryz.prog 124 #[.string s] w fun e w' => e = .returned (.bool (s.data.toList.all blk)) ∧ Below w.heap.size w w' := by
 obtain ⟨T, hT⟩ := ba_mk (trimB s.data.toList)
 have HT := Lib.hid (trim_any s w hs)
 rw [hT, ba_self] at HT
 have HE : Hid (T.toList.isEmpty = s.data.toList.all blk) := Lib.hid (by rw [toList_eq, ← hT, trim_empty])
 clear hT
 go_enter Tryz.func124, Tryz.ntmps124
 go_wp2_with (first | (go_at_call 129; refine HT.out.mono ?_; rintro e w1 ⟨rfl, hb⟩))
 go_ret
 exact ⟨ret_bool' HE.out, hb⟩
theorem last_of {S : ByteArray} (h : 0 < S.size) : ∃ M c t, S.size = M + 1 ∧ S.data.toList = t ++ [c] ∧ (∃ h2 : M < S.size, S[M] = c) ∧ (S.extract 0 M).data.toList = t ∧ (S.extract 0 M).size = M := by
 obtain ⟨M, hM⟩ : ∃ M, S.size = M + 1 := ⟨S.size - 1, by omega⟩
 have hlt : M < S.size := by omega
 obtain ⟨c, t, hd, hck, ht⟩ := cons_at hlt
 have ht2 : t = [] := by
  rw [← ht]; exact drop_all (by omega)
 subst ht2
 refine ⟨M, c, S.data.toList.take M, hM, ?_, ⟨hlt, hck⟩, ext_to S _, by simp; omega⟩
 rw [← hd, List.take_append_drop]
end Sc
end Go.Proofs.YtkiipaaaakhhfaaGreatDoor
end
section
namespace Go.Proofs.YtkiipaaaakhhfaaGreatDoor
open Go Go.RowKit
namespace Sc
set_option maxRecDepth 100000
set_option linter.unusedVariables false
set_option linter.unusedSimpArgs false
theorem ext_size (s : ByteArray) (k : Nat) : (s.extract k s.size).size = s.size - k := by simp
theorem closes_any (s : ByteArray) (c : UInt8) (n : Int) (w : World) (hs : s.size ≤ 1000000) :
  Calls Tryz.prog 94 #[.string s, .int .u8 (c.toNat : Int), .int .i64 n] w fun e w' => e = .returned (.bool (closesP s.data.toList c n)) ∧ Below w.heap.size w w' := by
 obtain ⟨K, hK⟩ : ∃ K, runN c s.data.toList = K := ⟨_, rfl⟩
 have hks : K ≤ s.size := by rw [← hK, ← sz]; exact runN_le _ _
 have HR := Lib.hid (run_any s c w hs)
 rw [hK] at HR
 have hks' : (K : Int) ≤ (s.size : Int) := by omega
 have HO := Lib.hid (only_any (s.extract K s.size) w (by rw [ext_size]; omega))
 rw [ext_rest] at HO
 have HV : Hid (closesP s.data.toList c n = (decide (max n 1 ≤ (K : Int)) && (s.data.toList.drop K).all blk)) := Lib.hid (by unfold closesP; rw [hK])
 clear hK
 generalize (s.data.toList.drop K).all blk = b at *
 by_cases hm : max n 1 ≤ (K : Int)
 ·have HD := Lib.hid (decide_eq_true hm)
  go_enter Tryz.func94, Tryz.ntmps94
  go_wp2_with (first | (go_at_call 123; refine HR.out.mono ?_; rintro e w1 ⟨rfl, rfl⟩) | (go_at_call 124; refine HO.out.mono ?_; rintro e w1 ⟨rfl, hb⟩))
  go_ret
  exact ⟨ret_bool' (by rw [HV.out, HD.out, Bool.true_and]), hb⟩
 ·have hm2 : (K : Int) < max n 1 := by omega
  have HD := Lib.hid (decide_eq_false hm)
  go_enter Tryz.func94, Tryz.ntmps94
  go_wp2_with (first | (go_at_call 123; refine HR.out.mono ?_; rintro e w1 ⟨rfl, rfl⟩) | (go_at_call 124; refine HO.out.mono ?_; rintro e w1 ⟨rfl, hb⟩))
  go_ret
  exact ⟨ret_bool' (by rw [HV.out, HD.out, Bool.false_and]), Below.refl _ _⟩
theorem setext_any (s : ByteArray) (w : World) (hs : s.size ≤ 1000000) :
  Calls Tryz.prog 104 #[.string s] w fun e w' => e = .returned (.int .i64 (setP s.data.toList : Nat)) ∧ Below w.heap.size w w' := by
 have H1 := Lib.hid (fun w => closes_any s 61 1 w hs)
 have H2 := Lib.hid (fun w => closes_any s 45 1 w hs)
 rw [show (((61 : UInt8).toNat : Nat) : Int) = 61 from rfl] at H1
 rw [show (((45 : UInt8).toNat : Nat) : Int) = 45 from rfl] at H2
 have HV : Hid (setP s.data.toList = if closesP s.data.toList 61 1 = true then 1 else if closesP s.data.toList 45 1 = true then 2 else 0) := Lib.hid rfl
 generalize closesP s.data.toList 61 1 = a at *
 generalize closesP s.data.toList 45 1 = b at *
 cases a with
 | true =>
  go_enter Tryz.func104, Tryz.ntmps104
  go_wp2_with fail
  refine (H1.out _).mono ?_
  rintro e w1 ⟨rfl, hb⟩
  go_wp2
  go_ret
  rw [HV.out]
  exact ⟨rfl, hb⟩
 | false =>
 cases b with
 | true =>
  go_enter Tryz.func104, Tryz.ntmps104
  go_wp2_with fail
  refine (H1.out _).mono ?_
  rintro e w1 ⟨rfl, hb⟩
  go_wp2_with fail
  refine (H2.out _).mono ?_
  rintro e w2 ⟨rfl, hb2⟩
  go_wp2
  go_ret
  rw [HV.out]
  exact ⟨rfl, hb.trans (hb2.mono hb.size)⟩
 | false =>
  go_enter Tryz.func104, Tryz.ntmps104
  go_wp2_with fail
  refine (H1.out _).mono ?_
  rintro e w1 ⟨rfl, hb⟩
  go_wp2_with fail
  refine (H2.out _).mono ?_
  rintro e w2 ⟨rfl, hb2⟩
  go_wp2
  go_ret
  rw [HV.out]
  exact ⟨rfl, hb.trans (hb2.mono hb.size)⟩
end Sc
end Go.Proofs.YtkiipaaaakhhfaaGreatDoor
end
section
namespace Go.Proofs.YtkiipaaaakhhfaaGreatDoor
open Go Go.RowKit
namespace Sc
set_option maxRecDepth 100000
set_option linter.unusedVariables false
set_option linter.unusedSimpArgs false
theorem idx_any (cs : ByteArray) (c : UInt8) (w : World) :
  Calls Tryz.prog 83 #[.string cs, .int .u8 (c.toNat : Int)] w fun e w' => e = .returned (.int .i64 (Lib.indexByte cs.data.toList c)) ∧ w = w' := by
 have := Tryz.strings_IndexByte cs (c.toNat : Int) w
 rw [show ((c.toNat : Int).toNat.toUInt8) = c by rw [Int.toNat_natCast]; exact UInt8.ofNat_toNat] at this
 exact this.mono fun _ _ ⟨a, b⟩ => ⟨a, b.symm⟩
theorem bullet_any (s : ByteArray) (w : World) (hs : s.size ≤ 1000000) :
  Calls Tryz.prog 138 #[.string s] w fun e w' => e = .returned (.int .i64 (bulP s.data.toList : Nat)) ∧ w = w' := by
 by_cases h0 : 0 < s.size
 ·obtain ⟨c, t, hd, hck, ht, hsz⟩ := cons_of h0
  have he := emp_false h0
  have hs0 : (0 : Int) < (s.size : Int) := by omega
  have hs1 : (1 : Int) ≤ (s.size : Int) := by omega
  have HI := Lib.hid (idx_any ⟨#[45, 43, 42]⟩ c w)
  have HA := Lib.hid (atEnd_any (s.extract 1 s.size) w)
  rw [ht] at HA
  have HC : Hid (([45, 43, 42] : List UInt8).contains c = decide (0 ≤ Lib.indexByte [45, 43, 42] c)) := Lib.hid (idx_mem _ _)
  have HV : Hid (bulP s.data.toList = if ([45, 43, 42] : List UInt8).contains c = true ∧ atE t = true then 1 else 0) := Lib.hid (by rw [hd]; rfl)
  clear hd ht hsz
  rw [show (⟨#[45, 43, 42]⟩ : ByteArray).data.toList = [45, 43, 42] from rfl] at HI
  generalize Lib.indexByte [45, 43, 42] c = z at *
  generalize atE t = a at *
  by_cases hz : 0 ≤ z
  ·have HC2 : Hid (([45, 43, 42] : List UInt8).contains c = true) := Lib.hid (by rw [HC.out, decide_eq_true hz])
   have hz2 : ¬ z < 0 := by omega
   cases a with
   | true =>
    go_enter Tryz.func138, Tryz.ntmps138
    go_wp2_with (first | (go_at_call 83; refine HI.out.mono ?_; rintro e w1 ⟨rfl, rfl⟩) | (go_at_call 127; refine HA.out.mono ?_; rintro e w1 ⟨rfl, rfl⟩))
    go_ret
    have h1 := HV.out
    rw [HC2.out] at h1
    rw [h1]
    exact ⟨rfl, rfl⟩
   | false =>
    go_enter Tryz.func138, Tryz.ntmps138
    go_wp2_with (first | (go_at_call 83; refine HI.out.mono ?_; rintro e w1 ⟨rfl, rfl⟩) | (go_at_call 127; refine HA.out.mono ?_; rintro e w1 ⟨rfl, rfl⟩))
    go_ret
    rw [HV.out, if_neg (by simp)]
    exact ⟨rfl, rfl⟩
  ·have HC2 : Hid (([45, 43, 42] : List UInt8).contains c = false) := Lib.hid (by rw [HC.out, decide_eq_false hz])
   have hz2 : z < 0 := by omega
   clear hz
   go_enter Tryz.func138, Tryz.ntmps138
   go_wp2_with (first | (go_at_call 83; refine HI.out.mono ?_; rintro e w1 ⟨rfl, rfl⟩) | (go_at_call 127; refine HA.out.mono ?_; rintro e w1 ⟨rfl, rfl⟩))
   go_ret
   rw [HV.out, if_neg (by rw [HC2.out]; simp)]
   exact ⟨rfl, rfl⟩
 ·have hn := nil_of h0
  have he := emp_true hn
  have HV : Hid (bulP s.data.toList = 0) := Lib.hid (by rw [hn]; rfl)
  clear hn
  go_enter Tryz.func138, Tryz.ntmps138
  go_wp2
  go_ret
  rw [HV.out]
  exact ⟨rfl, rfl⟩
def ruleT (c : UInt8) (d : List UInt8) (n : Nat) : Bool := d.all (fun x => x == c || blk x) && decide (3 ≤ n + d.count c)
theorem ruleT_nil (c : UInt8) (n : Nat) : ruleT c [] n = decide (3 ≤ n) := by
 show (true && decide (3 ≤ n + List.count c [])) = decide (3 ≤ n)
 rw [Bool.true_and]
 exact decide_eq_decide.2 (by rw [List.count_nil]; omega)
theorem ruleT_hit (c : UInt8) (d : List UInt8) (n : Nat) : ruleT c (c :: d) n = ruleT c d (n + 1) := by
 unfold ruleT
 rw [List.count_cons_self, show n + (d.count c + 1) = n + 1 + d.count c by omega]
 simp
theorem ruleT_blk {c x : UInt8} (d : List UInt8) (n : Nat) (h : x ≠ c) (hb : blk x = true) : ruleT c (x :: d) n = ruleT c d n := by
 unfold ruleT
 rw [List.count_cons_of_ne h]
 simp [hb]
theorem ruleT_no {c x : UInt8} (d : List UInt8) (n : Nat) (h : x ≠ c) (hb : blk x = false) : ruleT c (x :: d) n = false := by
 have : (x == c) = false := by simpa using h
 simp [ruleT, hb, this]
theorem ruleP_cons (c : UInt8) (t : List UInt8) : ruleP (c :: t) = (([42, 45, 95] : List UInt8).contains c && ruleT c (c :: t) 0) := by
 unfold ruleP ruleT
 simp only [Nat.zero_add]
 rw [Bool.and_assoc]
set_option maxHeartbeats 4000000 in
theorem rule_any (s : ByteArray) (w : World) (hs : s.size ≤ 1000000) :
  Calls Tryz.prog 106 #[.string s] w fun e w' => e = .returned (.bool (ruleP s.data.toList)) ∧ Below w.heap.size w w' := by
 by_cases h0 : 0 < s.size
 ·obtain ⟨c, t, hd, hck, ht, hsz⟩ := cons_of h0
  have he := emp_false h0
  have hs0 : (0 : Int) < (s.size : Int) := by omega
  have HI := Lib.hid (idx_any ⟨#[42, 45, 95]⟩ c w)
  have HC : Hid (([42, 45, 95] : List UInt8).contains c = decide (0 ≤ Lib.indexByte [42, 45, 95] c)) := Lib.hid (idx_mem _ _)
  have HV0 : Hid (ruleP s.data.toList = (([42, 45, 95] : List UInt8).contains c && ruleT c (s.data.toList.drop 0) 0)) := Lib.hid (by rw [List.drop_zero, hd]; exact ruleP_cons c t)
  clear hd ht hsz
  rw [show (⟨#[42, 45, 95]⟩ : ByteArray).data.toList = [42, 45, 95] from rfl] at HI
  generalize Lib.indexByte [42, 45, 95] c = z at *
  by_cases hz : 0 ≤ z
  ·have HV : Hid (ruleP s.data.toList = ruleT c (s.data.toList.drop 0) 0) := Lib.hid (by rw [HV0.out, HC.out, decide_eq_true hz, Bool.true_and])
   have hz2 : ¬ z < 0 := by omega
   go_enter Tryz.func106, Tryz.ntmps106
   go_wp2_with (first | (go_at_call 83; refine HI.out.mono ?_; rintro e w1 ⟨rfl, rfl⟩))
   all_goals
   ·go_loopg [3, 15] s.size (fun G v3 vk wr => ∃ m n : Nat, m + G = s.size ∧ n ≤ m ∧ vk = .int .i64 (m : Int) ∧ v3 = .int .i64 (n : Int) ∧ Hid (∃ q, wr = w.drewN q) ∧ Hid (ruleP s.data.toList = ruleT c (s.data.toList.drop m) n))
    case atStart => exact ⟨0, 0, by omega, by omega, rfl, rfl, Lib.hid ⟨0, rfl⟩, HV⟩
    case round =>
     obtain ⟨m, n, hm, hnm, rfl, rfl, HQ, HR⟩ := hrel
     obtain ⟨q, rfl⟩ := HQ.out
     by_cases hlt : m < s.size
     ·obtain ⟨x, d, hd, hck2, hdt⟩ := cons_at hlt
      have hlt' : (m : Int) < (s.size : Int) := by omega
      by_cases hx : x = c
      ·have hxe : ((x.toNat : Int) == (c.toNat : Int)) = true := by rw [hx]; simp
       have HY : Hid (ruleP s.data.toList = ruleT c (s.data.toList.drop (m + 1)) (n + 1)) := Lib.hid (by rw [HR.out, hd, hx, ruleT_hit, hdt])
       clear hd hdt hx
       go_wp2_with fail
       go_quiet (fail)
       go_wp2
       go_roundg (gk - 1)
       case rel => exact ⟨m + 1, n + 1, by omega, by omega, by go_num, by go_num, Lib.hid ⟨q + nq, rfl⟩, HY⟩
       case measure => omega
      ·have hxe : ((x.toNat : Int) == (c.toNat : Int)) = false := by
        rw [beq_eq_false_iff_ne]; intro e; exact hx (UInt8.toNat_inj.1 (Int.ofNat.inj e))
       have HB := Lib.hid (does_blank.2 x)
       cases hb : blk x with
       | true =>
        have HY : Hid (ruleP s.data.toList = ruleT c (s.data.toList.drop (m + 1)) n) := Lib.hid (by rw [HR.out, hd, ruleT_blk d n hx hb, hdt])
        rw [hb] at HB
        clear hd hdt hx hb
        go_wp2_with fail
        go_quiet (fail)
        go_wp2_with (first | (go_at_call 137; refine (HB.out _).mono ?_; rintro e w1 ⟨rfl, rfl⟩))
        go_roundg (gk - 1)
        case rel => exact ⟨m + 1, n, by omega, by omega, by go_num, by go_num, Lib.hid ⟨q + nq, rfl⟩, HY⟩
        case measure => omega
       | false =>
        have HY : Hid (ruleP s.data.toList = false) := Lib.hid (by rw [HR.out, hd, ruleT_no d n hx hb])
        rw [hb] at HB
        clear hd hdt hx hb
        go_wp2_with fail
        go_quiet (fail)
        go_wp2_with (first | (go_at_call 137; refine (HB.out _).mono ?_; rintro e w1 ⟨rfl, rfl⟩))
        go_ret
        rw [HY.out]
        exact ⟨rfl, ⟨rfl, rfl, rfl, Nat.le_refl _, fun _ _ => rfl⟩⟩
     ·have hlt' : ¬ (m : Int) < (s.size : Int) := by omega
      have HY : Hid (ruleP s.data.toList = decide (3 ≤ n)) := Lib.hid (by rw [HR.out, drop_all (by omega), ruleT_nil])
      by_cases h3 : 3 ≤ n
      ·have h3' : (3 : Int) ≤ (n : Int) := by omega
       have HZ := Lib.hid (decide_eq_true h3)
       go_wp2
       go_ret
       exact ⟨ret_bool' (by rw [HY.out]; first | exact HZ.out.symm | exact decide_eq_decide.2 (by omega) | (simp; omega)), ⟨rfl, rfl, rfl, Nat.le_refl _, fun _ _ => rfl⟩⟩
      ·have h3' : (n : Int) < 3 := by omega
       have HZ := Lib.hid (decide_eq_false h3)
       go_wp2
       go_ret
       exact ⟨ret_bool' (by rw [HY.out]; first | exact HZ.out.symm | exact decide_eq_decide.2 (by omega) | (simp; omega)), ⟨rfl, rfl, rfl, Nat.le_refl _, fun _ _ => rfl⟩⟩
  ·have HV : Hid (ruleP s.data.toList = false) := Lib.hid (by rw [HV0.out, HC.out, decide_eq_false hz, Bool.false_and])
   have hz2 : z < 0 := by omega
   clear hz
   go_enter Tryz.func106, Tryz.ntmps106
   go_wp2_with (first | (go_at_call 83; refine HI.out.mono ?_; rintro e w1 ⟨rfl, rfl⟩))
   go_ret
   rw [HV.out]
   exact ⟨rfl, Below.refl _ _⟩
 ·have hn := nil_of h0
  have he := emp_true hn
  have HV : Hid (ruleP s.data.toList = false) := Lib.hid (by rw [hn]; rfl)
  clear hn
  go_enter Tryz.func106, Tryz.ntmps106
  go_wp2
  go_ret
  rw [HV.out]
  exact ⟨rfl, Below.refl _ _⟩
end Sc
end Go.Proofs.YtkiipaaaakhhfaaGreatDoor
end
