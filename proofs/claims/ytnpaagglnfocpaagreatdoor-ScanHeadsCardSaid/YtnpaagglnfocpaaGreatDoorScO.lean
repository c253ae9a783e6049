/- Plain mathematics of layer 8, the third part: HTML. -/
import Derived.Test.YtnpaagglnfocpaaGreatDoorScN
import Derived.Test.YtnpaagglnfocpaaGreatDoorClassCs
import Derived.Lib.IndexMore
namespace Go.Proofs.YtnpaagglnfocpaaGreatDoor
open Go Go.RowKit
namespace Sc
set_option maxRecDepth 100000
set_option linter.unusedVariables false
set_option linter.unusedSimpArgs false

/-! ### small letters -/
def lowB (c : UInt8) : UInt8 := if 65 ≤ c.toNat ∧ c.toNat ≤ 90 then c + 32 else c
def low (l : List UInt8) : List UInt8 := l.map lowB
theorem low_len (l : List UInt8) : (low l).length = l.length := by simp [low]
theorem low_cons (c : UInt8) (t : List UInt8) : low (c :: t) = lowB c :: low t := rfl
theorem lowN : ∀ n : Nat, n < 128 → Tx.encN (Ks.sm n) = [lowB (UInt8.ofNat n)] := by decide +kernel
theorem encN_one {n : Nat} (h : n < 128) : Tx.encN n = [UInt8.ofNat n] := by unfold Tx.encN; rw [if_pos h]
theorem enc_toNat (l : List UInt8) (h : ∀ c ∈ l, c.toNat < 128) : Ks.enc (l.map (·.toNat)) = l := by
  induction l with
  | nil => rfl
  | cons c t ih =>
    rw [List.map_cons, Ks.enc_cons, ih (fun x hx => h x (by simp [hx])), encN_one (h c (by simp)), UInt8.ofNat_toNat]
    rfl
theorem fold_low (l : List UInt8) (h : ∀ c ∈ l, 0 < c.toNat ∧ c.toNat < 128) : Ks.fold l = low l := by
  have hv : Ks.AllV (l.map (·.toNat)) := by
    intro n hn
    obtain ⟨c, hc, rfl⟩ := List.mem_map.1 hn
    have := h c hc
    unfold Ks.Valid; omega
  have he := enc_toNat l (fun c hc => (h c hc).2)
  unfold Ks.fold
  conv => lhs; rw [← he]
  rw [Ks.runes_enc _ hv]
  clear hv he
  induction l with
  | nil => rfl
  | cons c t ih =>
    have hc := h c (by simp)
    rw [List.map_cons, Ks.foldRs_cons, Ks.enc_app, ih (fun x hx => h x (by simp [hx])), low_cons]
    have hf : Ks.foldN c.toNat = [Ks.sm c.toNat] := by unfold Ks.foldN; rw [if_neg (by omega)]
    rw [hf, Ks.enc_cons, lowN _ hc.2, UInt8.ofNat_toNat]
    rfl
theorem inN_range (c : UInt8) : inN c = true → 0 < c.toNat ∧ c.toNat < 128 ∧ c ≠ 60 := by
  have := all_u8 (p := fun c => !inN c || (decide (0 < c.toNat) && decide (c.toNat < 128) && !(c == 60))) (by decide +kernel) c
  intro h
  rw [h] at this
  simp at this
  exact ⟨this.1.1, this.1.2, this.2⟩

/-! ### names -/
theorem letU_inN {c : UInt8} (h : letU c = true) : inN c = true := by unfold inN; rw [h]; rfl
theorem nameS_cons {c : UInt8} (t : List UInt8) (h : letU c = true) : nameS (c :: t) = (c :: t.takeWhile inN, t.dropWhile inN) := by
  unfold nameS
  have hn : name (c :: t) = some (t.dropWhile inN) := by simp [name, word, h]
  rw [hn]
  simp only [Prod.mk.injEq, and_true]
  have hl := congrArg List.length (List.takeWhile_append_dropWhile (p := inN) (l := t))
  rw [List.length_append] at hl
  have e : (c :: t).length - (t.dropWhile inN).length = (t.takeWhile inN).length + 1 := by simp only [List.length_cons]; omega
  rw [e, List.take_succ_cons]
  congr 1
  conv => lhs; arg 2; rw [← List.takeWhile_append_dropWhile (p := inN) (l := t)]
  exact List.take_left' rfl
theorem nameS_no {c : UInt8} (t : List UInt8) (h : letU c = false) : nameS (c :: t) = ([], c :: t) := by
  unfold nameS; rw [name_not t h]
theorem nameS_nil : nameS [] = ([], []) := rfl
theorem nameS_split (l : List UInt8) : (nameS l).1 ++ (nameS l).2 = l := by
  cases l with
  | nil => rfl
  | cons c t =>
    cases h : letU c with
    | true => rw [nameS_cons t h]; simp only [List.cons_append, List.takeWhile_append_dropWhile]
    | false => rw [nameS_no t h]; rfl
theorem nameS_in (l : List UInt8) : ∀ c ∈ (nameS l).1, inN c = true := by
  cases l with
  | nil => intro c hc; cases hc
  | cons c t =>
    cases h : letU c with
    | true =>
      rw [nameS_cons t h]
      intro x hx
      rcases List.mem_cons.1 hx with e | e
      · rw [e]; exact letU_inN h
      · exact takeWhile_all inN t x e
    | false => rw [nameS_no t h]; intro x hx; cases hx
theorem nameS_fold (l : List UInt8) : Ks.fold (nameS l).1 = low (nameS l).1 := fold_low _ (fun c hc => by
  have := inN_range c (nameS_in l c hc)
  exact ⟨this.1, this.2.1⟩)
theorem nameS_len (l : List UInt8) : (nameS l).1.length + (nameS l).2.length = l.length := by
  have := congrArg List.length (nameS_split l)
  rwa [List.length_append] at this

def rawsL : List (List UInt8) := [[115, 99, 114, 105, 112, 116], [112, 114, 101], [115, 116, 121, 108, 101], [116, 101, 120, 116, 97, 114, 101, 97]]
def blocksL : List (List UInt8) := [[97, 100, 100, 114, 101, 115, 115], [97, 114, 116, 105, 99, 108, 101], [97, 115, 105, 100, 101], [98, 97, 115, 101], [98, 97, 115, 101, 102, 111, 110, 116], [98, 108, 111, 99, 107, 113, 117, 111, 116, 101], [98, 111, 100, 121], [99, 97, 112, 116, 105, 111, 110], [99, 101, 110, 116, 101, 114], [99, 111, 108], [99, 111, 108, 103, 114, 111, 117, 112], [100, 100], [100, 101, 116, 97, 105, 108, 115], [100, 105, 97, 108, 111, 103], [100, 105, 114], [100, 105, 118], [100, 108], [100, 116], [102, 105, 101, 108, 100, 115, 101, 116], [102, 105, 103, 99, 97, 112, 116, 105, 111, 110], [102, 105, 103, 117, 114, 101], [102, 111, 111, 116, 101, 114], [102, 111, 114, 109], [102, 114, 97, 109, 101], [102, 114, 97, 109, 101, 115, 101, 116], [104, 49], [104, 50], [104, 51], [104, 52], [104, 53], [104, 54], [104, 101, 97, 100], [104, 101, 97, 100, 101, 114], [104, 114], [104, 116, 109, 108], [105, 102, 114, 97, 109, 101], [108, 101, 103, 101, 110, 100], [108, 105], [108, 105, 110, 107], [109, 97, 105, 110], [109, 101, 110, 117], [109, 101, 110, 117, 105, 116, 101, 109], [110, 97, 118], [110, 111, 102, 114, 97, 109, 101, 115], [111, 108], [111, 112, 116, 103, 114, 111, 117, 112], [111, 112, 116, 105, 111, 110], [112], [112, 97, 114, 97, 109], [115, 101, 97, 114, 99, 104], [115, 101, 99, 116, 105, 111, 110], [115, 117, 109, 109, 97, 114, 121], [116, 97, 98, 108, 101], [116, 98, 111, 100, 121], [116, 100], [116, 102, 111, 111, 116], [116, 104], [116, 104, 101, 97, 100], [116, 105, 116, 108, 101], [116, 114], [116, 114, 97, 99, 107], [117, 108]]

/-! ### which kind a line begins -/
def headIs (r : List UInt8) (c : UInt8) : Bool := match r with
  | x :: _ => x == c
  | [] => false
def atG (r : List UInt8) : Bool := atE r || headIs r 62
def verP (l : List UInt8) : Bool := match sgn 60 l with
  | none => false
  | some t => rawsL.contains (low (nameS t).1) && atG (nameS t).2
/-- What stands behind < or </. -/
def tailS (t : List UInt8) : List UInt8 := (sgn 47 t).getD t
def tagName (l : List UInt8) : List UInt8 × List UInt8 := match sgn 60 l with
  | none => ([], l)
  | some t => (low (nameS (tailS t)).1, (nameS (tailS t)).2)
def knownP (l : List UInt8) : Bool := blocksL.contains (tagName l).1 && (atG (tagName l).2 || Lib.hasPrefix (tagName l).2 [47, 62])
def otherP (l : List UInt8) : Bool := !(tagName l).1.isEmpty && !rawsL.contains (tagName l).1 && (decide (0 < tagN l) && (l.drop (tagN l)).all blk)
def isLet : Option UInt8 → Bool
  | some c => letU c
  | none => false
def declP (l : List UInt8) : Bool := Lib.hasPrefix l [60, 33] && isLet l[2]?
def htmlS (l : List UInt8) : Nat := if verP l = true then 1 else if Lib.hasPrefix l [60, 33, 45, 45] = true then 2 else if Lib.hasPrefix l [60, 63] = true then 3 else if declP l = true then 4
  else if Lib.hasPrefix l [60, 33, 91, 67, 68, 65, 84, 65, 91] = true then 5 else if knownP l = true then 6 else if otherP l = true then 7 else 0
theorem pre_none {l p : List UInt8} (h : sgn 60 l = none) : Lib.hasPrefix l (60 :: p) = false := by
  cases l with
  | nil => rfl
  | cons c t =>
    have hc : c ≠ 60 := by
      intro e
      rw [e, sgn_self] at h
      cases h
    unfold Lib.hasPrefix
    rw [List.isPrefixOf_cons_cons]
    have : (60 == c) = false := by rw [beq_eq_false_iff_ne]; exact Ne.symm hc
    rw [this]; rfl
theorem htmlS_none {l : List UInt8} (h : sgn 60 l = none) : htmlS l = 0 := by
  have h1 : verP l = false := by unfold verP; rw [h]
  have ht : tagName l = ([], l) := by unfold tagName; rw [h]
  have h2 : knownP l = false := by unfold knownP; rw [ht]; rfl
  have h3 : otherP l = false := by unfold otherP; rw [ht]; rfl
  have h4 : declP l = false := by unfold declP; rw [pre_none h]; rfl
  unfold htmlS
  rw [h1, pre_none h, pre_none h, h4, pre_none h, h2, h3]
  rfl
/-- A tag has a name. -/
theorem tag_named {t : List UInt8} (h : tagN (60 :: t) ≠ 0) : (nameS (tailS t)).1 ≠ [] := by
  intro e
  apply h
  refine tagN_none ?_
  have hn : name (tailS t) = none := by
    cases hx : name (tailS t) with
    | none => rfl
    | some r => exact absurd e (nameS_some hx).1
  unfold tagD
  rw [sgn_self]
  simp only
  unfold tailS at hn
  cases h4 : sgn 47 t with
  | some u =>
    rw [h4] at hn
    simp only [Option.getD_some] at hn
    simp only
    rw [hn]; rfl
  | none =>
    rw [h4] at hn
    simp only [Option.getD_none] at hn
    simp only
    rw [hn]; rfl
theorem otherP_eq (t : List UInt8) : otherP (60 :: t) = (decide (0 < tagN (60 :: t)) && !rawsL.contains (tagName (60 :: t)).1 && ((60 :: t).drop (tagN (60 :: t))).all blk) := by
  have ht : (tagName (60 :: t)).1 = low (nameS (tailS t)).1 := by unfold tagName; rw [sgn_self]
  unfold otherP
  by_cases h : 0 < tagN (60 :: t)
  · have hne := tag_named (t := t) (by omega)
    have : ((tagName (60 :: t)).1).isEmpty = false := by
      rw [ht]
      cases hx : (nameS (tailS t)).1 with
      | nil => exact absurd hx hne
      | cons _ _ => rfl
    rw [this, decide_eq_true h]
    simp
  · rw [decide_eq_false h]
    simp

/-! ### which kind a line ends -/
/-- Behind </: one of four names, and >. -/
def closeT (t : List UInt8) : Bool := rawsL.contains (low (nameS t).1) && headIs (nameS t).2 62
def closeV (d : List UInt8) : Bool := match sgn 60 d with
  | none => false
  | some u => match sgn 47 u with
    | none => false
    | some t => closeT t
def anyC : List UInt8 → Bool
  | [] => false
  | c :: t => closeV (c :: t) || anyC t
def endsP (l : List UInt8) (kind : Int) : Bool := if kind = 1 then anyC l else if kind = 2 then Lib.contains l [45, 45, 62] else if kind = 3 then Lib.contains l [63, 62] else if kind = 4 then Lib.contains l [62]
  else if kind = 5 then Lib.contains l [93, 93, 62] else if kind = 6 ∨ kind = 7 then l.all blk else false

theorem closeV_not {c : UInt8} (t : List UInt8) (h : c ≠ 60) : closeV (c :: t) = false := by unfold closeV; rw [sgn_no t h]
theorem anyC_skip (n r : List UInt8) (h : ∀ c ∈ n, c ≠ 60) : anyC (n ++ r) = anyC r := by
  induction n with
  | nil => rfl
  | cons c t ih =>
    rw [List.cons_append, anyC, closeV_not _ (h c (by simp)), Bool.false_or]
    exact ih (fun x hx => h x (by simp [hx]))
theorem closeV_two (t : List UInt8) : closeV (60 :: 47 :: t) = closeT t := by
  unfold closeV
  rw [sgn_self]
  simp only
  rw [sgn_self]
theorem pre_two (d : List UInt8) : ([60, 47] : List UInt8).isPrefixOf d = true ↔ ∃ t, d = 60 :: 47 :: t := by
  rw [List.isPrefixOf_iff_prefix]
  constructor
  · rintro ⟨t, rfl⟩; exact ⟨t, rfl⟩
  · rintro ⟨t, rfl⟩; exact ⟨t, rfl⟩
theorem closeV_pre {d : List UInt8} (h : ([60, 47] : List UInt8).isPrefixOf d = false) : closeV d = false := by
  unfold closeV
  cases h1 : sgn 60 d with
  | none => rfl
  | some u =>
    simp only
    cases h2 : sgn 47 u with
    | none => rfl
    | some t =>
      exfalso
      have e1 := sgn_some h1
      have e2 := sgn_some h2
      have := (pre_two d).2 ⟨t, by rw [e1, e2]⟩
      rw [this] at h; cases h
/-- The first </. -/
theorem cut_any : ∀ (S : List UInt8), ((Lib.cut S [60, 47]).2.2 = false ∧ anyC S = false) ∨
    ((Lib.cut S [60, 47]).2.2 = true ∧ (Lib.cut S [60, 47]).2.1.length + 2 ≤ S.length ∧ anyC S = (closeT (Lib.cut S [60, 47]).2.1 || anyC (Lib.cut S [60, 47]).2.1))
  | [] => .inl ⟨rfl, rfl⟩
  | c :: t => by
    cases hp : ([60, 47] : List UInt8).isPrefixOf (c :: t) with
    | true =>
      obtain ⟨u, hu⟩ := (pre_two _).1 hp
      right
      have hi : Lib.index (c :: t) [60, 47] = 0 := by unfold Lib.index; rw [if_pos hp]
      have hc : Lib.cut (c :: t) [60, 47] = ([], u, true) := by
        unfold Lib.cut
        rw [hi, hu]
        rfl
      rw [hc]
      refine ⟨rfl, by rw [hu]; simp, ?_⟩
      rw [hu, anyC, closeV_two, anyC, closeV_not _ (by decide), Bool.false_or]
    | false =>
      have hv := closeV_pre hp
      have ha : anyC (c :: t) = anyC t := by rw [anyC, hv, Bool.false_or]
      have hi : Lib.index (c :: t) [60, 47] = if Lib.index t [60, 47] == -1 then -1 else Lib.index t [60, 47] + 1 := by
        conv => lhs; unfold Lib.index
        rw [if_neg (by rw [hp]; simp)]
      have hge := Lib.index_ge t [60, 47]
      rcases cut_any t with ⟨h1, h2⟩ | ⟨h1, h2, h3⟩
      · left
        have hneg : ¬ 0 ≤ Lib.index t [60, 47] := by
          intro h
          unfold Lib.cut at h1
          rw [if_pos h] at h1
          cases h1
        have e1 : Lib.index t [60, 47] = -1 := by omega
        rw [e1] at hi
        refine ⟨?_, by rw [ha, h2]⟩
        unfold Lib.cut
        rw [hi]
        rfl
      · right
        have hpos : 0 ≤ Lib.index t [60, 47] := by
          rcases Int.lt_or_le (Lib.index t [60, 47]) 0 with h | h
          · exfalso
            unfold Lib.cut at h1
            rw [if_neg (by omega)] at h1
            cases h1
          · exact h
        have e1 : (Lib.index t [60, 47] == -1) = false := by rw [beq_eq_false_iff_ne]; omega
        rw [e1, if_neg (by simp)] at hi
        have hc : (Lib.cut (c :: t) [60, 47]).2 = (Lib.cut t [60, 47]).2 := by
          unfold Lib.cut
          rw [hi, if_pos hpos, if_pos (by omega)]
          have : (Lib.index t [60, 47] + 1).toNat = (Lib.index t [60, 47]).toNat + 1 := by omega
          rw [this]
          simp only
          congr 1
        rw [hc]
        refine ⟨h1, ?_, by rw [ha, h3]⟩
        simp only [List.length_cons]
        omega
/-- Behind a name that is none of the four, or not at its end, one goes on. -/
theorem any_rest (t : List UInt8) : anyC t = anyC (nameS t).2 := by
  conv => lhs; rw [← nameS_split t]
  exact anyC_skip _ _ (fun c hc => (inN_range c (nameS_in t c hc)).2.2)

theorem lowB_60 (c : UInt8) : (lowB c == 60) = (c == 60) := eq_of_beq (all_u8 (p := fun c => (lowB c == 60) == (c == 60)) (by decide +kernel) c)
theorem lowB_47 (c : UInt8) : (lowB c == 47) = (c == 47) := eq_of_beq (all_u8 (p := fun c => (lowB c == 47) == (c == 47)) (by decide +kernel) c)
theorem lowB_62 (c : UInt8) : (lowB c == 62) = (c == 62) := eq_of_beq (all_u8 (p := fun c => (lowB c == 62) == (c == 62)) (by decide +kernel) c)
theorem lowB_let (c : UInt8) : (97 ≤ (lowB c).toNat ∧ (lowB c).toNat ≤ 122) → letU c = true := by
  have := all_u8 (p := fun c => !(decide (97 ≤ (lowB c).toNat) && decide ((lowB c).toNat ≤ 122)) || letU c) (by decide +kernel) c
  rintro ⟨h1, h2⟩
  rw [decide_eq_true h1, decide_eq_true h2] at this
  simpa using this
def small (x : List UInt8) : Bool := !x.isEmpty && x.all (fun c => decide (97 ≤ c.toNat) && decide (c.toNat ≤ 122))
theorem takeWhile_self {p : UInt8 → Bool} : ∀ (w : List UInt8), (∀ d ∈ w, p d = true) → w.takeWhile p = w
  | [], _ => rfl
  | c :: t, h => by
    rw [List.takeWhile_cons_of_pos (h c (by simp)), takeWhile_self t (fun d hd => h d (by simp [hd]))]
/-- One of the names, and its sign: in a text without capitals, by the greedy name. -/
theorem pre_name {x t : List UInt8} (hx : small x = true) : (x ++ [62]).isPrefixOf (low t) = true ↔ low (nameS t).1 = x ∧ headIs (nameS t).2 62 = true := by
  rw [List.isPrefixOf_iff_prefix]
  constructor
  · rintro ⟨r, hr⟩
    rw [List.append_assoc] at hr
    obtain ⟨u, v, rfl, hu, hv⟩ := List.map_eq_append_iff.1 hr.symm
    rw [List.singleton_append] at hv
    obtain ⟨y, z, rfl, hy, hz⟩ := List.map_eq_cons_iff.1 hv
    have hy62 : y = 62 := by
      have := lowB_62 y
      rw [hy] at this
      simpa using this.symm
    subst hy62
    have hul : ∀ c ∈ u, letU c = true := by
      intro c hc
      unfold small at hx
      rw [Bool.and_eq_true] at hx
      have h2 := List.all_eq_true.1 hx.2 (lowB c) (by rw [← hu]; exact List.mem_map_of_mem hc)
      rw [Bool.and_eq_true, decide_eq_true_iff, decide_eq_true_iff] at h2
      exact lowB_let c h2
    cases u with
    | nil =>
      exfalso
      simp only [List.map_nil] at hu
      rw [← hu] at hx
      cases hx
    | cons c w =>
      have hcl := hul c (by simp)
      rw [List.cons_append, nameS_cons _ hcl, takeWhile_stop _ _ _ _ n62, dropWhile_stop _ _ _ _ n62]
      have hall : ∀ d ∈ w, inN d = true := fun d hd => letU_inN (hul d (by simp [hd]))
      have e1 : w.takeWhile inN = w := takeWhile_self w hall
      have e2 : w.dropWhile inN = [] := by
        have := List.takeWhile_append_dropWhile (p := inN) (l := w)
        rw [e1] at this
        simpa using this
      rw [e1, e2]
      exact ⟨hu, rfl⟩
  · rintro ⟨h1, h2⟩
    cases hr : (nameS t).2 with
    | nil => rw [hr] at h2; cases h2
    | cons y z =>
      rw [hr] at h2
      have hy : y = 62 := by simpa [headIs] using h2
      refine ⟨low z, ?_⟩
      have hs := nameS_split t
      rw [hr, hy] at hs
      rw [← hs]
      unfold low at *
      rw [List.map_append, List.map_cons, h1]
      simp [lowB]
theorem closeV_ref (d : List UInt8) : closeV d = rawsL.any (fun x => (60 :: 47 :: (x ++ [62])).isPrefixOf (low d)) := by
  have hsm : ∀ x ∈ rawsL, small x = true := by decide
  cases hp : ([60, 47] : List UInt8).isPrefixOf d with
  | false =>
    rw [closeV_pre hp]
    symm
    rw [List.any_eq_false]
    intro x hx h
    rw [List.isPrefixOf_iff_prefix] at h
    obtain ⟨r, hr⟩ := h
    have h2 : low d = 60 :: (47 :: (x ++ [62] ++ r)) := by rw [← hr]; simp
    unfold low at h2
    obtain ⟨a, b, rfl, ha, hb⟩ := List.map_eq_cons_iff.1 h2
    obtain ⟨a2, b2, rfl, ha2, hb2⟩ := List.map_eq_cons_iff.1 hb
    have e1 : a = 60 := by have := lowB_60 a; rw [ha] at this; simpa using this.symm
    have e2 : a2 = 47 := by have := lowB_47 a2; rw [ha2] at this; simpa using this.symm
    have := (pre_two (a :: a2 :: b2)).2 ⟨b2, by rw [e1, e2]⟩
    rw [this] at hp; cases hp
  | true =>
    obtain ⟨t, rfl⟩ := (pre_two d).1 hp
    rw [closeV_two, Bool.eq_iff_iff]
    unfold closeT
    rw [Bool.and_eq_true, List.any_eq_true]
    have hl : ∀ x : List UInt8, (60 :: 47 :: (x ++ [62])).isPrefixOf (low (60 :: 47 :: t)) = (x ++ [62]).isPrefixOf (low t) := by
      intro x
      show (60 :: 47 :: (x ++ [62])).isPrefixOf (lowB 60 :: lowB 47 :: low t) = _
      rw [List.isPrefixOf_cons_cons, List.isPrefixOf_cons_cons]
      rfl
    constructor
    · rintro ⟨h1, h2⟩
      rw [List.contains_iff_mem] at h1
      exact ⟨_, h1, by rw [hl]; exact (pre_name (hsm _ h1)).2 ⟨rfl, h2⟩⟩
    · rintro ⟨x, hx, h⟩
      rw [hl] at h
      obtain ⟨h1, h2⟩ := (pre_name (hsm x hx)).1 h
      exact ⟨by rw [List.contains_iff_mem, h1]; exact hx, h2⟩
theorem contains_nil {t : List UInt8} (h : t ≠ []) : Lib.contains [] t = false := by
  cases t with
  | nil => exact absurd rfl h
  | cons _ _ => rfl
theorem contains_cons (b : UInt8) (l t : List UInt8) : Lib.contains (b :: l) t = (t.isPrefixOf (b :: l) || Lib.contains l t) := by
  unfold Lib.contains
  have hge := Lib.index_ge l t
  have hi : Lib.index (b :: l) t = if t.isPrefixOf (b :: l) then 0 else if Lib.index l t == -1 then -1 else Lib.index l t + 1 := by
    conv => lhs; unfold Lib.index
  rw [hi]
  cases hp : t.isPrefixOf (b :: l) with
  | true => rfl
  | false =>
    rw [if_neg (by simp), Bool.false_or]
    by_cases h : Lib.index l t = -1
    · rw [h]; rfl
    · have e : (Lib.index l t == -1) = false := by rw [beq_eq_false_iff_ne]; exact h
      rw [e, if_neg (by simp), decide_eq_decide]
      omega
/-- The reference's way for kind 1. -/
theorem anyC_ref (l : List UInt8) : anyC l = rawsL.any (fun x => Lib.contains (low l) (60 :: 47 :: (x ++ [62]))) := by
  induction l with
  | nil => rfl
  | cons c t ih =>
    rw [anyC, ih, closeV_ref, low_cons]
    rw [Bool.eq_iff_iff, Bool.or_eq_true, List.any_eq_true, List.any_eq_true, List.any_eq_true]
    constructor
    · rintro (⟨x, hx, h⟩ | ⟨x, hx, h⟩)
      · exact ⟨x, hx, by rw [contains_cons, Bool.or_eq_true]; exact .inl h⟩
      · exact ⟨x, hx, by rw [contains_cons, Bool.or_eq_true]; exact .inr h⟩
    · rintro ⟨x, hx, h⟩
      rw [contains_cons, Bool.or_eq_true] at h
      rcases h with h | h
      · exact .inl ⟨x, hx, h⟩
      · exact .inr ⟨x, hx, h⟩
theorem contains_short {l t : List UInt8} (h : l.length < t.length) : Lib.contains l t = false := by
  induction l with
  | nil => exact contains_nil (by rintro rfl; simp at h)
  | cons b l ih =>
    rw [contains_cons, ih (by simp at h; omega), Bool.or_false]
    cases hp : t.isPrefixOf (b :: l) with
    | false => rfl
    | true =>
      have := (List.isPrefixOf_iff_prefix.1 hp).length_le
      omega
end Sc
end Go.Proofs.YtnpaagglnfocpaaGreatDoor
