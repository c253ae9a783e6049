import GoSem.Core.Utf8
import GoSem.Op.String
import Derived.Lib.Bytealg
import Derived.Test.YtkiipaaaakhhfaaGreatDoorCShelf1
import Derived.WalkKit
import Derived.BigCall
import Derived.BigQuiet
import Derived.Deep.QuietTactic
import Derived.Lib.Hide
import Derived.Deep.DeepCutAuto
import Derived.OneCell
import Derived.RegionTactic
import Derived.Below
import Derived.Great.BuildSlice
import Derived.Great.Walk
import Derived.Deep.WholeRow
import Derived.LoopTactic
import Derived.Deep.CutBlock
import Derived.Laws.DeepStrings4
section
set_option linter.unusedVariables false
set_option linter.unusedSimpArgs false
set_option maxRecDepth 100000
namespace Go.Proofs.YtkiipaaaakhhfaaGreatDoor
namespace En
def rowsT : List (List UInt8 × Int) := [
 ([65, 69, 108, 105, 103], 198), ([65, 97, 99, 117, 116, 101], 193), ([65, 99, 105, 114, 99], 194), ([65, 103, 114, 97, 118, 101], 192),
 ([65, 108, 112, 104, 97], 913), ([65, 114, 105, 110, 103], 197), ([65, 116, 105, 108, 100, 101], 195), ([65, 117, 109, 108], 196),
 ([66, 101, 116, 97], 914), ([67, 99, 101, 100, 105, 108], 199), ([67, 108, 111, 99, 107, 119, 105, 115, 101, 67, 111, 110, 116, 111, 117, 114, 73, 110, 116, 101, 103, 114, 97, 108], 8754), ([68, 97, 103, 103, 101, 114], 8225),
 ([68, 99, 97, 114, 111, 110], 270), ([68, 101, 108, 116, 97], 916), ([68, 105, 102, 102, 101, 114, 101, 110, 116, 105, 97, 108, 68], 8518), ([69, 84, 72], 208),
 ([69, 97, 99, 117, 116, 101], 201), ([69, 99, 105, 114, 99], 202), ([69, 103, 114, 97, 118, 101], 200), ([69, 117, 109, 108], 203),
 ([71, 97, 109, 109, 97], 915), ([72, 105, 108, 98, 101, 114, 116, 83, 112, 97, 99, 101], 8459), ([73, 97, 99, 117, 116, 101], 205), ([73, 99, 105, 114, 99], 206),
 ([73, 103, 114, 97, 118, 101], 204), ([73, 117, 109, 108], 207), ([78, 116, 105, 108, 100, 101], 209), ([79, 69, 108, 105, 103], 338),
 ([79, 97, 99, 117, 116, 101], 211), ([79, 99, 105, 114, 99], 212), ([79, 103, 114, 97, 118, 101], 210), ([79, 109, 101, 103, 97], 937),
 ([79, 115, 108, 97, 115, 104], 216), ([79, 116, 105, 108, 100, 101], 213), ([79, 117, 109, 108], 214), ([83, 99, 97, 114, 111, 110], 352),
 ([84, 72, 79, 82, 78], 222), ([85, 97, 99, 117, 116, 101], 218), ([85, 99, 105, 114, 99], 219), ([85, 103, 114, 97, 118, 101], 217),
 ([85, 117, 109, 108], 220), ([89, 97, 99, 117, 116, 101], 221), ([89, 117, 109, 108], 376), ([97, 97, 99, 117, 116, 101], 225),
 ([97, 99, 105, 114, 99], 226), ([97, 99, 117, 116, 101], 180), ([97, 101, 108, 105, 103], 230), ([97, 103, 114, 97, 118, 101], 224),
 ([97, 108, 112, 104, 97], 945), ([97, 109, 112], 38), ([97, 112, 111, 115], 39), ([97, 114, 105, 110, 103], 229),
 ([97, 115, 121, 109, 112], 8776), ([97, 116, 105, 108, 100, 101], 227), ([97, 117, 109, 108], 228), ([98, 100, 113, 117, 111], 8222),
 ([98, 101, 116, 97], 946), ([98, 114, 118, 98, 97, 114], 166), ([98, 117, 108, 108], 8226), ([99, 97, 112], 8745),
 ([99, 99, 101, 100, 105, 108], 231), ([99, 101, 100, 105, 108], 184), ([99, 101, 110, 116], 162), ([99, 105, 114, 99], 710),
 ([99, 108, 117, 98, 115], 9827), ([99, 111, 112, 121], 169), ([99, 117, 112], 8746), ([99, 117, 114, 114, 101, 110], 164),
 ([100, 97, 103, 103, 101, 114], 8224), ([100, 97, 114, 114], 8595), ([100, 101, 103], 176), ([100, 101, 108, 116, 97], 948),
 ([100, 105, 97, 109, 115], 9830), ([100, 105, 118, 105, 100, 101], 247), ([101, 97, 99, 117, 116, 101], 233), ([101, 99, 105, 114, 99], 234),
 ([101, 103, 114, 97, 118, 101], 232), ([101, 109, 112, 116, 121], 8709), ([101, 109, 115, 112], 8195), ([101, 110, 115, 112], 8194),
 ([101, 112, 115, 105, 108, 111, 110], 949), ([101, 113, 117, 105, 118], 8801), ([101, 116, 104], 240), ([101, 117, 109, 108], 235),
 ([101, 117, 114, 111], 8364), ([101, 120, 105, 115, 116], 8707), ([102, 110, 111, 102], 402), ([102, 111, 114, 97, 108, 108], 8704),
 ([102, 114, 97, 99, 49, 50], 189), ([102, 114, 97, 99, 49, 52], 188), ([102, 114, 97, 99, 51, 52], 190), ([103, 97, 109, 109, 97], 947),
 ([103, 101], 8805), ([103, 116], 62), ([104, 97, 114, 114], 8596), ([104, 101, 97, 114, 116, 115], 9829),
 ([104, 101, 108, 108, 105, 112], 8230), ([105, 97, 99, 117, 116, 101], 237), ([105, 99, 105, 114, 99], 238), ([105, 101, 120, 99, 108], 161),
 ([105, 103, 114, 97, 118, 101], 236), ([105, 110, 102, 105, 110], 8734), ([105, 110, 116], 8747), ([105, 113, 117, 101, 115, 116], 191),
 ([105, 115, 105, 110], 8712), ([105, 117, 109, 108], 239), ([108, 97, 109, 98, 100, 97], 955), ([108, 97, 113, 117, 111], 171),
 ([108, 97, 114, 114], 8592), ([108, 100, 113, 117, 111], 8220), ([108, 101], 8804), ([108, 115, 97, 113, 117, 111], 8249),
 ([108, 115, 113, 117, 111], 8216), ([108, 116], 60), ([109, 97, 99, 114], 175), ([109, 100, 97, 115, 104], 8212),
 ([109, 105, 99, 114, 111], 181), ([109, 105, 100, 100, 111, 116], 183), ([109, 105, 110, 117, 115], 8722), ([109, 117], 956),
 ([110, 97, 98, 108, 97], 8711), ([110, 98, 115, 112], 160), ([110, 100, 97, 115, 104], 8211), ([110, 101], 8800),
 ([110, 105], 8715), ([110, 111, 116], 172), ([110, 116, 105, 108, 100, 101], 241), ([111, 97, 99, 117, 116, 101], 243),
 ([111, 99, 105, 114, 99], 244), ([111, 101, 108, 105, 103], 339), ([111, 103, 114, 97, 118, 101], 242), ([111, 109, 101, 103, 97], 969),
 ([111, 112, 108, 117, 115], 8853), ([111, 114, 100, 102], 170), ([111, 114, 100, 109], 186), ([111, 115, 108, 97, 115, 104], 248),
 ([111, 116, 105, 108, 100, 101], 245), ([111, 116, 105, 109, 101, 115], 8855), ([111, 117, 109, 108], 246), ([112, 97, 114, 97], 182),
 ([112, 97, 114, 116], 8706), ([112, 101, 114, 109, 105, 108], 8240), ([112, 101, 114, 112], 8869), ([112, 105], 960),
 ([112, 108, 117, 115, 109, 110], 177), ([112, 111, 117, 110, 100], 163), ([112, 114, 111, 100], 8719), ([113, 117, 111, 116], 34),
 ([114, 97, 100, 105, 99], 8730), ([114, 97, 113, 117, 111], 187), ([114, 97, 114, 114], 8594), ([114, 100, 113, 117, 111], 8221),
 ([114, 101, 103], 174), ([114, 115, 97, 113, 117, 111], 8250), ([114, 115, 113, 117, 111], 8217), ([115, 98, 113, 117, 111], 8218),
 ([115, 99, 97, 114, 111, 110], 353), ([115, 100, 111, 116], 8901), ([115, 101, 99, 116], 167), ([115, 104, 121], 173),
 ([115, 105, 103, 109, 97], 963), ([115, 112, 97, 100, 101, 115], 9824), ([115, 117, 98], 8834), ([115, 117, 109], 8721),
 ([115, 117, 112], 8835), ([115, 117, 112, 49], 185), ([115, 117, 112, 50], 178), ([115, 117, 112, 51], 179),
 ([115, 122, 108, 105, 103], 223), ([116, 104, 105, 110, 115, 112], 8201), ([116, 104, 111, 114, 110], 254), ([116, 105, 108, 100, 101], 732),
 ([116, 105, 109, 101, 115], 215), ([116, 114, 97, 100, 101], 8482), ([117, 97, 99, 117, 116, 101], 250), ([117, 97, 114, 114], 8593),
 ([117, 99, 105, 114, 99], 251), ([117, 103, 114, 97, 118, 101], 249), ([117, 109, 108], 168), ([117, 117, 109, 108], 252),
 ([121, 97, 99, 117, 116, 101], 253), ([121, 101, 110], 165), ([121, 117, 109, 108], 255)]
def namedF : List (List UInt8 × Int) → List UInt8 → Option Int
 | [], _ => none
 | (n, c) :: t, l => if n = l then some c else namedF t l
def lett (b : Int) : Bool := (decide (97 ≤ b) && decide (b ≤ 122)) || (decide (65 ≤ b) && decide (b ≤ 90))
def digi (b : Int) : Bool := decide (48 ≤ b) && decide (b ≤ 57)
def isAl (c : UInt8) : Bool := lett (c.toNat : Int) || digi (c.toNat : Int)
def dgt (b : Int) : Int := if digi b then b - 48 else if 97 ≤ b ∧ b ≤ 102 then b - 87 else if 65 ≤ b ∧ b ≤ 70 then b - 55 else 16
def dg (c : UInt8) : Int := dgt (c.toNat : Int)
def chr (v : Int) : Int := if v = 0 ∨ (55296 ≤ v ∧ v ≤ 57343) ∨ 1114111 < v then 65533 else v
def valN (base : Int) (l : List UInt8) : Int := l.foldl (fun v c => v * base + dg c) 0
def runN (base : Int) : Nat → List UInt8 → Nat
 | 0, _ => 0
 | _ + 1, [] => 0
 | m + 1, c :: t => if dg c < base then runN base m t + 1 else 0
def alN : List UInt8 → Nat
 | [] => 0
 | c :: t => if isAl c then alN t + 1 else 0
def numG (base : Int) (most : Nat) (L : List UInt8) (st : Nat) : Option (Int × Nat) :=
 if runN base most L = 0 then none else if L[runN base most L]? = some 59 then some (chr (valN base (L.take (runN base most L))), st + runN base most L + 1) else none
def nameG (L : List UInt8) : Option (Int × Nat) :=
 if L[alN L]? = some 59 then (namedF rowsT (L.take (alN L))).map (fun c => (c, alN L + 2)) else none
def cutS : List UInt8 → Option (List UInt8)
 | [] => none
 | c :: t => if c = 59 then some [] else (cutS t).map (c :: ·)
def numB (base : Int) (most : Nat) (d : List UInt8) : Option Int :=
 if d = [] ∨ most < d.length ∨ d.any (fun c => decide (base ≤ dg c)) = true then none else some (valN base d)
def ofBody : List UInt8 → Option Int
 | 38 :: 35 :: x :: d => if x = 120 ∨ x = 88 then (numB 16 6 d).map chr else (numB 10 7 (x :: d)).map chr
 | 38 :: n => if n = [35] then none else namedF rowsT n
 | _ => none
def rread (l : List UInt8) : Option (Int × Nat) := (cutS l).bind fun b => (ofBody b).map fun c => (c, b.length + 1)
def gread : List UInt8 → Option (Int × Nat)
 | 38 :: 35 :: x :: r => if x = 120 ∨ x = 88 then numG 16 6 r 3 else numG 10 7 (x :: r) 2
 | 38 :: r => if r = [35] then none else nameG r
 | _ => none
theorem cutS_app : ∀ (b m : List UInt8), 59 ∉ b → cutS (b ++ 59 :: m) = some b
 | [], m, _ => by simp [cutS]
 | c :: t, m, h => by
  have hc : c ≠ 59 := fun e => h (by simp [e])
  have ht : 59 ∉ t := fun e => h (by simp [e])
  simp [cutS, hc, cutS_app t m ht]
theorem cutS_some : ∀ {l b : List UInt8}, cutS l = some b → 59 ∉ b ∧ ∃ m, l = b ++ 59 :: m
 | [], b, h => by simp [cutS] at h
 | c :: t, b, h => by
  by_cases hc : c = 59
  ·subst hc
   simp [cutS] at h
   subst h
   exact ⟨by simp, t, rfl⟩
  ·cases ht : cutS t with
   | none => simp [cutS, hc, ht] at h
   | some b2 =>
    simp [cutS, hc, ht] at h
    subst h
    obtain ⟨h1, m, h2⟩ := cutS_some ht
    refine ⟨?_, m, by rw [h2]; rfl⟩
    intro hm
    rcases List.mem_cons.1 hm with e | e
    ·exact hc e.symm
    ·exact h1 e
theorem cutS_at {L : List UInt8} {k : Nat} (h : L[k]? = some 59) (hn : 59 ∉ L.take k) : cutS L = some (L.take k) := by
 obtain ⟨hk, he⟩ := List.getElem?_eq_some_iff.1 h
 have e : L = L.take k ++ 59 :: L.drop (k + 1) := by
  conv => lhs; rw [← List.take_append_drop k L]
  rw [List.drop_eq_getElem_cons hk, he]
 have := cutS_app (L.take k) (L.drop (k + 1)) hn
 rwa [← e] at this
theorem dg_semi : dg 59 = 16 := by decide
theorem al_semi : isAl 59 = false := by decide
theorem runN_le : ∀ (base : Int) (most : Nat) (L : List UInt8), runN base most L ≤ most ∧ runN base most L ≤ L.length
 | _, 0, _ => by simp [runN]
 | _, _ + 1, [] => by simp [runN]
 | base, m + 1, c :: t => by
  have := runN_le base m t
  unfold runN
  split
  ·simp; omega
  ·simp
theorem runN_take : ∀ (base : Int) (most : Nat) (L : List UInt8) (c : UInt8), c ∈ L.take (runN base most L) → dg c < base
 | _, 0, _, c, h => by simp [runN] at h
 | _, _ + 1, [], c, h => by simp [runN] at h
 | base, m + 1, x :: t, c, h => by
  unfold runN at h
  split at h
  ·rw [List.take_succ_cons] at h
   rcases List.mem_cons.1 h with rfl | h
   ·assumption
   ·exact runN_take base m t c h
  ·simp at h
theorem runN_app : ∀ (base : Int) (most : Nat) (d m : List UInt8), base ≤ 16 → d.length ≤ most → (∀ c ∈ d, dg c < base) → runN base most (d ++ 59 :: m) = d.length
 | base, 0, [], m, hb, _, _ => rfl
 | base, n + 1, [], m, hb, _, _ => by
  have : ¬ dg 59 < base := by rw [dg_semi]; omega
  simp [runN, this]
 | base, 0, c :: t, m, hb, h, _ => by simp at h
 | base, n + 1, c :: t, m, hb, h, hd => by
  have ih := runN_app base n t m hb (by simp at h; omega) (fun x hx => hd x (by simp [hx]))
  have hc : dg c < base := hd c (by simp)
  simp [runN, hc, ih]
theorem numB_some {base : Int} {most : Nat} {d : List UInt8} (h0 : d ≠ []) (h1 : d.length ≤ most) (h2 : ∀ c ∈ d, dg c < base) : numB base most d = some (valN base d) := by
 unfold numB
 rw [if_neg]
 intro h
 rcases h with h | h | h
 ·exact h0 h
 ·omega
 ·obtain ⟨c, hc, hx⟩ := List.any_eq_true.1 h
  have := h2 c hc
  have := of_decide_eq_true hx
  omega
theorem numB_of {base v : Int} {most : Nat} {d : List UInt8} (h : numB base most d = some v) : d ≠ [] ∧ d.length ≤ most ∧ (∀ c ∈ d, dg c < base) ∧ v = valN base d := by
 unfold numB at h
 split at h
 ·cases h
 ·rename_i hn
  refine ⟨fun e => hn (Or.inl e), Nat.le_of_not_lt fun e => hn (Or.inr (Or.inl e)), fun c hc => ?_, (Option.some.inj h).symm⟩
  refine Int.not_le.1 fun e => hn (Or.inr (Or.inr ?_))
  exact List.any_eq_true.2 ⟨c, hc, by simpa using e⟩
theorem numG_eq (base : Int) (most : Nat) (L : List UInt8) (st : Nat) (hb : base ≤ 16) :
  numG base most L st = (cutS L).bind fun d => (numB base most d).map fun v => (chr v, st + d.length + 1) := by
 have hle := runN_le base most L
 have htk := runN_take base most L
 have hsemi : 59 ∉ L.take (runN base most L) := fun h => by
  have := htk 59 h
  rw [dg_semi] at this
  omega
 unfold numG
 by_cases h0 : runN base most L = 0
 ·rw [if_pos h0]
  cases hc : cutS L with
  | none => rfl
  | some d =>
   cases hn : numB base most d with
   | none => simp [hn]
   | some v =>
    exfalso
    obtain ⟨a1, a2, a3, a4⟩ := numB_of hn
    obtain ⟨_, m, rfl⟩ := cutS_some hc
    rw [runN_app base most d m hb a2 a3] at h0
    exact a1 (List.length_eq_zero_iff.1 h0)
 ·rw [if_neg h0]
  by_cases h1 : L[runN base most L]? = some 59
  ·rw [if_pos h1, cutS_at h1 hsemi]
   have hlen : (L.take (runN base most L)).length = runN base most L := by rw [List.length_take]; omega
   rw [Option.bind_some, numB_some (fun e => by rw [e] at hlen; simp at hlen; omega) (by omega) htk, hlen]
   rfl
  ·rw [if_neg h1]
   cases hc : cutS L with
   | none => rfl
   | some d =>
    cases hn : numB base most d with
    | none => simp [hn]
    | some v =>
     exfalso
     obtain ⟨a1, a2, a3, a4⟩ := numB_of hn
     obtain ⟨_, m, rfl⟩ := cutS_some hc
     rw [runN_app base most d m hb a2 a3] at h1
     exact h1 (by simp)
theorem alN_le : ∀ (L : List UInt8), alN L ≤ L.length
 | [] => by simp [alN]
 | c :: t => by
  have := alN_le t
  unfold alN
  split <;> simp; omega
theorem alN_take : ∀ (L : List UInt8) (c : UInt8), c ∈ L.take (alN L) → isAl c = true
 | [], c, h => by simp [alN] at h
 | x :: t, c, h => by
  unfold alN at h
  split at h
  ·rw [List.take_succ_cons] at h
   rcases List.mem_cons.1 h with rfl | h
   ·assumption
   ·exact alN_take t c h
  ·simp at h
theorem alN_app : ∀ (d m : List UInt8), (∀ c ∈ d, isAl c = true) → alN (d ++ 59 :: m) = d.length
 | [], m, _ => by simp [alN, al_semi]
 | c :: t, m, hd => by
  have ih := alN_app t m (fun x hx => hd x (by simp [hx]))
  have hc := hd c (by simp)
  simp [alN, hc, ih]
theorem namedF_mem : ∀ {T : List (List UInt8 × Int)} {l : List UInt8} {c : Int}, namedF T l = some c → (l, c) ∈ T
 | [], l, c, h => by simp [namedF] at h
 | (n, x) :: t, l, c, h => by
  unfold namedF at h
  split at h
  ·rename_i e
   subst e
   cases h
   exact List.mem_cons_self
  ·exact List.mem_cons_of_mem _ (namedF_mem h)
theorem namedF_no : ∀ {T : List (List UInt8 × Int)} {l : List UInt8}, (∀ e ∈ T, e.1 ≠ l) → namedF T l = none
 | [], l, h => rfl
 | (n, x) :: t, l, h => by
  unfold namedF
  rw [if_neg (h (n, x) (by simp)), namedF_no (fun e he => h e (by simp [he]))]
theorem namedF_app {A B : List (List UInt8 × Int)} {l : List UInt8} (h : ∀ e ∈ A, e.1 ≠ l) : namedF (A ++ B) l = namedF B l := by
 induction A with
 | nil => rfl
 | cons a t ih =>
  obtain ⟨n, x⟩ := a
  rw [List.cons_append]
  unfold namedF
  rw [if_neg (h (n, x) (by simp)), ih (fun e he => h e (by simp [he]))]
  cases B <;> rfl
def rowOk (e : List UInt8 × Int) : Bool := e.1.all isAl && decide (2 ≤ e.1.length) && decide (e.1.length ≤ 30) && decide (1 ≤ e.2) && decide (e.2 ≤ 10000)
theorem rows_ok : rowsT.all rowOk = true := by decide +kernel
theorem rows_len : rowsT.length = 183 := by decide +kernel
theorem row_ok {e : List UInt8 × Int} (h : e ∈ rowsT) : (∀ c ∈ e.1, isAl c = true) ∧ 2 ≤ e.1.length ∧ e.1.length ≤ 30 ∧ 1 ≤ e.2 ∧ e.2 ≤ 10000 := by
 have := List.all_eq_true.1 rows_ok e h
 simp only [rowOk, Bool.and_eq_true, decide_eq_true_eq] at this
 obtain ⟨⟨⟨⟨h1, h2⟩, h3⟩, h4⟩, h5⟩ := this
 exact ⟨List.all_eq_true.1 h1, h2, h3, h4, h5⟩
theorem nameG_eq (L : List UInt8) : nameG L = (cutS L).bind fun d => (namedF rowsT d).map fun c => (c, d.length + 2) := by
 have hle := alN_le L
 have htk := alN_take L
 have hsemi : 59 ∉ L.take (alN L) := fun h => by
  have := htk 59 h
  rw [al_semi] at this
  cases this
 unfold nameG
 by_cases h1 : L[alN L]? = some 59
 ·rw [if_pos h1, cutS_at h1 hsemi]
  have hlen : (L.take (alN L)).length = alN L := by rw [List.length_take]; omega
  rw [Option.bind_some, hlen]
 ·rw [if_neg h1]
  cases hc : cutS L with
  | none => rfl
  | some d =>
   cases hn : namedF rowsT d with
   | none => simp [hn]
   | some v =>
    exfalso
    obtain ⟨a1, _⟩ := row_ok (namedF_mem hn)
    obtain ⟨_, m, rfl⟩ := cutS_some hc
    rw [alN_app d m a1] at h1
    exact h1 (by simp)
theorem cutS_cons (c : UInt8) (t : List UInt8) (h : c ≠ 59) : cutS (c :: t) = (cutS t).map (c :: ·) := by simp [cutS, h]
theorem namedF_hash (t : List UInt8) : namedF rowsT (35 :: t) = none := namedF_no fun e he h => by
 have := (row_ok he).1 35 (by rw [h]; simp)
 revert this
 decide
theorem gread_num (x : UInt8) (r : List UInt8) : gread (38 :: 35 :: x :: r) = if x = 120 ∨ x = 88 then numG 16 6 r 3 else numG 10 7 (x :: r) 2 := rfl
theorem gread_eq (l : List UInt8) : gread l = rread l := by
 cases l with
 | nil => rfl
 | cons c t =>
 by_cases hc : c = 38
 ·subst hc
  cases t with
  | nil => simp [gread, rread, cutS, nameG, alN]
  | cons x r =>
  by_cases hx : x = 35
  ·subst hx
   cases r with
   | nil => simp [gread, rread, cutS]
   | cons x r =>
    rw [gread_num]
    unfold rread
    rw [cutS_cons 38 _ (by decide), cutS_cons 35 _ (by decide)]
    by_cases hx : x = 120 ∨ x = 88
    ·rw [if_pos hx, numG_eq _ _ _ _ (by decide), cutS_cons x _ (by rcases hx with rfl | rfl <;> decide)]
     cases cutS r with
     | none => rfl
     | some d =>
      simp only [Option.map_some, Option.bind_some, ofBody, if_pos hx, List.length_cons]
      cases numB 16 6 d with
      | none => rfl
      | some v => simp; omega
    ·rw [if_neg hx, numG_eq _ _ _ _ (by decide)]
     cases hc : cutS (x :: r) with
     | none => rfl
     | some d =>
      simp only [Option.map_some, Option.bind_some]
      cases d with
      | nil => simp [ofBody, numB]
      | cons y d =>
       have hy : y = x := by
        obtain ⟨_, m, e⟩ := cutS_some hc
        simp at e
        exact e.1.symm
       subst hy
       simp only [ofBody, if_neg hx, List.length_cons]
       cases numB 10 7 (y :: d) with
       | none => rfl
       | some v => simp; omega
  ·have hg : gread (38 :: x :: r) = nameG (x :: r) := by
    unfold gread
    split
    ·rename_i e; simp at e; exact absurd e.1 hx
    ·rename_i r2 _ e
     simp at e
     subst e
     rw [if_neg (by simp [hx])]
    ·rename_i h; exact absurd rfl (h (x :: r))
   rw [hg, nameG_eq]
   unfold rread
   rw [cutS_cons 38 _ (by decide)]
   cases hc : cutS (x :: r) with
   | none => rfl
   | some d =>
    simp only [Option.map_some, Option.bind_some]
    have ho : ofBody (38 :: d) = namedF rowsT d := by
     unfold ofBody
     split
     ·rename_i y d2 e
      simp at e
      subst e
      obtain ⟨_, m, e⟩ := cutS_some hc
      simp at e
      exact absurd e.1 hx
     ·rename_i n _ e
      simp at e
      subst e
      split
      ·rename_i e
       subst e
       rw [namedF_hash]
      ·rfl
     ·rename_i h; exact absurd rfl (h d)
    rw [ho]
    cases namedF rowsT d with
    | none => rfl
    | some v => simp
 ·have hg : gread (c :: t) = none := by
   unfold gread
   split
   ·rename_i e; simp at e; exact absurd e.1 hc
   ·rename_i e; simp at e; exact absurd e.1 hc
   ·rfl
  rw [hg]
  unfold rread
  cases hs : cutS (c :: t) with
  | none => rfl
  | some b =>
   have ho : ofBody b = none := by
    unfold ofBody
    obtain ⟨_, m, e⟩ := cutS_some hs
    split
    ·simp at e; exact absurd e.1 hc
    ·simp at e; exact absurd e.1 hc
    ·rfl
   rw [Option.bind_some, ho]
   rfl
end En
end Go.Proofs.YtkiipaaaakhhfaaGreatDoor
end
section
set_option linter.unusedVariables false
set_option linter.unusedSimpArgs false
set_option maxRecDepth 100000
namespace Go.Proofs.YtkiipaaaakhhfaaGreatDoor
namespace En
abbrev cb := Lib.compareBytes
theorem cb_eq : ∀ {a b : List UInt8}, cb a b = 0 → a = b
 | [], [], _ => rfl
 | [], _ :: _, h => by simp [cb, Lib.compareBytes] at h
 | _ :: _, [], h => by simp [cb, Lib.compareBytes] at h
 | x :: a, y :: b, h => by
  unfold cb Lib.compareBytes at h
  by_cases h1 : x < y
  ·simp [h1] at h
  ·by_cases h2 : y < x
   ·simp [h1, h2] at h
   ·rw [if_neg h1, if_neg h2] at h
    have hxy : x = y := UInt8.le_antisymm (UInt8.not_lt.1 h2) (UInt8.not_lt.1 h1)
    rw [hxy, cb_eq h]
theorem cb_self : ∀ (a : List UInt8), cb a a = 0
 | [] => rfl
 | x :: a => by
  have := cb_self a
  show Lib.compareBytes (x :: a) (x :: a) = 0
  unfold Lib.compareBytes
  rw [if_neg (UInt8.lt_irrefl x), if_neg (UInt8.lt_irrefl x)]
  exact this
theorem cb_trans : ∀ {a b c : List UInt8}, cb a b < 0 → cb b c < 0 → cb a c < 0
 | [], [], _, h, _ => by simp [cb, Lib.compareBytes] at h
 | _ :: _, [], _, h, _ => by simp [cb, Lib.compareBytes] at h
 | _, _ :: _, [], _, h => by simp [cb, Lib.compareBytes] at h
 | [], _ :: _, _ :: _, _, _ => by simp [cb, Lib.compareBytes]
 | x :: a, y :: b, z :: c, h1, h2 => by
  unfold cb Lib.compareBytes at *
  by_cases xy : x < y
  ·by_cases yz : y < z
   ·rw [if_pos (UInt8.lt_trans xy yz)]; decide
   ·rw [if_neg yz] at h2
    by_cases zy : z < y
    ·rw [if_pos zy] at h2; exact absurd h2 (by decide)
    ·have e : y = z := UInt8.le_antisymm (UInt8.not_lt.1 zy) (UInt8.not_lt.1 yz)
     rw [← e, if_pos xy]; decide
  ·rw [if_neg xy] at h1
   by_cases yx : y < x
   ·rw [if_pos yx] at h1; exact absurd h1 (by decide)
   ·have e : x = y := UInt8.le_antisymm (UInt8.not_lt.1 yx) (UInt8.not_lt.1 xy)
    subst e
    rw [if_neg (UInt8.lt_irrefl _)] at h1
    by_cases yz : x < z
    ·rw [if_pos yz]; decide
    ·rw [if_neg yz] at h2 ⊢
     by_cases zy : z < x
     ·rw [if_pos zy] at h2; exact absurd h2 (by decide)
     ·rw [if_neg zy] at h2 ⊢
      exact cb_trans h1 h2
theorem rows_pair : rowsT.Pairwise (fun a b => cb a.1 b.1 < 0) := by decide +kernel
def rw (k : Nat) : List UInt8 × Int := rowsT.getD k ([], 0)
theorem rw_some {k : Nat} (h : k < 183) : rowsT[k]? = some (rw k) := by
 have : k < rowsT.length := by rw [rows_len]; exact h
 rw [List.getElem?_eq_getElem this]
 unfold En.rw
 rw [List.getD, List.getElem?_eq_getElem this]
 rfl
theorem rw_lt {a b : Nat} (h : a < b) (hb : b < 183) : cb (rw a).1 (rw b).1 < 0 := by
 have := List.pairwise_iff_getElem.1 rows_pair a b (by rw [rows_len]; omega) (by rw [rows_len]; omega) h
 have e1 := rw_some (show a < 183 by omega)
 have e2 := rw_some hb
 rw [List.getElem?_eq_getElem (by rw [rows_len]; omega)] at e1 e2
 rw [Option.some.inj e1, Option.some.inj e2] at this
 exact this
def BS (l : List UInt8) (i j : Nat) : Prop := (∀ k, k < i → k < 183 → cb (rw k).1 l < 0) ∧ (∀ k, j ≤ k → k < 183 → 0 ≤ cb (rw k).1 l)
theorem bs_start (l : List UInt8) : BS l 0 183 := ⟨fun k h _ => by omega, fun k h h2 => by omega⟩
theorem bs_low {l : List UInt8} {i j h : Nat} (hB : BS l i j) (hh : h < 183) (hc : cb (rw h).1 l < 0) : BS l (h + 1) j := by
 refine ⟨fun k hk hk2 => ?_, hB.2⟩
 by_cases e : k = h
 ·rw [e]; exact hc
 ·exact cb_trans (rw_lt (show k < h by omega) hh) hc
theorem bs_high {l : List UInt8} {i j h : Nat} (hB : BS l i j) (hh : h < 183) (hc : ¬ cb (rw h).1 l < 0) : BS l i h := by
 refine ⟨hB.1, fun k hk hk2 => ?_⟩
 by_cases e : k = h
 ·rw [e]; omega
 ·refine Int.not_lt.1 fun hn => hc ?_
  exact cb_trans (rw_lt (show h < k by omega) hk2) hn
theorem bs_found {l : List UInt8} {i : Nat} (hB : BS l i i) (hi : i < 183) (hc : cb (rw i).1 l = 0) : namedF rowsT l = some (rw i).2 := by
 have hlen : i < rowsT.length := by rw [rows_len]; exact hi
 have e : rowsT = rowsT.take i ++ rw i :: rowsT.drop (i + 1) := by
  conv => lhs; rw [← List.take_append_drop i rowsT]
  rw [List.drop_eq_getElem_cons hlen]
  have := rw_some hi
  rw [List.getElem?_eq_getElem hlen] at this
  rw [Option.some.inj this]
 have hn : ∀ e ∈ rowsT.take i, e.1 ≠ l := by
  intro e he hel
  obtain ⟨k, hk, hke⟩ := List.mem_iff_getElem.1 he
  have hki : k < i := by rw [List.length_take] at hk; omega
  rw [List.getElem_take] at hke
  have h1 := rw_some (show k < 183 by omega)
  rw [List.getElem?_eq_getElem (by rw [rows_len]; omega), Option.some.injEq, hke] at h1
  have h2 := hB.1 k hki (by omega)
  rw [← h1, hel, cb_self] at h2
  omega
 rw [e, namedF_app hn]
 generalize rw i = p at hc ⊢
 obtain ⟨n, c⟩ := p
 unfold namedF
 rw [if_pos (cb_eq hc)]
theorem bs_none {l : List UInt8} {i : Nat} (hB : BS l i i) (hc : i < 183 → cb (rw i).1 l ≠ 0) : namedF rowsT l = none := by
 refine namedF_no fun e he hel => ?_
 obtain ⟨k, hk, hke⟩ := List.mem_iff_getElem.1 he
 have hk2 : k < 183 := by rw [rows_len] at hk; exact hk
 have h1 := rw_some hk2
 rw [List.getElem?_eq_getElem hk, Option.some.injEq, hke] at h1
 have h3 : cb (rw k).1 l = 0 := by rw [← h1, hel, cb_self]
 by_cases hki : k < i
 ·have := hB.1 k hki hk2
  omega
 ·by_cases e : k = i
  ·subst e; exact hc hk2 h3
  ·have h4 := rw_lt (show i < k by omega) hk2
   have h5 := hB.2 i (Nat.le_refl i) (by omega)
   rw [cb_eq h3] at h4
   omega
end En
end Go.Proofs.YtkiipaaaakhhfaaGreatDoor
end
section
namespace Go.Proofs.YtkiipaaaakhhfaaGreatDoor
open Go Go.RowKit
namespace En
set_option maxRecDepth 100000
set_option linter.unusedVariables false
set_option linter.unusedSimpArgs false
theorem ret_bool' {a b : Bool} (h : a = b) : Ending.returned (.bool a) = .returned (.bool b) := by rw [h]
theorem ret_int' {k : IntKind} {a b : Int} (h : a = b) : Ending.returned (.int k a) = .returned (.int k b) := by rw [h]
theorem letter_any (b : Int) (w : World) :
  Calls Tryz.prog 133 #[.int .u8 b] w fun e w' => e = .returned (.bool (lett b)) ∧ w = w' := by
 go_enter Tryz.func133, Tryz.ntmps133
 go_wp2
 all_goals (go_ret; refine ⟨ret_bool' ?_, rfl⟩; unfold lett; simp [*] <;> omega)
theorem digit_any (b : Int) (w : World) :
  Calls Tryz.prog 160 #[.int .u8 b] w fun e w' => e = .returned (.bool (digi b)) ∧ w = w' := by
 go_enter Tryz.func160, Tryz.ntmps160
 go_wp2
 all_goals (go_ret; refine ⟨ret_bool' ?_, rfl⟩; unfold digi; simp [*] <;> omega)
theorem dgt_any (b : Int) (w : World) (h0 : 0 ≤ b) (h1 : b ≤ 255) :
  Calls Tryz.prog 187 #[.int .u8 b] w fun e w' => e = .returned (.int .i32 (dgt b)) ∧ w = w' := by
 have HD := Lib.hid (digit_any b w)
 by_cases hd : digi b = true
 ·have hb : 48 ≤ b ∧ b ≤ 57 := by unfold digi at hd; simpa using hd
  have HV : Hid (dgt b = b - 48) := Lib.hid (by unfold dgt; rw [if_pos hd])
  rw [hd] at HD
  obtain ⟨hb1, hb2⟩ := hb
  clear hd
  go_enter Tryz.func187, Tryz.ntmps187
  go_wp2_with (go_at_call 160; refine HD.out.mono ?_; rintro e w' ⟨rfl, rfl⟩)
  go_ret
  exact ⟨ret_int' HV.out.symm, rfl⟩
 ·have hdf : digi b = false := by simpa using hd
  have hb : ¬ (48 ≤ b ∧ b ≤ 57) := by unfold digi at hd; simpa using hd
  rw [hdf] at HD
  by_cases h2 : 97 ≤ b ∧ b ≤ 102
  ·have HV : Hid (dgt b = b - 97 + 10) := Lib.hid (by unfold dgt; rw [if_neg hd, if_pos h2]; omega)
   obtain ⟨ha1, ha2⟩ := h2
   clear hd hdf hb
   go_enter Tryz.func187, Tryz.ntmps187
   go_wp2_with (go_at_call 160; refine HD.out.mono ?_; rintro e w' ⟨rfl, rfl⟩)
   go_ret
   exact ⟨ret_int' HV.out.symm, rfl⟩
  ·by_cases h3 : 65 ≤ b ∧ b ≤ 70
   ·have HV : Hid (dgt b = b - 65 + 10) := Lib.hid (by unfold dgt; rw [if_neg hd, if_neg h2, if_pos h3]; omega)
    obtain ⟨ha1, ha2⟩ := h3
    have hn : ¬ 97 ≤ b := by omega
    clear hd hdf hb h2
    go_enter Tryz.func187, Tryz.ntmps187
    go_wp2_with (go_at_call 160; refine HD.out.mono ?_; rintro e w' ⟨rfl, rfl⟩)
    go_ret
    exact ⟨ret_int' HV.out.symm, rfl⟩
   ·have HV : Hid (dgt b = 16) := Lib.hid (by unfold dgt; rw [if_neg hd, if_neg h2, if_neg h3])
    clear hd hdf hb
    go_enter Tryz.func187, Tryz.ntmps187
    go_wp2_with (go_at_call 160; refine HD.out.mono ?_; rintro e w' ⟨rfl, rfl⟩)
    all_goals first | (exfalso; omega) | (go_ret; exact ⟨ret_int' HV.out.symm, rfl⟩)
theorem chr_none {v : Int} (hp : 0 ≤ v) (h : Lib.validRune v = false) : chr v = 65533 := by
 unfold Lib.validRune at h
 unfold chr
 rw [if_pos]
 simp at h
 omega
theorem chr_some {v : Int} (h0 : v ≠ 0) (h : Lib.validRune v = true) : chr v = v := by
 unfold Lib.validRune at h
 unfold chr
 rw [if_neg]
 simp at h
 omega
theorem enc_mark : Utf8.encode 65533 = ⟨#[239, 191, 189]⟩ := by decide +kernel
theorem ret_str {a b : ByteArray} (h : a = b) : Ending.returned (.string a) = .returned (.string b) := by rw [h]
theorem char_any (v : Int) (w : World) (hp : 0 ≤ v) :
  Calls Tryz.prog 189 #[.int .i32 v] w fun e w' => e = .returned (.string (Utf8.encode (chr v))) ∧ w = w' := by
 by_cases h0 : v = 0
 ·subst h0
  have HV : Hid (Utf8.encode (chr 0) = ⟨#[239, 191, 189]⟩) := Lib.hid (by rw [show chr 0 = 65533 from rfl, enc_mark])
  go_enter Tryz.func189, Tryz.ntmps189
  go_wp2
  go_ret
  exact ⟨ret_str HV.out.symm, rfl⟩
 ·have hv0 : (v == 0) = false := by simpa using h0
  have HU := Lib.hid (Tryz.utf8_ValidRune v w)
  cases hv : Lib.validRune v with
  | false =>
   have HV : Hid (Utf8.encode (chr v) = ⟨#[239, 191, 189]⟩) := Lib.hid (by rw [chr_none hp hv, enc_mark])
   rw [hv] at HU
   clear h0 hv
   go_enter Tryz.func189, Tryz.ntmps189
   go_wp2_with (go_at_call 84; refine HU.out.mono ?_; rintro e w' ⟨rfl, rfl⟩)
   go_ret
   exact ⟨ret_str HV.out.symm, rfl⟩
  | true =>
   have HV : Hid (chr v = v) := Lib.hid (chr_some h0 hv)
   rw [hv] at HU
   clear h0 hv
   go_enter Tryz.func189, Tryz.ntmps189
   go_wp2_with (go_at_call 84; refine HU.out.mono ?_; rintro e w' ⟨rfl, rfl⟩)
   go_ret
   exact ⟨ret_str (by rw [HV.out]), rfl⟩
theorem sz (s : ByteArray) : s.data.toList.length = s.size := by rw [Array.length_toList]; rfl
theorem cons_at {s : ByteArray} {k : Nat} (h : k < s.size) : ∃ c t, s.data.toList.drop k = c :: t ∧ s[k] = c ∧ s.data.toList.drop (k + 1) = t := by
 cases hd : s.data.toList.drop k with
 | nil => have := congrArg List.length hd; rw [List.length_drop, sz] at this; simp at this; omega
 | cons x t =>
  refine ⟨x, t, rfl, ?_, ?_⟩
  ·have := congrArg (fun l => l[0]?) hd
   simp at this
   rw [Array.getElem?_eq_getElem (show k < s.data.size from h)] at this
   exact Option.some.inj this
  ·rw [← List.drop_drop, hd]; rfl
theorem get_at {s : ByteArray} {k : Nat} (h : k < s.size) : s.data.toList[k]? = some s[k] := by
 rw [List.getElem?_eq_getElem (by rw [sz]; exact h)]
 rfl
def semiB (l : List UInt8) (k : Nat) : Bool := decide (l[k]? = some 59)
theorem closed_any (s : ByteArray) (k : Nat) (w : World) (hs : s.size ≤ 1099511627776) (hk : k ≤ 1099511627776) :
  Calls Tryz.prog 188 #[.string s, .int .i64 (k : Int)] w fun e w' => e = .returned (.bool (semiB s.data.toList k)) ∧ w = w' := by
 by_cases h : k < s.size
 ·have HV : Hid (semiB s.data.toList k = ((s[k].toNat : Int) == 59)) := Lib.hid (by
   unfold semiB
   rw [get_at h]
   rw [Bool.eq_iff_iff]
   simp only [Option.some.injEq, decide_eq_true_eq, beq_iff_eq]
   constructor
   ·intro e; rw [e]; rfl
   ·intro e; exact UInt8.toNat_inj.1 (by simpa using Int.ofNat.inj e))
  go_enter Tryz.func188, Tryz.ntmps188
  go_wp2
  go_ret
  exact ⟨ret_bool' HV.out.symm, rfl⟩
 ·have HV : Hid (semiB s.data.toList k = false) := Lib.hid (by
   unfold semiB
   rw [List.getElem?_eq_none (by rw [sz]; omega)]
   rfl)
  go_enter Tryz.func188, Tryz.ntmps188
  go_wp2
  go_ret
  exact ⟨ret_bool' HV.out.symm, rfl⟩
end En
end Go.Proofs.YtkiipaaaakhhfaaGreatDoor
end
section
namespace Go.Proofs.YtkiipaaaakhhfaaGreatDoor
open Go Go.RowKit Go.Great
namespace En
set_option maxRecDepth 1000000
set_option linter.unusedVariables false
def str (l : List UInt8) : Value := .string ⟨l.toArray⟩
def cellsT : Array Value := (rowsT.flatMap fun e => [str e.1, .int .i32 e.2]).toArray
def builtAll (P : Program) : List Oper → Act → Option Act
 | [], a => some a
 | o :: rest, a =>
  match o.guard, o.op with
  | none, .build t parts =>
   match P.built t (parts.map fun (i, x) => (i, a.eval x)).toList with
   | some cells => builtAll P rest (a.put o.dst (.agg cells))
   | none => none
  | _, _ => none
theorem wpList_builtAll {P : Program} {ops : Array Oper} {Q : Exit → Act → World → Prop} (rest : List Oper) (w : World) :
  ∀ (l : List Oper) (a a' : Act), builtAll P l a = some a' → wpList P ops Q rest a' w → wpList P ops Q (l ++ rest) a w
 | [], a, a', h, hk => by
  simp only [builtAll, Option.some.injEq] at h
  subst h
  exact hk
 | o :: l, a, a', h, hk => by
  unfold builtAll at h
  split at h
  ·rename_i t parts hg ho
   split at h
   ·rename_i cells hc
    exact wpList_buildTo hg t parts ho o.dst rfl cells hc (wpList_builtAll rest w l _ a' h hk)
   ·cases h
  ·cases h
theorem wpList_builtN {P : Program} {ops : Array Oper} {Q : Exit → Act → World → Prop} {l : List Oper} {a : Act} {w : World} (n : Nat) (h : (builtAll P (l.take n) a).isSome = true)
  (hk : wpList P ops Q (l.drop n) ((builtAll P (l.take n) a).getD a) w) : wpList P ops Q l a w := by
 obtain ⟨a', ha⟩ := Option.isSome_iff_exists.1 h
 rw [ha] at hk
 have := wpList_builtAll (P := P) (ops := ops) (Q := Q) (l.drop n) w (l.take n) a a' ha hk
 rwa [List.take_append_drop] at this
attribute [local irreducible] wpList Code.wp cellsT builtAll
end En
end Go.Proofs.YtkiipaaaakhhfaaGreatDoor
end
section
namespace Go.Proofs.YtkiipaaaakhhfaaGreatDoor
open Go Go.RowKit Go.Great
namespace En
set_option maxRecDepth 1000000
set_option linter.unusedVariables false
attribute [local irreducible] wpList Code.wp cellsT builtAll
noncomputable def zerosT : Array Value := match (Tryz.prog.info? 197).bind (·.zero) with
 | some z => z.cells
 | none => #[]
theorem results_cell {P : Program} {fn : Func} {tmps : Array Value} {v : Value} {w : World} (t : Tmp) (ty : TypeId) (g : Nat) (hr : fn.results = #[.cell t ty]) (ht : tmps.getD t undef = .pointer (some ⟨g, 0, none⟩))
  (hl : (loadVar ty ⟨g, 0, none⟩).run P w = .ok v w) : (results fn tmps).run P w = .ok v w := by
 have ht2 : tmps[t]?.getD undef = .pointer (some ⟨g, 0, none⟩) := by simpa using ht
 unfold results
 rw [hr]
 simp [ht2, asAddr, hl]
set_option maxHeartbeats 4000000 in
theorem table_any (w : World) :
  Calls Tryz.prog 210 #[] w fun e w' => e = .returned (.agg cellsT) ∧ w' = w.alloc (.cells cellsT 197) := by
 have hi : (Tryz.prog.info? 197).map (·.size) = some cellsT.size := by as_aux_lemma => kernel_rfl
 refine calls_of_wp Tryz.func210 rfl ?_
 apply wp_seq_k; intro K hK
 apply wp_region_lit
 refine wpList_allocTo rfl (some 0) rfl (.pointer (some ⟨w.heap.size, 0, none⟩)) (.cells zerosT 197) (by as_aux_lemma => kernel_rfl) ?_
 apply wpList_nil
 refine hK _ _ ?_
 clear hK K
 apply wp_seq_k; intro K hK
 apply wp_region_lit
 refine wpList_builtN 184 (by as_aux_lemma => kernel_rfl) ?_
 refine wpList_store_rowTo rfl 197 _ _ rfl rfl w.heap.size cellsT (by as_aux_lemma => kernel_rfl) (by as_aux_lemma => kernel_rfl) 197 zerosT (heap_alloc_last w _) hi (by as_aux_lemma => kernel_rfl) (by as_aux_lemma => kernel_rfl) ?_
 rw [World.setRow_alloc_new]
 apply wpList_nil
 refine hK _ _ ?_
 clear hK K
 apply wp_ret
 refine bodyPost_ret (v := .agg cellsT) ?_ (by as_aux_lemma => kernel_rfl) ⟨rfl, rfl⟩
 exact results_cell 0 197 w.heap.size rfl (by as_aux_lemma => kernel_rfl) (run_loadVar_new (P := Tryz.prog) w 197 cellsT 183 196 Tryz.underlying197 hi)
end En
end Go.Proofs.YtkiipaaaakhhfaaGreatDoor
end
section
namespace Go.Proofs.YtkiipaaaakhhfaaGreatDoor
open Go Go.RowKit
namespace En
set_option maxRecDepth 100000
set_option linter.unusedVariables false
set_option linter.unusedSimpArgs false
theorem byName_any (a b : ByteArray) (c : Int) (w : World) :
  Calls Tryz.prog 212 #[.agg #[.string a, .int .i32 c], .string b] w fun e w' => e = .returned (.int .i64 (cb a.data.toList b.data.toList)) ∧ Below w.heap.size w w' := by
 have HC := Lib.hid (fun w => Tryz.strings_Compare a b w)
 go_enter Tryz.func212, Tryz.ntmps212
 go_wp2_with (go_at_call 227; refine (HC.out _).mono ?_; rintro e w' ⟨rfl, rfl⟩)
 go_ret
 exact ⟨rfl, (Below.refl _ w).alloc (Nat.le_refl _) _⟩
def TabAt (w : World) (g : Nat) : Prop := ∀ k, k < 183 → w.cell? ⟨g, k * 2, none⟩ = some (.string ⟨(rw k).1.toArray⟩) ∧ w.cell? ⟨g, k * 2 + 1, none⟩ = some (.int .i32 (rw k).2)
theorem cell_lt {w : World} {b o : Nat} {x : Value} (h : w.cell? ⟨b, o, none⟩ = some x) : b < w.heap.size := by
 rcases Nat.lt_or_ge b w.heap.size with h' | h'
 ·exact h'
 ·simp [World.cell?, Array.getElem?_eq_none h'] at h
theorem TabAt.lt {w : World} {g : Nat} (h : TabAt w g) : g < w.heap.size := cell_lt (h 0 (by decide)).1
theorem TabAt.below {w w' : World} {g B : Nat} (h : TabAt w g) (hg : g < B) (hB : Below B w w') : TabAt w' g := by
 intro k hk
 obtain ⟨h1, h2⟩ := h k hk
 exact ⟨(hB.cell (p := ⟨g, k * 2, none⟩) hg).trans h1, (hB.cell (p := ⟨g, k * 2 + 1, none⟩) hg).trans h2⟩
theorem flat_at : ∀ (T : List (List UInt8 × Int)) (k : Nat) (e : List UInt8 × Int), T[k]? = some e →
  (T.flatMap fun e => [str e.1, Value.int .i32 e.2])[k * 2]? = some (str e.1) ∧ (T.flatMap fun e => [str e.1, Value.int .i32 e.2])[k * 2 + 1]? = some (.int .i32 e.2)
 | [], k, e, h => by simp at h
 | x :: t, 0, e, h => by simp at h; subst h; exact ⟨rfl, rfl⟩
 | x :: t, k + 1, e, h => by
  have := flat_at t k e (by simpa using h)
  rw [show (k + 1) * 2 = k * 2 + 1 + 1 from by omega]
  simpa using this
theorem tab_new (w : World) (t : TypeId) : TabAt (w.alloc (.cells cellsT t)) w.heap.size := by
 intro k hk
 obtain ⟨h1, h2⟩ := flat_at rowsT k (rw k) (rw_some hk)
 rw [World.cell?_alloc_new, World.cell?_alloc_new]
 unfold cellsT
 unfold str at h1
 exact ⟨by simpa [str] using h1, by simpa [str] using h2⟩
def FoundAt (l : List UInt8) (i : Nat) (b : Bool) : Prop := i ≤ 183 ∧ (b = true → i < 183 ∧ namedF rowsT l = some (rw i).2) ∧ (b = false → namedF rowsT l = none)
def Found (l : List UInt8) (e : Ending) : Prop := ∃ (i : Nat) (b : Bool), FoundAt l i b ∧ e = .returned (.tuple #[.int .i64 (i : Int), .bool b])
theorem found_mk {l : List UInt8} {i : Nat} {b : Bool} (h : FoundAt l i b) : Found l (.returned (.tuple #[.int .i64 (i : Int), .bool b])) := ⟨i, b, h, rfl⟩
theorem at_yes {l : List UInt8} {i : Nat} (h : i < 183) (hn : namedF rowsT l = some (rw i).2) : FoundAt l i true := ⟨by omega, fun _ => ⟨h, hn⟩, fun h => (by cases h)⟩
theorem at_no {l : List UInt8} {i : Nat} (h : i ≤ 183) (hn : namedF rowsT l = none) : FoundAt l i false := ⟨h, fun h => (by cases h), fun _ => hn⟩
set_option maxHeartbeats 2000000 in
theorem search_any (s : ByteArray) (g cap : Nat) (w : World) (hT : TabAt w g) :
  Calls Tryz.prog 211 #[.slice (some ⟨g, 0, none⟩) 183 cap, .string s, .func (.func 212) #[] #[]] w fun e w' =>
   Found s.data.toList e ∧ Below w.heap.size w w' := by
 have HT := Lib.hid hT
 have HG := Lib.hid hT.lt
 clear hT
 go_enter Tryz.func211, Tryz.ntmps211
 go_wp2
 go_loopw [9, 10] (fun v9 v10 wr => ∃ i j : Nat, i ≤ j ∧ j ≤ 183 ∧ v9 = .int .i64 (i : Int) ∧ v10 = .int .i64 (j : Int) ∧ Hid (BS s.data.toList i j) ∧ Hid (Below w.heap.size w wr)) (fun v9 v10 _ => (intOf v10).toNat - (intOf v9).toNat)
 case atStart => exact ⟨0, 183, by decide, by decide, rfl, rfl, Lib.hid (bs_start _), Lib.hid (Below.refl _ _)⟩
 case round =>
  obtain ⟨i, j, hij, hj, rfl, rfl, HB, HW⟩ := hrel
  have hwr := HW.out.size
  have HTr := Lib.hid (HT.out.below HG.out HW.out)
  by_cases hlt : i < j
  ·have hh : (i + j) / 2 < 183 := by omega
   obtain ⟨hc1, hc2⟩ := HTr.out _ hh
   have HH := Lib.hid hh
   obtain ⟨x, hx⟩ : ∃ x, cb (rw ((i + j) / 2)).1 s.data.toList = x := ⟨_, rfl⟩
   have HC : Hid (Calls Tryz.prog 212 #[.agg #[.string ⟨(rw ((i + j) / 2)).1.toArray⟩, .int .i32 (rw ((i + j) / 2)).2], .string s] wr fun e w' => e = .returned (.int .i64 x) ∧ Below wr.heap.size wr w') := Lib.hid (by
    have := byName_any ⟨(rw ((i + j) / 2)).1.toArray⟩ s (rw ((i + j) / 2)).2 wr
    rw [← hx]
    exact this)
   have hlt' : (i : Int) < (j : Int) := by omega
   have HX := Lib.hid hx
   clear hx hh
   by_cases hx0 : x < 0
   ·have HB2 := Lib.hid (bs_low HB.out HH.out (by rw [HX.out]; exact hx0))
    go_wp2_with (go_at_call 212; refine HC.out.mono ?_; rintro e w2 ⟨rfl, hb2⟩)
    have hbw := HW.out.trans (hb2.mono hwr)
    go_roundw
    case rel => exact ⟨(i + j) / 2 + 1, j, by omega, hj, by go_num, rfl, HB2, Lib.hid hbw⟩
    case measure => simp [intOf]; omega
   ·have HB2 := Lib.hid (bs_high HB.out HH.out (by rw [HX.out]; exact hx0))
    go_wp2_with (go_at_call 212; refine HC.out.mono ?_; rintro e w2 ⟨rfl, hb2⟩)
    have hbw := HW.out.trans (hb2.mono hwr)
    go_roundw
    case rel => exact ⟨i, (i + j) / 2, by omega, by omega, rfl, by go_num, HB2, Lib.hid hbw⟩
    case measure => simp [intOf]; omega
  ·obtain rfl : i = j := by omega
   by_cases hi : i < 183
   ·obtain ⟨hc1, hc2⟩ := HTr.out _ hi
    have HI := Lib.hid hi
    have hi' : (i : Int) < 183 := by omega
    obtain ⟨x, hx⟩ : ∃ x, cb (rw i).1 s.data.toList = x := ⟨_, rfl⟩
    have HC : Hid (Calls Tryz.prog 212 #[.agg #[.string ⟨(rw i).1.toArray⟩, .int .i32 (rw i).2], .string s] wr fun e w' => e = .returned (.int .i64 x) ∧ Below wr.heap.size wr w') := Lib.hid (by
     have := byName_any ⟨(rw i).1.toArray⟩ s (rw i).2 wr
     rw [← hx]
     exact this)
    have HX := Lib.hid hx
    clear hx hi
    by_cases hx0 : x = 0
    ·have HF := Lib.hid (bs_found HB.out HI.out (by rw [HX.out]; exact hx0))
     subst hx0
     go_wp2_with (go_at_call 212; refine HC.out.mono ?_; rintro e w2 ⟨rfl, hb2⟩)
     have hbw := HW.out.trans (hb2.mono hwr)
     go_ret2
     exact ⟨found_mk (at_yes HI.out HF.out), hbw⟩
    ·have HF := Lib.hid (bs_none HB.out (fun _ => by rw [HX.out]; exact hx0))
     have hxb : (x == 0) = false := by simpa using hx0
     clear hx0
     go_wp2_with (go_at_call 212; refine HC.out.mono ?_; rintro e w2 ⟨rfl, hb2⟩)
     have hbw := HW.out.trans (hb2.mono hwr)
     go_ret2
     exact ⟨found_mk (at_no hj HF.out), hbw⟩
   ·have HF := Lib.hid (bs_none HB.out (fun h => absurd h hi))
    have hi' : ¬ (i : Int) < 183 := by omega
    go_wp2
    go_ret2
    exact ⟨found_mk (at_no hj HF.out), HW.out⟩
end En
end Go.Proofs.YtkiipaaaakhhfaaGreatDoor
end
section
namespace Go.Proofs.YtkiipaaaakhhfaaGreatDoor
open Go Go.RowKit Go.Great
namespace En
set_option maxRecDepth 100000
set_option linter.unusedVariables false
set_option linter.unusedSimpArgs false
attribute [local irreducible] cellsT zerosT
def namedV (l : List UInt8) : Value := match namedF rowsT l with
 | some c => .tuple #[.string (Utf8.encode c), .bool true]
 | none => .tuple #[.string ⟨#[]⟩, .bool false]
theorem namedV_some {l : List UInt8} {c : Int} (h : namedF rowsT l = some c) : namedV l = .tuple #[.string (Utf8.encode c), .bool true] := by unfold namedV; rw [h]
theorem namedV_none {l : List UInt8} (h : namedF rowsT l = none) : namedV l = .tuple #[.string ⟨#[]⟩, .bool false] := by unfold namedV; rw [h]
theorem ret_val {a b : Value} (h : a = b) : Ending.returned a = .returned b := by rw [h]
theorem tab_info : (Tryz.prog.info? 197).map (·.size) = some cellsT.size := by kernel_rfl
theorem tab_zero : zerosT.size = cellsT.size := by kernel_rfl
theorem tab_one : cellsT.all (·.oneCell') = true := by kernel_rfl
set_option maxHeartbeats 2000000 in
theorem named_any (s : ByteArray) (w : World) :
  Calls Tryz.prog 190 #[.string s] w fun e w' => e = .returned (namedV s.data.toList) ∧ Below w.heap.size w w' := by
 have HTab := Lib.hid (fun w => table_any w)
 go_enter Tryz.func190, Tryz.ntmps190
 go_wp2_with fail
 refine (HTab.out _).mono ?_
 rintro e w1 ⟨rfl, hw1⟩
 have hb1 : Below w.heap.size w w1 := by rw [hw1]; exact (Below.refl _ w).alloc (Nat.le_refl _) _
 clear hw1
 rename_i K1 hK1 K2 hK2
 show K2 _ _
 refine hK2 _ _ ?_
 refine wpList_allocTo rfl (some 4) rfl (.pointer (some ⟨w1.heap.size, 0, none⟩)) (.cells zerosT 197) (by kernel_rfl) ?_
 refine wpList_store_rowTo rfl 197 _ _ rfl rfl w1.heap.size cellsT rfl rfl 197 zerosT (heap_alloc_last w1 _) tab_info tab_zero tab_one ?_
 rw [World.setRow_alloc_new]
 apply wpList_nil
 refine hK1 _ _ ?_
 clear hK1 hK2 K1 K2
 have HT2 := Lib.hid (tab_new w1 197)
 have HB2 := Lib.hid (hb1.alloc (hb1.size) (.cells cellsT 197))
 have HG := Lib.hid (show w1.heap.size < (w1.alloc (.cells cellsT 197)).heap.size by simp)
 clear hb1
 generalize w1.alloc (.cells cellsT 197) = w2 at *
 generalize w1.heap.size = g at *
 go_wp2_with fail
 refine (search_any s g 183 w2 HT2.out).mono ?_
 rintro e w3 ⟨hf, hb3⟩
 obtain ⟨i, b, ⟨hi183, hy, hn⟩, rfl⟩ := hf
 have hbw := HB2.out.trans (hb3.mono HB2.out.size)
 cases b
 ·have HV := Lib.hid (namedV_none (hn rfl))
  clear hy hn hb3
  go_wp2
  go_ret2
  exact ⟨ret_val HV.out.symm, hbw⟩
 ·obtain ⟨hi, hx⟩ := hy rfl
  have HV := Lib.hid (namedV_some hx)
  obtain ⟨hc1, hc2⟩ := HT2.out.below HG.out hb3 i hi
  clear hy hn hb3 hx
  go_wp2
  go_ret2
  exact ⟨ret_val HV.out.symm, hbw⟩
end En
end Go.Proofs.YtkiipaaaakhhfaaGreatDoor
end
section
namespace Go.Proofs.YtkiipaaaakhhfaaGreatDoor
open Go Go.RowKit
namespace En
set_option maxRecDepth 100000
set_option linter.unusedVariables false
set_option linter.unusedSimpArgs false
def resV : Option (Int × Nat) → Value
 | some (c, n) => .tuple #[.string (Utf8.encode c), .int .i64 (n : Int)]
 | none => .tuple #[.string ⟨#[]⟩, .int .i64 0]
theorem alN_s {c : UInt8} {t : List UInt8} (h : isAl c = true) : alN (c :: t) = alN t + 1 := by simp [alN, h]
theorem alN_z {c : UInt8} {t : List UInt8} (h : isAl c = false) : alN (c :: t) = 0 := by simp [alN, h]
theorem alN_all {l : List UInt8} {k : Nat} (h : l.length ≤ k) : alN (l.drop k) = 0 := by rw [List.drop_eq_nil_of_le h]; rfl
def NRel (l : List UInt8) (k : Nat) : Prop := alN (l.drop 1) + 1 = k + alN (l.drop k)
theorem nrel_step {l : List UInt8} {k : Nat} {c : UInt8} {t : List UInt8} (h : NRel l k) (hd : l.drop k = c :: t) (ht : l.drop (k + 1) = t) (hc : isAl c = true) : NRel l (k + 1) := by
 unfold NRel at *
 rw [h, hd, alN_s hc, ht]
 omega
theorem nrel_stop {l : List UInt8} {k : Nat} {c : UInt8} {t : List UInt8} (h : NRel l k) (hd : l.drop k = c :: t) (hc : isAl c = false) : k = alN (l.drop 1) + 1 := by
 unfold NRel at *
 rw [h, hd, alN_z hc]
 omega
theorem nrel_end {l : List UInt8} {k : Nat} (h : NRel l k) (hk : l.length ≤ k) : k = alN (l.drop 1) + 1 := by
 unfold NRel at *
 rw [h, alN_all hk]
 omega
theorem int_eq {a b : Nat} (h : a = b) : (Value.int .i64 (a : Int)) = .int .i64 (b : Int) := by rw [h]
theorem nameG_no {L : List UInt8} (h : L[alN L]? ≠ some 59) : nameG L = none := by unfold nameG; rw [if_neg h]
theorem nameG_yes {L : List UInt8} (h : L[alN L]? = some 59) : nameG L = (namedF rowsT (L.take (alN L))).map (fun c => (c, alN L + 2)) := by unfold nameG; rw [if_pos h]
set_option maxHeartbeats 4000000 in
theorem readName_any (s : ByteArray) (w : World) (hs : s.size ≤ 1000000) (h1 : 1 ≤ s.size) :
  Calls Tryz.prog 170 #[.string s, .int .i64 1] w fun e w' => e = .returned (resV (nameG (s.data.toList.drop 1))) ∧ Below w.heap.size w w' := by
 obtain ⟨E, hE⟩ : ∃ E, alN (s.data.toList.drop 1) + 1 = E := ⟨_, rfl⟩
 have HE := Lib.hid hE
 have hE1 : 1 ≤ E := by omega
 have hE2 : E ≤ s.size := by
  have := alN_le (s.data.toList.drop 1)
  rw [List.length_drop, sz] at this
  omega
 clear hE
 go_enter Tryz.func170, Tryz.ntmps170
 go_upto_block 0 with fail
 go_cut [6] (fun v6 wx => v6 = .int .i64 (E : Int) ∧ w = wx)
 case first =>
  go_wp2_with fail
  go_loop [6] (fun v6 => ∃ k : Nat, 1 ≤ k ∧ k ≤ s.size ∧ v6 = .int .i64 (k : Int) ∧ Hid (NRel s.data.toList k)) (fun v6 => s.size - (intOf v6).toNat)
  case atStart => exact ⟨1, by omega, by omega, rfl, Lib.hid (by unfold NRel; omega)⟩
  case round =>
   obtain ⟨k, hk1, hk2, rfl, HR⟩ := hrel
   by_cases hlt : k < s.size
   ·obtain ⟨c, t, hd, hck, ht⟩ := cons_at hlt
    have HL := Lib.hid (letter_any (c.toNat : Int) w)
    have HG := Lib.hid (digit_any (c.toNat : Int) w)
    have HD := Lib.hid hd
    have HT := Lib.hid ht
    clear hd ht
    cases hl : lett (c.toNat : Int) with
    | true =>
     have HS := Lib.hid (nrel_step HR.out HD.out HT.out (show isAl c = true by unfold isAl; rw [hl]; rfl))
     rw [hl] at HL
     clear hl
     go_wp2_with (first | (go_at_call 133; refine HL.out.mono ?_; rintro e w' ⟨rfl, rfl⟩))
     go_round
     case rel => exact ⟨k + 1, by omega, by omega, by go_num, HS⟩
     case measure => simp [intOf]; omega
    | false =>
     cases hg : digi (c.toNat : Int) with
     | true =>
      have HS := Lib.hid (nrel_step HR.out HD.out HT.out (show isAl c = true by unfold isAl; rw [hl, hg]; rfl))
      rw [hl] at HL
      rw [hg] at HG
      clear hl hg
      go_wp2_with (first | (go_at_call 133; refine HL.out.mono ?_; rintro e w' ⟨rfl, rfl⟩) | (go_at_call 160; refine HG.out.mono ?_; rintro e w' ⟨rfl, rfl⟩))
      go_round
      case rel => exact ⟨k + 1, by omega, by omega, by go_num, HS⟩
      case measure => simp [intOf]; omega
     | false =>
      have HS := Lib.hid (nrel_stop HR.out HD.out (show isAl c = false by unfold isAl; rw [hl, hg]; rfl))
      rw [hl] at HL
      rw [hg] at HG
      clear hl hg
      go_wp2_with (first | (go_at_call 133; refine HL.out.mono ?_; rintro e w' ⟨rfl, rfl⟩) | (go_at_call 160; refine HG.out.mono ?_; rintro e w' ⟨rfl, rfl⟩))
      go_meet
      exact ⟨int_eq (by rw [HS.out, HE.out]), rfl⟩
   ·have HS := Lib.hid (nrel_end HR.out (by rw [sz]; omega))
    go_wp2
    go_meet
    exact ⟨int_eq (by rw [HS.out, HE.out]), rfl⟩
 case rest =>
  obtain ⟨rfl, rfl⟩ := hcut
  have HC := Lib.hid (closed_any s E w (by omega) (by omega))
  cases hsb : semiB s.data.toList E with
  | false =>
   have HV : Hid (nameG (s.data.toList.drop 1) = none) := Lib.hid (nameG_no (by
    unfold semiB at hsb
    rw [List.getElem?_drop, show 1 + alN (s.data.toList.drop 1) = E by have := HE.out; omega]
    exact of_decide_eq_false hsb))
   rw [hsb] at HC
   clear hsb
   go_wp2_with (first | (go_at_call 188; refine HC.out.mono ?_; rintro e w' ⟨rfl, rfl⟩))
   go_ret2
   exact ⟨ret_val (by rw [HV.out]; rfl), Below.refl _ _⟩
  | true =>
   have hES : E < s.size := by
    unfold semiB at hsb
    have := of_decide_eq_true hsb
    have := (List.getElem?_eq_some_iff.1 this).1
    rw [sz] at this
    exact this
   have HV : Hid (nameG (s.data.toList.drop 1) = (namedF rowsT ((s.data.toList.drop 1).take (E - 1))).map (fun c => (c, E + 1))) := Lib.hid (by
    have h2 : alN (s.data.toList.drop 1) = E - 1 := by have := HE.out; omega
    rw [nameG_yes (by
     unfold semiB at hsb
     rw [List.getElem?_drop, show 1 + alN (s.data.toList.drop 1) = E by omega]
     exact of_decide_eq_true hsb), h2, show E - 1 + 2 = E + 1 by omega])
   have HN := Lib.hid (named_any (s.extract 1 E) w)
   have HX : Hid ((s.extract 1 E).data.toList = (s.data.toList.drop 1).take (E - 1)) := Lib.hid (Lib.extract_data s 1 E)
   rw [HX.out] at HN
   rw [hsb] at HC
   generalize (s.data.toList.drop 1).take (E - 1) = n at *
   have hE1' : (1 : Int) ≤ (E : Int) := by omega
   have hE2' : (E : Int) ≤ (s.size : Int) := by omega
   clear hsb
   cases hn : namedF rowsT n with
   | none =>
    rw [namedV_none hn] at HN
    rw [hn] at HV
    clear hn
    go_wp2_with (first | (go_at_call 188; refine HC.out.mono ?_; rintro e w' ⟨rfl, rfl⟩) | (go_at_call 190; refine HN.out.mono ?_; rintro e w' ⟨rfl, hb⟩))
    go_ret2
    exact ⟨ret_val (by rw [HV.out]; rfl), hb⟩
   | some c =>
    rw [namedV_some hn] at HN
    rw [hn] at HV
    clear hn
    go_wp2_with (first | (go_at_call 188; refine HC.out.mono ?_; rintro e w' ⟨rfl, rfl⟩) | (go_at_call 190; refine HN.out.mono ?_; rintro e w' ⟨rfl, hb⟩))
    go_ret2
    exact ⟨ret_val (by rw [HV.out]; rfl), hb⟩
end En
end Go.Proofs.YtkiipaaaakhhfaaGreatDoor
end
