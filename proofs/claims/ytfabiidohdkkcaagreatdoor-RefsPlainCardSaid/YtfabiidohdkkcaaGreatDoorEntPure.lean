/- Plain mathematics of layer 4 (character references): no program in it. -/
import GoSem.Core.Utf8
import GoSem.Op.String
import Derived.Lib.Bytealg
set_option linter.unusedVariables false
set_option linter.unusedSimpArgs false
set_option maxRecDepth 100000
namespace Go.Proofs.YtfabiidohdkkcaaGreatDoor
namespace En

/-- The names, each with its character's number, in their order. -/
def rowsT : List (List UInt8 × Int) := [
  ([65, 69, 108, 105, 103], 198), ([65, 97, 99, 117, 116, 101], 193), ([65, 99, 105, 114, 99], 194), ([65, 103, 114, 97, 118, 101], 192),
  ([65, 108, 112, 104, 97], 913), ([65, 114, 105, 110, 103], 197), ([65, 116, 105, 108, 100, 101], 195), ([65, 117, 109, 108], 196),
  ([66, 101, 116, 97], 914), ([67, 99, 101, 100, 105, 108], 199), ([67, 108, 111, 99, 107, 119, 105, 115, 101, 67, 111, 110, 116, 111, 117, 114, 73, 110, 116, 101, 103, 114, 97, 108], 8754), ([68, 97, 103, 103, 101, 114], 8225),
  ([68, 99, 97, 114, 111, 110], 270), ([68, 101, 108, 116, 97], 916), ([68, 105, 102, 102, 101, 114, 101, 110, 116, 105, 97, 108, 68], 8518), ([69, 84, 72], 208),
  ([69, 97, 99, 117, 116, 101], 201), ([69, 99, 105, 114, 99], 202), ([69, 103, 114, 97, 118, 101], 200), ([69, 117, 109, 108], 203),
  ([71, 97, 109, 109, 97], 915), ([72, 105, 108, 98, 101, 114, 116, 83, 112, 97, 99, 101], 8459), ([73, 97, 99, 117, 116, 101], 205), ([73, 99, 105, 114, 99], 206),
  ([73, 103, 114, 97, 118, 101], 204), ([73, 117, 109, 108], 207), ([78, 116, 105, 108, 100, 101], 209), ([79, 69, 108, 105, 103], 338),
  ([79, 97, 99, 117, 116, 101], 211), ([79, 99, 105, 114, 99], 212), ([79, 103, 114, 97, 118, 101], 210), ([79, 109, 101, 103, 97], 937),
  ([79, 115, 108, 97, 115, 104], 216), ([79, 116, 105, 108, 100, 101], 213), ([79, 117, 109, 108], 214), ([83, 99, 97, 114, 111, 110], 352),
  ([84, 72, 79, 82, 78], 222), ([85, 97, 99, 117, 116, 101], 218), ([85, 99, 105, 114, 99], 219), ([85, 103, 114, 97, 118, 101], 217),
  ([85, 117, 109, 108], 220), ([89, 97, 99, 117, 116, 101], 221), ([89, 117, 109, 108], 376), ([97, 97, 99, 117, 116, 101], 225),
  ([97, 99, 105, 114, 99], 226), ([97, 99, 117, 116, 101], 180), ([97, 101, 108, 105, 103], 230), ([97, 103, 114, 97, 118, 101], 224),
  ([97, 108, 112, 104, 97], 945), ([97, 109, 112], 38), ([97, 112, 111, 115], 39), ([97, 114, 105, 110, 103], 229),
  ([97, 115, 121, 109, 112], 8776), ([97, 116, 105, 108, 100, 101], 227), ([97, 117, 109, 108], 228), ([98, 100, 113, 117, 111], 8222),
  ([98, 101, 116, 97], 946), ([98, 114, 118, 98, 97, 114], 166), ([98, 117, 108, 108], 8226), ([99, 97, 112], 8745),
  ([99, 99, 101, 100, 105, 108], 231), ([99, 101, 100, 105, 108], 184), ([99, 101, 110, 116], 162), ([99, 105, 114, 99], 710),
  ([99, 108, 117, 98, 115], 9827), ([99, 111, 112, 121], 169), ([99, 117, 112], 8746), ([99, 117, 114, 114, 101, 110], 164),
  ([100, 97, 103, 103, 101, 114], 8224), ([100, 97, 114, 114], 8595), ([100, 101, 103], 176), ([100, 101, 108, 116, 97], 948),
  ([100, 105, 97, 109, 115], 9830), ([100, 105, 118, 105, 100, 101], 247), ([101, 97, 99, 117, 116, 101], 233), ([101, 99, 105, 114, 99], 234),
  ([101, 103, 114, 97, 118, 101], 232), ([101, 109, 112, 116, 121], 8709), ([101, 109, 115, 112], 8195), ([101, 110, 115, 112], 8194),
  ([101, 112, 115, 105, 108, 111, 110], 949), ([101, 113, 117, 105, 118], 8801), ([101, 116, 104], 240), ([101, 117, 109, 108], 235),
  ([101, 117, 114, 111], 8364), ([101, 120, 105, 115, 116], 8707), ([102, 110, 111, 102], 402), ([102, 111, 114, 97, 108, 108], 8704),
  ([102, 114, 97, 99, 49, 50], 189), ([102, 114, 97, 99, 49, 52], 188), ([102, 114, 97, 99, 51, 52], 190), ([103, 97, 109, 109, 97], 947),
  ([103, 101], 8805), ([103, 116], 62), ([104, 97, 114, 114], 8596), ([104, 101, 97, 114, 116, 115], 9829),
  ([104, 101, 108, 108, 105, 112], 8230), ([105, 97, 99, 117, 116, 101], 237), ([105, 99, 105, 114, 99], 238), ([105, 101, 120, 99, 108], 161),
  ([105, 103, 114, 97, 118, 101], 236), ([105, 110, 102, 105, 110], 8734), ([105, 110, 116], 8747), ([105, 113, 117, 101, 115, 116], 191),
  ([105, 115, 105, 110], 8712), ([105, 117, 109, 108], 239), ([108, 97, 109, 98, 100, 97], 955), ([108, 97, 113, 117, 111], 171),
  ([108, 97, 114, 114], 8592), ([108, 100, 113, 117, 111], 8220), ([108, 101], 8804), ([108, 115, 97, 113, 117, 111], 8249),
  ([108, 115, 113, 117, 111], 8216), ([108, 116], 60), ([109, 97, 99, 114], 175), ([109, 100, 97, 115, 104], 8212),
  ([109, 105, 99, 114, 111], 181), ([109, 105, 100, 100, 111, 116], 183), ([109, 105, 110, 117, 115], 8722), ([109, 117], 956),
  ([110, 97, 98, 108, 97], 8711), ([110, 98, 115, 112], 160), ([110, 100, 97, 115, 104], 8211), ([110, 101], 8800),
  ([110, 105], 8715), ([110, 111, 116], 172), ([110, 116, 105, 108, 100, 101], 241), ([111, 97, 99, 117, 116, 101], 243),
  ([111, 99, 105, 114, 99], 244), ([111, 101, 108, 105, 103], 339), ([111, 103, 114, 97, 118, 101], 242), ([111, 109, 101, 103, 97], 969),
  ([111, 112, 108, 117, 115], 8853), ([111, 114, 100, 102], 170), ([111, 114, 100, 109], 186), ([111, 115, 108, 97, 115, 104], 248),
  ([111, 116, 105, 108, 100, 101], 245), ([111, 116, 105, 109, 101, 115], 8855), ([111, 117, 109, 108], 246), ([112, 97, 114, 97], 182),
  ([112, 97, 114, 116], 8706), ([112, 101, 114, 109, 105, 108], 8240), ([112, 101, 114, 112], 8869), ([112, 105], 960),
  ([112, 108, 117, 115, 109, 110], 177), ([112, 111, 117, 110, 100], 163), ([112, 114, 111, 100], 8719), ([113, 117, 111, 116], 34),
  ([114, 97, 100, 105, 99], 8730), ([114, 97, 113, 117, 111], 187), ([114, 97, 114, 114], 8594), ([114, 100, 113, 117, 111], 8221),
  ([114, 101, 103], 174), ([114, 115, 97, 113, 117, 111], 8250), ([114, 115, 113, 117, 111], 8217), ([115, 98, 113, 117, 111], 8218),
  ([115, 99, 97, 114, 111, 110], 353), ([115, 100, 111, 116], 8901), ([115, 101, 99, 116], 167), ([115, 104, 121], 173),
  ([115, 105, 103, 109, 97], 963), ([115, 112, 97, 100, 101, 115], 9824), ([115, 117, 98], 8834), ([115, 117, 109], 8721),
  ([115, 117, 112], 8835), ([115, 117, 112, 49], 185), ([115, 117, 112, 50], 178), ([115, 117, 112, 51], 179),
  ([115, 122, 108, 105, 103], 223), ([116, 104, 105, 110, 115, 112], 8201), ([116, 104, 111, 114, 110], 254), ([116, 105, 108, 100, 101], 732),
  ([116, 105, 109, 101, 115], 215), ([116, 114, 97, 100, 101], 8482), ([117, 97, 99, 117, 116, 101], 250), ([117, 97, 114, 114], 8593),
  ([117, 99, 105, 114, 99], 251), ([117, 103, 114, 97, 118, 101], 249), ([117, 109, 108], 168), ([117, 117, 109, 108], 252),
  ([121, 97, 99, 117, 116, 101], 253), ([121, 101, 110], 165), ([121, 117, 109, 108], 255)]

/-- The character of a name, by going over the rows. -/
def namedF : List (List UInt8 × Int) → List UInt8 → Option Int
  | [], _ => none
  | (n, c) :: t, l => if n = l then some c else namedF t l

/-- A letter, a digit: over numbers. -/
def lett (b : Int) : Bool := (decide (97 ≤ b) && decide (b ≤ 122)) || (decide (65 ≤ b) && decide (b ≤ 90))
def digi (b : Int) : Bool := decide (48 ≤ b) && decide (b ≤ 57)
def isAl (c : UInt8) : Bool := lett (c.toNat : Int) || digi (c.toNat : Int)
/-- What a digit is worth; 16: it is none. -/
def dgt (b : Int) : Int := if digi b then b - 48 else if 97 ≤ b ∧ b ≤ 102 then b - 87 else if 65 ≤ b ∧ b ≤ 70 then b - 55 else 16
def dg (c : UInt8) : Int := dgt (c.toNat : Int)
/-- What a number stands for. -/
def chr (v : Int) : Int := if v = 0 ∨ (55296 ≤ v ∧ v ≤ 57343) ∨ 1114111 < v then 65533 else v

def valN (base : Int) (l : List UInt8) : Int := l.foldl (fun v c => v * base + dg c) 0
/-- How many digits stand there, at most so many. -/
def runN (base : Int) : Nat → List UInt8 → Nat
  | 0, _ => 0
  | _ + 1, [] => 0
  | m + 1, c :: t => if dg c < base then runN base m t + 1 else 0
def alN : List UInt8 → Nat
  | [] => 0
  | c :: t => if isAl c then alN t + 1 else 0
def numG (base : Int) (most : Nat) (L : List UInt8) (st : Nat) : Option (Int × Nat) :=
  if runN base most L = 0 then none else if L[runN base most L]? = some 59 then some (chr (valN base (L.take (runN base most L))), st + runN base most L + 1) else none
def nameG (L : List UInt8) : Option (Int × Nat) :=
  if L[alN L]? = some 59 then (namedF rowsT (L.take (alN L))).map (fun c => (c, alN L + 2)) else none

/-- What stands ahead of the first semicolon. -/
def cutS : List UInt8 → Option (List UInt8)
  | [] => none
  | c :: t => if c = 59 then some [] else (cutS t).map (c :: ·)
def numB (base : Int) (most : Nat) (d : List UInt8) : Option Int :=
  if d = [] ∨ most < d.length ∨ d.any (fun c => decide (base ≤ dg c)) = true then none else some (valN base d)
def ofBody : List UInt8 → Option Int
  | 38 :: 35 :: x :: d => if x = 120 ∨ x = 88 then (numB 16 6 d).map chr else (numB 10 7 (x :: d)).map chr
  | 38 :: n => if n = [35] then none else namedF rowsT n
  | _ => none
/-- The reference with which a text begins: its character, and how many bytes it is. -/
def rread (l : List UInt8) : Option (Int × Nat) := (cutS l).bind fun b => (ofBody b).map fun c => (c, b.length + 1)
def gread : List UInt8 → Option (Int × Nat)
  | 38 :: 35 :: x :: r => if x = 120 ∨ x = 88 then numG 16 6 r 3 else numG 10 7 (x :: r) 2
  | 38 :: r => if r = [35] then none else nameG r
  | _ => none

theorem cutS_app : ∀ (b m : List UInt8), 59 ∉ b → cutS (b ++ 59 :: m) = some b
  | [], m, _ => by simp [cutS]
  | c :: t, m, h => by
    have hc : c ≠ 59 := fun e => h (by simp [e])
    have ht : 59 ∉ t := fun e => h (by simp [e])
    simp [cutS, hc, cutS_app t m ht]
theorem cutS_some : ∀ {l b : List UInt8}, cutS l = some b → 59 ∉ b ∧ ∃ m, l = b ++ 59 :: m
  | [], b, h => by simp [cutS] at h
  | c :: t, b, h => by
    by_cases hc : c = 59
    · subst hc
      simp [cutS] at h
      subst h
      exact ⟨by simp, t, rfl⟩
    · cases ht : cutS t with
      | none => simp [cutS, hc, ht] at h
      | some b2 =>
        simp [cutS, hc, ht] at h
        subst h
        obtain ⟨h1, m, h2⟩ := cutS_some ht
        refine ⟨?_, m, by rw [h2]; rfl⟩
        intro hm
        rcases List.mem_cons.1 hm with e | e
        · exact hc e.symm
        · exact h1 e
theorem cutS_none : ∀ {l : List UInt8}, 59 ∉ l → cutS l = none
  | [], _ => rfl
  | c :: t, h => by
    have hc : c ≠ 59 := fun e => h (by simp [e])
    have ht : 59 ∉ t := fun e => h (by simp [e])
    simp [cutS, hc, cutS_none ht]
/-- A semicolon at a place ahead of which there is none. -/
theorem cutS_at {L : List UInt8} {k : Nat} (h : L[k]? = some 59) (hn : 59 ∉ L.take k) : cutS L = some (L.take k) := by
  obtain ⟨hk, he⟩ := List.getElem?_eq_some_iff.1 h
  have e : L = L.take k ++ 59 :: L.drop (k + 1) := by
    conv => lhs; rw [← List.take_append_drop k L]
    rw [List.drop_eq_getElem_cons hk, he]
  have := cutS_app (L.take k) (L.drop (k + 1)) hn
  rwa [← e] at this

theorem dg_semi : dg 59 = 16 := by decide
theorem al_semi : isAl 59 = false := by decide

theorem runN_le : ∀ (base : Int) (most : Nat) (L : List UInt8), runN base most L ≤ most ∧ runN base most L ≤ L.length
  | _, 0, _ => by simp [runN]
  | _, _ + 1, [] => by simp [runN]
  | base, m + 1, c :: t => by
    have := runN_le base m t
    unfold runN
    split
    · simp; omega
    · simp
theorem runN_take : ∀ (base : Int) (most : Nat) (L : List UInt8) (c : UInt8), c ∈ L.take (runN base most L) → dg c < base
  | _, 0, _, c, h => by simp [runN] at h
  | _, _ + 1, [], c, h => by simp [runN] at h
  | base, m + 1, x :: t, c, h => by
    unfold runN at h
    split at h
    · rw [List.take_succ_cons] at h
      rcases List.mem_cons.1 h with rfl | h
      · assumption
      · exact runN_take base m t c h
    · simp at h
theorem runN_app : ∀ (base : Int) (most : Nat) (d m : List UInt8), base ≤ 16 → d.length ≤ most → (∀ c ∈ d, dg c < base) → runN base most (d ++ 59 :: m) = d.length
  | base, 0, [], m, hb, _, _ => rfl
  | base, n + 1, [], m, hb, _, _ => by
    have : ¬ dg 59 < base := by rw [dg_semi]; omega
    simp [runN, this]
  | base, 0, c :: t, m, hb, h, _ => by simp at h
  | base, n + 1, c :: t, m, hb, h, hd => by
    have ih := runN_app base n t m hb (by simp at h; omega) (fun x hx => hd x (by simp [hx]))
    have hc : dg c < base := hd c (by simp)
    simp [runN, hc, ih]
theorem numB_some {base : Int} {most : Nat} {d : List UInt8} (h0 : d ≠ []) (h1 : d.length ≤ most) (h2 : ∀ c ∈ d, dg c < base) : numB base most d = some (valN base d) := by
  unfold numB
  rw [if_neg]
  intro h
  rcases h with h | h | h
  · exact h0 h
  · omega
  · obtain ⟨c, hc, hx⟩ := List.any_eq_true.1 h
    have := h2 c hc
    have := of_decide_eq_true hx
    omega
theorem numB_of {base v : Int} {most : Nat} {d : List UInt8} (h : numB base most d = some v) : d ≠ [] ∧ d.length ≤ most ∧ (∀ c ∈ d, dg c < base) ∧ v = valN base d := by
  unfold numB at h
  split at h
  · cases h
  · rename_i hn
    refine ⟨fun e => hn (Or.inl e), Nat.le_of_not_lt fun e => hn (Or.inr (Or.inl e)), fun c hc => ?_, (Option.some.inj h).symm⟩
    refine Int.not_le.1 fun e => hn (Or.inr (Or.inr ?_))
    exact List.any_eq_true.2 ⟨c, hc, by simpa using e⟩

theorem numG_eq (base : Int) (most : Nat) (L : List UInt8) (st : Nat) (hb : base ≤ 16) :
    numG base most L st = (cutS L).bind fun d => (numB base most d).map fun v => (chr v, st + d.length + 1) := by
  have hle := runN_le base most L
  have htk := runN_take base most L
  have hsemi : 59 ∉ L.take (runN base most L) := fun h => by
    have := htk 59 h
    rw [dg_semi] at this
    omega
  unfold numG
  by_cases h0 : runN base most L = 0
  · rw [if_pos h0]
    cases hc : cutS L with
    | none => rfl
    | some d =>
      cases hn : numB base most d with
      | none => simp [hn]
      | some v =>
        exfalso
        obtain ⟨a1, a2, a3, a4⟩ := numB_of hn
        obtain ⟨_, m, rfl⟩ := cutS_some hc
        rw [runN_app base most d m hb a2 a3] at h0
        exact a1 (List.length_eq_zero_iff.1 h0)
  · rw [if_neg h0]
    by_cases h1 : L[runN base most L]? = some 59
    · rw [if_pos h1, cutS_at h1 hsemi]
      have hlen : (L.take (runN base most L)).length = runN base most L := by rw [List.length_take]; omega
      rw [Option.bind_some, numB_some (fun e => by rw [e] at hlen; simp at hlen; omega) (by omega) htk, hlen]
      rfl
    · rw [if_neg h1]
      cases hc : cutS L with
      | none => rfl
      | some d =>
        cases hn : numB base most d with
        | none => simp [hn]
        | some v =>
          exfalso
          obtain ⟨a1, a2, a3, a4⟩ := numB_of hn
          obtain ⟨_, m, rfl⟩ := cutS_some hc
          rw [runN_app base most d m hb a2 a3] at h1
          exact h1 (by simp)

theorem alN_le : ∀ (L : List UInt8), alN L ≤ L.length
  | [] => by simp [alN]
  | c :: t => by
    have := alN_le t
    unfold alN
    split <;> simp; omega
theorem alN_take : ∀ (L : List UInt8) (c : UInt8), c ∈ L.take (alN L) → isAl c = true
  | [], c, h => by simp [alN] at h
  | x :: t, c, h => by
    unfold alN at h
    split at h
    · rw [List.take_succ_cons] at h
      rcases List.mem_cons.1 h with rfl | h
      · assumption
      · exact alN_take t c h
    · simp at h
theorem alN_app : ∀ (d m : List UInt8), (∀ c ∈ d, isAl c = true) → alN (d ++ 59 :: m) = d.length
  | [], m, _ => by simp [alN, al_semi]
  | c :: t, m, hd => by
    have ih := alN_app t m (fun x hx => hd x (by simp [hx]))
    have hc := hd c (by simp)
    simp [alN, hc, ih]

theorem namedF_mem : ∀ {T : List (List UInt8 × Int)} {l : List UInt8} {c : Int}, namedF T l = some c → (l, c) ∈ T
  | [], l, c, h => by simp [namedF] at h
  | (n, x) :: t, l, c, h => by
    unfold namedF at h
    split at h
    · rename_i e
      subst e
      cases h
      exact List.mem_cons_self
    · exact List.mem_cons_of_mem _ (namedF_mem h)
theorem namedF_no : ∀ {T : List (List UInt8 × Int)} {l : List UInt8}, (∀ e ∈ T, e.1 ≠ l) → namedF T l = none
  | [], l, h => rfl
  | (n, x) :: t, l, h => by
    unfold namedF
    rw [if_neg (h (n, x) (by simp)), namedF_no (fun e he => h e (by simp [he]))]
theorem namedF_app {A B : List (List UInt8 × Int)} {l : List UInt8} (h : ∀ e ∈ A, e.1 ≠ l) : namedF (A ++ B) l = namedF B l := by
  induction A with
  | nil => rfl
  | cons a t ih =>
    obtain ⟨n, x⟩ := a
    rw [List.cons_append]
    unfold namedF
    rw [if_neg (h (n, x) (by simp)), ih (fun e he => h e (by simp [he]))]
    cases B <;> rfl

/-- What every row is. -/
def rowOk (e : List UInt8 × Int) : Bool := e.1.all isAl && decide (2 ≤ e.1.length) && decide (e.1.length ≤ 30) && decide (1 ≤ e.2) && decide (e.2 ≤ 10000)
theorem rows_ok : rowsT.all rowOk = true := by decide +kernel
theorem rows_len : rowsT.length = 183 := by decide +kernel
theorem row_ok {e : List UInt8 × Int} (h : e ∈ rowsT) : (∀ c ∈ e.1, isAl c = true) ∧ 2 ≤ e.1.length ∧ e.1.length ≤ 30 ∧ 1 ≤ e.2 ∧ e.2 ≤ 10000 := by
  have := List.all_eq_true.1 rows_ok e h
  simp only [rowOk, Bool.and_eq_true, decide_eq_true_eq] at this
  obtain ⟨⟨⟨⟨h1, h2⟩, h3⟩, h4⟩, h5⟩ := this
  exact ⟨List.all_eq_true.1 h1, h2, h3, h4, h5⟩

theorem nameG_eq (L : List UInt8) : nameG L = (cutS L).bind fun d => (namedF rowsT d).map fun c => (c, d.length + 2) := by
  have hle := alN_le L
  have htk := alN_take L
  have hsemi : 59 ∉ L.take (alN L) := fun h => by
    have := htk 59 h
    rw [al_semi] at this
    cases this
  unfold nameG
  by_cases h1 : L[alN L]? = some 59
  · rw [if_pos h1, cutS_at h1 hsemi]
    have hlen : (L.take (alN L)).length = alN L := by rw [List.length_take]; omega
    rw [Option.bind_some, hlen]
  · rw [if_neg h1]
    cases hc : cutS L with
    | none => rfl
    | some d =>
      cases hn : namedF rowsT d with
      | none => simp [hn]
      | some v =>
        exfalso
        obtain ⟨a1, _⟩ := row_ok (namedF_mem hn)
        obtain ⟨_, m, rfl⟩ := cutS_some hc
        rw [alN_app d m a1] at h1
        exact h1 (by simp)

theorem cutS_cons (c : UInt8) (t : List UInt8) (h : c ≠ 59) : cutS (c :: t) = (cutS t).map (c :: ·) := by simp [cutS, h]
theorem namedF_nil : namedF rowsT [] = none := namedF_no fun e he h => by
  have := (row_ok he).2.1
  rw [h] at this
  simp at this
theorem namedF_hash (t : List UInt8) : namedF rowsT (35 :: t) = none := namedF_no fun e he h => by
  have := (row_ok he).1 35 (by rw [h]; simp)
  revert this
  decide
theorem bind_map {α β γ : Type} (o : Option α) (f : α → β) (g : β → Option γ) : (o.map f).bind g = o.bind fun x => g (f x) := by cases o <;> rfl

theorem gread_num (x : UInt8) (r : List UInt8) : gread (38 :: 35 :: x :: r) = if x = 120 ∨ x = 88 then numG 16 6 r 3 else numG 10 7 (x :: r) 2 := rfl
theorem gread_eq (l : List UInt8) : gread l = rread l := by
  cases l with
  | nil => rfl
  | cons c t =>
  by_cases hc : c = 38
  · subst hc
    cases t with
    | nil => simp [gread, rread, cutS, nameG, alN]
    | cons x r =>
    by_cases hx : x = 35
    · subst hx
      cases r with
      | nil => simp [gread, rread, cutS]
      | cons x r =>
        rw [gread_num]
        unfold rread
        rw [cutS_cons 38 _ (by decide), cutS_cons 35 _ (by decide)]
        by_cases hx : x = 120 ∨ x = 88
        · rw [if_pos hx, numG_eq _ _ _ _ (by decide), cutS_cons x _ (by rcases hx with rfl | rfl <;> decide)]
          cases cutS r with
          | none => rfl
          | some d =>
            simp only [Option.map_some, Option.bind_some, ofBody, if_pos hx, List.length_cons]
            cases numB 16 6 d with
            | none => rfl
            | some v => simp; omega
        · rw [if_neg hx, numG_eq _ _ _ _ (by decide)]
          cases hc : cutS (x :: r) with
          | none => rfl
          | some d =>
            simp only [Option.map_some, Option.bind_some]
            cases d with
            | nil => simp [ofBody, numB]
            | cons y d =>
              have hy : y = x := by
                obtain ⟨_, m, e⟩ := cutS_some hc
                simp at e
                exact e.1.symm
              subst hy
              simp only [ofBody, if_neg hx, List.length_cons]
              cases numB 10 7 (y :: d) with
              | none => rfl
              | some v => simp; omega
    · have hg : gread (38 :: x :: r) = nameG (x :: r) := by
        unfold gread
        split
        · rename_i e; simp at e; exact absurd e.1 hx
        · rename_i r2 _ e
          simp at e
          subst e
          rw [if_neg (by simp [hx])]
        · rename_i h; exact absurd rfl (h (x :: r))
      rw [hg, nameG_eq]
      unfold rread
      rw [cutS_cons 38 _ (by decide)]
      cases hc : cutS (x :: r) with
      | none => rfl
      | some d =>
        simp only [Option.map_some, Option.bind_some]
        have ho : ofBody (38 :: d) = namedF rowsT d := by
          unfold ofBody
          split
          · rename_i y d2 e
            simp at e
            subst e
            obtain ⟨_, m, e⟩ := cutS_some hc
            simp at e
            exact absurd e.1 hx
          · rename_i n _ e
            simp at e
            subst e
            split
            · rename_i e
              subst e
              rw [namedF_hash]
            · rfl
          · rename_i h; exact absurd rfl (h d)
        rw [ho]
        cases namedF rowsT d with
        | none => rfl
        | some v => simp
  · have hg : gread (c :: t) = none := by
      unfold gread
      split
      · rename_i e; simp at e; exact absurd e.1 hc
      · rename_i e; simp at e; exact absurd e.1 hc
      · rfl
    rw [hg]
    unfold rread
    cases hs : cutS (c :: t) with
    | none => rfl
    | some b =>
      have ho : ofBody b = none := by
        unfold ofBody
        obtain ⟨_, m, e⟩ := cutS_some hs
        split
        · simp at e; exact absurd e.1 hc
        · simp at e; exact absurd e.1 hc
        · rfl
      rw [Option.bind_some, ho]
      rfl
end En
end Go.Proofs.YtfabiidohdkkcaaGreatDoor
