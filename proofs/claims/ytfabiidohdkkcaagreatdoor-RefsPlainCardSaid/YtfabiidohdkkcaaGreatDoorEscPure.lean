/- Plain mathematics of layer 5 (texts as they stand in HTML): no program in it. -/
import Derived.Test.YtfabiidohdkkcaaGreatDoorEntPure
set_option linter.unusedVariables false
set_option linter.unusedSimpArgs false
set_option maxRecDepth 100000
namespace Go.Proofs.YtfabiidohdkkcaaGreatDoor
namespace Es
open En

/-! ### signs -/
abbrev Tab := List (Int × Int × Int)
def kinds : Tab := [(9, 10, 1), (12, 13, 1), (32, 32, 1), (33, 47, 2), (58, 64, 2), (91, 96, 2), (123, 126, 2), (160, 160, 1), (161, 169, 2), (171, 172, 2), (174, 177, 2), (180, 180, 2), (182, 184, 2), (187, 187, 2), (191, 191, 2), (215, 215, 2), (247, 247, 2), (5760, 5760, 1), (8192, 8202, 1), (8208, 8231, 2), (8239, 8239, 1), (8240, 8286, 2), (8287, 8287, 1), (8352, 8384, 2), (12288, 12288, 1), (12289, 12291, 2), (12296, 12319, 2), (65281, 65295, 2)]
def kdF : Tab → Int → Int
  | [], _ => 0
  | (a, b, k) :: t, r => if r ≤ b then (if r < a then 0 else k) else kdF t r
def kd (r : Int) : Int := kdF kinds r
/-- A sign: over numbers. -/
def sgI (b : Int) : Bool := (decide (33 ≤ b) && decide (b ≤ 47)) || (decide (58 ≤ b) && decide (b ≤ 64)) || (decide (91 ≤ b) && decide (b ≤ 96)) || (decide (123 ≤ b) && decide (b ≤ 126))
theorem kd_sgN : ∀ n : Nat, n < 128 → decide (kd (n : Int) = 2) = sgI n := by decide +kernel
theorem kd_sg {b : Int} (h0 : 0 ≤ b) (h1 : b < 128) : decide (kd b = 2) = sgI b := by
  obtain ⟨n, rfl⟩ : ∃ n : Nat, b = n := ⟨b.toNat, by omega⟩
  exact kd_sgN n (by omega)
theorem sg_high {b : Int} (h : 128 ≤ b) : sgI b = false := by
  unfold sgI
  rw [decide_eq_false (by omega : ¬ b ≤ 47), decide_eq_false (by omega : ¬ b ≤ 64), decide_eq_false (by omega : ¬ b ≤ 96), decide_eq_false (by omega : ¬ b ≤ 126)]
  simp
def sg (c : UInt8) : Bool := sgI (c.toNat : Int)

theorem all_u8 {p : UInt8 → Bool} (h : (List.range 256).all (fun n => p (UInt8.ofNat n)) = true) (c : UInt8) : p c = true := by
  have := List.all_eq_true.1 h c.toNat (List.mem_range.2 c.toNat_lt)
  simpa using this

/-! ### HTML -/
def ampB : List UInt8 := [38, 97, 109, 112, 59]
def ltB : List UInt8 := [38, 108, 116, 59]
def gtB : List UInt8 := [38, 103, 116, 59]
def quotB : List UInt8 := [38, 113, 117, 111, 116, 59]
def aposB : List UInt8 := [38, 35, 51, 57, 59]
def htB (c : UInt8) : List UInt8 := if c = 38 then ampB else if c = 60 then ltB else if c = 62 then gtB else if c = 34 then quotB else [c]
def html (l : List UInt8) : List UInt8 := l.flatMap htB
theorem html_app (a b : List UInt8) : html (a ++ b) = html a ++ html b := List.flatMap_append
theorem html_cons (c : UInt8) (t : List UInt8) : html (c :: t) = htB c ++ html t := rfl
theorem htB_len (c : UInt8) : 1 ≤ (htB c).length ∧ (htB c).length ≤ 6 := by
  unfold htB ampB ltB gtB quotB
  (repeat' split) <;> simp
theorem htB_self {c : UInt8} (h1 : c ≠ 38) (h2 : c ≠ 60) (h3 : c ≠ 62) (h4 : c ≠ 34) : htB c = [c] := by
  unfold htB
  rw [if_neg h1, if_neg h2, if_neg h3, if_neg h4]
theorem flat_len {f : UInt8 → List UInt8} {a b : Nat} (h : ∀ c, a ≤ (f c).length ∧ (f c).length ≤ b) : ∀ l : List UInt8, a * l.length ≤ (l.flatMap f).length ∧ (l.flatMap f).length ≤ b * l.length
  | [] => by simp
  | c :: t => by
    have := flat_len h t
    have := h c
    rw [List.flatMap_cons, List.length_append, List.length_cons, Nat.mul_succ, Nat.mul_succ]
    omega
theorem html_len (l : List UInt8) : l.length ≤ (html l).length ∧ (html l).length ≤ 6 * l.length := by
  have := flat_len htB_len l
  unfold html
  omega
theorem take_flat (f : UInt8 → List UInt8) (l : List UInt8) (k : Nat) (h : k < l.length) : (l.take (k + 1)).flatMap f = (l.take k).flatMap f ++ f l[k] := by
  rw [List.take_succ_eq_append_getElem h, List.flatMap_append]
  simp
theorem take_html (l : List UInt8) (k : Nat) (h : k < l.length) : html (l.take (k + 1)) = html (l.take k) ++ htB l[k] := take_flat _ _ _ h

/-! ### addresses -/
def asIs : List UInt8 := [33, 35, 36, 37, 40, 41, 42, 43, 44, 45, 46, 47, 58, 59, 61, 63, 64, 95, 126]
def okB (c : UInt8) : Bool := isAl c || asIs.contains c
def hxD (n : Nat) : UInt8 := if n < 10 then UInt8.ofNat (48 + n) else UInt8.ofNat (55 + n)
def pctB (c : UInt8) : List UInt8 := [37, hxD (c.toNat / 16), hxD (c.toNat % 16)]
def hrB (c : UInt8) : List UInt8 := if okB c then [c] else if c = 38 then ampB else if c = 39 then aposB else pctB c
def href (l : List UInt8) : List UInt8 := l.flatMap hrB
theorem href_app (a b : List UInt8) : href (a ++ b) = href a ++ href b := List.flatMap_append
theorem href_cons (c : UInt8) (t : List UInt8) : href (c :: t) = hrB c ++ href t := rfl
theorem hrB_len (c : UInt8) : 1 ≤ (hrB c).length ∧ (hrB c).length ≤ 5 := by
  unfold hrB ampB aposB pctB
  (repeat' split) <;> simp
theorem href_len (l : List UInt8) : l.length ≤ (href l).length ∧ (href l).length ≤ 5 * l.length := by
  have := flat_len hrB_len l
  unfold href
  omega
theorem take_href (l : List UInt8) (k : Nat) (h : k < l.length) : href (l.take (k + 1)) = href (l.take k) ++ hrB l[k] := take_flat _ _ _ h
/-- A byte that may stand in an address. -/
def safeA (c : UInt8) : Bool := decide (32 < c.toNat) && decide (c.toNat ≤ 126) && c != 60 && c != 62 && c != 34 && c != 39 && c != 92
theorem hrB_safe (c : UInt8) : (hrB c).all safeA = true := all_u8 (p := fun c => (hrB c).all safeA) (by decide +kernel) c
theorem href_safe (l : List UInt8) : ∀ c ∈ href l, safeA c = true := by
  intro c hc
  obtain ⟨x, _, hx⟩ := List.mem_flatMap.1 hc
  exact List.all_eq_true.1 (hrB_safe x) c hx

/-! ### without backslashes and references -/
def encB (v : Int) : List UInt8 := (Utf8.encode v).data.toList
def esc1 : List UInt8 → Option UInt8
  | 92 :: c :: _ => if sg c then some c else none
  | _ => none
/-- What a text begins with, unescaped, and how many bytes that is. -/
def fst (l : List UInt8) : List UInt8 × Nat :=
  match esc1 l with
  | some c => ([c], 2)
  | none => match rread l with
    | some (v, n) => (encB v, n)
    | none => (l.take 1, 1)
def unes : Nat → List UInt8 → List UInt8
  | _, [] => []
  | k + 1, _ :: t => unes k t
  | 0, c :: t => (fst (c :: t)).1 ++ unes ((fst (c :: t)).2 - 1) t
def une (l : List UInt8) : List UInt8 := unes 0 l

theorem esc1_other {c : UInt8} {t : List UInt8} (h : c ≠ 92) : esc1 (c :: t) = none := by
  unfold esc1
  split
  · rename_i e; simp at e; exact absurd e.1 h
  · rfl
theorem esc1_one (t : UInt8) : esc1 [t] = none := by
  unfold esc1
  split
  · rename_i e; simp at e
  · rfl
theorem esc1_slash (c : UInt8) (t : List UInt8) : esc1 (92 :: c :: t) = if sg c then some c else none := rfl
theorem rread_other {c : UInt8} {t : List UInt8} (h : c ≠ 38) : rread (c :: t) = none := by
  rw [← gread_eq]
  unfold gread
  split
  · rename_i e; simp at e; exact absurd e.1 h
  · rename_i e; simp at e; exact absurd e.1 h
  · rfl
theorem rread_pos {l : List UInt8} {v : Int} {n : Nat} (h : rread l = some (v, n)) : 1 ≤ n ∧ n ≤ l.length := by
  unfold rread at h
  cases hc : cutS l with
  | none => rw [hc] at h; cases h
  | some b =>
    rw [hc] at h
    obtain ⟨_, m, hl⟩ := cutS_some hc
    cases ho : ofBody b with
    | none => simp [ho] at h
    | some x =>
      simp [ho] at h
      rw [hl]
      simp
      omega
theorem encB_len (v : Int) : (encB v).length ≤ 4 := by
  unfold encB
  rw [Array.length_toList]
  show (Utf8.encode v).size ≤ 4
  unfold Utf8.encode
  simp only
  repeat' split
  all_goals simp [ByteArray.size]
theorem fst_slash {c : UInt8} {t : List UInt8} (h : sg c = true) : fst (92 :: c :: t) = ([c], 2) := by
  unfold fst
  rw [esc1_slash, if_pos h]
theorem fst_ref {l : List UInt8} {v : Int} {n : Nat} (h1 : esc1 l = none) (h2 : rread l = some (v, n)) : fst l = (encB v, n) := by
  unfold fst
  rw [h1, h2]
theorem fst_self {l : List UInt8} (h1 : esc1 l = none) (h2 : rread l = none) : fst l = (l.take 1, 1) := by
  unfold fst
  rw [h1, h2]
theorem fst_plain {c : UInt8} {t : List UInt8} (h1 : c ≠ 92) (h2 : c ≠ 38) : fst (c :: t) = ([c], 1) := fst_self (esc1_other h1) (rread_other h2)
theorem esc1_some {l : List UInt8} {c : UInt8} (h : esc1 l = some c) : ∃ t, l = 92 :: c :: t ∧ sg c = true := by
  unfold esc1 at h
  split at h
  · rename_i x t
    split at h
    · rename_i hs
      cases h
      exact ⟨t, rfl, hs⟩
    · cases h
  · cases h
theorem fst_bounds {l : List UInt8} (h : l ≠ []) : (fst l).1.length ≤ 4 ∧ 1 ≤ (fst l).2 ∧ (fst l).2 ≤ l.length := by
  cases he : esc1 l with
  | some c =>
    obtain ⟨t, rfl, hs⟩ := esc1_some he
    rw [fst_slash hs]
    simp
  | none =>
    cases hr : rread l with
    | some x =>
      obtain ⟨v, n⟩ := x
      rw [fst_ref he hr]
      exact ⟨encB_len v, (rread_pos hr).1, (rread_pos hr).2⟩
    | none =>
      rw [fst_self he hr]
      have : 0 < l.length := List.length_pos_iff.2 h
      refine ⟨?_, ?_, ?_⟩
      · simp; omega
      · exact Nat.le_refl _
      · exact this
theorem unes_nil (k : Nat) : unes k [] = [] := by cases k <;> rfl
theorem unes_skip : ∀ (k : Nat) (l : List UInt8), unes k l = une (l.drop k)
  | 0, l => rfl
  | k + 1, [] => by rw [unes_nil, List.drop_nil]; rfl
  | k + 1, c :: t => by
    show unes k t = une ((c :: t).drop (k + 1))
    rw [unes_skip k t]
    rfl
theorem une_nil : une [] = [] := rfl
theorem une_step {l : List UInt8} (h : l ≠ []) : une l = (fst l).1 ++ une (l.drop (fst l).2) := by
  cases l with
  | nil => exact absurd rfl h
  | cons c t =>
    have hb := fst_bounds h
    show (fst (c :: t)).1 ++ unes ((fst (c :: t)).2 - 1) t = _
    rw [unes_skip]
    obtain ⟨n, hn⟩ : ∃ n, (fst (c :: t)).2 = n + 1 := ⟨(fst (c :: t)).2 - 1, by omega⟩
    rw [hn]
    rfl
theorem unes_len : ∀ (l : List UInt8) (k : Nat), (unes k l).length ≤ 4 * l.length
  | [], k => by rw [unes_nil]; simp
  | c :: t, k + 1 => by
    show (unes k t).length ≤ _
    have := unes_len t k
    rw [List.length_cons]
    omega
  | c :: t, 0 => by
    show ((fst (c :: t)).1 ++ unes ((fst (c :: t)).2 - 1) t).length ≤ _
    have := unes_len t ((fst (c :: t)).2 - 1)
    have := (fst_bounds (l := c :: t) (by simp)).1
    rw [List.length_append, List.length_cons]
    omega
theorem une_len (l : List UInt8) : (une l).length ≤ 4 * l.length := unes_len l 0
theorem une_plain {c : UInt8} {t : List UInt8} (h1 : c ≠ 92) (h2 : c ≠ 38) : une (c :: t) = c :: une t := by
  rw [une_step (by simp), fst_plain h1 h2]
  rfl
theorem une_cuts : ∀ (a b : List UInt8), (∀ c ∈ a, c ≠ 92 ∧ c ≠ 38) → une (a ++ b) = a ++ une b
  | [], b, _ => rfl
  | c :: t, b, h => by
    rw [List.cons_append, une_plain (h c (by simp)).1 (h c (by simp)).2, une_cuts t b (fun x hx => h x (by simp [hx]))]
    rfl
theorem une_self {a : List UInt8} (h : ∀ c ∈ a, c ≠ 92 ∧ c ≠ 38) : une a = a := by
  have := une_cuts a [] h
  simpa [une_nil] using this

/-! ### there and back -/
theorem rread_body {b : List UInt8} {v : Int} (h1 : 59 ∉ b) (h2 : ofBody b = some v) (m : List UInt8) : rread (b ++ 59 :: m) = some (v, b.length + 1) := by
  unfold rread
  rw [cutS_app b m h1, Option.bind_some, h2]
  rfl
theorem encB_one {n : Nat} (h : n < 128) : encB (n : Int) = [UInt8.ofNat n] := by
  have : ∀ n : Nat, n < 128 → (Utf8.encode (n : Int)).data.toList = [UInt8.ofNat n] := by decide +kernel
  exact this n h
theorem une_htB (c : UInt8) (h : c ≠ 92) (m : List UInt8) : une (htB c ++ m) = c :: une m := by
  have go : ∀ (b : List UInt8) (n : Nat), 59 ∉ 38 :: b → ofBody (38 :: b) = some (n : Int) → n < 128 → une (38 :: b ++ 59 :: m) = UInt8.ofNat n :: une m := by
    intro b n h1 h2 h3
    have hr := rread_body h1 h2 m
    rw [une_step (by simp), fst_ref (by rw [List.cons_append]; exact esc1_other (by decide)) hr, encB_one h3]
    rw [show (38 :: b ++ 59 :: m).drop ((38 :: b).length + 1) = m by simp]
    rfl
  by_cases h1 : c = 38
  · subst h1; exact go [97, 109, 112] 38 (by decide) (by decide +kernel) (by decide)
  by_cases h2 : c = 60
  · subst h2; exact go [108, 116] 60 (by decide) (by decide +kernel) (by decide)
  by_cases h3 : c = 62
  · subst h3; exact go [103, 116] 62 (by decide) (by decide +kernel) (by decide)
  by_cases h4 : c = 34
  · subst h4; exact go [113, 117, 111, 116] 34 (by decide) (by decide +kernel) (by decide)
  rw [htB_self h1 h2 h3 h4]
  exact une_plain h h1
theorem une_html : ∀ (l : List UInt8), 92 ∉ l → une (html l) = l
  | [], _ => rfl
  | c :: t, h => by
    rw [html_cons, une_htB c (fun e => h (by simp [e])), une_html t (fun e => h (by simp [e]))]

/-! ### each sign behind a backslash -/
def bkB (c : UInt8) : List UInt8 := if sg c then [92, c] else [c]
def back (l : List UInt8) : List UInt8 := l.flatMap bkB
theorem bkB_len (c : UInt8) : 1 ≤ (bkB c).length ∧ (bkB c).length ≤ 2 := by
  unfold bkB
  split <;> simp
theorem back_len (l : List UInt8) : l.length ≤ (back l).length ∧ (back l).length ≤ 2 * l.length := by
  have := flat_len bkB_len l
  unfold back
  omega
theorem take_back (l : List UInt8) (k : Nat) (h : k < l.length) : back (l.take (k + 1)) = back (l.take k) ++ bkB l[k] := take_flat _ _ _ h
theorem une_bkB (c : UInt8) (m : List UInt8) : une (bkB c ++ m) = c :: une m := by
  unfold bkB
  cases hs : sg c with
  | true =>
    rw [if_pos rfl]
    show une (92 :: c :: m) = _
    rw [une_step (by simp), fst_slash hs]
    rfl
  | false =>
    rw [if_neg (by simp)]
    exact une_plain (fun e => by subst e; revert hs; decide) (fun e => by subst e; revert hs; decide)
theorem une_back : ∀ (l : List UInt8), une (back l) = l
  | [] => rfl
  | c :: t => by
    show une (bkB c ++ back t) = _
    rw [une_bkB, une_back t]

/-! ### letters are themselves -/
def plB (c : UInt8) : Bool := isAl c || c == 45 || c == 95 || c == 46 || c == 47 || c == 58
theorem pl_all (c : UInt8) : (!plB c || (htB c == [c] && hrB c == [c] && c != 92 && c != 38)) = true :=
  all_u8 (p := fun c => !plB c || (htB c == [c] && hrB c == [c] && c != 92 && c != 38)) (by decide +kernel) c
theorem pl_of {c : UInt8} (h : plB c = true) : htB c = [c] ∧ hrB c = [c] ∧ c ≠ 92 ∧ c ≠ 38 := by
  have := pl_all c
  rw [h] at this
  simpa [and_assoc] using this
theorem flat_self {f : UInt8 → List UInt8} : ∀ {l : List UInt8}, (∀ c ∈ l, f c = [c]) → l.flatMap f = l
  | [], _ => rfl
  | c :: t, h => by
    rw [List.flatMap_cons, h c (by simp), flat_self (fun x hx => h x (by simp [hx]))]
    rfl
theorem html_plain {l : List UInt8} (h : ∀ c ∈ l, plB c = true) : html l = l := flat_self fun c hc => (pl_of (h c hc)).1
theorem href_plain {l : List UInt8} (h : ∀ c ∈ l, plB c = true) : href l = l := flat_self fun c hc => (pl_of (h c hc)).2.1
theorem une_plains {l : List UInt8} (h : ∀ c ∈ l, plB c = true) : une l = l := une_self fun c hc => (pl_of (h c hc)).2.2

/-! ### nothing gets out -/
/-- What may stand at the beginning of a text in HTML. -/
def safeH (l : List UInt8) : Prop := ∃ c t, l = c :: t ∧ c ≠ 60 ∧ c ≠ 62 ∧ c ≠ 34 ∧ (c = 38 → l.take 5 = ampB ∨ l.take 4 = ltB ∨ l.take 4 = gtB ∨ l.take 6 = quotB)
theorem safe_one {c : UInt8} (m : List UInt8) (h1 : c ≠ 60) (h2 : c ≠ 62) (h3 : c ≠ 34) (h4 : c ≠ 38) : safeH (c :: m) := ⟨c, m, rfl, h1, h2, h3, fun e => absurd e h4⟩
theorem htB_safe (c : UInt8) (m : List UInt8) (i : Nat) (hi : i < (htB c).length) : safeH ((htB c ++ m).drop i) := by
  by_cases h1 : c = 38
  · subst h1
    change i < 5 at hi
    rcases (by omega : i = 0 ∨ i = 1 ∨ i = 2 ∨ i = 3 ∨ i = 4) with rfl | rfl | rfl | rfl | rfl
    · exact ⟨38, _, rfl, by decide, by decide, by decide, fun _ => Or.inl rfl⟩
    all_goals exact safe_one _ (by decide) (by decide) (by decide) (by decide)
  by_cases h2 : c = 60
  · subst h2
    change i < 4 at hi
    rcases (by omega : i = 0 ∨ i = 1 ∨ i = 2 ∨ i = 3) with rfl | rfl | rfl | rfl
    · exact ⟨38, _, rfl, by decide, by decide, by decide, fun _ => Or.inr (Or.inl rfl)⟩
    all_goals exact safe_one _ (by decide) (by decide) (by decide) (by decide)
  by_cases h3 : c = 62
  · subst h3
    change i < 4 at hi
    rcases (by omega : i = 0 ∨ i = 1 ∨ i = 2 ∨ i = 3) with rfl | rfl | rfl | rfl
    · exact ⟨38, _, rfl, by decide, by decide, by decide, fun _ => Or.inr (Or.inr (Or.inl rfl))⟩
    all_goals exact safe_one _ (by decide) (by decide) (by decide) (by decide)
  by_cases h4 : c = 34
  · subst h4
    change i < 6 at hi
    rcases (by omega : i = 0 ∨ i = 1 ∨ i = 2 ∨ i = 3 ∨ i = 4 ∨ i = 5) with rfl | rfl | rfl | rfl | rfl | rfl
    · exact ⟨38, _, rfl, by decide, by decide, by decide, fun _ => Or.inr (Or.inr (Or.inr rfl))⟩
    all_goals exact safe_one _ (by decide) (by decide) (by decide) (by decide)
  rw [htB_self h1 h2 h3 h4] at hi ⊢
  obtain rfl : i = 0 := by simpa using hi
  exact safe_one _ h2 h3 h4 h1
theorem html_safe : ∀ (l : List UInt8) (i : Nat), i < (html l).length → safeH ((html l).drop i)
  | [], i, h => by simp [html] at h
  | c :: t, i, h => by
    rw [html_cons] at h ⊢
    by_cases hi : i < (htB c).length
    · exact htB_safe c _ i hi
    · rw [List.length_append] at h
      rw [List.drop_append, List.drop_eq_nil_of_le (by omega), List.nil_append]
      exact html_safe t _ (by omega)

/-! ### examples -/
theorem ex_html : html [97, 60, 98] = [97, 38, 108, 116, 59, 98] := by decide +kernel
theorem ex_href : href [32, 195, 169] = [37, 50, 48, 37, 67, 51, 37, 65, 57] := by decide +kernel
theorem ex_une : une [92, 42, 38, 108, 116, 59] = [42, 60] := by decide +kernel
end Es
end Go.Proofs.YtfabiidohdkkcaaGreatDoor
