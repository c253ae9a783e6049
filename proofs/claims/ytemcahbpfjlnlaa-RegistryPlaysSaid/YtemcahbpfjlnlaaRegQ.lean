/- Layer 7: append of whatever length in a region that draws; one taken out of a row; two registries that hold the same hooks. -/
import Derived.Test.YtemcahbpfjlnlaaRegP
import Derived.Deep.AppendLies
import Derived.Deep.RegionHeldLaw
namespace Go.Proofs.Ytemcahbpfjlnlaa
open Go Go.RowKit
namespace Rg
set_option maxRecDepth 100000
set_option linter.unusedVariables false
set_option linter.unusedSimpArgs false

/-- append at a step of a region that draws: nothing may be appended, too. -/
theorem step_append_at {P : Program} (w : World) {ops : Array Oper} {o : Oper} {a : Act} {K : Act → World → Prop} {Q : Exit → Act → World → Prop} {E : Prop} (hgd : o.guard = none) (s x : Operand) (t : TypeId)
    (ho : o.op = .call { callee := .builtin .append, args := #[s, x], argTypes := #[t, t] })
    (base : Nat) (e : TypeId) (i : TypeInfo) (z : Value) (size bytes : Nat) (ht : P.underlying t = some (.slice e)) (hi : P.info? e = some i) (hz : i.zero = some z)
    (hsize : i.size = size) (hby : i.bytes = bytes) (hzs : z.cells.size = size) (hsz : 0 < size)
    (v : Value) (n : Nat) (xs : List Value) (hs : a.eval s = v) (hown : w.ownsRow base e size v n xs)
    (ad : Addr) (m c : Nat) (news : List Value) (hx : a.eval x = .slice (some ad) m c) (hl : news.length = m * size) (hnews : ∀ j u, news[j]? = some u → w.cell? (ad.add j) = some u) (h1 : ∀ u ∈ news, u.oneCell' = true)
    (h63 : n + m ≤ maxLen) (hbytes : (n + m) * bytes ≤ 140737488355328) (hbase : base ≤ w.heap.size)
    (h : ∀ v' w', w'.ownsRow base e size v' (n + m) (xs ++ news) → w.grownBy w' v.ownBlock → (v'.ownBlock = v.ownBlock ∨ v'.ownBlock = some w.heap.size) → K (a.put o.dst v') w') :
    if Region.wanted o (yielded ops a.tmps) = true then Oper.wp P o a w K Q else E := by
  have hw : Region.wanted o (yielded ops a.tmps) = true := by simp [Region.wanted, hgd]
  rw [if_pos hw]
  obtain ⟨v', w', hr, h2, h3, _, h5⟩ := run_append_own_at (P := P) w base t o.type e i z size bytes ht hi hz hsize hby hzs hsz v n xs hown ad m c news hl hnews h1 h63 hbytes hbase
  unfold Oper.wp execOp
  simp only [ho, resolve, invoke, builtin, Sem.run_bind, Sem.run_pure, Result.andThen_ok, List.map_toArray, List.map_cons, List.map_nil, hs, hx, hr]
  exact h v' w' h2 h3 h5

/-- An empty row of the call's own. -/
theorem owns_empty {w : World} {B g : Nat} (hg : Blk w g #[] 29) (hB : B ≤ g) : w.ownsRow B 29 5 (.slice (some ⟨g, 0, none⟩) 0 0) 0 (rowC []) :=
  ⟨rfl, .inr ⟨g, 0, #[], rfl, hB, hg, Nat.le_refl _, Nat.zero_le _, rfl, rfl⟩⟩
theorem erase_split {l : List Hk} {p : Nat} : l.take p ++ l.drop (p + 1) = l.eraseIdx p := (List.eraseIdx_eq_take_drop_succ l p).symm
theorem erase_perm : ∀ {l : List Hk} {p : Nat} {x : Hk}, l[p]? = some x → l.Perm (x :: l.eraseIdx p)
  | y :: r, 0, x, h => by
    simp at h; subst h
    exact List.Perm.refl _
  | y :: r, p + 1, x, h => by
    have ih := erase_perm (l := r) (p := p) (x := x) (by simpa using h)
    rw [List.eraseIdx_cons_succ]
    exact (ih.cons y).trans (List.Perm.swap x y _)

/-! ### the same hooks -/
theorem named_perm {l l' : List Hk} (h : l.Perm l') (k : List UInt8) : named l k = named l' k := by
  rw [Bool.eq_iff_iff, named_iff, named_iff]
  exact ⟨fun ⟨x, hx, e⟩ => ⟨x, h.mem_iff.1 hx, e⟩, fun ⟨x, hx, e⟩ => ⟨x, h.mem_iff.2 hx, e⟩⟩
theorem has_perm {l l' : List Hk} (hn : Names l) (h : l.Perm l') (m : Int) (k : List UInt8) : hasB m l k = hasB m l' k := by
  unfold hasB
  rw [← named_perm h k]
  cases hk : named l k
  · rw [Bool.false_and, Bool.false_and]
  · obtain ⟨h1, h2⟩ := found_mem hk
    obtain ⟨h3, h4⟩ := found_mem (named_perm h k ▸ hk)
    have : found l k = found l' k := hn.eq h1 (h.mem_iff.2 h3) (bytes_eq (h2.trans h4.symm))
    rw [this]
theorem fresh_left {T L : List Hk} {x : Hk} {hs : List Hk} (hn : Names hs) (hp : (T ++ L).Perm hs) (hx : x ∈ L) (he : x.name.data.toList ≠ []) : fresh T false x = true := by
  rw [fresh_eq]
  have h1 : x.name.data.toList.isEmpty = false := by simpa using he
  have h2 : named T x.name.data.toList = false := by
    cases h : named T x.name.data.toList
    · rfl
    · obtain ⟨y, hy, e⟩ := named_iff.1 h
      have hn2 : Names (T ++ L) := hn.perm hp.symm
      exact absurd (bytes_eq e) ((List.pairwise_append.1 hn2).2.2 y hy x hx)
  rw [h1, h2]; rfl
theorem addAll_named : ∀ (l hs : List Hk), (∀ x ∈ hs, x.name.data.toList ≠ []) → ∀ x ∈ addAll hs l, x.name.data.toList ≠ []
  | [], hs, h, x, hx => h x hx
  | y :: l, hs, h, x, hx => by
    refine addAll_named l _ (fun z hz => ?_) x hx
    split at hz
    · rename_i hf
      rcases List.mem_append.1 hz with hz | hz
      · exact h z hz
      · rw [List.mem_singleton] at hz
        subst hz
        rw [fresh_eq] at hf
        intro e
        rw [e] at hf
        simp at hf
    · exact h z hz

/-- Two registries of the call's own that hold the same hooks; the first is sealed if s says so. -/
def St (w W : World) (A B : Nat) (m : Int) (hs T : List Hk) (s : Bool) : Prop := ∃ X Y sl sl', (s = true → sl = true) ∧ Two w W X A m hs sl 0 Y B m T sl' 0
/-- A slice of hooks that neither holds. -/
def St1 (w W : World) (A B : Nat) (m : Int) (hs T : List Hk) (s : Bool) (u : Value) (l : List Hk) : Prop :=
  ∃ X Y sl sl', (s = true → sl = true) ∧ Two w W X A m hs sl 0 Y B m T sl' 0 ∧ Hooks W u l ∧ ∀ b off n c, u = .slice (some ⟨b, off, none⟩) n c → b < W.heap.size → ¬ X b ∧ ¬ Y b
section
variable {w W W' : World} {A B : Nat} {m : Int} {hs T : List Hk} {s : Bool}
theorem St.below (h : St w W A B m hs T s) (hb : Below W.heap.size W W') : St w W' A B m hs T s := by
  obtain ⟨X, Y, sl, sl', h0, h⟩ := h
  exact ⟨X, Y, sl, sl', h0, h.below hb⟩
theorem St.on (h : St w W A B m hs T s) : Below w.heap.size w W := by
  obtain ⟨X, Y, sl, sl', h0, h⟩ := h
  exact h.a.on
theorem St1.st {u : Value} {l : List Hk} (h : St1 w W A B m hs T s u l) : St w W A B m hs T s := by
  obtain ⟨X, Y, sl, sl', h0, h, _⟩ := h
  exact ⟨X, Y, sl, sl', h0, h⟩
theorem St1.below {u : Value} {l : List Hk} (h : St1 w W A B m hs T s u l) (hb : Below W.heap.size W W') : St1 w W' A B m hs T s u l := by
  obtain ⟨X, Y, sl, sl', h0, h, h1, h2⟩ := h
  refine ⟨X, Y, sl, sl', h0, h.below hb, h1.keep hb, fun b off n c e hlt => ⟨fun hx => ?_, fun hy => ?_⟩⟩
  · exact (h2 b off n c e (h.a.rb.lt b hx)).1 hx
  · exact (h2 b off n c e (h.b.rb.lt b hy)).2 hy
theorem St1.hooks {u : Value} {l : List Hk} (h : St1 w W A B m hs T s u l) : Hooks W u l := by
  obtain ⟨X, Y, sl, sl', h0, h, h1, h2⟩ := h
  exact h1
/-- What the first tells lies in none of them. -/
theorem St.sortA (h : St w W A B m hs T s) (p : Int) (hp : wfI p) :
    Calls Try.prog 16 #[ptr A, .int .i64 p] W fun e w' => ∃ v, e = .returned v ∧ St1 w w' A B m hs T true v (told m hs p) := by
  obtain ⟨X, Y, sl, sl', h0, h⟩ := h
  refine (h.sortedL p hp).mono ?_
  rintro e w' ⟨v, rfl, h1, ⟨X', h2, h3, _⟩, _⟩
  exact ⟨v, rfl, X', Y, true, sl', fun _ => rfl, h3, h1, fun b off n c e _ => ⟨(h2 b off n c e).2, fun hy => by have := (h2 b off n c e).1; have := h.b.rb.lt b hy; omega⟩⟩
theorem St.sortB (h : St w W A B m hs T s) (p : Int) (hp : wfI p) :
    Calls Try.prog 16 #[ptr B, .int .i64 p] W fun e w' => ∃ v, e = .returned v ∧ St1 w w' A B m hs T s v (told m T p) := by
  obtain ⟨X, Y, sl, sl', h0, h⟩ := h
  refine (h.swap.sortedL p hp).mono ?_
  rintro e w' ⟨v, rfl, h1, ⟨Y', h2, h3, _⟩, _⟩
  exact ⟨v, rfl, X, Y', sl, true, h0, h3.swap, h1, fun b off n c e _ => ⟨fun hx => by have := (h2 b off n c e).1; have := h.a.rb.lt b hx; omega, (h2 b off n c e).2⟩⟩
theorem St1.sortA {u : Value} {l : List Hk} (h : St1 w W A B m hs T s u l) (p : Int) (hp : wfI p) :
    Calls Try.prog 16 #[ptr A, .int .i64 p] W fun e w' => ∃ v, e = .returned v ∧ St w w' A B m hs T true ∧ Hooks w' v (told m hs p) ∧ Hooks w' u l := by
  obtain ⟨X, Y, sl, sl', h0, h, h5, h6⟩ := h
  refine (h.sortedL p hp).mono ?_
  rintro e w' ⟨v, rfl, h1, ⟨X', h2, h3, _⟩, ho⟩
  exact ⟨v, rfl, ⟨X', Y, true, sl', fun _ => rfl, h3⟩, h1, h5.only ho fun b off n c e hlt => (h6 b off n c e hlt).1⟩
theorem St1.sortB {u : Value} {l : List Hk} (h : St1 w W A B m hs T s u l) (p : Int) (hp : wfI p) :
    Calls Try.prog 16 #[ptr B, .int .i64 p] W fun e w' => ∃ v, e = .returned v ∧ St w w' A B m hs T s ∧ Hooks w' v (told m T p) ∧ Hooks w' u l := by
  obtain ⟨X, Y, sl, sl', h0, h, h5, h6⟩ := h
  refine (h.swap.sortedL p hp).mono ?_
  rintro e w' ⟨v, rfl, h1, ⟨Y', h2, h3, _⟩, ho⟩
  exact ⟨v, rfl, ⟨X, Y', sl, true, h0, h3.swap⟩, h1, h5.only ho fun b off n c e hlt => (h6 b off n c e hlt).2⟩
theorem St.forA (h : St w W A B m hs T s) (p : Int) (hp : wfI p) (c : Int) (hc0 : 0 ≤ c) (hc1 : c ≤ 255) :
    Calls Try.prog 18 #[ptr A, .int .i64 p, .int .u8 c] W fun e w' => ∃ v, e = .returned v ∧ St1 w w' A B m hs T true v ((told m hs p).filter (trigB c)) := by
  obtain ⟨X, Y, sl, sl', h0, h⟩ := h
  refine (h.forL p hp c hc0 hc1).mono ?_
  rintro e w' ⟨v, rfl, h1, ⟨X', h2, h3, _⟩, _⟩
  exact ⟨v, rfl, X', Y, true, sl', fun _ => rfl, h3, h1, fun b off n c e _ => ⟨(h2 b off n c e).2, fun hy => by have := (h2 b off n c e).1; have := h.b.rb.lt b hy; omega⟩⟩
theorem St.forB (h : St w W A B m hs T s) (p : Int) (hp : wfI p) (c : Int) (hc0 : 0 ≤ c) (hc1 : c ≤ 255) :
    Calls Try.prog 18 #[ptr B, .int .i64 p, .int .u8 c] W fun e w' => ∃ v, e = .returned v ∧ St1 w w' A B m hs T s v ((told m T p).filter (trigB c)) := by
  obtain ⟨X, Y, sl, sl', h0, h⟩ := h
  refine (h.swap.forL p hp c hc0 hc1).mono ?_
  rintro e w' ⟨v, rfl, h1, ⟨Y', h2, h3, _⟩, _⟩
  exact ⟨v, rfl, X, Y', sl, true, h0, h3.swap, h1, fun b off n c e _ => ⟨fun hx => by have := (h2 b off n c e).1; have := h.a.rb.lt b hx; omega, (h2 b off n c e).2⟩⟩
theorem St1.forA {u : Value} {l : List Hk} (h : St1 w W A B m hs T s u l) (p : Int) (hp : wfI p) (c : Int) (hc0 : 0 ≤ c) (hc1 : c ≤ 255) :
    Calls Try.prog 18 #[ptr A, .int .i64 p, .int .u8 c] W fun e w' => ∃ v, e = .returned v ∧ St w w' A B m hs T true ∧ Hooks w' v ((told m hs p).filter (trigB c)) ∧ Hooks w' u l := by
  obtain ⟨X, Y, sl, sl', h0, h, h5, h6⟩ := h
  refine (h.forL p hp c hc0 hc1).mono ?_
  rintro e w' ⟨v, rfl, h1, ⟨X', h2, h3, _⟩, ho⟩
  exact ⟨v, rfl, ⟨X', Y, true, sl', fun _ => rfl, h3⟩, h1, h5.only ho fun b off n c e hlt => (h6 b off n c e hlt).1⟩
theorem St1.forB {u : Value} {l : List Hk} (h : St1 w W A B m hs T s u l) (p : Int) (hp : wfI p) (c : Int) (hc0 : 0 ≤ c) (hc1 : c ≤ 255) :
    Calls Try.prog 18 #[ptr B, .int .i64 p, .int .u8 c] W fun e w' => ∃ v, e = .returned v ∧ St w w' A B m hs T s ∧ Hooks w' v ((told m T p).filter (trigB c)) ∧ Hooks w' u l := by
  obtain ⟨X, Y, sl, sl', h0, h, h5, h6⟩ := h
  refine (h.swap.forL p hp c hc0 hc1).mono ?_
  rintro e w' ⟨v, rfl, h1, ⟨Y', h2, h3, _⟩, ho⟩
  exact ⟨v, rfl, ⟨X, Y', sl, true, h0, h3.swap⟩, h1, h5.only ho fun b off n c e hlt => (h6 b off n c e hlt).2⟩
theorem St.hasA (h : St w W A B m hs T s) (k : ByteArray) (hk : k.size ≤ 281474976710656) :
    Calls Try.prog 20 #[ptr A, .string k] W fun e w' => e = .returned (.bool (hasB m hs k.data.toList)) ∧ St w w' A B m hs T true := by
  obtain ⟨X, Y, sl, sl', h0, h⟩ := h
  refine (h.hasL k hk).mono ?_
  rintro e w' ⟨rfl, ⟨X', h3, _⟩, _⟩
  exact ⟨rfl, X', Y, true, sl', fun _ => rfl, h3⟩
theorem St.hasB_ (h : St w W A B m hs T s) (k : ByteArray) (hk : k.size ≤ 281474976710656) :
    Calls Try.prog 20 #[ptr B, .string k] W fun e w' => e = .returned (.bool (hasB m T k.data.toList)) ∧ St w w' A B m hs T s := by
  obtain ⟨X, Y, sl, sl', h0, h⟩ := h
  refine (h.swap.hasL k hk).mono ?_
  rintro e w' ⟨rfl, ⟨Y', h3, _⟩, _⟩
  exact ⟨rfl, X, Y', sl, true, h0, h3.swap⟩
end
end Rg
end Go.Proofs.Ytemcahbpfjlnlaa
