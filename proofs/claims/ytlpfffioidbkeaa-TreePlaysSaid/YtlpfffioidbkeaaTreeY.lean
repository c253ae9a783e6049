/- Layer 6: a node is unlinked: what holds of the arena. -/
import Derived.Test.YtlpfffioidbkeaaTreeT
namespace Go.Proofs.Ytlpfffioidbkeaa
open Go Go.RowKit
namespace Tr
set_option linter.unusedVariables false
set_option linter.unusedSimpArgs false

/-- A node is taken from its parent. -/
def Ar.unlink (S : Ar) (id : Nat) : Ar :=
  let S1 : Ar := if S.before id = -1 then { S with first := upd S.first (S.par id).toNat (S.behind id) } else { S with behind := upd S.behind (S.before id).toNat (S.behind id) }
  let S2 : Ar := if S.behind id = -1 then { S1 with last := upd S1.last (S.par id).toNat (S.before id) } else { S1 with before := upd S1.before (S.behind id).toNat (S.before id) }
  let S3 : Ar := { S2 with par := upd S2.par id (-1) }
  let S4 : Ar := { S3 with behind := upd S3.behind id (-1) }
  { S4 with before := upd S4.before id (-1) }
section
variable (S : Ar) (id : Nat)
theorem unlink_n : (S.unlink id).n = S.n := by unfold Ar.unlink; dsimp only; split <;> split <;> rfl
theorem unlink_o : (S.unlink id).o = S.o := by unfold Ar.unlink; dsimp only; split <;> split <;> rfl
theorem unlink_par : (S.unlink id).par = upd S.par id (-1) := by unfold Ar.unlink; dsimp only; split <;> split <;> rfl
theorem unlink_first : (S.unlink id).first = if S.before id = -1 then upd S.first (S.par id).toNat (S.behind id) else S.first := by unfold Ar.unlink; dsimp only; split <;> split <;> rfl
theorem unlink_last : (S.unlink id).last = if S.behind id = -1 then upd S.last (S.par id).toNat (S.before id) else S.last := by unfold Ar.unlink; dsimp only; split <;> split <;> rfl
theorem unlink_behind : (S.unlink id).behind = upd (if S.before id = -1 then S.behind else upd S.behind (S.before id).toNat (S.behind id)) id (-1) := by unfold Ar.unlink; dsimp only; split <;> split <;> rfl
theorem unlink_before : (S.unlink id).before = upd (if S.behind id = -1 then S.before else upd S.before (S.behind id).toNat (S.before id)) id (-1) := by unfold Ar.unlink; dsimp only; split <;> split <;> rfl
end
theorem filter_self {l : List Nat} {x : Nat} (h : x ∉ l) : l.filter (· ≠ x) = l := by
  rw [List.filter_eq_self]
  intro y hy
  have : y ≠ x := fun e => h (e ▸ hy)
  simpa using this
theorem opt_inj {a : Option Nat} {x : Nat} (h : opt a = (x : Int)) : a = some x := by
  cases a with
  | none => have : (-1 : Int) = x := h; omega
  | some y => have : (y : Int) = x := h; rw [show y = x by omega]
theorem opt_neg {a : Option Nat} (h : opt a = -1) : a = none := by
  cases a with
  | none => rfl
  | some y => have : (y : Int) = -1 := h; omega

section
variable {S : Ar} {ch : Nat → List Nat}
theorem Inv.unlink (h : Inv S ch) {id p j : Nat} (hp : p < S.n) (hj : (ch p)[j]? = some id) : Inv (S.unlink id) (fun q => (ch q).filter (· ≠ id)) := by
  have hmem : id ∈ ch p := List.mem_of_getElem? hj
  have hid := h.lt p hp id hmem
  have epar : (S.par id).toNat = p := by rw [h.par p hp id hmem]; simp
  have eb := h.before p hp j id hj
  have ek := h.behind p hp j id hj
  have chp : (ch p).filter (· ≠ id) = (ch p).eraseIdx j := filter_erase (h.nodup p hp) hj
  have chq : ∀ q, q < S.n → q ≠ p → (ch q).filter (· ≠ id) = ch q := fun q hq hne => filter_self (fun hm => hne (h.uniq hq hp hm hmem))
  have hget : ∀ i, ((ch p).eraseIdx j)[i]? = if i < j then (ch p)[i]? else (ch p)[i + 1]? := fun i => List.getElem?_eraseIdx ..
  have hjl : j < (ch p).length := (List.getElem?_eq_some_iff.1 hj).1
  have hlen : ((ch p).eraseIdx j).length = (ch p).length - 1 := List.length_eraseIdx_of_lt hjl
  -- the one ahead, or none
  have hB : (j = 0 ∧ S.before id = -1) ∨ ∃ x : Nat, 0 < j ∧ S.before id = (x : Int) ∧ (ch p)[j - 1]? = some x := by
    rcases Nat.eq_zero_or_pos j with e | e
    · left; subst e; exact ⟨rfl, by rw [eb]; rfl⟩
    · right
      have hx : (ch p)[j - 1]? = some (ch p)[j - 1] := List.getElem?_eq_getElem (by omega)
      exact ⟨_, e, by rw [eb, if_neg (by omega), hx]; rfl, hx⟩
  have hK : ((ch p)[j + 1]? = none ∧ S.behind id = -1) ∨ ∃ y : Nat, S.behind id = (y : Int) ∧ (ch p)[j + 1]? = some y := by
    rw [ek]
    cases e : (ch p)[j + 1]? with
    | none => exact .inl ⟨rfl, rfl⟩
    | some y => exact .inr ⟨y, rfl, rfl⟩
  have hnd := h.nodup p hp
  have far : ∀ q, q < S.n → q ≠ p → ∀ c ∈ ch q, ∀ i x, (ch p)[i]? = some x → c ≠ x := fun q hq hne c hc i x hx e => hne (h.uniq hq hp hc (by rw [e]; exact List.mem_of_getElem? hx))
  refine ⟨by rw [unlink_n]; exact h.pos, ?_, ?_, ?_, ?_, ?_, ?_, ?_, ?_, ?_⟩
  · rw [unlink_n]; intro q hq c hc
    exact h.lt q hq c (List.mem_filter.1 hc).1
  · rw [unlink_n]; intro q hq
    exact (h.nodup q hq).filter _
  · rw [unlink_n, unlink_first, epar]; intro q hq
    by_cases e : q = p
    · subst e
      rw [chp, hget]
      rcases hB with ⟨e1, e2⟩ | ⟨x, e1, e2, e3⟩
      · rw [if_pos e2, upd_same, if_neg (by omega), ek, e1]
      · rw [if_neg (by omega), if_pos e1]; exact h.first q hq
    · rw [chq q hq e]
      split
      · rw [upd_other _ _ e]; exact h.first q hq
      · exact h.first q hq
  · rw [unlink_n, unlink_last, epar]; intro q hq
    by_cases e : q = p
    · subst e
      rw [chp, hlen, hget]
      rcases hK with ⟨e1, e2⟩ | ⟨y, e2, e3⟩
      · have hjl2 : j + 1 = (ch q).length := by
          have := List.getElem?_eq_none_iff.1 e1; omega
        rw [if_pos e2, upd_same]
        rcases hB with ⟨b1, b2⟩ | ⟨x, b1, b2, b3⟩
        · rw [b2, if_neg (by omega), List.getElem?_eq_none (by omega)]; rfl
        · rw [b2, if_pos (by omega), show (ch q).length - 1 - 1 = j - 1 by omega, b3]; rfl
      · have hjl2 : j + 1 < (ch q).length := (List.getElem?_eq_some_iff.1 e3).1
        rw [if_neg (by omega), if_neg (by omega), (fun (n : Nat) (h : j + 1 < n) => (by omega : n - 1 - 1 + 1 = n - 1)) _ hjl2]
        exact h.last q hq
    · rw [chq q hq e]
      split
      · rw [upd_other _ _ e]; exact h.last q hq
      · exact h.last q hq
  · rw [unlink_n, unlink_behind]; intro q hq i c hc
    by_cases e : q = p
    · subst e
      try dsimp only at hc ⊢
      rw [chp, hget] at hc
      rw [chp, hget]
      by_cases hij : i < j
      · rw [if_pos hij] at hc
        have hcid : c ≠ id := fun e => by have := idx_inj hnd hc (by rw [e]; exact hj); omega
        rw [upd_other _ _ hcid]
        rcases hB with ⟨b1, b2⟩ | ⟨x, b1, b2, b3⟩
        · omega
        · rw [if_neg (by omega), b2, Int.toNat_natCast]
          by_cases hi1 : i + 1 < j
          · rw [if_pos hi1, upd_other _ _ (fun e => by have := idx_inj hnd hc (by rw [e]; exact b3); omega)]
            exact h.behind q hq i c hc
          · have : i = j - 1 := by omega
            rw [this] at hc
            have : c = x := Option.some.inj (hc.symm.trans b3)
            rw [this, upd_same, if_neg hi1, ek, show i + 1 + 1 = j + 1 by omega]
      · rw [if_neg hij] at hc
        have hcid : c ≠ id := fun e => by have := idx_inj hnd hc (by rw [e]; exact hj); omega
        rw [upd_other _ _ hcid, if_neg (show ¬ (i + 1 < j) by omega)]
        rcases hB with ⟨b1, b2⟩ | ⟨x, b1, b2, b3⟩
        · rw [if_pos b2]; exact h.behind q hq (i + 1) c hc
        · rw [if_neg (by omega), b2, Int.toNat_natCast, upd_other _ _ (fun e => by have := idx_inj hnd hc (by rw [e]; exact b3); omega)]
          exact h.behind q hq (i + 1) c hc
    · try dsimp only at hc ⊢
      rw [chq q hq e] at hc ⊢
      have hcm := List.mem_of_getElem? hc
      rw [upd_other _ _ (far q hq e c hcm j id hj)]
      rcases hB with ⟨b1, b2⟩ | ⟨x, b1, b2, b3⟩
      · rw [if_pos b2]; exact h.behind q hq i c hc
      · rw [if_neg (by omega), b2, Int.toNat_natCast, upd_other _ _ (far q hq e c hcm (j - 1) x b3)]
        exact h.behind q hq i c hc
  · rw [unlink_n, unlink_before]; intro q hq i c hc
    by_cases e : q = p
    · subst e
      try dsimp only at hc ⊢
      rw [chp, hget] at hc
      rw [chp, hget]
      by_cases hij : i < j
      · rw [if_pos hij] at hc
        have hcid : c ≠ id := fun e => by have := idx_inj hnd hc (by rw [e]; exact hj); omega
        rw [upd_other _ _ hcid, if_pos (show i - 1 < j by omega)]
        rcases hK with ⟨b1, b2⟩ | ⟨y, b2, b3⟩
        · rw [if_pos b2]; exact h.before q hq i c hc
        · rw [if_neg (by omega), b2, Int.toNat_natCast, upd_other _ _ (fun e => by have := idx_inj hnd hc (by rw [e]; exact b3); omega)]
          exact h.before q hq i c hc
      · rw [if_neg hij] at hc
        have hcid : c ≠ id := fun e => by have := idx_inj hnd hc (by rw [e]; exact hj); omega
        rw [upd_other _ _ hcid]
        rcases hK with ⟨b1, b2⟩ | ⟨y, b2, b3⟩
        · have := List.getElem?_eq_none_iff.1 b1
          have := (List.getElem?_eq_some_iff.1 hc).1
          omega
        · rw [if_neg (by omega), b2, Int.toNat_natCast]
          by_cases hi : i = j
          · rw [hi] at hc
            have : c = y := Option.some.inj (hc.symm.trans b3)
            rw [this, upd_same, eb, hi]
            by_cases h0 : j = 0
            · rw [if_pos h0, if_pos h0]
            · rw [if_neg h0, if_neg h0, if_pos (show j - 1 < j by omega)]
          · rw [upd_other _ _ (fun e => by have := idx_inj hnd hc (by rw [e]; exact b3); omega)]
            have := h.before q hq (i + 1) c hc
            rw [this, if_neg (show ¬ (i + 1 = 0) by omega), if_neg (show ¬ (i = 0) by omega), if_neg (show ¬ (i - 1 < j) by omega)]
            rw [show i + 1 - 1 = i - 1 + 1 by omega]
    · try dsimp only at hc ⊢
      rw [chq q hq e] at hc ⊢
      have hcm := List.mem_of_getElem? hc
      rw [upd_other _ _ (far q hq e c hcm j id hj)]
      rcases hK with ⟨b1, b2⟩ | ⟨y, b2, b3⟩
      · rw [if_pos b2]; exact h.before q hq i c hc
      · rw [if_neg (by omega), b2, Int.toNat_natCast, upd_other _ _ (far q hq e c hcm (j + 1) y b3)]
        exact h.before q hq i c hc
  · rw [unlink_n, unlink_par]; intro q hq c hc
    obtain ⟨h1, h2⟩ := List.mem_filter.1 hc
    rw [upd_other _ _ (by simpa using h2)]
    exact h.par q hq c h1
  · rw [unlink_n, unlink_par, unlink_behind, unlink_before]; intro c hc hno
    by_cases e : c = id
    · subst e; exact ⟨upd_same _ _ _, upd_same _ _ _, upd_same _ _ _⟩
    · have hno2 : ∀ q, q < S.n → c ∉ ch q := fun q hq hm => hno q hq (List.mem_filter.2 ⟨hm, by simpa using e⟩)
      obtain ⟨a1, a2, a3⟩ := h.alone c hc hno2
      refine ⟨(upd_other _ _ e).trans a1, (upd_other _ _ e).trans ?_, (upd_other _ _ e).trans ?_⟩
      · rcases hB with ⟨b1, b2⟩ | ⟨x, b1, b2, b3⟩
        · rw [if_pos b2]; exact a2
        · rw [if_neg (by omega), b2, Int.toNat_natCast, upd_other _ _ (fun e => hno2 p hp (by rw [e]; exact List.mem_of_getElem? b3))]; exact a2
      · rcases hK with ⟨b1, b2⟩ | ⟨y, b2, b3⟩
        · rw [if_pos b2]; exact a3
        · rw [if_neg (by omega), b2, Int.toNat_natCast, upd_other _ _ (fun e => hno2 p hp (by rw [e]; exact List.mem_of_getElem? b3))]; exact a3
  · rw [unlink_n]; intro q hq
    rw [h.out q hq]; rfl
theorem Inv.gone (h : Inv S ch) (id : Nat) : ∀ q, id ∉ (ch q).filter (· ≠ id) := fun q hm => by
  have := (List.mem_filter.1 hm).2
  simp at this
/-- Who has a parent is somebody's child. -/
theorem Inv.parent (h : Inv S ch) {c : Nat} (hc : c < S.n) (hne : S.par c ≠ -1) : ∃ p j : Nat, p < S.n ∧ S.par c = (p : Int) ∧ (ch p)[j]? = some c := by
  rcases Classical.em (∃ p, p < S.n ∧ c ∈ ch p) with ⟨p, hp, hm⟩ | hno
  · obtain ⟨j, hj⟩ := List.mem_iff_getElem?.1 hm
    exact ⟨p, j, hp, h.par p hp c hm, hj⟩
  · exact absurd (h.alone c hc (fun p hp hm => hno ⟨p, hp, hm⟩)).1 hne
end
end Tr
end Go.Proofs.Ytlpfffioidbkeaa
