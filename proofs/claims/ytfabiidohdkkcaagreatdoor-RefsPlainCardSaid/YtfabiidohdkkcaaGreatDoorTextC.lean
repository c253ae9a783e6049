/- Walks of layer 1, the third part: Clean itself. -/
import Derived.Test.YtfabiidohdkkcaaGreatDoorTextB
import Derived.Deep.LoopGhost
namespace Go.Proofs.YtfabiidohdkkcaaGreatDoor
open Go Go.RowKit
namespace Tx
set_option maxRecDepth 100000
set_option linter.unusedVariables false
set_option linter.unusedSimpArgs false

theorem sh_cases (c : Nat) : (c < 128 ∧ shS c = 1) ∨ ((128 ≤ c ∧ c < 194 ∨ 245 ≤ c) ∧ shS c = 0) ∨ (194 ≤ c ∧ c ≤ 223 ∧ shS c = 2 ∧ shLo c = 128 ∧ shHi c = 191) ∨ (c = 224 ∧ shS c = 3 ∧ shLo c = 160 ∧ shHi c = 191) ∨
    (c = 237 ∧ shS c = 3 ∧ shLo c = 128 ∧ shHi c = 159) ∨ ((225 ≤ c ∧ c ≤ 236 ∨ 238 ≤ c ∧ c ≤ 239) ∧ shS c = 3 ∧ shLo c = 128 ∧ shHi c = 191) ∨ (c = 240 ∧ shS c = 4 ∧ shLo c = 144 ∧ shHi c = 191) ∨
    (241 ≤ c ∧ c ≤ 243 ∧ shS c = 4 ∧ shLo c = 128 ∧ shHi c = 191) ∨ (c = 244 ∧ shS c = 4 ∧ shLo c = 128 ∧ shHi c = 143) := by
  have hc : c < 128 ∨ (128 ≤ c ∧ c < 194 ∨ 245 ≤ c) ∨ (194 ≤ c ∧ c ≤ 223) ∨ c = 224 ∨ c = 237 ∨ (225 ≤ c ∧ c ≤ 236 ∨ 238 ≤ c ∧ c ≤ 239) ∨ c = 240 ∨ (241 ≤ c ∧ c ≤ 243) ∨ c = 244 := by omega
  rcases hc with h | h | h | h | h | h | h | h | h
  · exact Or.inl ⟨h, by unfold shS; (repeat' split) <;> omega⟩
  · exact Or.inr (Or.inl ⟨h, by unfold shS; (repeat' split) <;> omega⟩)
  · exact Or.inr (Or.inr (Or.inl ⟨h.1, h.2, by unfold shS; (repeat' split) <;> omega, by unfold shLo; (repeat' split) <;> omega, by unfold shHi; (repeat' split) <;> omega⟩))
  · subst h; decide
  · subst h; decide
  · exact Or.inr (Or.inr (Or.inr (Or.inr (Or.inr (Or.inl ⟨h, by unfold shS; (repeat' split) <;> omega, by unfold shLo; (repeat' split) <;> omega, by unfold shHi; (repeat' split) <;> omega⟩)))))
  · subst h; decide
  · exact Or.inr (Or.inr (Or.inr (Or.inr (Or.inr (Or.inr (Or.inr (Or.inl ⟨h.1, h.2, by unfold shS; (repeat' split) <;> omega, by unfold shLo; (repeat' split) <;> omega, by unfold shHi; (repeat' split) <;> omega⟩)))))))
  · subst h; decide

def loJ (c j : Nat) : Nat := if j = 0 then shLo c else 128
def hiJ (c j : Nat) : Nat := if j = 0 then shHi c else 191
def okB (c j v : Nat) : Prop := loJ c j ≤ v ∧ v ≤ hiJ c j

theorem okB_0 (c v : Nat) : okB c 0 v ↔ shLo c ≤ v ∧ v ≤ shHi c := Iff.rfl
theorem okB_1 (c v : Nat) : okB c 1 v ↔ 128 ≤ v ∧ v ≤ 191 := Iff.rfl
theorem okB_2 (c v : Nat) : okB c 2 v ↔ 128 ≤ v ∧ v ≤ 191 := Iff.rfl

theorem good_cons (x : UInt8) (t : List UInt8) : good (x :: t) = goodN (t.length + 1) x.toNat (at' t 0) (at' t 1) (at' t 2) := good_eq _

theorem good_short (x : UInt8) (t : List UInt8) (h : shS x.toNat = 0 ∨ t.length + 1 < shS x.toNat) : good (x :: t) = 0 := by
  rw [good_cons]
  generalize x.toNat = c at *
  generalize at' t 0 = a1
  generalize at' t 1 = a2
  generalize at' t 2 = a3
  generalize t.length = n at *
  unfold goodN
  rcases sh_cases c with h1 | h1 | h1 | h1 | h1 | h1 | h1 | h1 | h1
  all_goals rw [if_neg (by omega), if_neg (by omega), if_neg (by omega), if_neg (by omega)]

theorem good_all (x : UInt8) (t : List UInt8) (h0 : shS x.toNat ≠ 0) (hl : shS x.toNat ≤ t.length + 1) (h : ∀ j, j + 1 < shS x.toNat → okB x.toNat j (at' t j)) : good (x :: t) = shS x.toNat := by
  rw [good_cons]
  have j0 := h 0
  have j1 := h 1
  have j2 := h 2
  clear h
  rw [okB_0] at j0
  rw [okB_1] at j1
  rw [okB_2] at j2
  generalize x.toNat = c at *
  generalize at' t 0 = a1 at *
  generalize at' t 1 = a2 at *
  generalize at' t 2 = a3 at *
  generalize t.length = n at *
  unfold goodN
  rcases sh_cases c with h1 | h1 | h1 | h1 | h1 | h1 | h1 | h1 | h1
  · rw [if_pos (by omega)]; omega
  · omega
  · have := j0 (by omega); rw [if_neg (by omega), if_pos (by omega)]; omega
  · have := j0 (by omega); have := j1 (by omega); rw [if_neg (by omega), if_neg (by omega), if_pos (by omega)]; omega
  · have := j0 (by omega); have := j1 (by omega); rw [if_neg (by omega), if_neg (by omega), if_pos (by omega)]; omega
  · have := j0 (by omega); have := j1 (by omega); rw [if_neg (by omega), if_neg (by omega), if_pos (by omega)]; omega
  · have := j0 (by omega); have := j1 (by omega); have := j2 (by omega); rw [if_neg (by omega), if_neg (by omega), if_neg (by omega), if_pos (by omega)]; omega
  · have := j0 (by omega); have := j1 (by omega); have := j2 (by omega); rw [if_neg (by omega), if_neg (by omega), if_neg (by omega), if_pos (by omega)]; omega
  · have := j0 (by omega); have := j1 (by omega); have := j2 (by omega); rw [if_neg (by omega), if_neg (by omega), if_neg (by omega), if_pos (by omega)]; omega

theorem good_not (x : UInt8) (t : List UInt8) (j : Nat) (hj : j + 1 < shS x.toNat) (h : ¬ okB x.toNat j (at' t j)) : good (x :: t) = 0 := by
  rw [good_cons]
  have hs4 : shS x.toNat ≤ 4 := by rcases sh_cases x.toNat with h1 | h1 | h1 | h1 | h1 | h1 | h1 | h1 | h1 <;> omega
  have hj3 : j = 0 ∨ j = 1 ∨ j = 2 := by omega
  rcases hj3 with rfl | rfl | rfl
  all_goals
    first | rw [okB_0] at h | rw [okB_1] at h | rw [okB_2] at h
    generalize x.toNat = c at *
    generalize at' t 0 = a1 at *
    generalize at' t 1 = a2 at *
    generalize at' t 2 = a3 at *
    generalize t.length = n at *
    unfold goodN
    rcases sh_cases c with h1 | h1 | h1 | h1 | h1 | h1 | h1 | h1 | h1
    all_goals first | (exfalso; omega) | rw [if_neg (by omega), if_neg (by omega), if_neg (by omega), if_neg (by omega)]

/-- How the world goes on: a builder that holds these bytes. -/
def Bld (B : Nat) (bs : List UInt8) (w : World) : Prop := Lib.IsBuilder 73 5 B B (Lib.byteCells bs) w

theorem crel_bad {w wr w2 : World} {l acc t : List UInt8} {x : UInt8} {p k : Nat} (hbad : good (x :: t) = 0 ∨ x = 0) (hxt : l.drop p = x :: t) (hpk : p + (k + 1) = l.length) (hacc : acc ++ clean (x :: t) = clean l) (hal : acc.length ≤ 3 * p)
    (hbw : Below w.heap.size w wr) (hb : Lib.BuilderAt 73 5 w.heap.size w.heap.size (.pointer (some ⟨w.heap.size, 0, none⟩)) (Lib.byteCells acc ++ Lib.strCells ⟨#[239, 191, 189]⟩) w2) (hbw2 : Below w.heap.size wr w2) :
    ∃ (p' : Nat) (acc : List UInt8), p' + k = l.length ∧ Value.int .i64 ((p : Int) + 1) = .int .i64 p' ∧ Bld w.heap.size acc w2 ∧ acc ++ clean (l.drop p') = clean l ∧ Below w.heap.size w w2 ∧ acc.length ≤ 3 * p' := by
  refine ⟨p + 1, acc ++ mark, by omega, by rw [show ((p + 1 : Nat) : Int) = (p : Int) + 1 from by omega], ?_, ?_, hbw.trans hbw2, by simp [mark]; omega⟩
  · refine Or.inr ?_
    simpa [Lib.byteCells, Lib.strCells, mark] using hb
  · rw [← hacc, show l.drop (p + 1) = t from by rw [← List.drop_drop, hxt]; rfl]
    unfold clean; rw [chars_bad x t hbad]; simp

theorem crel_zero {w wr w2 : World} {l acc t : List UInt8} {x : UInt8} {p k sz : Nat} (hgood : good (x :: t) = sz) (hs0 : sz ≠ 0) (hx : x = 0) (hxt : l.drop p = x :: t) (hpk : p + (k + 1) = l.length) (hacc : acc ++ clean (x :: t) = clean l) (hal : acc.length ≤ 3 * p)
    (hbw : Below w.heap.size w wr) (hb : Lib.BuilderAt 73 5 w.heap.size w.heap.size (.pointer (some ⟨w.heap.size, 0, none⟩)) (Lib.byteCells acc ++ Lib.strCells ⟨#[239, 191, 189]⟩) w2) (hbw2 : Below w.heap.size wr w2) :
    ∃ (p' : Nat) (acc : List UInt8), p' + (k + 1 - sz) = l.length ∧ Value.int .i64 ((p : Int) + sz) = .int .i64 p' ∧ Bld w.heap.size acc w2 ∧ acc ++ clean (l.drop p') = clean l ∧ Below w.heap.size w w2 ∧ acc.length ≤ 3 * p' := by
  have h1 : sz = 1 := by
    subst hx
    have hc := good_cons 0 t
    rw [hgood] at hc
    unfold goodN at hc
    rw [if_pos ⟨by omega, (by decide : (0 : UInt8).toNat ≤ 127)⟩] at hc
    exact hc
  subst h1
  exact crel_bad (Or.inr hx) hxt hpk hacc hal hbw hb hbw2

theorem crel_good {w wr w2 : World} {l acc t : List UInt8} {x : UInt8} {p k sz : Nat} (hgood : good (x :: t) = sz) (hs0 : sz ≠ 0) (hx : x ≠ 0) (hxt : l.drop p = x :: t) (hpk : p + (k + 1) = l.length) (hacc : acc ++ clean (x :: t) = clean l) (hal : acc.length ≤ 3 * p)
    (hbw : Below w.heap.size w wr) (hb : Lib.BuilderAt 73 5 w.heap.size w.heap.size (.pointer (some ⟨w.heap.size, 0, none⟩)) (Lib.byteCells acc ++ Lib.byteCells ((x :: t).take sz)) w2) (hbw2 : Below w.heap.size wr w2) :
    ∃ (p' : Nat) (acc : List UInt8), p' + (k + 1 - sz) = l.length ∧ Value.int .i64 ((p : Int) + sz) = .int .i64 p' ∧ Bld w.heap.size acc w2 ∧ acc ++ clean (l.drop p') = clean l ∧ Below w.heap.size w w2 ∧ acc.length ≤ 3 * p' := by
  have hgl := good_le (x :: t)
  have htl : (x :: t).length = k + 1 := by rw [← hxt, List.length_drop]; omega
  subst hgood
  refine ⟨p + good (x :: t), acc ++ (x :: t).take (good (x :: t)), by omega, by rw [show ((p + good (x :: t) : Nat) : Int) = (p : Int) + good (x :: t) from by omega], ?_, ?_, hbw.trans hbw2, by simp; omega⟩
  · refine Or.inr ?_
    simpa [Lib.byteCells] using hb
  · rw [← hacc, ← List.drop_drop, hxt]
    unfold clean; rw [chars_ok x t hs0 hx]; simp

theorem strsz : (⟨#[239, 191, 189]⟩ : ByteArray).size = 3 := rfl

set_option maxHeartbeats 1000000 in
theorem clean_any (l : List UInt8) (v : Value) (w : World) (hv : Sl w v l) (hl : l.length ≤ 1099511627776) :
    Calls Tryz.prog 91 #[v] w fun e w' => e = .returned (.string ⟨(clean l).toArray⟩) ∧ Below w.heap.size w w' := by
  obtain ⟨ao, cap, rfl, hrc, hcm, hrow⟩ := hv
  have Hrow := Lib.hid hrow
  clear hrow
  unfold maxLen at hcm
  go_enter Tryz.func91, Tryz.ntmps91
  go_wp2
  go_step3
  go_wp2_with (go_at_call 64; refine (Tryz.Builder_Grow_fresh w.heap.size w.heap.size l.length _ (Nat.le_refl _) ?g1 ?g2 ?g3).mono ?_)
  case g1 => simp only [World.alloc, Array.getElem?_push_size]
  case g2 => simp
  case g3 => omega
  rintro e w1 ⟨rfl, hb1, hbw1⟩
  go_wp2
  go_step3
  go_wp2
  have hbw0 : Below w.heap.size w w1 := ((Below.refl _ w).alloc (Nat.le_refl _) _).trans hbw1
  clear hbw1
  go_loopg [4] l.length (fun k s4 wr => ∃ (p : Nat) (acc : List UInt8), p + k = l.length ∧ s4 = .int .i64 p ∧ Bld w.heap.size acc wr ∧ acc ++ clean (l.drop p) = clean l ∧ Below w.heap.size w wr ∧ acc.length ≤ 3 * p)
  case atStart => exact ⟨0, [], by omega, rfl, Or.inr hb1, by simp, hbw0, by simp⟩
  case round =>
    obtain ⟨p, acc, hpk, rfl, hB, hacc, hbw, hal⟩ := hrel
    have hsz := hbw.size
    cases gk with
    | zero =>
      have hpl : ¬ ((p : Int) < (l.length : Int)) := by omega
      go_wp2_with (go_at_call 67; refine (Tryz.Builder_String_any w.heap.size w.heap.size acc _ hB hsz).mono ?_; rintro e w2 ⟨rfl, hb2⟩)
      try rw [Exit.noGoto_ret]
      go_ret
      rw [List.drop_eq_nil_of_le (by omega), clean, chars_nil] at hacc
      simp at hacc
      exact ⟨by rw [← hacc]; rfl, hbw.trans hb2⟩
    | succ k =>
      have hpl : (p : Int) < (l.length : Int) := by omega
      obtain ⟨b, off, rfl, hr⟩ := Hrow.out (by intro e; subst e; simp at hpk)
      have hrw := hr.below' hbw
      obtain ⟨x, t, hxt⟩ : ∃ x t, l.drop p = x :: t := by
        cases h : l.drop p with
        | nil => have := congrArg List.length h; simp at this; omega
        | cons x t => exact ⟨x, t, rfl⟩
      have hrd := hrw.drop p
      rw [hxt] at hrd
      have htl : t.length + 1 + p = l.length := by have := congrArg List.length hxt; simp at this; omega
      have hc0 := Sl.cell hrd
      have hx256 : x.toNat < 256 := UInt8.toNat_lt x
      have SH := Lib.hid (shape_any x.toNat hx256 wr)
      rw [hxt] at hacc
      have Hxt := Lib.hid hxt
      have Hrd := Lib.hid hrd
      have Hblt := Lib.hid (hr.lt (by intro e; subst e; simp at hpk))
      clear hxt hrd hr hrw
      have hs4 : shS x.toNat ≤ 4 := by rcases sh_cases x.toNat with h1 | h1 | h1 | h1 | h1 | h1 | h1 | h1 | h1 <;> omega
      obtain ⟨sz, hsz'⟩ : ∃ sz, shS x.toNat = sz := ⟨_, rfl⟩
      obtain ⟨lo, hlo'⟩ : ∃ lo, shLo x.toNat = lo := ⟨_, rfl⟩
      obtain ⟨hi, hhi'⟩ : ∃ hi, shHi x.toNat = hi := ⟨_, rfl⟩
      rw [hsz', hlo', hhi'] at SH
      rw [hsz'] at hs4
      have Hsz := Lib.hid hsz'
      have Hlo := Lib.hid hlo'
      have Hhi := Lib.hid hhi'
      clear hsz' hlo' hhi'
      by_cases hshort : sz = 0 ∨ t.length + 1 < sz
      · by_cases hs0 : sz = 0
        · subst hs0
          go_wp2_with (first
            | (go_at_call 114; refine SH.out.mono ?_; rintro e w' ⟨rfl, rfl⟩)
            | (go_at_call 66; refine (Tryz.Builder_WriteString w.heap.size w.heap.size _ _ _ hB ?a1 hsz).mono ?_))
          case a1 => rw [Lib.byteCells_length, strsz]; omega
          rintro e w2 ⟨rfl, hb2, hbw2⟩
          go_wp2
          go_roundg k
          case rel => exact crel_bad (Or.inl (good_short x t (Or.inl Hsz.out))) Hxt.out hpk hacc hal hbw hb2 hbw2
          case measure => omega
        · have hsb : ((sz : Int) == 0) = false := by simp; omega
          have hgt : (l.length : Int) - (p : Int) < (sz : Int) := by omega
          have Hshort := Lib.hid hshort
          clear hshort
          go_wp2_with (first
            | (go_at_call 114; refine SH.out.mono ?_; rintro e w' ⟨rfl, rfl⟩)
            | (go_at_call 66; refine (Tryz.Builder_WriteString w.heap.size w.heap.size _ _ _ hB ?a2 hsz).mono ?_))
          case a2 => rw [Lib.byteCells_length, strsz]; omega
          rintro e w2 ⟨rfl, hb2, hbw2⟩
          go_wp2
          go_roundg k
          case rel => exact crel_bad (Or.inl (good_short x t (by rw [Hsz.out]; exact Hshort.out))) Hxt.out hpk hacc hal hbw hb2 hbw2
          case measure => omega
      · have hsb : ((sz : Int) == 0) = false := by simp; omega
        have hgt : (sz : Int) ≤ (l.length : Int) - (p : Int) := by omega
        have hs0 : 0 < sz := by omega
        have hszl : sz ≤ t.length + 1 := by omega
        clear hshort
        by_cases h1 : sz = 1
        · subst h1
          have hgd : Hid (good (x :: t) = 1) := Lib.hid (by rw [← Hsz.out]; exact good_all x t (by rw [Hsz.out]; decide) (by rw [Hsz.out]; omega) (fun j hj => absurd hj (by rw [Hsz.out]; omega)))
          have WR := Lib.hid (fun c => Tryz.Builder_Write w.heap.size w.heap.size _ ⟨b, off + p, none⟩ 1 c (Lib.byteCells ((x :: t).take 1)) _ hB (by simp [Lib.byteCells]) (row_cells Hrd.out 1 (by simp)) (Hblt.out) (byteCells_one _) (by rw [Lib.byteCells_length]; omega) hsz)
          have hcp : ¬ cap = p := by omega
          by_cases hx : x = 0
          · have hx0 : ((x.toNat : Int) == 0) = true := by subst hx; rfl
            have Hx := Lib.hid hx
            clear hx
            by_cases hcap : p + 1 = cap
            · have hcp1 : cap - p = 1 := by omega
              go_wp2_with (go_at_call 114; refine SH.out.mono ?_; rintro e w' ⟨rfl, rfl⟩)
              go_loopg [4, 47] 0 (fun g s4 s47 wx => g = 0 ∧ s4 = .int .i64 p ∧ s47 = .int .i64 0 ∧ wx = wr)
              case atStart => exact ⟨rfl, rfl, rfl, rfl⟩
              case round =>
                obtain ⟨rfl, rfl, rfl, rfl⟩ := hrel
                go_wp2_with (go_at_call 66; refine (Tryz.Builder_WriteString w.heap.size w.heap.size _ _ _ hB (by rw [Lib.byteCells_length, strsz]; omega) hsz).mono ?_; rintro e w2 ⟨rfl, hb2, hbw2⟩)
                go_roundg k
                case rel => exact crel_bad (Or.inr Hx.out) Hxt.out hpk hacc hal hbw hb2 hbw2
                case measure => omega
            · have hcap' : ¬ cap = p + 1 := fun e => hcap e.symm
              clear hcap
              go_wp2_with (go_at_call 114; refine SH.out.mono ?_; rintro e w' ⟨rfl, rfl⟩)
              go_loopg [4, 47] 0 (fun g s4 s47 wx => g = 0 ∧ s4 = .int .i64 p ∧ s47 = .int .i64 0 ∧ wx = wr)
              case atStart => exact ⟨rfl, rfl, rfl, rfl⟩
              case round =>
                obtain ⟨rfl, rfl, rfl, rfl⟩ := hrel
                go_wp2_with (go_at_call 66; refine (Tryz.Builder_WriteString w.heap.size w.heap.size _ _ _ hB (by rw [Lib.byteCells_length, strsz]; omega) hsz).mono ?_; rintro e w2 ⟨rfl, hb2, hbw2⟩)
                go_roundg k
                case rel => exact crel_bad (Or.inr Hx.out) Hxt.out hpk hacc hal hbw hb2 hbw2
                case measure => omega
          · have hx0 : ((x.toNat : Int) == 0) = false := by have := u8_ne0 hx; simp; omega
            have Hx := Lib.hid hx
            clear hx
            by_cases hcap : p + 1 = cap
            · have hcp1 : cap - p = 1 := by omega
              go_wp2_with (go_at_call 114; refine SH.out.mono ?_; rintro e w' ⟨rfl, rfl⟩)
              go_loopg [4, 47] 0 (fun g s4 s47 wx => g = 0 ∧ s4 = .int .i64 p ∧ s47 = .int .i64 0 ∧ wx = wr)
              case atStart => exact ⟨rfl, rfl, rfl, rfl⟩
              case round =>
                obtain ⟨rfl, rfl, rfl, rfl⟩ := hrel
                go_wp2_with (go_at_call 115; refine (WR.out _).mono ?_; rintro e w2 ⟨rfl, hb2, hbw2⟩)
                go_roundg k
                case rel => exact crel_good hgd.out (by decide) Hx.out Hxt.out hpk hacc hal hbw hb2 hbw2
                case measure => omega
            · have hcap' : ¬ cap = p + 1 := fun e => hcap e.symm
              clear hcap
              go_wp2_with (go_at_call 114; refine SH.out.mono ?_; rintro e w' ⟨rfl, rfl⟩)
              go_loopg [4, 47] 0 (fun g s4 s47 wx => g = 0 ∧ s4 = .int .i64 p ∧ s47 = .int .i64 0 ∧ wx = wr)
              case atStart => exact ⟨rfl, rfl, rfl, rfl⟩
              case round =>
                obtain ⟨rfl, rfl, rfl, rfl⟩ := hrel
                go_wp2_with (go_at_call 115; refine (WR.out _).mono ?_; rintro e w2 ⟨rfl, hb2, hbw2⟩)
                go_roundg k
                case rel => exact crel_good hgd.out (by decide) Hx.out Hxt.out hpk hacc hal hbw hb2 hbw2
                case measure => omega
        · have h2 : 2 ≤ sz := by omega
          have hx : x ≠ 0 := by
            intro e
            have h194 : 128 ≤ x.toNat := by
              have := Hsz.out
              rcases sh_cases x.toNat with h | h | h | h | h | h | h | h | h <;> omega
            subst e
            exact absurd h194 (by decide)
          have hx0 : ((x.toNat : Int) == 0) = false := by have := u8_ne0 hx; simp; omega
          have Hx := Lib.hid hx
          clear hx h1
          have hcap' : ¬ cap = p + 1 := by omega
          have hcp : ¬ cap = p := by omega
          have WR := Lib.hid (fun (_ : good (x :: t) = sz) => fun c => Tryz.Builder_Write w.heap.size w.heap.size _ ⟨b, off + p, none⟩ sz c (Lib.byteCells ((x :: t).take sz)) _ hB (by simp [Lib.byteCells]; omega) (row_cells Hrd.out sz (by simp; omega)) (Hblt.out) (byteCells_one _) (by rw [Lib.byteCells_length]; omega) hsz)
          have Hcell : Hid (∀ i, i < t.length → wr.cell? ⟨b, off + (p + 1) + i, none⟩ = some (.int .u8 (at' t i : Nat))) := Lib.hid (by
            intro i hi
            have := Hrd.out (i + 1) (by simp; omega)
            rw [show off + (p + 1) + i = off + p + (i + 1) from by omega, this]; rfl)
          go_wp2_with (go_at_call 114; refine SH.out.mono ?_; rintro e w' ⟨rfl, rfl⟩)
          obtain ⟨w0, rfl⟩ : ∃ w0 : World, w0 = wr := ⟨_, rfl⟩
          go_loopg [4, 6, 7, 47] (sz - 1) (fun g s4 s6 s7 s47 wx => ∃ i : Nat, i + g = sz - 1 ∧ s4 = .int .i64 p ∧ s6 = .int .u8 (loJ x.toNat i : Nat) ∧ s7 = .int .u8 (hiJ x.toNat i : Nat) ∧ s47 = .int .i64 i ∧ Hid (∀ j, j < i → okB x.toNat j (at' t j)) ∧ wx = w0)
          case atStart => exact ⟨0, by omega, rfl, by rw [← Hlo.out]; rfl, by rw [← Hhi.out]; rfl, rfl, Lib.hid (fun j hj => by omega), rfl⟩
          case round =>
            obtain ⟨i, hig, rfl, rfl, rfl, rfl, HOK, rfl⟩ := hrel
            cases gk with
            | zero =>
              have hii : ¬ (i : Int) < (sz : Int) - 1 := by omega
              have hgd : Hid (good (x :: t) = sz) := Lib.hid (by
                rw [← Hsz.out]; exact good_all x t (by rw [Hsz.out]; omega) (by rw [Hsz.out]; omega) (fun j hj => HOK.out j (by rw [Hsz.out] at hj; omega)))
              have HW := Lib.hid (WR.out hgd.out)
              go_wp2_with (go_at_call 115; refine (HW.out _).mono ?_; rintro e w2 ⟨rfl, hb2, hbw2⟩)
              go_roundg (k + 1 - sz)
              case rel => exact crel_good hgd.out (by omega) Hx.out Hxt.out hpk hacc hal hbw hb2 hbw2
              case measure => omega
            | succ g =>
              have hii : (i : Int) < (sz : Int) - 1 := by omega
              have hcl := Hcell.out i (by omega)
              have hv := at_lt t i
              by_cases hok : okB x.toNat i (at' t i)
              · have HO := Lib.hid hok
                have h1 := hok.1
                have h2 := hok.2
                clear hok
                generalize hgen : at' t i = v at *
                have Hgen := Lib.hid hgen
                clear hgen
                go_wp2_with fail
                go_roundg g
                case rel =>
                  refine ⟨i + 1, by omega, rfl, by simp [loJ], by simp [hiJ], by go_num, Lib.hid (fun j hj => ?_), rfl⟩
                  by_cases hji : j = i
                  · subst hji; rw [Hgen.out]; exact HO.out
                  · exact HOK.out j (by omega)
                case measure => omega
              · have hgd : Hid (good (x :: t) = 0) := Lib.hid (good_not x t i (by rw [Hsz.out]; omega) hok)
                have hor : at' t i < loJ x.toNat i ∨ (loJ x.toNat i ≤ at' t i ∧ hiJ x.toNat i < at' t i) := by
                  unfold okB at hok; omega
                clear hok
                generalize at' t i = v at *
                generalize loJ x.toNat i = lj at *
                generalize hiJ x.toNat i = hj at *
                rcases hor with hv1 | ⟨hv1, hv2⟩
                · go_wp2_with (go_at_call 66; refine (Tryz.Builder_WriteString w.heap.size w.heap.size _ _ _ hB (by rw [Lib.byteCells_length, strsz]; omega) hsz).mono ?_; rintro e w2 ⟨rfl, hb2, hbw2⟩)
                  go_roundg k
                  case rel => exact crel_bad (Or.inl hgd.out) Hxt.out hpk hacc hal hbw hb2 hbw2
                  case measure => omega
                · go_wp2_with (go_at_call 66; refine (Tryz.Builder_WriteString w.heap.size w.heap.size _ _ _ hB (by rw [Lib.byteCells_length, strsz]; omega) hsz).mono ?_; rintro e w2 ⟨rfl, hb2, hbw2⟩)
                  go_roundg k
                  case rel => exact crel_bad (Or.inl hgd.out) Hxt.out hpk hacc hal hbw hb2 hbw2
                  case measure => omega
end Tx
end Go.Proofs.YtfabiidohdkkcaaGreatDoor
