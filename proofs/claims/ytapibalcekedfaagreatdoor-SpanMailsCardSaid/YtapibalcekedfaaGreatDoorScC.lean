/- Walks of layer 8, the third part: all, first, maybe, often. -/
import Derived.Test.YtapibalcekedfaaGreatDoorScB
namespace Go.Proofs.YtapibalcekedfaaGreatDoor
open Go Go.RowKit
namespace Sc
set_option maxRecDepth 100000
set_option linter.unusedVariables false
set_option linter.unusedSimpArgs false

/-- A part: which method, what it goes over. -/
abbrev Part := FuncId × (List UInt8 → Option (List UInt8))
def DoesAll (ps : List Part) : Prop := ∀ x ∈ ps, Does x.1 x.2
def allP : List Part → List UInt8 → Option (List UInt8)
  | [], l => some l
  | x :: ps, l => (x.2 l).bind (allP ps)
def firstP : List Part → List UInt8 → Option (List UInt8)
  | [], _ => none
  | x :: ps, l => match x.2 l with
    | some r => some r
    | none => firstP ps l
/-- The method's value, bound to the reader. -/
def mv (B : Nat) (x : Part) : Value := .func (.func x.1) #[.pointer (some ⟨B, 0, none⟩)] #[]
/-- The parts in a block. -/
def PB (w : World) (g B : Nat) (ps : List Part) : Prop := ∃ fr, w.heap[g]? = some (.cells (ps.map (mv B)).toArray 22 fr)
theorem PB.cell {w : World} {g B : Nat} {ps : List Part} (h : PB w g B ps) {i : Nat} {x : Part} (hi : ps[i]? = some x) : w.cell? ⟨g, i, none⟩ = some (mv B x) := by
  obtain ⟨fr, hb⟩ := h
  simp [World.cell?, hb, hi]
theorem PB.lt {w : World} {g B : Nat} {ps : List Part} (h : PB w g B ps) : g < w.heap.size := by
  obtain ⟨fr, hb⟩ := h
  exact lt_of_block hb
theorem PB.gr {w w' : World} {g B : Nat} {ps : List Part} (h : PB w g B ps) (hg : Gr B w w') (hne : g ≠ B) : PB w' g B ps := by
  have hl := h.lt
  obtain ⟨fr, hb⟩ := h
  exact ⟨fr, (hg.block g hl (fun e => hne (Option.some.inj e))).trans hb⟩

set_option maxHeartbeats 4000000 in
theorem all_any {ps : List Part} (hps : DoesAll ps) (hn : ps.length ≤ 100) (W : World) (B g : Nat) (s : ByteArray) (l : List UInt8) (hs : s.size ≤ 1000000) (h : RD W B s l) (hp : PB W g B ps) (hne : g ≠ B) :
    Calls Tryz.prog 71 #[.pointer (some ⟨B, 0, none⟩), .slice (some ⟨g, 0, none⟩) ps.length ps.length] W fun e W' => e = .returned (.bool (allP ps l).isSome) ∧ RD W' B s ((allP ps l).getD l) ∧ Gr B W W' := by
  have hmf : ∀ (fn : Fn) (first cap : Array Value) (w : World), (Instr.makeFunc fn first cap).run Tryz.prog w = .ok (.func fn first cap) w := fun _ _ _ _ => rfl
  obtain ⟨k, hk, hl, hr⟩ := h
  have HL := Lib.hid hl
  have c1 := hr.c1
  have HR0 := Lib.hid hr
  have HPS := Lib.hid hps
  have HRD : Hid (RD W B s l) := Lib.hid ⟨k, hk, hl, hr⟩
  have HPB := Lib.hid hp
  obtain ⟨N, hN⟩ : ∃ N, ps.length = N := ⟨_, rfl⟩
  have HN := Lib.hid hN
  rw [hN]
  rw [hN] at hn
  clear hl hr hps hp hN
  go_enter Tryz.func71, Tryz.ntmps71
  go_wp2_with fail
  go_loopg [14] N (fun G s14 wr => ∃ (i : Nat) (m : List UInt8), i + G = N ∧ s14 = .int .i64 (i : Int) ∧ Hid (RD wr B s m) ∧ Hid (Gr B W wr) ∧ Hid (allP ps l = allP (ps.drop i) m))
  case atStart => exact ⟨0, l, by omega, rfl, HRD, Lib.hid (Gr.refl B W), Lib.hid rfl⟩
  case round =>
    obtain ⟨i, m, hiG, rfl, HRD2, HG2, HA⟩ := hrel
    clear c1
    have HPB2 := Lib.hid (HPB.out.gr HG2.out hne)
    cases gk with
    | zero =>
      have hlt : ¬ (i : Int) < (N : Int) := by omega
      have HV : Hid (allP ps l = some m) := Lib.hid (by rw [HA.out, List.drop_eq_nil_of_le (by rw [HN.out]; omega)]; rfl)
      go_wp2
      go_ret
      rw [HV.out]
      exact ⟨rfl, HRD2.out, HG2.out⟩
    | succ G =>
      have hlt : (i : Int) < (N : Int) := by omega
      obtain ⟨x, hx⟩ : ∃ x, ps[i]? = some x := ⟨_, List.getElem?_eq_getElem (by rw [HN.out]; omega)⟩
      have hd : ps.drop i = x :: ps.drop (i + 1) := by
        obtain ⟨h1, h2⟩ := List.getElem?_eq_some_iff.1 hx
        rw [← h2]; exact List.drop_eq_getElem_cons h1
      have cg := HPB2.out.cell hx
      have HD := Lib.hid (HPS.out x (List.mem_of_getElem? hx))
      have eb := HD.out.1
      unfold Ent at eb
      unfold mv at cg
      have HC := Lib.hid (HD.out.2 wr B s m hs HRD2.out)
      obtain ⟨f, p⟩ := x
      simp only at cg eb HC
      cases hpm : p m with
      | none =>
        have HV : Hid (allP ps l = none) := Lib.hid (by rw [HA.out, hd]; simp [allP, hpm])
        rw [hpm] at HC
        clear hd hx hpm HPB2 HD
        go_wp2_with fail
        refine HC.out.mono ?_
        rintro e w1 ⟨rfl, h1, h2⟩
        obtain ⟨k1, hk1, hm1, hr1⟩ := h1
        have c1 := hr1.c1
        have f1 := hr1.fr 1
        have HX : Hid (RD (w1.setCell ⟨B, 1, none⟩ (.int .i64 (k : Int))) B s l ∧ Gr B W (w1.setCell ⟨B, 1, none⟩ (.int .i64 (k : Int)))) := Lib.hid ⟨⟨k, hk, HL.out, hr1.set k⟩, (HG2.out.trans h2).set _⟩
        clear hr1 hm1 h2
        go_wp2
        go_ret
        rw [HV.out]
        exact ⟨rfl, HX.out.1, HX.out.2⟩
      | some r =>
        have HV : Hid (allP ps l = allP (ps.drop (i + 1)) r) := Lib.hid (by rw [HA.out, hd]; simp [allP, hpm])
        rw [hpm] at HC
        clear hd hx hpm HPB2 HD
        go_wp2_with fail
        refine HC.out.mono ?_
        rintro e w1 ⟨rfl, h1, h2⟩
        have HX := Lib.hid h1
        have HY := Lib.hid (HG2.out.trans h2)
        clear h1 h2
        go_wp2
        go_roundg G
        case rel => exact ⟨i + 1, r, by omega, by go_num, HX, HY, HV⟩
        case measure => omega

set_option maxHeartbeats 4000000 in
theorem first_any {ps : List Part} (hps : DoesAll ps) (hn : ps.length ≤ 100) (W : World) (B g : Nat) (s : ByteArray) (l : List UInt8) (hs : s.size ≤ 1000000) (h : RD W B s l) (hp : PB W g B ps) (hne : g ≠ B) :
    Calls Tryz.prog 50 #[.pointer (some ⟨B, 0, none⟩), .slice (some ⟨g, 0, none⟩) ps.length ps.length] W fun e W' => e = .returned (.bool (firstP ps l).isSome) ∧ RD W' B s ((firstP ps l).getD l) ∧ Gr B W W' := by
  have HPS := Lib.hid hps
  have HRD := Lib.hid h
  have HPB := Lib.hid hp
  obtain ⟨N, hN⟩ : ∃ N, ps.length = N := ⟨_, rfl⟩
  have HN := Lib.hid hN
  rw [hN]
  rw [hN] at hn
  clear h hps hp hN
  go_enter Tryz.func50, Tryz.ntmps50
  go_wp2_with fail
  go_loopg [9] N (fun G s9 wr => ∃ (i : Nat), i + G = N ∧ s9 = .int .i64 (i : Int) ∧ Hid (RD wr B s l) ∧ Hid (Gr B W wr) ∧ Hid (firstP ps l = firstP (ps.drop i) l))
  case atStart => exact ⟨0, by omega, rfl, HRD, Lib.hid (Gr.refl B W), Lib.hid rfl⟩
  case round =>
    obtain ⟨i, hiG, rfl, HRD2, HG2, HA⟩ := hrel
    have HPB2 := Lib.hid (HPB.out.gr HG2.out hne)
    cases gk with
    | zero =>
      have hlt : ¬ (i : Int) < (N : Int) := by omega
      have HV : Hid (firstP ps l = none) := Lib.hid (by rw [HA.out, List.drop_eq_nil_of_le (by rw [HN.out]; omega)]; rfl)
      go_wp2
      go_ret
      rw [HV.out]
      exact ⟨rfl, HRD2.out, HG2.out⟩
    | succ G =>
      have hlt : (i : Int) < (N : Int) := by omega
      obtain ⟨x, hx⟩ : ∃ x, ps[i]? = some x := ⟨_, List.getElem?_eq_getElem (by rw [HN.out]; omega)⟩
      have hd : ps.drop i = x :: ps.drop (i + 1) := by
        obtain ⟨h1, h2⟩ := List.getElem?_eq_some_iff.1 hx
        rw [← h2]; exact List.drop_eq_getElem_cons h1
      have cg := HPB2.out.cell hx
      have HD := Lib.hid (HPS.out x (List.mem_of_getElem? hx))
      have eb := HD.out.1
      unfold Ent at eb
      unfold mv at cg
      have HC := Lib.hid (HD.out.2 wr B s l hs HRD2.out)
      obtain ⟨f, p⟩ := x
      simp only at cg eb HC
      cases hpm : p l with
      | none =>
        have HV : Hid (firstP ps l = firstP (ps.drop (i + 1)) l) := Lib.hid (by rw [HA.out, hd]; simp [firstP, hpm])
        rw [hpm] at HC
        clear hd hx hpm HPB2 HD
        go_wp2_with fail
        refine HC.out.mono ?_
        rintro e w1 ⟨rfl, h1, h2⟩
        have HX := Lib.hid h1
        have HY := Lib.hid (HG2.out.trans h2)
        clear h1 h2
        go_wp2
        go_roundg G
        case rel => exact ⟨i + 1, by omega, by go_num, HX, HY, HV⟩
        case measure => omega
      | some r =>
        have HV : Hid (firstP ps l = some r) := Lib.hid (by rw [HA.out, hd]; simp [firstP, hpm])
        rw [hpm] at HC
        clear hd hx hpm HPB2 HD
        go_wp2_with fail
        refine HC.out.mono ?_
        rintro e w1 ⟨rfl, h1, h2⟩
        have HX := Lib.hid h1
        have HY := Lib.hid (HG2.out.trans h2)
        clear h1 h2
        go_wp2
        go_ret
        rw [HV.out]
        exact ⟨rfl, HX.out, HY.out⟩

theorem maybe_any {x : Part} (hx : Does x.1 x.2) (W : World) (B : Nat) (s : ByteArray) (l : List UInt8) (hs : s.size ≤ 1000000) (h : RD W B s l) :
    Calls Tryz.prog 97 #[.pointer (some ⟨B, 0, none⟩), mv B x] W fun e W' => e = .returned (.bool true) ∧ RD W' B s ((x.2 l).getD l) ∧ Gr B W W' := by
  have eb := hx.1
  unfold Ent at eb
  have HC := Lib.hid (hx.2 W B s l hs h)
  obtain ⟨f, p⟩ := x
  simp only at eb HC
  unfold mv
  clear hx h
  go_enter Tryz.func97, Tryz.ntmps97
  go_wp2_with fail
  refine HC.out.mono ?_
  rintro e w1 ⟨rfl, h1, h2⟩
  go_wp2
  go_ret
  exact ⟨rfl, h1, h2⟩

/-- As often as it is there. -/
def oftenP (p : List UInt8 → Option (List UInt8)) : Nat → List UInt8 → List UInt8
  | 0, l => l
  | n + 1, l => match p l with
    | some r => oftenP p n r
    | none => l
set_option maxHeartbeats 2000000 in
theorem often_any {x : Part} (hx : Does x.1 x.2) (hdec : ∀ l r, x.2 l = some r → r.length < l.length) (W : World) (B : Nat) (s : ByteArray) (l : List UInt8) (hs : s.size ≤ 1000000) (h : RD W B s l) :
    Calls Tryz.prog 95 #[.pointer (some ⟨B, 0, none⟩), mv B x] W fun e W' => e = .returned (.bool true) ∧ RD W' B s (oftenP x.2 l.length l) ∧ Gr B W W' := by
  have eb := hx.1
  unfold Ent at eb
  have HX := Lib.hid hx.2
  have HDec := Lib.hid hdec
  have HRD := Lib.hid h
  obtain ⟨f, p⟩ := x
  simp only at eb HX HDec
  unfold mv
  simp only
  clear hx h hdec
  have HFu : Hid (∀ n m (a : List UInt8), a.length ≤ n → a.length ≤ m → oftenP p n a = oftenP p m a) := Lib.hid (by
    intro n
    induction n with
    | zero =>
      intro m a h1 h2
      have : a = [] := List.length_eq_zero_iff.1 (by omega)
      subst this
      cases m with
      | zero => rfl
      | succ m =>
        simp only [oftenP]
        cases hp : p [] with
        | none => rfl
        | some r => have := HDec.out _ _ hp; simp at this
    | succ n ih =>
      intro m a h1 h2
      cases m with
      | zero =>
        have : a = [] := List.length_eq_zero_iff.1 (by omega)
        subst this
        simp only [oftenP]
        cases hp : p [] with
        | none => rfl
        | some r => have := HDec.out _ _ hp; simp at this
      | succ m =>
        simp only [oftenP]
        cases hp : p a with
        | none => rfl
        | some r => have := HDec.out _ _ hp; exact ih m r (by omega) (by omega))
  go_enter Tryz.func95, Tryz.ntmps95
  go_wp2_with fail
  go_loopg [] l.length (fun G wr => ∃ (m : List UInt8), m.length ≤ G ∧ Hid (RD wr B s m) ∧ Hid (Gr B W wr) ∧ Hid (oftenP p l.length l = oftenP p m.length m))
  case atStart => exact ⟨l, Nat.le_refl _, HRD, Lib.hid (Gr.refl B W), Lib.hid rfl⟩
  case round =>
    obtain ⟨m, hmG, HRD2, HG2, HA⟩ := hrel
    have HC := Lib.hid (HX.out wr B s m hs HRD2.out)
    cases hpm : p m with
    | none =>
      have HV : Hid (oftenP p l.length l = m) := Lib.hid (by
        rw [HA.out]
        cases m with
        | nil => rfl
        | cons c t => simp only [List.length_cons, oftenP, hpm])
      rw [hpm] at HC
      clear hpm
      go_wp2_with fail
      refine HC.out.mono ?_
      rintro e w1 ⟨rfl, h1, h2⟩
      have HX := Lib.hid h1
      have HY := Lib.hid (HG2.out.trans h2)
      clear h1 h2
      go_wp2
      go_ret
      rw [HV.out]
      exact ⟨rfl, HX.out, HY.out⟩
    | some r =>
      have hlt := HDec.out _ _ hpm
      have HV : Hid (oftenP p l.length l = oftenP p r.length r) := Lib.hid (by
        rw [HA.out]
        cases m with
        | nil => simp at hlt
        | cons c t =>
          simp only [List.length_cons, oftenP, hpm]
          simp only [List.length_cons] at hlt
          exact HFu.out _ _ _ (by omega) (Nat.le_refl _))
      rw [hpm] at HC
      clear hpm
      go_wp2_with fail
      refine HC.out.mono ?_
      rintro e w1 ⟨rfl, h1, h2⟩
      have HX := Lib.hid h1
      have HY := Lib.hid (HG2.out.trans h2)
      clear h1 h2
      go_wp2
      go_roundg (gk - 1)
      case rel => exact ⟨r, by omega, HX, HY, HV⟩
      case measure => omega
end Sc
end Go.Proofs.YtapibalcekedfaaGreatDoor
