/- Walks of layer 9, the second part: up to an end; an address without brackets. -/
import Derived.Test.YtfabiidohdkkcaaGreatDoorLkA
import Derived.Test.YtfabiidohdkkcaaGreatDoorEscCs
namespace Go.Proofs.YtfabiidohdkkcaaGreatDoor
open Go Go.RowKit
namespace Lk
open Es
set_option maxRecDepth 100000
set_option linter.unusedVariables false
set_option linter.unusedSimpArgs false

theorem sign_ok {w0 w : World} {b : Nat} (hL : LaidK w0) (hb : w0.heap.size ≤ b) (hw : Below w0.heap.size w0 w) : SignOk b w := by
  intro c W hG
  have h1 : Below w0.heap.size w0 W := hw.trans (hG.below hb hw.size)
  exact Es.sign_any (c.toNat : Int) W (by omega) (by have := c.toNat_lt; omega) (hL.below h1)

/-- A captured byte and a captured text. -/
def CVar (w : World) (g : Nat) (e : UInt8) : Prop := w.heap[g]? = some (.cells #[.int .u8 (e.toNat : Int)] 5 (0, 0))
def SVar (w : World) (g : Nat) (s : ByteArray) : Prop := w.heap[g]? = some (.cells #[.string s] 9 (0, 0))
def NVar (w : World) (g : Nat) (n : Nat) : Prop := w.heap[g]? = some (.cells #[.int .i64 (n : Int)] 3 (0, 0))
theorem natOf (c : UInt8) : ((c.toNat : Int).toNat.toUInt8) = c := by rw [Int.toNat_natCast]; exact UInt8.ofNat_toNat

theorem below_drewN {B : Nat} {a w : World} (h : Below B a w) (n : Nat) : Below B a (w.drewN n) := ⟨h.os, h.tape, h.output, h.size, h.block⟩
theorem two_new (w : World) (a b : Obj) : ((w.alloc a).alloc b).heap[w.heap.size]? = some a ∧ ((w.alloc a).alloc b).heap[w.heap.size + 1]? = some b := by
  refine ⟨(Below.heap_alloc (w.alloc a) b w.heap.size (by simp)).trans (heap_alloc_new w a), ?_⟩
  have := heap_alloc_new (w.alloc a) b
  rwa [World.size_alloc] at this

set_option maxHeartbeats 1000000 in
theorem upc_any (e : UInt8) (bars : List UInt8) (c : UInt8) (g1 g2 : Nat) (w : World) (h1 : CVar w g1 e) (h2 : SVar w g2 ⟨bars.toArray⟩) :
    Calls Tryz.prog 58 #[.int .u8 (c.toNat : Int), .pointer (some ⟨g1, 0, none⟩), .pointer (some ⟨g2, 0, none⟩)] w fun e' w' => e' = .returned (.bool (c == e || bars.contains c)) ∧ w = w' := by
  have c1 := cell_of_one h1
  have c2 := cell_of_one h2
  have hce : ((c.toNat : Int) == (e.toNat : Int)) = (c == e) := by
    rw [Bool.eq_iff_iff, beq_iff_eq, beq_iff_eq]
    exact ⟨fun h => UInt8.toNat_inj.1 (Int.ofNat.inj h), fun h => by rw [h]⟩
  have HX : Hid (∀ (w : World), Calls Tryz.prog 59 #[.string ⟨bars.toArray⟩, .int .u8 (c.toNat : Int)] w fun e w' => e = .returned (.int .i64 (Lib.indexByte bars c)) ∧ w' = w) := Lib.hid (fun w => by
    have := Tryz.strings_IndexByte ⟨bars.toArray⟩ (c.toNat : Int) w
    rw [natOf] at this
    exact this)
  have HM := Lib.hid (idx_mem bars c)
  clear h1 h2
  generalize bars.contains c = y at *
  generalize Lib.indexByte bars c = z at *
  generalize (c == e) = x at *
  cases x with
  | true =>
    go_enter Tryz.func58, Tryz.ntmps58
    go_wp2
    go_ret
    exact ⟨rfl, rfl⟩
  | false =>
    go_enter Tryz.func58, Tryz.ntmps58
    go_wp2_with fail
    refine (HX.out w).mono ?_
    rintro e w1 ⟨rfl, rfl⟩
    go_wp2
    go_ret
    exact ⟨retB (by rw [HM.out]; rfl), rfl⟩

/-- What upTo answers. -/
def upV (s : ByteArray) : Option Nat → Value
  | none => .tuple #[.string ⟨#[]⟩, .bool false]
  | some i => .tuple #[.string (s.extract 0 i), .bool true]

set_option maxHeartbeats 2000000 in
theorem upTo_any (s : ByteArray) (e : UInt8) (bars : List UInt8) (w : World) (hz : s.size ≤ 1000000) (hL : LaidK w) :
    Calls Tryz.prog 35 #[.string s, .int .u8 (e.toNat : Int), .string ⟨bars.toArray⟩] w fun e' w' => e' = .returned (upV s (upP e bars s.data.toList)) ∧ Below w.heap.size w w' := by
  have HF : Hid (∀ W, Below w.heap.size w W → CVar W w.heap.size e → SVar W (w.heap.size + 1) ⟨bars.toArray⟩ → Calls Tryz.prog 57 #[.string s, .func (.func 58) #[] #[.pointer (some ⟨w.heap.size, 0, none⟩), .pointer (some ⟨w.heap.size + 1, 0, none⟩)]] W fun e' w' => e' = .returned (.int .i64 ((fnd (upS e bars) () false s.data.toList).1 : Nat)) ∧ CVar w' w.heap.size e ∧ Below w.heap.size w w') := Lib.hid (fun W hW hc hs => by
    have hl1 := lt_of_block hc
    have hl2 := lt_of_block hs
    have hsz := hW.size
    have hst : Stops (upS e bars) (fun _ => True) (fun _ W' => CVar W' w.heap.size e ∧ SVar W' (w.heap.size + 1) ⟨bars.toArray⟩) w.heap.size W 58 #[.pointer (some ⟨w.heap.size, 0, none⟩), .pointer (some ⟨w.heap.size + 1, 0, none⟩)] := by
      refine ⟨fun _ _ => by kernel_rfl, fun _ _ _ _ => trivial, fun q c W1 _ hI hG => ?_, fun q g W1 W2 hg hs1 hI hG => ?_⟩
      · exact (upc_any e bars c _ _ W1 hI.1 hI.2).mono fun e' w' ⟨h1, h2⟩ => ⟨h1, h2 ▸ hI, h2 ▸ Gr.refl _ _⟩
      · exact ⟨(hG.block _ (by omega) (fun e => by have := Option.some.inj e; omega)).trans hI.1, (hG.block _ (by omega) (fun e => by have := Option.some.inj e; omega)).trans hI.2⟩
    exact (find_any s W () hz (sign_ok hL (Nat.le_refl _) hW) hst trivial ⟨hc, hs⟩ hl1).mono fun e' w' ⟨h1, h2, h3⟩ => ⟨h1, h2.1, hW.trans (h3.below (Nat.le_refl _) hsz)⟩)
  have hle := fnd_le (step := upS e bars) s.data.toList () false
  rw [szL] at hle
  have HP : Hid (upP e bars s.data.toList = if (s.data.toList.drop (fnd (upS e bars) () false s.data.toList).1).head? = some e then some (fnd (upS e bars) () false s.data.toList).1 else none) := Lib.hid rfl
  have H1 : Hid (CVar ((w.alloc (.cells #[.int .u8 (e.toNat : Int)] 5)).alloc (.cells #[.string ⟨bars.toArray⟩] 9)) w.heap.size e) := Lib.hid (two_new w _ _).1
  have H2 : Hid (SVar ((w.alloc (.cells #[.int .u8 (e.toNat : Int)] 5)).alloc (.cells #[.string ⟨bars.toArray⟩] 9)) (w.heap.size + 1) ⟨bars.toArray⟩) := Lib.hid (two_new w _ _).2
  have H0 : Hid (Below w.heap.size w ((w.alloc (.cells #[.int .u8 (e.toNat : Int)] 5)).alloc (.cells #[.string ⟨bars.toArray⟩] 9))) := Lib.hid (((Below.refl _ w).alloc (Nat.le_refl _) _).alloc (by simp) _)
  clear hL
  generalize upP e bars s.data.toList = r at *
  generalize (fnd (upS e bars) () false s.data.toList).1 = n at *
  by_cases hn : n < s.size
  · obtain ⟨c, t, hd, hck, _⟩ := consAt hn
    have hn0 : ((n : Int) == (s.size : Int)) = false := by simp; omega
    by_cases hc : c = e
    · subst hc
      have HV : Hid (r = some n) := Lib.hid (by rw [HP.out, hd]; simp)
      have hne : ((c.toNat : Int) != (c.toNat : Int)) = false := by simp
      clear hd HP
      go_enter Tryz.func35, Tryz.ntmps35
      go_wp2_with fail
      refine (HF.out _ H0.out H1.out H2.out).mono ?_
      rintro e w1 ⟨rfl, hc1, hb1⟩
      have c1 := cell_of_one hc1
      clear hc1
      go_wp2_with fail
      go_big_quiet (fail)
      go_wp2
      go_ret2
      rw [HV.out]
      exact ⟨rfl, below_drewN hb1 nq⟩
    · have HV : Hid (r = none) := Lib.hid (by rw [HP.out, hd, if_neg]; simpa using hc)
      have hne : ((c.toNat : Int) != (e.toNat : Int)) = true := by
        simp only [bne_iff_ne, ne_eq]
        intro h
        exact hc (UInt8.toNat_inj.1 (Int.ofNat.inj h))
      clear hd HP hc
      go_enter Tryz.func35, Tryz.ntmps35
      go_wp2_with fail
      refine (HF.out _ H0.out H1.out H2.out).mono ?_
      rintro e w1 ⟨rfl, hc1, hb1⟩
      have c1 := cell_of_one hc1
      clear hc1
      go_wp2_with fail
      go_big_quiet (fail)
      go_wp2
      go_ret2
      rw [HV.out]
      exact ⟨rfl, below_drewN hb1 nq⟩
  · have hn0 : ((n : Int) == (s.size : Int)) = true := by simp; omega
    have HV : Hid (r = none) := Lib.hid (by rw [HP.out, List.drop_eq_nil_of_le (by rw [szL]; omega)]; rfl)
    clear HP
    go_enter Tryz.func35, Tryz.ntmps35
    go_wp2_with fail
    refine (HF.out _ H0.out H1.out H2.out).mono ?_
    rintro e w1 ⟨rfl, hc1, hb1⟩
    have c1 := cell_of_one hc1
    clear hc1
    go_wp2_with fail
    go_big_quiet (fail)
    go_wp2
    go_ret2
    rw [HV.out]
    exact ⟨rfl, below_drewN hb1 nq⟩

/-- The stop of an address without brackets: how many parentheses are open. -/
theorem bc_any (o : Nat) (c : UInt8) (g : Nat) (w : World) (hv : NVar w g o) (ho : o ≤ 32) :
    Calls Tryz.prog 68 #[.int .u8 (c.toNat : Int), .pointer (some ⟨g, 0, none⟩)] w fun e w' => e = .returned (.bool (opS o c).1) ∧ NVar w' g (opS o c).2 ∧ Gr g w w' := by
  have hcell := cell_of_one hv
  have hfree := free_of_one hv
  have Hset := Lib.hid (fun u => one_setCell (u := u) hv)
  have HG : Hid (∀ u, Gr g w (w.setCell ⟨g, 0, none⟩ u)) := Lib.hid (fun u => (Gr.refl g w).set u)
  have HR : Hid (NVar w g o ∧ Gr g w w) := Lib.hid ⟨hv, Gr.refl g w⟩
  have e40 : ((c.toNat : Int) == 40) = (c == 40) := eqU c 40 (by decide)
  have e41 : ((c.toNat : Int) == 41) = (c == 41) := eqU c 41 (by decide)
  have e127 : ((c.toNat : Int) == 127) = (c == 127) := eqU c 127 (by decide)
  clear hv
  by_cases h40 : c = 40
  · subst h40
    have HV : Hid (opS o 40 = (decide (32 < o + 1), o + 1)) := Lib.hid (by unfold opS; rw [if_pos rfl])
    have HW : Hid (decide ((32 : Int) < (o : Int) + 1) = decide (32 < o + 1)) := Lib.hid (by rw [decide_eq_decide]; omega)
    go_enter Tryz.func68, Tryz.ntmps68
    go_wp2
    go_ret
    rw [HV.out]
    exact ⟨retB HW.out, by have := Hset.out (.int .i64 ((o : Int) + 1)); exact this, HG.out _⟩
  · have f40 : (c == 40) = false := by simpa using h40
    rw [f40] at e40
    by_cases h41 : c = 41
    · subst h41
      by_cases ho0 : o = 0
      · subst ho0
        have HV : Hid (opS 0 41 = (true, 0)) := Lib.hid (by decide)
        go_enter Tryz.func68, Tryz.ntmps68
        go_wp2
        go_ret
        rw [HV.out]
        exact ⟨rfl, HR.out⟩
      · have h0 : ((o : Int) == 0) = false := by simp; omega
        have HV : Hid (opS o 41 = (false, o - 1)) := Lib.hid (by unfold opS; rw [if_neg h40, if_pos rfl, if_neg ho0])
        have HN : Hid ((o : Int) - 1 = ((o - 1 : Nat) : Int)) := Lib.hid (by omega)
        go_enter Tryz.func68, Tryz.ntmps68
        go_wp2
        go_ret
        rw [HV.out]
        exact ⟨rfl, by have := Hset.out (.int .i64 ((o : Int) - 1)); rw [HN.out] at this ⊢; exact this, HG.out _⟩
    · have f41 : (c == 41) = false := by simpa using h41
      rw [f41] at e41
      have HV : Hid (opS o c = (decide (c.toNat ≤ 32 ∨ c = 127), o)) := Lib.hid (by unfold opS; rw [if_neg h40, if_neg h41])
      by_cases h32 : c.toNat ≤ 32
      · have h32' : (c.toNat : Int) ≤ 32 := by omega
        have HW : Hid (decide (c.toNat ≤ 32 ∨ c = 127) = true) := Lib.hid (decide_eq_true (.inl h32))
        clear h40 h41 h32
        go_enter Tryz.func68, Tryz.ntmps68
        go_wp2
        go_ret
        rw [HV.out, HW.out]
        exact ⟨rfl, HR.out⟩
      · have h32' : ¬ (c.toNat : Int) ≤ 32 := by omega
        have HW : Hid (decide (c.toNat ≤ 32 ∨ c = 127) = (c == 127)) := Lib.hid (by
          rw [Bool.eq_iff_iff, decide_eq_true_iff, beq_iff_eq]
          exact ⟨fun h => h.resolve_left h32, .inr⟩)
        clear h40 h41 h32
        generalize (c == 127) = y at *
        go_enter Tryz.func68, Tryz.ntmps68
        go_wp2
        go_ret
        rw [HV.out, HW.out]
        exact ⟨rfl, HR.out⟩

/-- How long the address is, without brackets; 0 if there is none. -/
def bareN (l : List UInt8) : Nat := if 0 < (fnd opS 0 false l).2 then 0 else (fnd opS 0 false l).1
theorem bareN_dst (l : List UInt8) : dst 0 false l = if 0 < (fnd opS 0 false l).2 then none else some (fnd opS 0 false l).1 := op_dst l 0 false (fun h => by cases h) (by omega)
set_option maxHeartbeats 1000000 in
theorem bare_any (s : ByteArray) (w : World) (hz : s.size ≤ 1000000) (hL : LaidK w) :
    Calls Tryz.prog 40 #[.string s] w fun e w' => e = .returned (.int .i64 (bareN s.data.toList : Nat)) ∧ Below w.heap.size w w' := by
  have HF : Hid (∀ W, Below w.heap.size w W → NVar W w.heap.size 0 → Calls Tryz.prog 57 #[.string s, .func (.func 68) #[] #[.pointer (some ⟨w.heap.size, 0, none⟩)]] W fun e' w' => e' = .returned (.int .i64 ((fnd opS 0 false s.data.toList).1 : Nat)) ∧ NVar w' w.heap.size (fnd opS 0 false s.data.toList).2 ∧ Below w.heap.size w w') := Lib.hid (fun W hW hc => by
    have hl1 := lt_of_block hc
    have hsz := hW.size
    have hst : Stops opS (fun o => o ≤ 32) (fun o W' => NVar W' w.heap.size o) w.heap.size W 68 #[.pointer (some ⟨w.heap.size, 0, none⟩)] := by
      refine ⟨fun _ _ => by kernel_rfl, fun o c ho h => ?_, fun o c W1 ho hI hG => ?_, fun o g W1 W2 hg hs1 hI hG => ?_⟩
      · unfold opS at h ⊢
        split
        · rename_i h1
          rw [if_pos h1] at h
          simp only [decide_eq_false_iff_not] at h
          simp only; omega
        · split
          · split
            · simp
            · simp only; omega
          · exact ho
      · exact bc_any o c _ W1 hI ho
      · exact (hG.block _ (by omega) (fun e => by have := Option.some.inj e; omega)).trans hI
    exact (find_any s W 0 hz (sign_ok hL (Nat.le_refl _) hW) hst (by simp) hc hl1).mono fun e' w' ⟨h1, h2, h3⟩ => ⟨h1, h2, hW.trans (h3.below (Nat.le_refl _) hsz)⟩)
  have HN : Hid (bareN s.data.toList = if 0 < (fnd opS 0 false s.data.toList).2 then 0 else (fnd opS 0 false s.data.toList).1) := Lib.hid rfl
  have H0 : Hid (Below w.heap.size w ((w.alloc (.cells #[.int .i64 0] 3)))) := Lib.hid ((Below.refl _ w).alloc (Nat.le_refl _) _)
  have H1 : Hid (NVar (w.alloc (.cells #[.int .i64 0] 3)) w.heap.size 0) := Lib.hid (heap_alloc_new w _)
  clear hL
  generalize bareN s.data.toList = r at *
  generalize (fnd opS 0 false s.data.toList).1 = n at *
  generalize (fnd opS 0 false s.data.toList).2 = o at *
  by_cases ho : 0 < o
  · have ho' : (0 : Int) < (o : Int) := by omega
    have HV : Hid (r = 0) := Lib.hid (by rw [HN.out, if_pos ho])
    clear HN
    go_enter Tryz.func40, Tryz.ntmps40
    go_wp2_with fail
    refine (HF.out _ H0.out H1.out).mono ?_
    rintro e w1 ⟨rfl, hc1, hb1⟩
    have c1 := cell_of_one hc1
    clear hc1
    go_wp2
    go_ret
    rw [HV.out]
    exact ⟨rfl, hb1⟩
  · have ho' : ¬ (0 : Int) < (o : Int) := by omega
    have HV : Hid (r = n) := Lib.hid (by rw [HN.out, if_neg ho])
    clear HN
    go_enter Tryz.func40, Tryz.ntmps40
    go_wp2_with fail
    refine (HF.out _ H0.out H1.out).mono ?_
    rintro e w1 ⟨rfl, hc1, hb1⟩
    have c1 := cell_of_one hc1
    clear hc1
    go_wp2
    go_ret
    rw [HV.out]
    exact ⟨rfl, hb1⟩
end Lk
end Go.Proofs.YtfabiidohdkkcaaGreatDoor
