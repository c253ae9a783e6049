/- Walks of layer 8, the eighth part: the reference's Tag. -/
import Derived.Test.YtapibalcekedfaaGreatDoorScG
namespace Go.Proofs.YtapibalcekedfaaGreatDoor
open Go Go.RowKit
namespace Sc
set_option maxRecDepth 100000
set_option linter.unusedVariables false
set_option linter.unusedSimpArgs false

theorem rattr_no {s : ByteArray} (w : World) (hs : s.size ≤ 1000000) (h : refA s.data.toList = none) :
    Calls Tryz.prog 55 #[.string s] w fun e w' => e = .returned (.tuple #[.string s, .bool false, .bool false]) ∧ Below w.heap.size w w' :=
  (rattr_any s w hs).mono fun e w' ⟨⟨X, b1, b2, he, hA⟩, hb⟩ => by
    unfold AnsA at hA
    rw [h] at hA
    obtain ⟨rfl, rfl, rfl⟩ := hA
    exact ⟨he, hb⟩
theorem rattr_bad {s : ByteArray} (w : World) (hs : s.size ≤ 1000000) (h : refA s.data.toList = some none) :
    Calls Tryz.prog 55 #[.string s] w fun e w' => (∃ X, e = .returned (.tuple #[.string X, .bool false, .bool true])) ∧ Below w.heap.size w w' :=
  (rattr_any s w hs).mono fun e w' ⟨⟨X, b1, b2, he, hA⟩, hb⟩ => by
    unfold AnsA at hA
    rw [h] at hA
    obtain ⟨rfl, rfl⟩ := hA
    exact ⟨⟨X, he⟩, hb⟩
theorem rattr_ok {s : ByteArray} (w : World) (hs : s.size ≤ 1000000) {R : ByteArray} (h : refA s.data.toList = some (some R.data.toList)) :
    Calls Tryz.prog 55 #[.string s] w fun e w' => e = .returned (.tuple #[.string R, .bool true, .bool false]) ∧ Below w.heap.size w w' :=
  (rattr_any s w hs).mono fun e w' ⟨⟨X, b1, b2, he, hA⟩, hb⟩ => by
    unfold AnsA at hA
    rw [h] at hA
    obtain ⟨hX, rfl, rfl⟩ := hA
    have : X = R := by rw [ba_eq hX, ba_self]
    subst this
    exact ⟨he, hb⟩

theorem rname_at {s N R : ByteArray} (h1 : (nameS s.data.toList).1 = N.data.toList) (h2 : (nameS s.data.toList).2 = R.data.toList) (w : World) (hs : s.size ≤ 1000000) :
    Calls Tryz.prog 54 #[.string s] w fun e w' => e = .returned (.tuple #[.string N, .string R]) ∧ Below w.heap.size w w' := by
  have := rname_any s w hs
  rw [h1, h2, ba_self, ba_self] at this
  exact this
theorem nameS_some {l r : List UInt8} (h : name l = some r) : (nameS l).1 ≠ [] ∧ (nameS l).2 = r ∧ r.length < l.length := by
  have hl := word_len (b := letU) (g := inN) h
  unfold nameS
  rw [h]
  refine ⟨?_, rfl, hl⟩
  intro e
  have := congrArg List.length e
  rw [List.length_take] at this
  simp only [List.length_nil] at this
  omega
theorem nameS_none {l : List UInt8} (h : name l = none) : nameS l = ([], l) := by unfold nameS; rw [h]
theorem ba_mk (l : List UInt8) : ∃ S : ByteArray, l = S.data.toList := ⟨⟨l.toArray⟩, by simp⟩
theorem u8_neq {c : UInt8} {n : Nat} (hn : n < 256) (h : c ≠ UInt8.ofNat n) : ((c.toNat : Int) != (n : Int)) = true := by unfold bne; rw [u8_ne hn h]; rfl
theorem u8_eqq (n : Nat) (hn : n < 256) : (((UInt8.ofNat n).toNat : Int) != (n : Int)) = false := by simp; omega

/-- The end of a tag. -/
theorem tag_end {s G : ByteArray} {r : List UInt8} (ht : tagD s.data.toList = some r) (hG : G.data.toList = 62 :: r) : (tagN s.data.toList : Int) = (s.size : Int) - (G.size : Int) + 1 ∧ G.size ≤ s.size := by
  have h1 := tagN_of ht
  have h2 := tagD_len ht
  have h3 : G.size = r.length + 1 := by rw [← sz, hG]; rfl
  rw [sz] at h1 h2
  omega

set_option maxHeartbeats 8000000 in
theorem rtag_any (s : ByteArray) (w : World) (hs : s.size ≤ 1000000) :
    Calls Tryz.prog 32 #[.string s] w fun e w' => e = .returned (.int .i64 (tagN s.data.toList : Nat)) ∧ Below w.heap.size w w' := by
  have hsi : (s.size : Int) ≤ 1000000 := by omega
  by_cases h0 : 0 < s.size
  · obtain ⟨c, t, hd, hck, ht, hsz⟩ := cons_of h0
    have he := emp_false h0
    have hs0 : (0 : Int) < (s.size : Int) := by omega
    have hs1 : (1 : Int) ≤ (s.size : Int) := by omega
    by_cases h60 : c = 60
    · have e60 : ((c.toNat : Int) != 60) = false := by rw [h60]; decide
      subst h60
      by_cases hcl : 1 < s.size ∧ s.data.toList[1]? = some 47
      · obtain ⟨hlt1, h47⟩ := hcl
        obtain ⟨c1, t1, hd1, hck1, ht1⟩ := cons_at hlt1
        have hc1 : c1 = 47 := by
          have := congrArg (fun l => l[0]?) hd1
          simp only [List.getElem?_drop] at this
          simp only [Nat.add_zero, List.getElem?_cons_zero] at this
          rw [h47] at this
          exact (Option.some.inj this).symm
        subst hc1
        have hlt1' : (1 : Int) < (s.size : Int) := by omega
        have hle2 : (2 : Int) ≤ (s.size : Int) := by omega
        obtain ⟨T, hT⟩ : ∃ T : ByteArray, s.extract 2 s.size = T := ⟨_, rfl⟩
        have hTd : T.data.toList = t1 := by rw [← hT, ext_rest]; exact ht1
        have hTs : T.size ≤ 1000000 := by rw [← hT]; simp; omega
        have HTD : Hid (tagD s.data.toList = (name T.data.toList).bind fun v => sgn 62 (gap v)) := Lib.hid (by
          have h1 : t = 47 :: t1 := by rw [hd] at hd1; simpa using hd1
          unfold tagD
          rw [hd, sgn_self, h1]
          simp only [sgn_self]
          rw [hTd])
        clear hd ht hsz hd1 ht1 hTd h47
        cases hn : name T.data.toList with
        | none =>
          have HV : Hid (tagN s.data.toList = 0) := Lib.hid (tagN_none (by rw [HTD.out, hn]; rfl))
          have HN := Lib.hid (fun w => rname_at (s := T) (N := ByteArray.empty) (R := T) (by rw [nameS_none hn]; rfl) (by rw [nameS_none hn]) w hTs)
          clear hn
          go_enter Tryz.func32, Tryz.ntmps32
          go_wp2_with (first | (go_at_call 54; refine (HN.out _).mono ?_; rintro e w1 ⟨rfl, hb⟩))
          go_ret
          rw [HV.out]
          exact ⟨rfl, hb⟩
        | some r =>
          obtain ⟨q1, q2, q3⟩ := nameS_some hn
          obtain ⟨N, hN⟩ := ba_mk (nameS T.data.toList).1
          obtain ⟨R, hR⟩ := ba_mk (nameS T.data.toList).2
          have HN := Lib.hid (fun w => rname_at hN hR w hTs)
          have hNe : N.toList.isEmpty = false := emp_false (by
            rcases Nat.eq_zero_or_pos N.size with e | e
            · exact absurd (by rw [hN, nil_of (by omega)]) q1
            · exact e)
          have HR0 : Hid (R.data.toList = r) := Lib.hid (by rw [← hR, q2])
          have hRs : R.size ≤ 1000000 := by rw [← sz, HR0.out]; rw [sz] at q3; omega
          obtain ⟨G, hG⟩ := gap_mk R
          have HS := Lib.hid (fun w => rskip_at hG w hRs)
          have HTD2 : Hid (tagD s.data.toList = sgn 62 G.data.toList) := Lib.hid (by rw [HTD.out, hn, hG, HR0.out]; rfl)
          clear hn q1 q2 q3 hN hR hG
          by_cases g0 : 0 < G.size
          · obtain ⟨d, t2, hd2, hck2, ht2, hsz2⟩ := cons_of g0
            have he2 := emp_false g0
            have hg0 : (0 : Int) < (G.size : Int) := by omega
            by_cases h62 : d = 62
            · subst h62
              obtain ⟨HV, hle⟩ := tag_end (r := t2) (by rw [HTD2.out, hd2, sgn_self]) hd2
              have HV := Lib.hid HV
              have hle' : (G.size : Int) ≤ (s.size : Int) := by omega
              clear hd2 ht2 hsz2
              go_enter Tryz.func32, Tryz.ntmps32
              go_wp2_with (first | (go_at_call 54; refine (HN.out _).mono ?_; rintro e w1 ⟨rfl, hb⟩))
              go_loopg [4, 6] 0 (fun G v4 v6 wr => v4 = .string R ∧ v6 = .bool false ∧ Hid (Below w.heap.size w wr))
              case atStart => exact ⟨rfl, rfl, Lib.hid hb⟩
              obtain ⟨rfl, rfl, HW⟩ := hrel
              clear hb
              have hb := HW.out
              go_wp2_with (first | (go_at_call 56; refine (HS.out _).mono ?_; rintro e w1 ⟨rfl, rfl⟩))
              go_ret
              exact ⟨ret_int' HV.out.symm, hb⟩
            · have e62 := u8_neq (n := 62) (by decide) h62
              have HV : Hid (tagN s.data.toList = 0) := Lib.hid (tagN_none (by rw [HTD2.out, hd2, sgn_no t2 h62]))
              have e62' : ((d.toNat : Int) != 62) = true := e62
              clear hd2 ht2 hsz2 e62
              go_enter Tryz.func32, Tryz.ntmps32
              go_wp2_with (first | (go_at_call 54; refine (HN.out _).mono ?_; rintro e w1 ⟨rfl, hb⟩))
              go_loopg [4, 6] 0 (fun G v4 v6 wr => v4 = .string R ∧ v6 = .bool false ∧ Hid (Below w.heap.size w wr))
              case atStart => exact ⟨rfl, rfl, Lib.hid hb⟩
              obtain ⟨rfl, rfl, HW⟩ := hrel
              clear hb
              have hb := HW.out
              go_wp2_with (first | (go_at_call 56; refine (HS.out _).mono ?_; rintro e w1 ⟨rfl, rfl⟩))
              go_ret
              rw [HV.out]
              exact ⟨rfl, hb⟩
          · have hn2 := nil_of g0
            have he2 := emp_true hn2
            have HV : Hid (tagN s.data.toList = 0) := Lib.hid (tagN_none (by rw [HTD2.out, hn2]; rfl))
            clear hn2
            go_enter Tryz.func32, Tryz.ntmps32
            go_wp2_with (first | (go_at_call 54; refine (HN.out _).mono ?_; rintro e w1 ⟨rfl, hb⟩))
            go_loopg [4, 6] 0 (fun G v4 v6 wr => v4 = .string R ∧ v6 = .bool false ∧ Hid (Below w.heap.size w wr))
            case atStart => exact ⟨rfl, rfl, Lib.hid hb⟩
            obtain ⟨rfl, rfl, HW⟩ := hrel
            clear hb
            have hb := HW.out
            go_wp2_with (first | (go_at_call 56; refine (HS.out _).mono ?_; rintro e w1 ⟨rfl, rfl⟩))
            go_ret
            rw [HV.out]
            exact ⟨rfl, hb⟩
      · have HTD : Hid (∀ T : ByteArray, T.data.toList = t → tagD s.data.toList = (name T.data.toList).bind bodyF) := Lib.hid (fun T hT => by
          unfold tagD
          rw [hd, sgn_self]
          simp only
          have : sgn 47 t = none := by
            cases t with
            | nil => rfl
            | cons x y =>
              refine sgn_no y (fun e => hcl ⟨?_, ?_⟩)
              · rw [← sz, hd]; simp
              · rw [hd, e]; rfl
          rw [this, hT])
        obtain ⟨T, hT⟩ : ∃ T : ByteArray, s.extract 1 s.size = T := ⟨_, rfl⟩
        have hTs : T.size ≤ 1000000 := by rw [← hT]; simp; omega
        have HTD := Lib.hid (HTD.out T (by rw [← hT]; exact ht))
        have HCL : Hid (¬ (1 < s.size ∧ s.data.toList[1]? = some 47)) := Lib.hid hcl
        have HX : Hid (¬ (1 : Int) < (s.size : Int) ∨ ∃ c1 : UInt8, (1 : Int) < (s.size : Int) ∧ s.data.toList[1]? = some c1 ∧ ((c1.toNat : Int) == 47) = false ∧ ∃ h : 1 < s.size, s[1] = c1) := Lib.hid (by
          by_cases hlt1 : 1 < s.size
          · right
            obtain ⟨c1, t1, hd1, hck1, ht1⟩ := cons_at hlt1
            have hg : s.data.toList[1]? = some c1 := by
              have := congrArg (fun l => l[0]?) hd1
              simpa using this
            refine ⟨c1, by omega, hg, u8_ne (n := 47) (by decide) (fun e => hcl ⟨hlt1, by rw [hg, e]; rfl⟩), hlt1, hck1⟩
          · left; omega)
        clear hd ht hsz hcl HCL
        cases hn : name T.data.toList with
        | none =>
          have HV : Hid (tagN s.data.toList = 0) := Lib.hid (tagN_none (by rw [HTD.out, hn]; rfl))
          have HN := Lib.hid (fun w => rname_at (s := T) (N := ByteArray.empty) (R := T) (by rw [nameS_none hn]; rfl) (by rw [nameS_none hn]) w hTs)
          clear hn
          rcases HX.out with hx | ⟨c1, hx1, _, hx2, hx3, hx4⟩
          all_goals
          · go_enter Tryz.func32, Tryz.ntmps32
            go_wp2_with (first | (go_at_call 54; refine (HN.out _).mono ?_; rintro e w1 ⟨rfl, hb⟩))
            go_ret
            rw [HV.out]
            exact ⟨rfl, hb⟩
        | some r =>
          obtain ⟨q1, q2, q3⟩ := nameS_some hn
          obtain ⟨N, hN⟩ := ba_mk (nameS T.data.toList).1
          obtain ⟨R, hR⟩ := ba_mk (nameS T.data.toList).2
          have HN := Lib.hid (fun w => rname_at hN hR w hTs)
          have hNe : N.toList.isEmpty = false := emp_false (by
            rcases Nat.eq_zero_or_pos N.size with e | e
            · exact absurd (by rw [hN, nil_of (by omega)]) q1
            · exact e)
          have HR0 : Hid (R.data.toList = r) := Lib.hid (by rw [← hR, q2])
          have hRs : R.size ≤ 1000000 := by rw [← sz, HR0.out]; rw [sz] at q3; omega
          have HTD2 : Hid (tagD s.data.toList = bodyF R.data.toList) := Lib.hid (by rw [HTD.out, hn, HR0.out]; rfl)
          clear hn q1 q2 q3 hN hR
          rcases HX.out with hx | ⟨c1, hx1, _, hx2, hx3, hx4⟩
          all_goals
          · go_enter Tryz.func32, Tryz.ntmps32
            go_wp2_with (first | (go_at_call 54; refine (HN.out _).mono ?_; rintro e w1 ⟨rfl, hb⟩))
            go_loopg [4, 6] (R.size + 1) (fun G v4 v6 wr => ∃ (X : ByteArray) (more : Bool), v4 = .string X ∧ v6 = .bool more ∧ Hid (X.size ≤ 1000000) ∧ Hid (X.size + (if more = true then 1 else 0) = G) ∧ Hid ((more = true ∧ bodyF X.data.toList = bodyF R.data.toList) ∨ (more = false ∧ tailP X.data.toList = bodyF R.data.toList)) ∧ Hid (Below w.heap.size w wr))
            case atStart => exact ⟨R, true, rfl, rfl, Lib.hid hRs, Lib.hid rfl, Lib.hid (.inl ⟨rfl, rfl⟩), Lib.hid hb⟩
            case round =>
              obtain ⟨X, more, rfl, rfl, HXs, HG, HB, HW⟩ := hrel
              clear hb hck e60 hNe
              have hXs := HXs.out
              cases more with
              | true =>
                have HB2 : Hid (bodyF X.data.toList = bodyF R.data.toList) := Lib.hid (by
                  rcases HB.out with ⟨_, h⟩ | ⟨h, _⟩
                  · exact h
                  · cases h)
                have hG2 := HG.out
                rw [if_pos rfl] at hG2
                have HG2 := Lib.hid hG2
                clear hG2
                cases hra : refA X.data.toList with
                | none =>
                  have HE : Hid (tailP X.data.toList = bodyF R.data.toList) := Lib.hid (by rw [← refA_none hra, HB2.out])
                  have HA := Lib.hid (fun w => rattr_no w hXs hra)
                  clear hra
                  go_wp2_with (first | (go_at_call 55; refine (HA.out _).mono ?_; rintro e w2 ⟨rfl, hb2⟩))
                  go_roundg X.size
                  case rel => exact ⟨X, false, rfl, rfl, HXs, Lib.hid rfl, Lib.hid (.inr ⟨rfl, HE.out⟩), Lib.hid (HW.out.trans (hb2.mono HW.out.size))⟩
                  case measure => have := HG2.out; omega
                | some o =>
                cases o with
                | none =>
                  have HV : Hid (tagN s.data.toList = 0) := Lib.hid (tagN_none (by rw [HTD2.out, ← HB2.out, (refA_some hra).1]; rfl))
                  have HA := Lib.hid (fun w => rattr_bad w hXs hra)
                  clear hra
                  go_wp2_with (first | (go_at_call 55; refine (HA.out _).mono ?_; rintro e w2 ⟨⟨Y, rfl⟩, hb2⟩))
                  go_ret
                  rw [HV.out]
                  exact ⟨rfl, HW.out.trans (hb2.mono HW.out.size)⟩
                | some r1 =>
                  obtain ⟨Y, rfl⟩ := ba_mk r1
                  obtain ⟨e1, e2⟩ := refA_some hra
                  have HE : Hid (bodyF Y.data.toList = bodyF R.data.toList) := Lib.hid (by rw [← HB2.out, e1]; rfl)
                  have HL : Hid (Y.size < X.size) := Lib.hid (by have := e2 _ rfl; rw [sz, sz] at this; exact this)
                  have HA := Lib.hid (fun w => rattr_ok w hXs hra)
                  clear hra e1 e2
                  go_wp2_with (first | (go_at_call 55; refine (HA.out _).mono ?_; rintro e w2 ⟨rfl, hb2⟩))
                  go_roundg (Y.size + 1)
                  case rel => exact ⟨Y, true, rfl, rfl, Lib.hid (by have := HL.out; omega), Lib.hid rfl, Lib.hid (.inl ⟨rfl, HE.out⟩), Lib.hid (HW.out.trans (hb2.mono HW.out.size))⟩
                  case measure => have := HG2.out; have := HL.out; omega
              | false =>
                have HB2 : Hid (tagD s.data.toList = tailP X.data.toList) := Lib.hid (by
                  rw [HTD2.out]
                  rcases HB.out with ⟨h, _⟩ | ⟨_, h⟩
                  · cases h
                  · exact h.symm)
                obtain ⟨G, hG⟩ := gap_mk X
                have HS := Lib.hid (fun w => rskip_at hG w hXs)
                have HTL : Hid (tailP X.data.toList = sgn 62 (slashOr G.data.toList)) := Lib.hid (by unfold tailP; rw [hG])
                clear hG HG
                by_cases g0 : 0 < G.size
                · obtain ⟨d, t2, hd2, hck2, ht2, hsz2⟩ := cons_of g0
                  have he2 := emp_false g0
                  have hg0 : (0 : Int) < (G.size : Int) := by omega
                  have hg1 : (1 : Int) ≤ (G.size : Int) := by omega
                  by_cases h47 : d = 47
                  · have e47 : ((d.toNat : Int) == 47) = true := by rw [h47]; decide
                    obtain ⟨K, hK⟩ : ∃ K : ByteArray, G.extract 1 G.size = K := ⟨_, rfl⟩
                    have HTL2 : Hid (tailP X.data.toList = sgn 62 K.data.toList) := Lib.hid (by rw [HTL.out, hd2, h47]; unfold slashOr; rw [sgn_self, Option.getD_some, ← hK, ht2])
                    clear hd2 ht2 hsz2 h47
                    by_cases k0 : 0 < K.size
                    · obtain ⟨d3, t3, hd3, hck3, ht3, hsz3⟩ := cons_of k0
                      have he3 := emp_false k0
                      have hk0 : (0 : Int) < (K.size : Int) := by omega
                      by_cases h62 : d3 = 62
                      · subst h62
                        obtain ⟨HV, hle⟩ := tag_end (r := t3) (by rw [HB2.out, HTL2.out, hd3, sgn_self]) hd3
                        have HV := Lib.hid HV
                        have hle' : (K.size : Int) ≤ (s.size : Int) := by omega
                        clear hd3 ht3 hsz3
                        go_wp2_with (first | (go_at_call 56; refine (HS.out _).mono ?_; rintro e w1 ⟨rfl, rfl⟩))
                        go_ret
                        exact ⟨ret_int' HV.out.symm, HW.out⟩
                      · have e62 : ((d3.toNat : Int) != 62) = true := u8_neq (n := 62) (by decide) h62
                        have HV : Hid (tagN s.data.toList = 0) := Lib.hid (tagN_none (by rw [HB2.out, HTL2.out, hd3, sgn_no t3 h62]))
                        clear hd3 ht3 hsz3
                        go_wp2_with (first | (go_at_call 56; refine (HS.out _).mono ?_; rintro e w1 ⟨rfl, rfl⟩))
                        go_ret
                        rw [HV.out]
                        exact ⟨rfl, HW.out⟩
                    · have hn3 := nil_of k0
                      have he3 := emp_true hn3
                      have HV : Hid (tagN s.data.toList = 0) := Lib.hid (tagN_none (by rw [HB2.out, HTL2.out, hn3]; rfl))
                      clear hn3
                      go_wp2_with (first | (go_at_call 56; refine (HS.out _).mono ?_; rintro e w1 ⟨rfl, rfl⟩))
                      go_ret
                      rw [HV.out]
                      exact ⟨rfl, HW.out⟩
                  · have e47 : ((d.toNat : Int) == 47) = false := u8_ne (n := 47) (by decide) h47
                    have HTL2 : Hid (tailP X.data.toList = sgn 62 G.data.toList) := Lib.hid (by rw [HTL.out, hd2]; unfold slashOr; rw [sgn_no t2 h47]; rfl)
                    by_cases h62 : d = 62
                    · subst h62
                      obtain ⟨HV, hle⟩ := tag_end (r := t2) (by rw [HB2.out, HTL2.out, hd2, sgn_self]) hd2
                      have HV := Lib.hid HV
                      have hle' : (G.size : Int) ≤ (s.size : Int) := by omega
                      clear hd2 ht2 hsz2 h47
                      go_wp2_with (first | (go_at_call 56; refine (HS.out _).mono ?_; rintro e w1 ⟨rfl, rfl⟩))
                      go_ret
                      exact ⟨ret_int' HV.out.symm, HW.out⟩
                    · have e62 : ((d.toNat : Int) != 62) = true := u8_neq (n := 62) (by decide) h62
                      have HV : Hid (tagN s.data.toList = 0) := Lib.hid (tagN_none (by rw [HB2.out, HTL2.out, hd2, sgn_no t2 h62]))
                      clear hd2 ht2 hsz2 h47
                      go_wp2_with (first | (go_at_call 56; refine (HS.out _).mono ?_; rintro e w1 ⟨rfl, rfl⟩))
                      go_ret
                      rw [HV.out]
                      exact ⟨rfl, HW.out⟩
                · have hn2 := nil_of g0
                  have he2 := emp_true hn2
                  have HV : Hid (tagN s.data.toList = 0) := Lib.hid (tagN_none (by rw [HB2.out, HTL.out, hn2]; rfl))
                  clear hn2
                  go_wp2_with (first | (go_at_call 56; refine (HS.out _).mono ?_; rintro e w1 ⟨rfl, rfl⟩))
                  go_ret
                  rw [HV.out]
                  exact ⟨rfl, HW.out⟩
    · have e60 : ((c.toNat : Int) != 60) = true := u8_neq (n := 60) (by decide) h60
      have HV : Hid (tagN s.data.toList = 0) := Lib.hid (tagN_none (by unfold tagD; rw [hd, sgn_no t h60]))
      clear hd ht hsz h60
      go_enter Tryz.func32, Tryz.ntmps32
      go_wp2
      go_ret
      rw [HV.out]
      exact ⟨rfl, Below.refl _ _⟩
  · have hn := nil_of h0
    have he := emp_true hn
    have HV : Hid (tagN s.data.toList = 0) := Lib.hid (by rw [hn]; rfl)
    clear hn
    go_enter Tryz.func32, Tryz.ntmps32
    go_wp2
    go_ret
    rw [HV.out]
    exact ⟨rfl, Below.refl _ _⟩
end Sc
end Go.Proofs.YtapibalcekedfaaGreatDoor
