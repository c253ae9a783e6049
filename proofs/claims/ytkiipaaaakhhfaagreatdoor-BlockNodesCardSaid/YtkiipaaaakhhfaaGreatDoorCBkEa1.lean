import Derived.Test.YtkiipaaaakhhfaaGreatDoorCBk4
import Derived.BigQuiet
import Derived.Deep.CutBlock
section
namespace Go.Proofs.YtkiipaaaakhhfaaGreatDoor
open Go Go.RowKit
namespace Bk
set_option maxRecDepth 100000
set_option linter.unusedVariables false
set_option linter.unusedSimpArgs false
def gapI : List (Nat × Int) → Bool
 | x :: y :: l => decide (max (x.1 : Int) x.2 + 1 < (y.1 : Int)) || gapI (y :: l)
 | _ => false
def Ends (w : World) (av : List Nat) (xs : List (Nat × Int)) : Prop := av.length = xs.length ∧ ∀ (j a : Nat) (x : Nat × Int), av[j]? = some a → xs[j]? = some x → w.cell? ⟨a, 6, none⟩ = some (.int .i64 (x.1 : Nat)) ∧ w.cell? ⟨a, 7, none⟩ = some (.int .i64 x.2) ∧ x.1 ≤ 1000 ∧ -1 ≤ x.2 ∧ x.2 ≤ 1000
section
variable {w : World}
set_option maxHeartbeats 8000000 in
theorem gap_any {av : List Nat} {xs : List (Nat × Int)} {pv : Value} (hr : RowW w 48 pv (av.map ptr)) (he : Ends w av xs) (hn : av.length ≤ 1000000) :
  Calls Tryz.prog 114 #[pv] w fun e w' => e = .returned (.bool (gapI xs)) ∧ ∃ m, w' = w.drewN m := by
 obtain ⟨la, lc, hpv, h1, h2⟩ := hr.form
 obtain ⟨hlen, hcell⟩ := he
 have HR := Lib.hid hr
 have HC := Lib.hid hcell
 have HL := Lib.hid hlen
 rw [List.length_map] at hpv h1
 subst hpv
 obtain ⟨n, hnn⟩ : ∃ n, av.length = n := ⟨_, rfl⟩
 have HN := Lib.hid hnn
 rw [hnn] at h1 hn HR ⊢
 obtain ⟨GQ, hGQ⟩ : ∃ q, gapI xs = q := ⟨_, rfl⟩
 have HGQ := Lib.hid hGQ
 rw [hGQ]
 clear hcell hlen hr hnn hGQ
 unfold maxLen at h2
 go_enter Tryz.func114, Tryz.ntmps114
 go_wp2
 go_loopg [3] (n - 1) (fun G s3 wr => ∃ i m : Nat, 1 ≤ i ∧ n - i = G ∧ s3 = .int .i64 (i : Int) ∧ Hid (gapI xs = gapI (xs.drop (i - 1))) ∧ wr = w.drewN m)
 case atStart => exact ⟨1, 0, Nat.le_refl _, rfl, rfl, Lib.hid rfl, rfl⟩
 case round =>
  obtain ⟨i, m, hi1, hig, rfl, HA, rfl⟩ := hrel
  cases gk with
  | zero =>
   have hlt : ¬ (i : Int) < (n : Int) := by omega
   have HV : Hid (GQ = false) := Lib.hid (by
    rw [← HGQ.out, HA.out]
    have h3 : (xs.drop (i - 1)).length ≤ 1 := by rw [List.length_drop, ← HL.out, HN.out]; omega
    cases hx : xs.drop (i - 1) with
    | nil => rfl
    | cons x l =>
     rw [hx] at h3
     cases l with
     | nil => rfl
     | cons y l => simp at h3)
   go_wp2
   go_ret
   exact ⟨by rw [HV.out]; rfl, _, rfl⟩
  | succ G =>
   have hlt : (i : Int) < (n : Int) := by omega
   obtain ⟨j, hj⟩ : ∃ j, j + 1 = i := ⟨i - 1, by omega⟩
   have hl := HN.out
   have hl2 := HL.out
   have a1 : j < av.length := by omega
   have a2 : i < av.length := by omega
   have x1 : j < xs.length := by omega
   have x2 : i < xs.length := by omega
   obtain ⟨g, cap, e1, -, -, hc⟩ := HR.out.at (fun e => by rw [List.map_eq_nil_iff] at e; rw [e] at a1; exact absurd a1 (Nat.not_lt_zero _))
   injection e1 with e1 e2 e3
   clear e2 e3
   obtain ⟨b0, hb0⟩ : ∃ b, av[j]? = some b := ⟨_, List.getElem?_eq_getElem a1⟩
   obtain ⟨b1, hb1⟩ : ∃ b, av[i]? = some b := ⟨_, List.getElem?_eq_getElem a2⟩
   obtain ⟨y0, hy0⟩ : ∃ b, xs[j]? = some b := ⟨_, List.getElem?_eq_getElem x1⟩
   obtain ⟨y1, hy1⟩ : ∃ b, xs[i]? = some b := ⟨_, List.getElem?_eq_getElem x2⟩
   obtain ⟨W, hW⟩ : ∃ W, W = w.drewN m := ⟨_, rfl⟩
   have k0 : W.cell? ⟨g, j, none⟩ = some (.pointer (some ⟨b0, 0, none⟩)) := by rw [hW]; exact hc j (ptr b0) (by rw [List.getElem?_map, hb0]; rfl)
   have k1 : W.cell? ⟨g, i, none⟩ = some (.pointer (some ⟨b1, 0, none⟩)) := by rw [hW]; exact hc i (ptr b1) (by rw [List.getElem?_map, hb1]; rfl)
   obtain ⟨f0', z0', q0, q1, q2⟩ := HC.out j b0 y0 hb0 hy0
   obtain ⟨f1', z1', q3, q4, q5⟩ := HC.out i b1 y1 hb1 hy1
   have f0 : W.cell? ⟨b0, 6, none⟩ = some (.int .i64 (y0.1 : Nat)) := by rw [hW]; exact f0'
   have z0 : W.cell? ⟨b0, 7, none⟩ = some (.int .i64 y0.2) := by rw [hW]; exact z0'
   have f1 : W.cell? ⟨b1, 6, none⟩ = some (.int .i64 (y1.1 : Nat)) := by rw [hW]; exact f1'
   have z1 : W.cell? ⟨b1, 7, none⟩ = some (.int .i64 y1.2) := by rw [hW]; exact z1'
   have hdr2 : xs.drop i = y1 :: xs.drop (i + 1) := by
    rw [List.drop_eq_getElem_cons x2]
    rw [List.getElem?_eq_getElem x2] at hy1
    injection hy1 with hy1
    rw [hy1]
   have hdr : xs.drop j = y0 :: xs.drop i := by
    rw [List.drop_eq_getElem_cons x1, hj]
    rw [List.getElem?_eq_getElem x1] at hy0
    injection hy0 with hy0
    rw [hy0]
   have HD : Hid (GQ = (decide (max (y0.1 : Int) y0.2 + 1 < (y1.1 : Int)) || gapI (xs.drop i))) := Lib.hid (by
    rw [← HGQ.out, HA.out, show i - 1 = j by omega, hdr, hdr2]
    rfl)
   have HWM := Lib.hid hW
   rw [← hW]
   clear f0' z0' f1' z1' hW hdr hdr2 hc hb0 hb1 hy0 hy1 a1 a2 x1 x2 hl hl2
   obtain ⟨p0, r0⟩ := y0
   obtain ⟨p1, r1⟩ := y1
   dsimp only at f0 z0 f1 z1 q0 q1 q2 q3 q4 q5 HD
   obtain ⟨mx, hmx⟩ : ∃ mx, max (p0 : Int) r0 = mx := ⟨_, rfl⟩
   rw [hmx] at HD
   have hm2 : (if r0 < (p0 : Int) then (p0 : Int) else r0) = mx := by rw [← hmx]; split <;> omega
   have hm3 : (if (p0 : Int) < r0 then r0 else (p0 : Int)) = mx := by rw [← hmx]; split <;> omega
   have hm4 : -1 ≤ mx ∧ mx ≤ 1000 := by omega
   have hm5 : IntKind.i64.wrap (mx + 1) = mx + 1 := by rw [IntWalk.i64_in _ (by omega)]
   subst e1
   have s1 : IntKind.i64.wrap ((i : Int) - 1) = (j : Int) := by rw [IntWalk.i64_in _ (by omega)]; omega
   have s2 : (0 : Int) ≤ (j : Int) := by omega
   have s3 : (j : Int) < (n : Int) := by omega
   have s4 : (0 : Int) ≤ (i : Int) := by omega
   have s5 : IntKind.i64.wrap ((i : Int) + 1) = ((i + 1 : Nat) : Int) := by rw [IntWalk.i64_in _ (by omega)]; omega
   clear q0 q1 q2 q3 q4 q5 hm4
   have HI := Lib.hid (show n - (i + 1) = G by omega)
   have HJ := Lib.hid hj
   clear hj hig hi1
   by_cases hgp : mx + 1 < (p1 : Int)
   ·have c1 : (p1 : Int) > mx + 1 := hgp
    have c2 : decide ((p1 : Int) > mx + 1) = true := decide_eq_true hgp
    have HV : Hid (GQ = true) := Lib.hid (by rw [HD.out, decide_eq_true hgp]; rfl)
    go_upto_region 5 with fail
    go_quiet (fail)
    go_wp2
    go_ret
    exact ⟨by rw [HV.out]; rfl, _, by rw [HWM.out, World.drewN_drewN]⟩
   ·have c1 : ¬ (p1 : Int) > mx + 1 := hgp
    have c2 : decide ((p1 : Int) > mx + 1) = false := decide_eq_false hgp
    have HV : Hid (gapI xs = gapI (xs.drop i)) := Lib.hid (by rw [HGQ.out, HD.out, decide_eq_false hgp]; rfl)
    go_upto_region 5 with fail
    go_quiet (fail)
    go_wp2
    go_roundg G
    case rel => exact ⟨i + 1, m + nq, by omega, HI.out, rfl, Lib.hid (by rw [Nat.add_sub_cancel]; exact HV.out), by rw [HWM.out, World.drewN_drewN]⟩
    case measure => omega
def KidEnds (w : World) (av : List Nat) (K : List (List (Nat × Int))) : Prop := av.length = K.length ∧ ∀ (j c : Nat) (ys : List (Nat × Int)), av[j]? = some c → K[j]? = some ys → ∃ (qv : Value) (bv : List Nat), w.cell? ⟨c, 9, none⟩ = some qv ∧ RowW w 48 qv (bv.map ptr) ∧ Ends w bv ys ∧ bv.length ≤ 1000000
set_option maxHeartbeats 8000000 in
theorem tight_any {a : Nat} {av : List Nat} {xs : List (Nat × Int)} {K : List (List (Nat × Int))} {pv : Value} (h9 : w.cell? ⟨a, 9, none⟩ = some pv) (hr : RowW w 48 pv (av.map ptr)) (he : Ends w av xs) (hk : KidEnds w av K) (hn : av.length ≤ 1000000) :
  Calls Tryz.prog 78 #[ptr a] w fun e w' => e = .returned (.bool (!gapI xs && K.all fun ys => !gapI ys)) ∧ ∃ m, w' = w.drewN m := by
 have HGP := Lib.hid (gap_any hr he hn)
 obtain ⟨la, lc, hpv, h1, h2⟩ := hr.form
 have HR := Lib.hid hr
 obtain ⟨hkl, hkc⟩ := hk
 have HK := Lib.hid (fun (m j c : Nat) (ys : List (Nat × Int)) (e1 : av[j]? = some c) (e2 : K[j]? = some ys) => by
  obtain ⟨qv, bv, q1, q2, q3, q4⟩ := hkc j c ys e1 e2
  have h := gap_any (w := w.drewN m) (q2.keep fun g hg => rfl) (show Ends (w.drewN m) bv ys from q3) q4
  obtain ⟨qa, qc, q5, q6, q7⟩ := q2.form
  exact (⟨qa, bv.length, qc, by rw [q1, q5, List.length_map], by rw [q5, List.length_map] at h; exact h⟩ : ∃ qa qn qc, w.cell? ⟨c, 9, none⟩ = some (.slice qa qn qc) ∧ Calls Tryz.prog 114 #[.slice qa qn qc] (w.drewN m) fun e w' => e = .returned (.bool (gapI ys)) ∧ ∃ m', w' = (w.drewN m).drewN m'))
 rw [List.length_map] at hpv h1
 subst hpv
 obtain ⟨n, hnn⟩ : ∃ n, av.length = n := ⟨_, rfl⟩
 have HN := Lib.hid hnn
 have HKL := Lib.hid hkl
 rw [hnn] at h1 hn HR h9 HGP
 unfold maxLen at h2
 obtain ⟨gq, hgq⟩ : ∃ q, gapI xs = q := ⟨_, rfl⟩
 rw [hgq] at HGP ⊢
 obtain ⟨GQ, hGQ⟩ : ∃ q, K.all (fun ys => !gapI ys) = q := ⟨_, rfl⟩
 have HGQ := Lib.hid hGQ
 rw [hGQ]
 clear hkl hkc hr hnn hGQ hgq he
 unfold ptr
 cases gq with
 | true =>
  show Calls Tryz.prog 78 _ w fun e w' => e = .returned (.bool false) ∧ ∃ m, w' = w.drewN m
  go_enter Tryz.func78, Tryz.ntmps78
  go_wp2_with fail
  refine HGP.out.mono ?_
  rintro e w1 ⟨rfl, m, rfl⟩
  go_wp2
  go_ret
  exact ⟨rfl, m, rfl⟩
 | false =>
  show Calls Tryz.prog 78 _ w fun e w' => e = .returned (.bool GQ) ∧ ∃ m, w' = w.drewN m
  have H9 : Hid (∀ m, (w.drewN m).cell? ⟨a, 9, none⟩ = some (.slice la n lc)) := Lib.hid (fun m => h9)
  go_enter Tryz.func78, Tryz.ntmps78
  go_wp2_with fail
  refine HGP.out.mono ?_
  rintro e w1 ⟨rfl, m, rfl⟩
  have c9 := H9.out m
  clear h9 HGP
  go_wp2_with fail
  go_loopg [15] n (fun G s15 wr => ∃ i m : Nat, n - i = G ∧ i ≤ n ∧ s15 = .int .i64 (i : Int) ∧ Hid (K.all (fun ys => !gapI ys) = (K.drop i).all (fun ys => !gapI ys)) ∧ wr = w.drewN m)
  case atStart => exact ⟨0, m, by omega, Nat.zero_le _, rfl, Lib.hid rfl, rfl⟩
  case round =>
   obtain ⟨i, m2, hig, hin, rfl, HA, rfl⟩ := hrel
   cases gk with
   | zero =>
    have hlt : ¬ (i : Int) < (n : Int) := by omega
    have HV : Hid (GQ = true) := Lib.hid (by
     rw [← HGQ.out, HA.out, List.drop_of_length_le (by rw [← HKL.out, HN.out]; omega)]
     rfl)
    go_wp2
    go_ret
    exact ⟨by rw [HV.out]; rfl, _, rfl⟩
   | succ G =>
    have hlt : (i : Int) < (n : Int) := by omega
    have hl := HN.out
    have hl2 := HKL.out
    have a1 : i < av.length := by omega
    have x1 : i < K.length := by omega
    obtain ⟨g, cap, e1, -, -, hc⟩ := HR.out.at (fun e => by rw [List.map_eq_nil_iff] at e; rw [e] at a1; exact absurd a1 (Nat.not_lt_zero _))
    injection e1 with e1 e2 e3
    clear e2 e3
    subst e1
    obtain ⟨b0, hb0⟩ : ∃ b, av[i]? = some b := ⟨_, List.getElem?_eq_getElem a1⟩
    obtain ⟨y0, hy0⟩ : ∃ b, K[i]? = some b := ⟨_, List.getElem?_eq_getElem x1⟩
    obtain ⟨qa, qn, qc, hq9, hqg⟩ := HK.out m2 i b0 y0 hb0 hy0
    obtain ⟨W, hW⟩ : ∃ W, W = w.drewN m2 := ⟨_, rfl⟩
    have k0 : W.cell? ⟨g, i, none⟩ = some (.pointer (some ⟨b0, 0, none⟩)) := by rw [hW]; exact hc i (ptr b0) (by rw [List.getElem?_map, hb0]; rfl)
    have k9 : W.cell? ⟨b0, 9, none⟩ = some (.slice qa qn qc) := by rw [hW]; exact hq9
    have hdr : K.drop i = y0 :: K.drop (i + 1) := by
     rw [List.drop_eq_getElem_cons x1]
     rw [List.getElem?_eq_getElem x1] at hy0
     injection hy0 with hy0
     rw [hy0]
    have HD : Hid (GQ = (!gapI y0 && (K.drop (i + 1)).all (fun ys => !gapI ys))) := Lib.hid (by rw [← HGQ.out, HA.out, hdr]; rfl)
    have HWM := Lib.hid hW
    rw [← hW] at hqg ⊢
    have HQG := Lib.hid hqg
    have s4 : (0 : Int) ≤ (i : Int) := by omega
    have s5 : IntKind.i64.wrap ((i : Int) + 1) = ((i + 1 : Nat) : Int) := by rw [IntWalk.i64_in _ (by omega)]; omega
    have HI := Lib.hid (show n - (i + 1) = G by omega)
    have HIN := Lib.hid (show i + 1 ≤ n by omega)
    obtain ⟨yq, hyq⟩ : ∃ q, gapI y0 = q := ⟨_, rfl⟩
    rw [hyq] at HD HQG
    clear hW hdr hc hb0 hy0 a1 x1 hl hl2 hq9 hqg hyq hig hin c9
    go_wp2_with fail
    refine HQG.out.mono ?_
    rintro e w2 ⟨rfl, m3, rfl⟩
    cases yq with
    | true =>
     have HV : Hid (GQ = false) := Lib.hid (by rw [HD.out]; rfl)
     go_wp2
     go_ret
     exact ⟨by rw [HV.out]; rfl, _, by rw [HWM.out, World.drewN_drewN]⟩
    | false =>
     have HV : Hid (K.all (fun ys => !gapI ys) = (K.drop (i + 1)).all (fun ys => !gapI ys)) := Lib.hid (by rw [HGQ.out, HD.out]; rfl)
     go_wp2
     go_roundg G
     case rel => exact ⟨i + 1, m2 + m3, HI.out, HIN.out, rfl, HV, by rw [HWM.out, World.drewN_drewN]⟩
     case measure => omega
end
end Bk
end Go.Proofs.YtkiipaaaakhhfaaGreatDoor
end
