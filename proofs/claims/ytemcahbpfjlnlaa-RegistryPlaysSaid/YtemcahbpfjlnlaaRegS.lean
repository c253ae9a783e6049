/- Layer 7: the reference's Has and Add. -/
import Derived.Test.YtemcahbpfjlnlaaRegR
import Derived.RegionTactic
import Derived.Deep.Cut
import Derived.Deep.CutRange
namespace Go.Proofs.Ytemcahbpfjlnlaa
open Go Go.RowKit
namespace Rg
set_option maxRecDepth 100000
set_option linter.unusedVariables false
set_option linter.unusedSimpArgs false

section
variable {w w' : World} {Z : Nat → Prop} {T : Nat} {m : Int} {hs : List Hk} {sl : Bool} {st : Int}
theorem named_snoc (l : List Hk) (o : Hk) (k : List UInt8) : named (l ++ [o]) k = (named l k || o.name.data.toList == k) := by
  unfold named; rw [List.any_append]; simp
set_option maxHeartbeats 4000000 in
theorem rhas_any (h : RF w Z T m hs sl st) (s : ByteArray) (hlen : hs.length ≤ 1000000) :
    Calls Try.prog 21 #[ptr T, .string s] w fun e w' => e = .returned (.bool (hasB m hs s.data.toList)) ∧ RF w' Z T m hs true st ∧ Only Z w w' := by
  have HSet := Lib.hid (h.set (j := 2) (v := .bool true) (sl' := true) (st' := st) fun lv => rfl)
  obtain ⟨lv, hb1, _, _⟩ := h.body
  have c2 : w.cell? ⟨T, 2, none⟩ = some (.bool sl) := hb1.cell 2 rfl
  have f2 : w.frozen? ⟨T, 2, none⟩ = false := hb1.fr 2
  have HB0 : Hid (∀ b, hasB m hs s.data.toList = b → b = hasB m hs s.data.toList) := Lib.hid (fun b e => e.symm)
  clear hb1 h
  obtain ⟨n, hn⟩ : ∃ n, n = hs.length := ⟨_, rfl⟩
  rw [← hn] at hlen
  have HLn := Lib.hid hn
  clear hn
  unfold ptr
  go_enter Try.func21, Try.ntmps21
  go_upto_region 1 with fail
  go_cut [] from 6 (fun wx => RF wx Z T m hs true st ∧ Only Z w wx)
  case first =>
    go_wp2
    go_meet
    exact HSet.out
  have HC := Lib.hid hcut
  obtain ⟨a, cap, c0, hown, hz, hcell⟩ := hcut.1.rows
  have hm := hcut.1.mask
  have HCell := Lib.hid hcell
  rw [← HLn.out] at c0
  clear hown hz hcell hcut c2 f2 HSet
  go_wp2_with fail
  go_loopg [5] n (fun G s5 wr => ∃ i : Nat, i + G = n ∧ s5 = .int .i64 i ∧ wc = wr ∧ Hid (named (hs.take i) s.data.toList = false))
  case atStart => exact ⟨0, by omega, rfl, rfl, Lib.hid rfl⟩
  case round =>
    obtain ⟨i, hig, rfl, rfl, HNd⟩ := hrel
    cases gk with
    | zero =>
      have hlt : ¬ ((i : Int) < (n : Int)) := by omega
      have HE : Hid (false = hasB m hs s.data.toList) := Lib.hid (by
        have h1 := HNd.out
        rw [List.take_of_length_le (by have := HLn.out; omega)] at h1
        unfold hasB
        rw [h1, Bool.false_and])
      go_wp2
      go_ret
      exact ⟨ret_bool HE.out, HC.out⟩
    | succ G =>
      have hlt : (i : Int) < (n : Int) := by omega
      obtain ⟨o, ho⟩ : ∃ o, hs[i]? = some o := ⟨_, List.getElem?_eq_getElem (by have := HLn.out; omega)⟩
      obtain ⟨g, rfl, hK⟩ := HCell.out i o ho
      have K := hK wc (Below.refl _ _)
      have k0 : wc.cell? ⟨g, i * 5, none⟩ = some (.string o.name) := K.c0
      have k1 : wc.cell? ⟨g, i * 5 + 1, none⟩ = some (.int .i64 o.ph) := K.c1
      have k2 : wc.cell? ⟨g, i * 5 + 2, none⟩ = some (.int .i64 o.pri) := K.c2
      have k3 : wc.cell? ⟨g, i * 5 + 3, none⟩ = some (.string o.trig) := K.c3
      have k4 : wc.cell? ⟨g, i * 5 + 4, none⟩ = some (.int .i64 o.bit) := K.c4
      have hi1 : IntKind.i64.wrap ((i : Int) + 1) = ((i + 1 : Nat) : Int) := by rw [IntKind.wrap_i64]; omega
      have HTK : Hid (hs.take (i + 1) = hs.take i ++ [o]) := Lib.hid (by rw [List.take_add_one, ho]; rfl)
      have HHo := Lib.hid ho
      clear K hK ho
      by_cases he : o.name = s
      · have e0 : (o.name.toList == s.toList) = true := by rw [he]; simp
        have HE : Hid (onB m o = hasB m hs s.data.toList) := Lib.hid (by
          obtain ⟨h1, h2⟩ := found_at HHo.out (show o.name.data.toList = s.data.toList by rw [he]) HNd.out
          unfold hasB
          rw [h1, h2, Bool.true_and])
        have HOn := Lib.hid (ron_any o T m wc hm)
        unfold ptr hookV hookC at HOn
        clear he
        go_wp2_with fail
        refine HOn.out.mono ?_
        rintro e w2 ⟨rfl, hb2⟩
        have hR := And.intro (HC.out.1.below hb2) (HC.out.2.then_below hb2)
        go_wp2
        go_ret
        exact ⟨ret_bool HE.out, hR⟩
      · have e0 : (o.name.toList == s.toList) = false := by simp only [beq_eq_false_iff_ne]; exact fun e => he (toList_inj.1 e)
        have HNd1 : Hid (named (hs.take (i + 1)) s.data.toList = false) := Lib.hid (by
          rw [HTK.out, named_snoc, HNd.out, Bool.false_or]
          simp only [beq_eq_false_iff_ne]; exact fun e => he (bytes_eq e))
        clear he
        go_wp2
        go_roundg G
        case rel => exact ⟨i + 1, by omega, by first | rfl | go_num, rfl, HNd1⟩
        case measure => omega
end
end Rg
end Go.Proofs.Ytemcahbpfjlnlaa
