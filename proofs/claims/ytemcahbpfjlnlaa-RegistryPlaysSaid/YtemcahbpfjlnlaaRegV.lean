/- Layer 7: the reference's For. -/
import Derived.Test.YtemcahbpfjlnlaaRegU
namespace Go.Proofs.Ytemcahbpfjlnlaa
open Go Go.RowKit
namespace Rg
set_option maxRecDepth 100000
set_option linter.unusedVariables false
set_option linter.unusedSimpArgs false

section
variable {w w' : World} {Z : Nat → Prop} {T : Nat} {m : Int} {hs : List Hk} {sl : Bool} {st : Int}
theorem Hooks.row {w : World} {v : Value} {l : List Hk} (h : Hooks w v l) : ∃ a cap, v = .slice a l.length cap ∧ ∀ (i : Nat) (o : Hk), l[i]? = some o → ∃ g off, a = some ⟨g, off, none⟩ ∧ ∀ W, Below w.heap.size w W → CellsAt W g (off + i * 5) o := by
  obtain ⟨a, cap, h1, _, h3⟩ := h
  refine ⟨a, cap, h1, fun i o ho => ?_⟩
  rcases h3 with rfl | ⟨b, off, rfl, h⟩
  · simp at ho
  · exact ⟨b, off, rfl, fun W hW => (h i o ho).keep hW⟩
/-- What the loop over the bytes has seen. -/
def seen (b : Int) (o : Hk) (k : Nat) : Bool := o.trig.data.toList.isEmpty || (o.trig.data.toList.take k).any fun x => decide ((x.toNat : Int) = b)
theorem seen_zero (b : Int) (o : Hk) : o.trig.toList.isEmpty = seen b o 0 := by
  unfold seen
  rw [List.take_zero, List.any_nil, Bool.or_false, toList_eq]
theorem seen_all (b : Int) (o : Hk) : seen b o o.trig.size = trigB b o := by
  unfold seen trigB
  rw [show o.trig.data.toList.take o.trig.size = o.trig.data.toList from List.take_of_length_le (show o.trig.data.toList.length ≤ o.trig.data.size from by rw [Array.length_toList]; exact Nat.le_refl _)]
theorem seen_succ (b : Int) (o : Hk) (k : Nat) (h : k < o.trig.size) : seen b o (k + 1) = (seen b o k || decide ((o.trig[k].toNat : Int) = b)) := by
  unfold seen
  have h2 : k < o.trig.data.toList.length := by rw [Array.length_toList]; exact h
  rw [List.take_add_one, List.getElem?_eq_getElem h2, List.any_append, ← Bool.or_assoc]
  congr 1
  simp [ByteArray.getElem_eq_getElem_data]

set_option maxHeartbeats 40000000 in
theorem rfor_any (h : RF w Z T m hs sl st) (p : Int) (b : Int) (hlen : hs.length ≤ 1000000) (hnm : Names hs) (htr : ∀ o ∈ hs, o.trig.size ≤ 1000000) :
    Calls Try.prog 19 #[ptr T, .int .i64 p, .int .u8 b] w fun e w' => ∃ v, e = .returned v ∧ Hooks w' v ((told m hs p).filter (trigB b)) ∧ FreeV w.heap.size Z v ∧ RF w' Z T m hs true st ∧ Only Z w w' := by
  have HS := Lib.hid (rsorted_any h p hlen hnm)
  have HTr : Hid (∀ o ∈ told m hs p, o.trig.size ≤ 1000000) := Lib.hid (fun o ho => htr o (told_mem.1 ho).1)
  have HLe : Hid ((told m hs p).length ≤ 1000000) := Lib.hid (Nat.le_trans (told_len m p hs) hlen)
  obtain ⟨i0, hi, hz0, hz1, hz2⟩ := info_parts hookInfo2
  clear h hlen hnm htr
  unfold ptr at *
  go_enter Try.func19, Try.ntmps19
  go_wp2_with fail
  refine HS.out.mono ?_
  rintro e w1 ⟨v, rfl, hv, hfr, hrf, honl⟩
  have HR := Lib.hid hrf
  have HOn := Lib.hid honl
  obtain ⟨a, cap, rfl, hcell⟩ := hv.row
  obtain ⟨L, hL⟩ : ∃ L, L = told m hs p := ⟨_, rfl⟩
  rw [← hL] at hcell HTr HLe ⊢
  obtain ⟨n, hn⟩ : ∃ n, n = L.length := ⟨_, rfl⟩
  rw [← hn]
  have HN := Lib.hid hn
  have HL := Lib.hid hL
  have HC := Lib.hid hcell
  have HFr := Lib.hid hfr
  have hln : n ≤ 1000000 := by rw [hn]; exact HLe.out
  clear HS hv hfr hrf honl hcell hn hL
  go_wp2
  go_loopg [7, 9] n (fun G s7 s9 wr => ∃ j : Nat, j + G = n ∧ s9 = .int .i64 j ∧ wr.ownsRow w1.heap.size 29 5 s7 ((L.take j).filter (trigB b)).length (rowC ((L.take j).filter (trigB b))) ∧ Below w1.heap.size w1 wr)
  case atStart => exact ⟨0, by omega, rfl, by simpa [rowC] using World.ownsRow_nil w1 w1.heap.size 29 5, Below.refl _ _⟩
  case round =>
    obtain ⟨j, hjg, rfl, hown, hbw⟩ := hrel
    have hsz := hbw.size
    have HO := Lib.hid hown
    have HB := Lib.hid hbw
    cases gk with
    | zero =>
      have hlt : ¬ ((j : Int) < (n : Int)) := by omega
      have HJ : Hid (L.take j = L) := Lib.hid (List.take_of_length_le (by have := HN.out; omega))
      clear hown hbw
      go_wp2
      go_ret
      have hO := HO.out
      rw [HJ.out] at hO
      rw [HL.out] at hO
      exact ⟨_, rfl, Hooks.of_owns hO, FreeV.of_owns hO HOn.out.size fun k hk => HR.out.lt k hk, HR.out.below HB.out, HOn.out.then_below HB.out⟩
    | succ G =>
      have hlt : (j : Int) < (n : Int) := by omega
      obtain ⟨o, ho⟩ : ∃ o, L[j]? = some o := ⟨_, List.getElem?_eq_getElem (by have := HN.out; omega)⟩
      obtain ⟨g, off, rfl, hcell⟩ := HC.out j o ho
      have hsz3 := HTr.out o (List.mem_of_getElem? ho)
      have HTK := Lib.hid (show L.take (j + 1) = L.take j ++ [o] by rw [List.take_add_one, ho]; rfl)
      have K := hcell wr hbw
      have c0 : wr.cell? ⟨g, off + j * 5, none⟩ = some (.string o.name) := K.c0
      have c1 : wr.cell? ⟨g, off + j * 5 + 1, none⟩ = some (.int .i64 o.ph) := K.c1
      have c2 : wr.cell? ⟨g, off + j * 5 + 2, none⟩ = some (.int .i64 o.pri) := K.c2
      have c3 : wr.cell? ⟨g, off + j * 5 + 3, none⟩ = some (.string o.trig) := K.c3
      have c4 : wr.cell? ⟨g, off + j * 5 + 4, none⟩ = some (.int .i64 o.bit) := K.c4
      have hi1 : IntKind.i64.wrap ((j : Int) + 1) = ((j + 1 : Nat) : Int) := by rw [IntKind.wrap_i64]; omega
      have HLen : Hid (((L.take j).filter (trigB b)).length ≤ n) := Lib.hid (by refine Nat.le_trans (List.length_filter_le _ _) ?_; rw [List.length_take, HN.out]; omega)
      obtain ⟨z, hzz⟩ : ∃ z, z = o.trig.size := ⟨_, rfl⟩
      have HZ := Lib.hid hzz
      have hzl : (o.trig.size : Int) = (z : Int) := by rw [hzz]
      have hz3 : z ≤ 1000000 := by omega
      clear K hown hbw hcell ho hzz hsz3
      go_wp2_with fail
      go_loopg [10, 11] z (fun G2 s10 s11 wx => ∃ k : Nat, k + G2 = z ∧ s11 = .int .i64 k ∧ s10 = .bool (seen b o k) ∧ wr = wx)
      case atStart => exact ⟨0, by omega, rfl, congrArg Value.bool (seen_zero b o), rfl⟩
      case round =>
        obtain ⟨wo, rfl⟩ : ∃ wo : World, wo = wr := ⟨_, rfl⟩
        obtain ⟨k, hk, rfl, rfl, rfl⟩ := hrel
        cases gk with
        | zero =>
          have hlt2 : ¬ ((k : Int) < (z : Int)) := by omega
          have HK : Hid (seen b o k = trigB b o) := Lib.hid (by rw [← seen_all, ← HZ.out, show k = z from by omega])
          cases ht : seen b o k with
          | false =>
            have HR1 : Hid ((L.take (j + 1)).filter (trigB b) = (L.take j).filter (trigB b)) := Lib.hid (by
              have hpk : trigB b o = false := by rw [← HK.out, ht]
              rw [HTK.out, List.filter_append, List.filter_cons_of_neg (p := trigB b) (by rw [hpk]; exact Bool.false_ne_true), List.filter_nil, List.append_nil])
            clear ht
            go_wp2
            go_roundg G
            case rel => exact ⟨j + 1, by omega, by first | rfl | go_num, by rw [HR1.out]; exact HO.out, HB.out⟩
            case measure => omega
          | true =>
            have HR1 : Hid ((L.take (j + 1)).filter (trigB b) = (L.take j).filter (trigB b) ++ [o]) := Lib.hid (by
              have hpk : trigB b o = true := by rw [← HK.out, ht]
              rw [HTK.out, List.filter_append, List.filter_cons_of_pos (p := trigB b) hpk, List.filter_nil])
            clear ht
            have HNew : Hid (Blk (wr.alloc (.cells (hookC o) 29)) wr.heap.size (hookC o) 29) := Lib.hid (Blk.new wr (hookC o) _)
            unfold hookC at HNew
            go_wp2_with (at_builtin; refine wpList_append_lies _ rfl _ _ 34 rfl w1.heap.size 29 i0 (.agg #[.string ⟨#[]⟩, .int .i64 0, .int .i64 0, .string ⟨#[]⟩, .int .i64 0]) 5 56 Try.underlying34 hi hz0 hz1 hz2 rfl (by decide) _ ((L.take j).filter (trigB b)).length (rowC ((L.take j).filter (trigB b))) rfl (HO.out.alloc _) ⟨wr.heap.size, 0, none⟩ 1 1 (hookC o).toList rfl rfl (World.news_of_block HNew.out) (hookC_one o) (by decide) ?c3 ?c4 ?c5 _ rfl ?_)
            case c3 => have := HLen.out; unfold maxLen; omega
            case c4 => have := HLen.out; omega
            case c5 => first | omega | (simp; omega)
            intro g' cap' w5 hown5 hgrow5 hat5 hlt5
            have HB5 : Hid (Below w1.heap.size w1 w5) := Lib.hid ((HB.out.alloc hsz _).grown hgrow5 (by simp; omega) (fun k hk => (HO.out.lt k hk).1))
            have HO5 := Lib.hid hown5
            clear hown5 hgrow5 hat5
            go_wp2
            go_roundg G
            case rel => exact ⟨j + 1, by omega, by first | rfl | go_num, by rw [HR1.out, rowC_snoc, List.length_append, List.length_singleton]; exact HO5.out, HB5.out⟩
            case measure => omega
        | succ G2 =>
          have hlt2 : (k : Int) < (z : Int) := by omega
          have HKl : Hid (k < o.trig.size) := Lib.hid (by rw [← HZ.out]; omega)
          have hk1 : IntKind.i64.wrap ((k : Int) + 1) = ((k + 1 : Nat) : Int) := by rw [IntKind.wrap_i64]; omega
          have HSu := Lib.hid (seen_succ b o k HKl.out)
          have hkt : k < o.trig.size := HKl.out
          cases hs2 : seen b o k with
          | true =>
            have HX : Hid (true = seen b o (k + 1)) := Lib.hid (by rw [HSu.out, hs2, Bool.true_or])
            clear hs2
            go_wp2
            go_roundg G2
            case rel => exact ⟨k + 1, by omega, by first | rfl | go_num, congrArg Value.bool HX.out, rfl⟩
            case measure => omega
          | false =>
            have HX : Hid (decide ((o.trig[k].toNat : Int) = b) = seen b o (k + 1)) := Lib.hid (by rw [HSu.out, hs2, Bool.false_or])
            clear hs2
            go_wp2
            go_roundg G2
            case rel => exact ⟨k + 1, by omega, by first | rfl | go_num, congrArg Value.bool (by rw [← HX.out]; first | rfl | (simp; done) | (rw [Bool.eq_iff_iff]; simp; done)), rfl⟩
            case measure => omega
end
end Rg
end Go.Proofs.Ytemcahbpfjlnlaa
