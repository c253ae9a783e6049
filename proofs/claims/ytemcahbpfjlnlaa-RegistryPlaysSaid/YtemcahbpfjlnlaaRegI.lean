/- Layer 7: the hooks that are told. -/
import Derived.Test.YtemcahbpfjlnlaaRegH
import Derived.Deep.AppendLies
namespace Go.Proofs.Ytemcahbpfjlnlaa
open Go Go.RowKit Go.MuLone
namespace Rg
set_option maxRecDepth 100000
set_option linter.unusedVariables false
set_option linter.unusedSimpArgs false

set_option maxHeartbeats 4000000 in
/-- chosen: all of a phase. -/
theorem chosen_all {w : World} {X : Nat → Prop} {A : Nat} {m : Int} {hs : List Hk} {sl : Bool} {st : Int} (h : RB w X A m hs sl st) (p : Int) (hp : wfI p) :
    Calls Try.prog 31 #[ptr A, .int .i64 p, .func (.func 32) #[] #[]] w fun e w' => ∃ v, e = .returned v ∧ Hooks w' v (told m hs p) ∧ ∃ X', SealedTo w w' X A m hs sl st X' ∧ FreeV w.heap.size X' v := by
  have HS := Lib.hid (seal_any h)
  have hall : ∀ o ∈ told m hs p, HkOk o := fun o ho => h.ok o (told_mem.1 ho).1
  have hlen : (told m hs p).length ≤ 1000000 := Nat.le_trans (told_len m p hs) h.len
  obtain ⟨i0, hi, hz0, hz1, hz2⟩ := info_parts hookInfo2
  clear h
  unfold ptr at *
  go_enter Try.func31, Try.ntmps31
  go_wp2_with fail
  refine HS.out.mono ?_
  rintro e w1 ⟨rfl, X', T⟩
  obtain ⟨b2, a, cap, c7, hlk, hcells⟩ := T.rb.rows hp
  have hlk1 := hlk w1 (Below.refl _ _)
  have HT := Lib.hid T
  have HC := Lib.hid hcells
  clear HS T hlk hcells
  obtain ⟨L, hL⟩ : ∃ L, L = told m hs p := ⟨_, rfl⟩
  rw [← hL] at hlk1 hlen hall HC
  have HL := Lib.hid hL
  clear hL
  obtain ⟨n, hn⟩ : ∃ n, n = L.length := ⟨_, rfl⟩
  rw [← hn] at hlk1 hlen
  have HN := Lib.hid hn
  clear hn
  go_wp2
  go_loopg [7, 21] n (fun G s7 s21 wr => ∃ j : Nat, j + G = n ∧ s21 = .int .i64 j ∧ wr.ownsRow w1.heap.size 29 5 s7 (L.take j).length (rowC (L.take j)) ∧ Below w1.heap.size w1 wr)
  case atStart => exact ⟨0, by omega, rfl, by simpa [rowC] using World.ownsRow_nil w1 w1.heap.size 29 5, Below.refl _ _⟩
  case round =>
    obtain ⟨j, hjg, rfl, hown, hbw⟩ := hrel
    have hsz := hbw.size
    cases gk with
    | zero =>
      have hlt : ¬ ((j : Int) < (n : Int)) := by omega
      have HO := Lib.hid hown
      have HB := Lib.hid hbw
      have HJ : Hid (L.take j = L) := Lib.hid (List.take_of_length_le (by have := HN.out; omega))
      clear hown hbw
      go_wp2
      go_ret
      have hO := HO.out
      rw [HJ.out] at hO
      refine ⟨_, rfl, ?_, X', HT.out.then_below HB.out, FreeV.of_owns hO HT.out.on.size fun k hk => HT.out.rb.lt k hk⟩
      rw [← HL.out]
      exact Hooks.of_owns hO
    | succ G =>
      have hlt : (j : Int) < (n : Int) := by omega
      obtain ⟨o, ho⟩ : ∃ o, L[j]? = some o := ⟨_, List.getElem?_eq_getElem (by have := HN.out; omega)⟩
      obtain ⟨g, rfl, hcell⟩ := HC.out j o ho
      have hoo := hall o (List.mem_of_getElem? ho)
      have HTK := Lib.hid (show L.take (j + 1) = L.take j ++ [o] by rw [List.take_add_one, ho]; rfl)
      have K := hcell wr hbw
      have c0 : wr.cell? ⟨g, j * 5, none⟩ = some (.string o.name) := K.c0
      have c1 : wr.cell? ⟨g, j * 5 + 1, none⟩ = some (.int .i64 o.ph) := K.c1
      have c2 : wr.cell? ⟨g, j * 5 + 2, none⟩ = some (.int .i64 o.pri) := K.c2
      have c3 : wr.cell? ⟨g, j * 5 + 3, none⟩ = some (.string o.trig) := K.c3
      have c4 : wr.cell? ⟨g, j * 5 + 4, none⟩ = some (.int .i64 o.bit) := K.c4
      have HO := Lib.hid hown
      have HB := Lib.hid hbw
      have hb0 : Below wr.heap.size wr (wr.alloc (.cells (hookC o) 29)) := (Below.refl _ wr).alloc (Nat.le_refl _) _
      have hkB := Blk.new wr (hookC o) 29
      have hK := Lib.hid hkB
      have hBk := Lib.hid hb0
      have k0 : (wr.alloc (.cells (hookC o) 29)).cell? ⟨wr.heap.size, 0, none⟩ = some (.string o.name) := hkB.cell 0 rfl
      have k1 : (wr.alloc (.cells (hookC o) 29)).cell? ⟨wr.heap.size, 1, none⟩ = some (.int .i64 o.ph) := hkB.cell 1 rfl
      have k2 : (wr.alloc (.cells (hookC o) 29)).cell? ⟨wr.heap.size, 2, none⟩ = some (.int .i64 o.pri) := hkB.cell 2 rfl
      have k3 : (wr.alloc (.cells (hookC o) 29)).cell? ⟨wr.heap.size, 3, none⟩ = some (.string o.trig) := hkB.cell 3 rfl
      have k4 : (wr.alloc (.cells (hookC o) 29)).cell? ⟨wr.heap.size, 4, none⟩ = some (.int .i64 o.bit) := hkB.cell 4 rfl
      have HF := Lib.hid (always_any o (wr.alloc (.cells (hookC o) 29)))
      clear K hkB hb0 hown hbw hcell ho
      unfold hookC at k0 k1 k2 k3 k4
      unfold hookV hookC at HF
      have HLen : Hid ((L.take j).length ≤ n) := Lib.hid (by rw [List.length_take, HN.out]; omega)
      go_wp2_with fail
      refine HF.out.mono ?_
      rintro e w2 ⟨rfl, hb2⟩
      have K2 : Blk w2 wr.heap.size (hookC o) _ := hK.out.below hb2
      have hbw2 : Below w1.heap.size w1 w2 := HB.out.trans ((below_later hBk.out hb2).mono hsz)
      have k0 : w2.cell? ⟨wr.heap.size, 0, none⟩ = some (.string o.name) := K2.cell 0 rfl
      have k1 : w2.cell? ⟨wr.heap.size, 1, none⟩ = some (.int .i64 o.ph) := K2.cell 1 rfl
      have k2 : w2.cell? ⟨wr.heap.size, 2, none⟩ = some (.int .i64 o.pri) := K2.cell 2 rfl
      have k3 : w2.cell? ⟨wr.heap.size, 3, none⟩ = some (.string o.trig) := K2.cell 3 rfl
      have k4 : w2.cell? ⟨wr.heap.size, 4, none⟩ = some (.int .i64 o.bit) := K2.cell 4 rfl
      have HB2 := Lib.hid hbw2
      have HO2 := Lib.hid (owns_keep HO.out (below_later hBk.out hb2))
      have hsz2 := hbw2.size
      clear K2 hbw2 hK hBk HF HO HB hb2 c0 c1 c2 c3 c4
      have HR := Lib.hid (show L.take (j + 1) = L.take j ++ [o] by exact HTK.out)
      have HOwn := Lib.hid (own_any o w2 hoo.1 hoo.2.1)
      unfold hookV hookC at HOwn
      go_wp2_with fail
      refine HOwn.out.mono ?_
      rintro e w3 ⟨rfl, hb3⟩
      have hbw3 : Below w1.heap.size w1 w3 := HB2.out.trans (hb3.mono hsz2)
      have hsz3 := hbw3.size
      have hown3 := owns_keep HO2.out hb3
      have HO3 := Lib.hid hown3
      have HB3 := Lib.hid hbw3
      have HNew : Hid (Blk (w3.alloc (.cells (hookC o) 29)) w3.heap.size (hookC o) 29) := Lib.hid (Blk.new w3 (hookC o) _)
      unfold hookC at HNew
      clear hb3 hbw3 hown3 k0 k1 k2 k3 k4 HOwn
      go_wp2_with (at_builtin; refine wpList_append_lies _ rfl _ _ 34 rfl w1.heap.size 29 i0 (.agg #[.string ⟨#[]⟩, .int .i64 0, .int .i64 0, .string ⟨#[]⟩, .int .i64 0]) 5 56 Try.underlying34 hi hz0 hz1 hz2 rfl (by decide) _ (L.take j).length (rowC (L.take j)) rfl (HO3.out.alloc _) ⟨w3.heap.size, 0, none⟩ 1 1 (hookC o).toList rfl rfl (World.news_of_block HNew.out) (hookC_one o) (by decide) ?c3 ?c4 ?c5 _ rfl ?_)
      case c3 => have := HLen.out; unfold maxLen; omega
      case c4 => have := HLen.out; omega
      case c5 => simp; omega
      intro g' cap' w5 hown5 hgrow5 hat5 hlt5
      have hbw5 : Below w1.heap.size w1 w5 := (HB3.out.alloc hsz3 _).grown hgrow5 (by simp; omega) (fun k hk => (HO3.out.lt k hk).1)
      have HO5 := Lib.hid hown5
      have HB5 := Lib.hid hbw5
      clear hown5 hgrow5 hat5 hbw5
      go_wp2
      go_roundg G
      case rel => exact ⟨j + 1, by omega, by go_num, by rw [HR.out, rowC_snoc, List.length_append, List.length_singleton]; first | exact HO5.out | (rw [List.length_take]; exact HO5.out), HB5.out⟩
      case measure => omega

set_option maxHeartbeats 4000000 in
/-- chosen: those that a byte triggers. -/
theorem chosen_trig {w : World} {X : Nat → Prop} {A : Nat} {m : Int} {hs : List Hk} {sl : Bool} {st : Int} (h : RB w X A m hs sl st) (p : Int) (hp : wfI p) {B : Nat} {b : Int} (hb0 : 0 ≤ b) (hb1 : b ≤ 255) (hB : w.cell? ⟨B, 0, none⟩ = some (.int .u8 b)) (hBX : ¬ X B) :
    Calls Try.prog 31 #[ptr A, .int .i64 p, .func (.func 34) #[] #[ptr B]] w fun e w' => ∃ v, e = .returned v ∧ Hooks w' v ((told m hs p).filter (trigB b)) ∧ ∃ X', SealedTo w w' X A m hs sl st X' ∧ FreeV w.heap.size X' v := by
  have HS := Lib.hid (seal_any h)
  have hall : ∀ o ∈ told m hs p, HkOk o := fun o ho => h.ok o (told_mem.1 ho).1
  have hlen : (told m hs p).length ≤ 1000000 := Nat.le_trans (told_len m p hs) h.len
  obtain ⟨i0, hi, hz0, hz1, hz2⟩ := info_parts hookInfo2
  clear h
  unfold ptr at *
  go_enter Try.func31, Try.ntmps31
  go_wp2_with fail
  refine HS.out.mono ?_
  rintro e w1 ⟨rfl, X', T⟩
  obtain ⟨b2, a, cap, c7, hlk, hcells⟩ := T.rb.rows hp
  have hlk1 := hlk w1 (Below.refl _ _)
  have HT := Lib.hid T
  have HC := Lib.hid hcells
  have hBlt := World.block_lt_of_cell? w _ hB
  have HB1 : Hid (∀ W, Below w1.heap.size w1 W → W.cell? ⟨B, 0, none⟩ = some (.int .u8 b)) := Lib.hid (fun W hW => by
    refine keep_cell hW ?_
    rw [World.cell?_of_block (T.on.block B hBlt hBX)]; exact hB)
  clear HS T hlk hcells
  obtain ⟨L, hL⟩ : ∃ L, L = told m hs p := ⟨_, rfl⟩
  rw [← hL] at hlk1 hlen hall HC
  have HL := Lib.hid hL
  clear hL
  obtain ⟨n, hn⟩ : ∃ n, n = L.length := ⟨_, rfl⟩
  rw [← hn] at hlk1 hlen
  have HN := Lib.hid hn
  clear hn
  go_wp2
  go_loopg [7, 21] n (fun G s7 s21 wr => ∃ j : Nat, j + G = n ∧ s21 = .int .i64 j ∧ wr.ownsRow w1.heap.size 29 5 s7 ((L.take j).filter (trigB b)).length (rowC ((L.take j).filter (trigB b))) ∧ Below w1.heap.size w1 wr)
  case atStart => exact ⟨0, by omega, rfl, by simpa [rowC] using World.ownsRow_nil w1 w1.heap.size 29 5, Below.refl _ _⟩
  case round =>
    obtain ⟨j, hjg, rfl, hown, hbw⟩ := hrel
    have hsz := hbw.size
    cases gk with
    | zero =>
      have hlt : ¬ ((j : Int) < (n : Int)) := by omega
      have HO := Lib.hid hown
      have HB := Lib.hid hbw
      have HJ : Hid (L.take j = L) := Lib.hid (List.take_of_length_le (by have := HN.out; omega))
      clear hown hbw
      go_wp2
      go_ret
      have hO := HO.out
      rw [HJ.out] at hO
      refine ⟨_, rfl, ?_, X', HT.out.then_below HB.out, FreeV.of_owns hO HT.out.on.size fun k hk => HT.out.rb.lt k hk⟩
      rw [← HL.out]
      exact Hooks.of_owns hO
    | succ G =>
      have hlt : (j : Int) < (n : Int) := by omega
      obtain ⟨o, ho⟩ : ∃ o, L[j]? = some o := ⟨_, List.getElem?_eq_getElem (by have := HN.out; omega)⟩
      obtain ⟨g, rfl, hcell⟩ := HC.out j o ho
      have hoo := hall o (List.mem_of_getElem? ho)
      have HTK := Lib.hid (show L.take (j + 1) = L.take j ++ [o] by rw [List.take_add_one, ho]; rfl)
      have K := hcell wr hbw
      have c0 : wr.cell? ⟨g, j * 5, none⟩ = some (.string o.name) := K.c0
      have c1 : wr.cell? ⟨g, j * 5 + 1, none⟩ = some (.int .i64 o.ph) := K.c1
      have c2 : wr.cell? ⟨g, j * 5 + 2, none⟩ = some (.int .i64 o.pri) := K.c2
      have c3 : wr.cell? ⟨g, j * 5 + 3, none⟩ = some (.string o.trig) := K.c3
      have c4 : wr.cell? ⟨g, j * 5 + 4, none⟩ = some (.int .i64 o.bit) := K.c4
      have HO := Lib.hid hown
      have HB := Lib.hid hbw
      have hb0' : Below wr.heap.size wr (wr.alloc (.cells (hookC o) 29)) := (Below.refl _ wr).alloc (Nat.le_refl _) _
      have hkB := Blk.new wr (hookC o) 29
      have hK := Lib.hid hkB
      have hBk := Lib.hid hb0'
      have k0 : (wr.alloc (.cells (hookC o) 29)).cell? ⟨wr.heap.size, 0, none⟩ = some (.string o.name) := hkB.cell 0 rfl
      have k1 : (wr.alloc (.cells (hookC o) 29)).cell? ⟨wr.heap.size, 1, none⟩ = some (.int .i64 o.ph) := hkB.cell 1 rfl
      have k2 : (wr.alloc (.cells (hookC o) 29)).cell? ⟨wr.heap.size, 2, none⟩ = some (.int .i64 o.pri) := hkB.cell 2 rfl
      have k3 : (wr.alloc (.cells (hookC o) 29)).cell? ⟨wr.heap.size, 3, none⟩ = some (.string o.trig) := hkB.cell 3 rfl
      have k4 : (wr.alloc (.cells (hookC o) 29)).cell? ⟨wr.heap.size, 4, none⟩ = some (.int .i64 o.bit) := hkB.cell 4 rfl
      have HF := Lib.hid (fits_any o B b (wr.alloc (.cells (hookC o) 29)) hb0 hb1 (keep_cell hb0' (HB1.out wr hbw)))
      clear K hkB hb0' hown hbw hcell ho
      unfold hookC at k0 k1 k2 k3 k4
      unfold hookV hookC at HF
      have HLen : Hid (((L.take j).filter (trigB b)).length ≤ n) := Lib.hid (by refine Nat.le_trans (List.length_filter_le _ _) ?_; rw [List.length_take, HN.out]; omega)
      go_wp2_with fail
      refine HF.out.mono ?_
      rintro e w2 ⟨rfl, hb2⟩
      have K2 : Blk w2 wr.heap.size (hookC o) _ := hK.out.below hb2
      have hbw2 : Below w1.heap.size w1 w2 := HB.out.trans ((below_later hBk.out hb2).mono hsz)
      have k0 : w2.cell? ⟨wr.heap.size, 0, none⟩ = some (.string o.name) := K2.cell 0 rfl
      have k1 : w2.cell? ⟨wr.heap.size, 1, none⟩ = some (.int .i64 o.ph) := K2.cell 1 rfl
      have k2 : w2.cell? ⟨wr.heap.size, 2, none⟩ = some (.int .i64 o.pri) := K2.cell 2 rfl
      have k3 : w2.cell? ⟨wr.heap.size, 3, none⟩ = some (.string o.trig) := K2.cell 3 rfl
      have k4 : w2.cell? ⟨wr.heap.size, 4, none⟩ = some (.int .i64 o.bit) := K2.cell 4 rfl
      have HB2 := Lib.hid hbw2
      have HO2 := Lib.hid (owns_keep HO.out (below_later hBk.out hb2))
      have hsz2 := hbw2.size
      clear K2 hbw2 hK hBk HF HO HB hb2 c0 c1 c2 c3 c4
      cases hfit : trigB b o
      · have HR := Lib.hid (show (L.take (j + 1)).filter (trigB b) = (L.take j).filter (trigB b) by rw [HTK.out, List.filter_append, List.filter_cons_of_neg (by simp [hfit])]; simp)
        go_wp2
        go_roundg G
        case rel => exact ⟨j + 1, by omega, by go_num, by rw [HR.out]; exact HO2.out, HB2.out⟩
        case measure => omega
      · have HR := Lib.hid (show (L.take (j + 1)).filter (trigB b) = (L.take j).filter (trigB b) ++ [o] by rw [HTK.out, List.filter_append, List.filter_cons_of_pos hfit]; rfl)
        have HOwn := Lib.hid (own_any o w2 hoo.1 hoo.2.1)
        unfold hookV hookC at HOwn
        go_wp2_with fail
        refine HOwn.out.mono ?_
        rintro e w3 ⟨rfl, hb3⟩
        have hbw3 : Below w1.heap.size w1 w3 := HB2.out.trans (hb3.mono hsz2)
        have hsz3 := hbw3.size
        have hown3 := owns_keep HO2.out hb3
        have HO3 := Lib.hid hown3
        have HB3 := Lib.hid hbw3
        have HNew : Hid (Blk (w3.alloc (.cells (hookC o) 29)) w3.heap.size (hookC o) 29) := Lib.hid (Blk.new w3 (hookC o) _)
        unfold hookC at HNew
        clear hb3 hbw3 hown3 k0 k1 k2 k3 k4 HOwn
        go_wp2_with (at_builtin; refine wpList_append_lies _ rfl _ _ 34 rfl w1.heap.size 29 i0 (.agg #[.string ⟨#[]⟩, .int .i64 0, .int .i64 0, .string ⟨#[]⟩, .int .i64 0]) 5 56 Try.underlying34 hi hz0 hz1 hz2 rfl (by decide) _ ((L.take j).filter (trigB b)).length (rowC ((L.take j).filter (trigB b))) rfl (HO3.out.alloc _) ⟨w3.heap.size, 0, none⟩ 1 1 (hookC o).toList rfl rfl (World.news_of_block HNew.out) (hookC_one o) (by decide) ?c3 ?c4 ?c5 _ rfl ?_)
        case c3 => have := HLen.out; unfold maxLen; omega
        case c4 => have := HLen.out; omega
        case c5 => simp; omega
        intro g' cap' w5 hown5 hgrow5 hat5 hlt5
        have hbw5 : Below w1.heap.size w1 w5 := (HB3.out.alloc hsz3 _).grown hgrow5 (by simp; omega) (fun k hk => (HO3.out.lt k hk).1)
        have HO5 := Lib.hid hown5
        have HB5 := Lib.hid hbw5
        clear hown5 hgrow5 hat5 hbw5
        go_wp2
        go_roundg G
        case rel => exact ⟨j + 1, by omega, by go_num, by rw [HR.out, rowC_snoc, List.length_append, List.length_singleton]; first | exact HO5.out | (rw [List.length_take]; exact HO5.out), HB5.out⟩
        case measure => omega
end Rg
end Go.Proofs.Ytemcahbpfjlnlaa
