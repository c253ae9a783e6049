/- Walks of layer 3, the fourth part: Label. -/
import Derived.Test.YtfabiidohdkkcaaGreatDoorClassCr
namespace Go.Proofs.YtfabiidohdkkcaaGreatDoor
open Go Go.RowKit
namespace Ks
open Tx
set_option maxRecDepth 100000
set_option linter.unusedVariables false
set_option linter.unusedSimpArgs false

theorem ext_mid (a b c : List UInt8) : (⟨(a ++ b ++ c).toArray⟩ : ByteArray).extract a.length (a ++ b).length = ⟨b.toArray⟩ := by
  refine ext_of _ _ _ _ ?_
  show ((a ++ b ++ c).drop a.length).take ((a ++ b).length - a.length) = b
  rw [List.append_assoc, List.drop_left, List.length_append, Nat.add_sub_cancel_left, List.take_left]

theorem spansP_succ (p : Nat → Bool) (s : ByteArray) (f pos : Nat) (st : Option Nat) (acc : List (Nat × Nat)) : Lib.spansFromP p s (f + 1) pos st acc =
    if pos < s.size then
      (if p (Utf8.decode s pos).1 then
        (match st with
         | some a => Lib.spansFromP p s f (pos + (Utf8.decode s pos).2) none (acc ++ [(a, pos)])
         | none => Lib.spansFromP p s f (pos + (Utf8.decode s pos).2) none acc)
       else
        (match st with
         | some a => Lib.spansFromP p s f (pos + (Utf8.decode s pos).2) (some a) acc
         | none => Lib.spansFromP p s f (pos + (Utf8.decode s pos).2) (some pos) acc))
    else (acc, st) := by rfl
theorem spans_go (all : List Nat) (hv : AllV all) : ∀ (rest done cur : List Nat) (f : Nat) (acc : List (Nat × Nat)), all = done ++ cur ++ rest → rest.length ≤ f →
    ((Lib.closeSpans ⟨(enc all).toArray⟩ (Lib.spansFromP gapN ⟨(enc all).toArray⟩ f (enc (done ++ cur)).length (if cur.isEmpty then none else some (enc done).length) acc)).map fun x => (⟨(enc all).toArray⟩ : ByteArray).extract x.1 x.2)
      = (acc.map fun x => (⟨(enc all).toArray⟩ : ByteArray).extract x.1 x.2) ++ (flg gapN rest cur).map (fun F => (⟨(enc F).toArray⟩ : ByteArray))
  | [], done, cur, f, acc, he, hf => by
    have hs : (⟨(enc all).toArray⟩ : ByteArray).size = (enc (done ++ cur)).length := by rw [size_mk, he]; simp
    rw [Lib.spansFromP_end _ _ _ _ _ _ (by rw [hs]; omega)]
    cases hc : cur with
    | nil => subst hc; simp [Lib.closeSpans, flg]
    | cons c u =>
      rw [← hc]
      have hne : cur.isEmpty = false := by rw [hc]; rfl
      have hx : (⟨(enc all).toArray⟩ : ByteArray).extract (enc done).length (enc (done ++ cur)).length = ⟨(enc cur).toArray⟩ := by
        have := ext_mid (enc done) (enc cur) []
        rw [List.append_nil, ← enc_app] at this
        rw [he, List.append_nil]; exact this
      simp only [hne, Bool.false_eq_true, if_false, Lib.closeSpans, flg, hs, List.map_append, List.map_cons, List.map_nil, hx]
  | x :: t, done, cur, f, acc, he, hf => by
    obtain ⟨g, rfl⟩ : ∃ g, f = g + 1 := ⟨f - 1, by simp at hf; omega⟩
    have hxv : Valid x := hv x (by rw [he]; simp)
    have hS : enc all = enc (done ++ cur) ++ (encN x ++ enc t) := by rw [he, enc_app, enc_cons]
    have hlt : (enc (done ++ cur)).length < (⟨(enc all).toArray⟩ : ByteArray).size := by
      rw [size_mk, hS]
      have := (encN_len x).1
      simp; omega
    have hd : Utf8.decode ⟨(enc all).toArray⟩ (enc (done ++ cur)).length = (x, (encN x).length) := by
      rw [hS, decode_char (enc (done ++ cur)) (encN x) (enc t) (enc_char hxv).1, (enc_char hxv).2]
    have hpos : ∀ y : List Nat, (enc (done ++ cur)).length + (encN x).length = (enc (done ++ cur ++ [x])).length := fun _ => by
      rw [enc_app (done ++ cur), List.length_append]; simp [enc]
    have hg : t.length ≤ g := by simp at hf; omega
    rw [spansP_succ, if_pos hlt, hd]
    simp only
    cases hp : gapN x with
    | true =>
      simp only [if_true]
      have ih := spans_go all hv t (done ++ cur ++ [x]) [] g
      simp only [List.append_nil, List.isEmpty_nil, if_true] at ih
      cases hc : cur with
      | nil =>
        subst hc
        simp only [List.isEmpty_nil, if_true, flg, hp]
        rw [hpos []]
        exact ih acc (by rw [he]; simp) hg
      | cons c u =>
        rw [← hc]
        have hne : cur.isEmpty = false := by rw [hc]; rfl
        simp only [hne, Bool.false_eq_true, if_false, flg, hp, if_true]
        rw [hpos [], ih _ (by rw [he]; simp) hg, List.map_append, List.append_assoc]
        congr 1
        have hx : (⟨(enc all).toArray⟩ : ByteArray).extract (enc done).length (enc (done ++ cur)).length = ⟨(enc cur).toArray⟩ := by
          have := ext_mid (enc done) (enc cur) (encN x ++ enc t)
          rw [← enc_app done cur, ← hS] at this
          exact this
        simp only [List.map_cons, List.map_nil, hx]; rfl
    | false =>
      simp only [Bool.false_eq_true, if_false]
      have ih := spans_go all hv t done (cur ++ [x]) g acc (by rw [he]; simp) hg
      have hne2 : (cur ++ [x]).isEmpty = false := by simp
      simp only [hne2, Bool.false_eq_true, if_false, ← List.append_assoc] at ih
      simp only [flg, hp, Bool.false_eq_true, if_false]
      rw [← ih, ← hpos []]
      cases hc : cur with
      | nil => simp
      | cons c u => rfl

theorem fields_enc (ns : List Nat) (hv : AllV ns) : Lib.goFieldsP gapN ⟨(enc ns).toArray⟩ = (fl gapN ns).map (fun F => (⟨(enc F).toArray⟩ : ByteArray)) := by
  have h := spans_go ns hv ns [] [] (enc ns).length [] (by simp) (enc_len ns).1
  simpa [Lib.goFieldsP, Lib.spansOfP, enc_nil, size_mk, fl] using h

theorem gap_gives (w : World) : PredAtRunes Tryz.prog 46 #[] gapN w := by
  intro W x _ _
  unfold FnGives
  refine (gap_any (x : Int) W).mono ?_
  rintro e w' ⟨rfl, rfl⟩
  exact ⟨by rw [gapI_nat], 0, rfl⟩

theorem join_enc (Fs : List (List Nat)) : Lib.join ((Fs.map fun F => (⟨(enc F).toArray⟩ : ByteArray)).map (·.data.toList)) [32] = enc (jn 32 Fs) := by
  rw [lib_join, enc_jn, List.map_map]; rfl

set_option maxHeartbeats 2000000 in
theorem label_any (s : ByteArray) (w : World) (hs : s.size ≤ 10000000) (hL : Laid w) :
    Calls Tryz.prog 24 #[.string s] w fun e w' => e = .returned (str (lab s.data.toList)) ∧ Below w.heap.size w w' := by
  have hdl : s.data.toList.length = s.size := by rw [Array.length_toList]; rfl
  have HF := Lib.hid (fold_any s w (by omega) hL)
  have hX : AllV (foldRs (runes s.data.toList)) := foldRs_valid (runes_valid _)
  have HFL := fields_enc _ hX
  have hll := lab_len s.data.toList
  have hfl := fold_len s.data.toList
  have hcnt := fl_count gapN (foldRs (runes s.data.toList))
  have hcn2 := foldRs_len (runes s.data.toList)
  have hcn3 := runes_len s.data.toList
  have hlab : lab s.data.toList = enc (jn 32 (fl gapN (foldRs (runes s.data.toList)))) := rfl
  have hfold : fold s.data.toList = enc (foldRs (runes s.data.toList)) := rfl
  rw [← hfold] at HFL
  have hJ := join_enc (fl gapN (foldRs (runes s.data.toList)))
  rw [← hlab] at hJ
  have hN : (fl gapN (foldRs (runes s.data.toList))).length ≤ 100000000 := by omega
  clear hX hL hcnt hcn2 hcn3 hlab hfold
  generalize fl gapN (foldRs (runes s.data.toList)) = Fs at *
  generalize fold s.data.toList = X at *
  generalize hL : lab s.data.toList = L at *
  obtain ⟨xs, hxs⟩ : ∃ xs, Fs.map (fun F => (⟨(enc F).toArray⟩ : ByteArray)) = xs := ⟨_, rfl⟩
  have hxl : xs.length ≤ 100000000 := by rw [← hxs, List.length_map]; exact hN
  rw [hxs] at HFL hJ
  have HLL : Hid ((Lib.join (xs.map (·.data.toList)) [32]).length ≤ 140737488355328) := Lib.hid (by rw [hJ]; omega)
  have HJ := Lib.hid hJ
  have HL := Lib.hid hL
  have HFL' := Lib.hid HFL
  have hxz : (⟨X.toArray⟩ : ByteArray).size ≤ 4294967296 := by rw [size_mk]; omega
  have Hxz := Lib.hid hxz
  clear hN hxs hJ HFL hL hxz hll hfl
  go_enter Tryz.func24, Tryz.ntmps24
  go_wp2_with (go_at_call 45; refine HF.out.mono ?_; rintro e w1 ⟨rfl, hb1⟩)
  have HG := Lib.hid (Tryz.strings_FieldsFunc_runes 46 #[] (enters_of Tryz.func46 (by kernel_rfl) rfl) gapN ⟨X.toArray⟩ w1 Hxz.out (gap_gives w1))
  rw [HFL'.out] at HG
  go_wp2_with (go_at_call 44; refine HG.out.mono ?_; rintro e w2 ⟨A, rfl, hA, hown, hb2⟩)
  have hbw2 := hb1.trans (hb2.mono hb1.size)
  have hcells : ∀ (j : Nat) x, xs[j]? = some x → w2.cell? ⟨A, 0 + j, none⟩ = some (.string x) := by
    intro j x hx
    have hj := hown.cellAt j (by have := (List.getElem?_eq_some_iff.1 hx).1; simpa using this)
    rw [Nat.zero_add, hj, List.getElem?_map, hx]; rfl
  have HN := Lib.hid (Tryz.strings_Join A 0 xs.length xs ⟨#[32]⟩ w2 hcells (hown.lt A rfl).2 (by omega) (Nat.le_refl _) HLL.out)
  clear hb1 hb2 hown hcells
  go_wp2_with (go_at_call 43; refine HN.out.mono ?_; rintro e w3 ⟨rfl, hb3⟩)
  go_ret
  refine ⟨?_, hbw2.trans (hb3.mono hbw2.size)⟩
  exact ret_str' HJ.out
end Ks
end Go.Proofs.YtfabiidohdkkcaaGreatDoor
