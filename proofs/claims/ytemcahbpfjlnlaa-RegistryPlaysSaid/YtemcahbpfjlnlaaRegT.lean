/- Layer 7: the reference's Add. -/
import Derived.Test.YtemcahbpfjlnlaaRegS
import Derived.Deep.RegionLaw
namespace Go.Proofs.Ytemcahbpfjlnlaa
open Go Go.RowKit
namespace Rg
set_option maxRecDepth 100000
set_option linter.unusedVariables false
set_option linter.unusedSimpArgs false

section
variable {w w' : World} {Z : Nat → Prop} {T : Nat} {m : Int} {hs : List Hk} {sl : Bool} {st : Int}
/-- A hook is appended to what the reference's registry holds. -/
theorem RF.push (h : RF w Z T m hs sl st) {a : Option Addr} {cap : Nat} (hz : ∀ g, (Value.slice a hs.length cap).ownBlock = some g → Z g ∧ g ≠ T) {x : Hk} {w1 w3 : World} {g' cap' : Nat} (hb : Below w.heap.size w w1)
    (hown : w3.ownsRow 0 29 5 (.slice (some ⟨g', 0, none⟩) (hs.length + 1) cap') (hs.length + 1) (rowC hs ++ (hookC x).toList)) (hg : w1.grownBy w3 (Value.slice a hs.length cap).ownBlock) (hat : (Value.slice a hs.length cap).ownBlock = some g' ∨ g' = w1.heap.size) :
    (∃ Z', RF (w3.setCell ⟨T, 0, none⟩ (.slice (some ⟨g', 0, none⟩) (hs.length + 1) cap')) Z' T m (hs ++ [x]) sl st ∧ ∀ k, Z' k → Z k ∨ w.heap.size ≤ k) ∧ Only Z w (w3.setCell ⟨T, 0, none⟩ (.slice (some ⟨g', 0, none⟩) (hs.length + 1) cap')) ∧
      w3.cell? ⟨T, 0, none⟩ = w.cell? ⟨T, 0, none⟩ ∧ w3.frozen? ⟨T, 0, none⟩ = false := by
  obtain ⟨lv, h1, h2, h3⟩ := h.body
  have ho1 : Only (fun k => (Value.slice a hs.length cap).ownBlock = some k) w w3 := (Only.of_below hb).trans' (only_grown hg)
  have hT : Blk w3 T (rfC lv m sl st) _ := h1.only ho1 fun e => (hz T e).2 rfl
  have ho2 : Only (fun k => k = T) w3 (w3.setCell ⟨T, 0, none⟩ (.slice (some ⟨g', 0, none⟩) (hs.length + 1) cap')) := Only.setCell (X := fun k => k = T) (Only.refl _ w3) rfl _
  have hsz := hb.size
  have hTlt := h1.lt
  have hgT : g' ≠ T := by
    rcases hat with e | e
    · exact (hz g' e).2
    · omega
  have hon : Only Z w (w3.setCell ⟨T, 0, none⟩ (.slice (some ⟨g', 0, none⟩) (hs.length + 1) cap')) := (ho1.mono fun k e => (hz k e).1).trans' (ho2.mono fun k e => e ▸ h.zT)
  refine ⟨⟨fun k => Z k ∨ k = g', ⟨fun k hk => ?_, .inl h.zT, .slice (some ⟨g', 0, none⟩) (hs.length + 1) cap', hT.set 0 _ rfl, ?_, fun g e => ?_⟩, fun k hk => ?_⟩, hon, ?_, hT.fr 0⟩
  · rcases hk with hk | rfl
    · exact Nat.lt_of_lt_of_le (h.lt k hk) hon.size
    · have := (hown.lt k rfl).2
      simpa using this
  · rw [rowC_snoc, List.length_append, List.length_singleton]
    exact owns_only hown ho2 fun k hk e => by injection hk with hk; exact hgT (hk.trans e)
  · injection e with e
    exact ⟨.inr e.symm, fun e2 => hgT (e.trans e2)⟩
  · rcases hk with hk | rfl
    · exact .inl hk
    · rcases hat with e | e
      · exact .inl (hz k e).1
      · exact .inr (by omega)
  · rw [hT.cell 0 rfl, h1.cell 0 rfl]

set_option maxHeartbeats 8000000 in
theorem radd_any (h : RF w Z T m hs sl st) (x : Hk) (hlen : hs.length ≤ 1000000) :
    Calls Try.prog 14 #[ptr T, hookV x] w fun e w' => e = .returned (.bool (fresh hs sl x)) ∧ (∃ Z', RF w' Z' T m (if fresh hs sl x then hs ++ [x] else hs) sl st ∧ ∀ k, Z' k → Z k ∨ w.heap.size ≤ k) ∧ Only Z w w' := by
  have hb0 : Below w.heap.size w (w.alloc (.cells (hookC x) 29)) := (Below.refl _ w).alloc (Nat.le_refl _) _
  have hBox := Blk.new w (hookC x) 29
  have hA := h.below hb0
  obtain ⟨lv, hb1, _, _⟩ := hA.body
  have c2 : (w.alloc (.cells (hookC x) 29)).cell? ⟨T, 2, none⟩ = some (.bool sl) := hb1.cell 2 rfl
  have k0 : (w.alloc (.cells (hookC x) 29)).cell? ⟨w.heap.size, 0, none⟩ = some (.string x.name) := hBox.cell 0 rfl
  have HNone : Hid (∀ n, (∃ Z', RF ((w.alloc (.cells (hookC x) 29)).drewN n) Z' T m hs sl st ∧ ∀ k, Z' k → Z k ∨ w.heap.size ≤ k) ∧ Only Z w ((w.alloc (.cells (hookC x) 29)).drewN n)) := Lib.hid (fun n =>
    ⟨⟨Z, hA.below (below_drewN (Below.refl _ _) n), fun k hk => .inl hk⟩, Only.of_below (below_drewN hb0 n)⟩)
  have HFr : Hid (fresh hs sl x = (!x.name.toList.isEmpty && !named hs x.name.data.toList && !sl)) := Lib.hid rfl
  obtain ⟨fr, hfr⟩ : ∃ fr, fr = fresh hs sl x := ⟨_, rfl⟩
  rw [← hfr] at HFr ⊢
  clear hfr
  cases sl with
  | true =>
    obtain rfl : fr = false := by rw [HFr.out]; simp
    have hE := Lib.hid (HNone.out 0)
    clear hA hb1 hBox
    unfold hookC at c2 k0
    unfold ptr hookV hookC
    go_enter Try.func14, Try.ntmps14
    go_wp2
    go_ret
    exact ⟨rfl, hE.out⟩
  | false =>
    by_cases he : x.name.toList = []
    · have e0 : (x.name.toList == []) = true := by simp [he]
      obtain rfl : fr = false := by rw [HFr.out, he]; rfl
      have hE := Lib.hid (HNone.out 0)
      clear hA hb1 hBox
      unfold hookC at c2 k0
      unfold ptr hookV hookC
      go_enter Try.func14, Try.ntmps14
      go_wp2
      go_ret
      exact ⟨rfl, hE.out⟩
    have e0 : (x.name.toList == []) = false := by simp [he]
    have e1 : x.name.toList.isEmpty = false := by simpa using he
    rw [e1] at HFr
    obtain ⟨a, cap, c0, hown, hz, hcell⟩ := hA.rows
    have HA := Lib.hid hA
    have HBox := Lib.hid hBox
    have HB0 := Lib.hid hb0
    have HOwn := Lib.hid hown
    have HZ := Lib.hid hz
    have HCell := Lib.hid hcell
    obtain ⟨n, hn⟩ : ∃ n, n = hs.length := ⟨_, rfl⟩
    rw [← hn] at hlen c0
    have HLn := Lib.hid hn
    obtain ⟨i0, hi, hz0, hz1, hz2⟩ := info_parts hookInfo2
    clear hA hb1 hBox hb0 hown hz hcell hn he e1
    unfold hookC at c0 c2 k0
    unfold ptr hookV hookC
    go_enter Try.func14, Try.ntmps14
    go_wp2_with fail
    go_loopg [5] n (fun G s5 wr => ∃ i : Nat, i + G = n ∧ s5 = .int .i64 i ∧ Hid (Below (w.alloc (.cells (hookC x) 29)).heap.size (w.alloc (.cells (hookC x) 29)) wr) ∧ Hid (named (hs.take i) x.name.data.toList = false))
    case atStart => exact ⟨0, by omega, rfl, Lib.hid (Below.refl _ _), Lib.hid rfl⟩
    case round =>
      obtain ⟨i, hig, rfl, HBw, HNd⟩ := hrel
      have KB : Blk wr w.heap.size (hookC x) 29 := HBox.out.below HBw.out
      have HAr := Lib.hid (HA.out.below HBw.out)
      have c0r : wr.cell? ⟨T, 0, none⟩ = some (.slice a n cap) := by unfold hookC at HBw; exact keep_cell HBw.out c0
      have b0 : wr.cell? ⟨w.heap.size, 0, none⟩ = some (.string x.name) := KB.cell 0 rfl
      have b1 : wr.cell? ⟨w.heap.size, 1, none⟩ = some (.int .i64 x.ph) := KB.cell 1 rfl
      have b2 : wr.cell? ⟨w.heap.size, 2, none⟩ = some (.int .i64 x.pri) := KB.cell 2 rfl
      have b3 : wr.cell? ⟨w.heap.size, 3, none⟩ = some (.string x.trig) := KB.cell 3 rfl
      have b4 : wr.cell? ⟨w.heap.size, 4, none⟩ = some (.int .i64 x.bit) := KB.cell 4 rfl
      have hbwr : Below w.heap.size w wr := below_later HB0.out HBw.out
      have HBwr := Lib.hid hbwr
      clear KB hbwr c0 c2 k0
      cases gk with
      | zero =>
        have hlt : ¬ ((i : Int) < (n : Int)) := by omega
        obtain rfl : fr = true := by
          have h1 := HNd.out
          rw [List.take_of_length_le (by have := HLn.out; omega)] at h1
          rw [HFr.out, h1]; rfl
        have HOr := Lib.hid (fun W (hW : Below wr.heap.size wr W) => owns_keep (owns_keep HOwn.out HBw.out) hW)
        rw [← HLn.out] at HOr
        have HPush := Lib.hid (fun (w1 w3 : World) (g' cap' : Nat) => HAr.out.push HZ.out (x := x) (w1 := w1) (w3 := w3) (g' := g') (cap' := cap'))
        rw [← HLn.out] at HPush
        have HNew : Hid (Blk (wr.alloc (.cells (hookC x) 29)).drew wr.heap.size (hookC x) 29) := Lib.hid (Blk.new wr (hookC x) _)
        have c0a : (wr.alloc (.cells (hookC x) 29)).cell? ⟨T, 0, none⟩ = some (.slice a n cap) := keep_cell ((Below.refl _ wr).alloc (Nat.le_refl _) _) c0r
        unfold hookC at HNew c0a
        go_wp2_with fail
        go_region_law (first
          | (refine step_append_lies _ rfl (.tmp 39) (.tmp 41) 34 rfl 0 29 i0 (.agg #[.string ⟨#[]⟩, .int .i64 0, .int .i64 0, .string ⟨#[]⟩, .int .i64 0]) 5 56 Try.underlying34 hi hz0 hz1 hz2 rfl (by decide) (.slice a n cap) n (rowC hs) (by simp [Act.eval, Act.put]) (HOr.out _ (((Below.refl _ _).alloc (Nat.le_refl _) _).drew)) ⟨wr.heap.size, 0, none⟩ 1 1 (hookC x).toList (by simp [Act.eval, Act.put]) rfl (World.news_of_block HNew.out) (hookC_one x) (by decide) (by unfold maxLen; omega) (by omega) (Nat.zero_le _) _ rfl ?_; intro g' cap' w3 hown3 hgrow3 hat3 hlt3; obtain ⟨hp1, hp2, hp3, hp4⟩ := HPush.out _ _ _ _ (((Below.refl _ _).alloc (Nat.le_refl _) _).drew) hown3 hgrow3 hat3; rw [c0r] at hp3))
        all_goals
          have HP := Lib.hid (And.intro hp1 hp2)
          clear hown3 hgrow3 hat3 hlt3 hp1 hp2
          go_wp2
          go_ret
          obtain ⟨⟨Z', h1, h2⟩, h3⟩ := HP.out
          exact ⟨rfl, ⟨Z', h1, fun k hk => (h2 k hk).imp id fun e => Nat.le_trans HBwr.out.size e⟩, (Only.of_below HBwr.out).trans' h3⟩
      | succ G =>
        have hlt : (i : Int) < (n : Int) := by omega
        obtain ⟨o, ho⟩ : ∃ o, hs[i]? = some o := ⟨_, List.getElem?_eq_getElem (by have := HLn.out; omega)⟩
        obtain ⟨g, rfl, hK⟩ := HCell.out i o ho
        have K := hK wr HBw.out
        have k0 : wr.cell? ⟨g, i * 5, none⟩ = some (.string o.name) := K.c0
        have hi1 : IntKind.i64.wrap ((i : Int) + 1) = ((i + 1 : Nat) : Int) := by rw [IntKind.wrap_i64]; omega
        have HTK : Hid (hs.take (i + 1) = hs.take i ++ [o]) := Lib.hid (by rw [List.take_add_one, ho]; rfl)
        have HHo := Lib.hid ho
        clear K hK ho
        by_cases he : o.name = x.name
        · have e2 : (o.name.toList == x.name.toList) = true := by rw [he]; simp
          obtain rfl : fr = false := by
            obtain ⟨h1, _⟩ := found_at HHo.out (show o.name.data.toList = x.name.data.toList by rw [he]) HNd.out
            rw [HFr.out, h1]; rfl
          clear he
          go_wp2_with fail
          go_big_quiet (fail)
          have HE : Hid ((∃ Z', RF (wr.drewN nq) Z' T m hs false st ∧ ∀ k, Z' k → Z k ∨ w.heap.size ≤ k) ∧ Only Z w (wr.drewN nq)) := Lib.hid
            ⟨⟨Z, HAr.out.below (below_drewN (Below.refl _ _) nq), fun k hk => .inl hk⟩, Only.of_below (below_drewN HBwr.out nq)⟩
          go_wp2
          go_ret
          exact ⟨rfl, HE.out⟩
        · have e2 : (o.name.toList == x.name.toList) = false := by simp only [beq_eq_false_iff_ne]; exact fun e => he (toList_inj.1 e)
          have HNd1 : Hid (named (hs.take (i + 1)) x.name.data.toList = false) := Lib.hid (by
            rw [HTK.out, named_snoc, HNd.out, Bool.false_or]
            simp only [beq_eq_false_iff_ne]; exact fun e => he (bytes_eq e))
          clear he
          go_wp2_with fail
          go_big_quiet (fail)
          have HBn := Lib.hid (Lib.hid (below_drewN HBw.out nq))
          go_wp2
          go_roundg G
          case rel => exact ⟨i + 1, by omega, by first | rfl | go_num, HBn.out, HNd1⟩
          case measure => omega
end
end Rg
end Go.Proofs.Ytemcahbpfjlnlaa
