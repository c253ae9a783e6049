/- RegistrySorted: hooks are told in order of priority; all are of the phase, and on. -/
import Derived.Test.YtemcahbpfjlnlaaRegN
import Derived.Deep.LoopGhost
import Derived.Laws.Cover1
namespace Go.Proofs.Ytemcahbpfjlnlaa
open Go Go.RowKit Rg
namespace RegistrySorted
set_option maxRecDepth 100000
set_option linter.unusedVariables false
set_option linter.unusedSimpArgs false

theorem found_self {hs : List Hk} (hn : Names hs) {o : Hk} (ho : o ∈ hs) : named hs o.name.data.toList = true ∧ found hs o.name.data.toList = o := by
  have h1 : named hs o.name.data.toList = true := named_iff.2 ⟨o, ho, rfl⟩
  obtain ⟨h2, h3⟩ := found_mem h1
  exact ⟨h1, hn.eq h2 ho (bytes_eq h3)⟩
theorem has_self {hs : List Hk} (hn : Names hs) {m p : Int} {o : Hk} (ho : o ∈ told m hs p) : hasB m hs o.name.data.toList = true := by
  obtain ⟨h1, _, h3⟩ := told_mem.1 ho
  obtain ⟨h4, h5⟩ := found_self hn h1
  unfold hasB
  rw [h4, h5, h3]; rfl
/-- One behind the other. -/
theorem two_in_order {m p : Int} {hs : List Hk} (hn : Names hs) {k : Nat} {o' o : Hk} (h1 : (told m hs p)[k]? = some o') (h2 : (told m hs p)[k + 1]? = some o) :
    o'.pri ≤ o.pri ∧ (o'.pri = o.pri → Op.bytesLess o'.name.data.toList o.name.data.toList = true) := by
  have hl2 : k + 1 < (told m hs p).length := (List.getElem?_eq_some_iff.1 h2).1
  have e1 : (told m hs p)[k] = o' := (List.getElem?_eq_some_iff.1 h1).2
  have e2 : (told m hs p)[k + 1] = o := (List.getElem?_eq_some_iff.1 h2).2
  have ho := List.pairwise_iff_getElem.1 (told_order m hs p) k (k + 1) (by omega) hl2 (by omega)
  have hne := List.pairwise_iff_getElem.1 (told_names hn m p) k (k + 1) (by omega) hl2 (by omega)
  rw [e1, e2] at ho hne
  rw [cmpH_lt] at ho
  refine ⟨by omega, fun e => ?_⟩
  rw [cb_lt, decide_eq_true_eq]
  have h3 := cb_neg o'.name.data.toList o.name.data.toList
  have h4 : ¬ Lib.compareBytes o'.name.data.toList o.name.data.toList = 0 := fun e => hne (bytes_eq (cb_zero e))
  have h5 : ¬ Lib.compareBytes o.name.data.toList o'.name.data.toList < 0 := fun h => ho (.inr ⟨e.symm, h⟩)
  omega
theorem take_at {α : Type} {L : List α} {j : Nat} {o : α} (h : L[j]? = some o) : L = L.take j ++ o :: L.drop (j + 1) := by
  have hl : j < L.length := (List.getElem?_eq_some_iff.1 h).1
  have e : L[j] = o := (List.getElem?_eq_some_iff.1 h).2
  conv => lhs; rw [← List.take_append_drop j L]
  rw [List.drop_eq_getElem_cons hl, e]
theorem filter_at {L : List Hk} {P : Hk → Bool} {j : Nat} {o : Hk} (h : L[j]? = some o) (hP : P o = true) : (L.filter P)[((L.take j).filter P).length]? = some o := by
  have e2 : L.filter P = (L.take j).filter P ++ o :: (L.drop (j + 1)).filter P := by
    have := congrArg (List.filter P) (take_at h)
    rw [List.filter_append, List.filter_cons_of_pos hP] at this
    exact this
  rw [e2, List.getElem?_append_right (Nat.le_refl _), Nat.sub_self]
  rfl
theorem filter_past {L : List Hk} (hn : Names L) {P : Hk → Bool} {j : Nat} {o q : Hk} (h : L[j]? = some o) (hP : ¬ P o = true) (hq : (L.filter P)[((L.take j).filter P).length]? = some q) : q.name ≠ o.name := by
  have e2 : L.filter P = (L.take j).filter P ++ (L.drop (j + 1)).filter P := by
    have := congrArg (List.filter P) (take_at h)
    rw [List.filter_append, List.filter_cons_of_neg hP] at this
    exact this
  rw [e2, List.getElem?_append_right (Nat.le_refl _), Nat.sub_self] at hq
  have hq2 : q ∈ L.drop (j + 1) := (List.mem_filter.1 (List.mem_of_getElem? hq)).1
  have hn2 : (L.take j ++ o :: L.drop (j + 1)).Pairwise fun a b => a.name ≠ b.name := (take_at h) ▸ hn
  exact fun e => (List.pairwise_cons.1 (List.pairwise_append.1 hn2).2.1).1 q hq2 e.symm
theorem filter_take_snoc {L : List Hk} {P : Hk → Bool} {j : Nat} {o : Hk} (h : L[j]? = some o) : ((L.take (j + 1)).filter P).length = ((L.take j).filter P).length + (if P o then 1 else 0) := by
  have : L.take (j + 1) = L.take j ++ [o] := by rw [List.take_add_one, h]; rfl
  rw [this, List.filter_append, List.length_append]
  cases hP : P o <;> simp [List.filter, hP]

set_option maxHeartbeats 8000000 in
theorem law_any (mask : Int) (v : Value) (l : List Hk) (ph b : Int) (w : World) (hm : wfI mask) (hl : Hooks w v l) (hg : ∀ x ∈ l, HkIn x) (hph : wfI ph) (hb0 : 0 ≤ b) (hb1 : b ≤ 255) :
    Calls Try.prog 6 #[.int .i64 mask, v, .int .i64 ph, .int .u8 b] w fun e w' => e = .returned (.bool true) ∧ Below w.heap.size w w' := by
  obtain ⟨a, cap, rfl, hlm, hc⟩ := hl
  have HA := Lib.hid (fun W => awake_any W)
  have HN1 := Lib.hid (fun W => At.new W mask)
  have HC := Lib.hid hc
  clear hc
  obtain ⟨n, hn⟩ : ∃ n, n = l.length := ⟨_, rfl⟩
  rw [← hn] at hlm ⊢
  have HLn := Lib.hid hn
  clear hn
  go_enter Try.func6, Try.ntmps6
  go_wp2_with fail
  refine (HA.out _).mono ?_
  rintro e w1 ⟨rfl, hb1⟩
  have HB1 := Lib.hid hb1
  clear hb1
  by_cases h60 : (60 : Int) < (n : Int)
  · go_wp2
    go_ret
    exact ⟨rfl, HB1.out⟩
  go_wp2_with fail
  refine (HN1.out _).mono ?_
  rintro e w2 ⟨A, rfl, X, hA⟩
  have hT : At w w2 X A (bits .and .i64 mask 127) (addAll [] (l.take 0)) false 0 := hA.from HB1.out
  clear hA HN1 HA HB1
  unfold ptr
  go_wp2_with fail
  go_loopg [11] n (fun G s11 wr => ∃ i : Nat, i + G = n ∧ s11 = .int .i64 i ∧ At w wr X A (bits .and .i64 mask 127) (addAll [] (l.take i)) false 0)
  case atStart => exact ⟨0, by omega, rfl, hT⟩
  case round =>
    obtain ⟨i, hig, rfl, hT1⟩ := hrel
    have HT := Lib.hid hT1
    clear hT
    have hal := addAll_len (l.take i) []
    rw [List.length_take] at hal
    simp only [List.length_nil, Nat.zero_add] at hal
    cases gk with
    | zero =>
      have hlt : ¬ ((i : Int) < (n : Int)) := by omega
      have HS := Lib.hid (hT1.sorted ph hph)
      have hnames := hT1.rb.names
      unfold ptr at HS
      clear hT1
      go_wp2_with fail
      refine HS.out.mono ?_
      rintro e w4 ⟨v1, rfl, hv1, X', hT2⟩
      have HF := Lib.hid (hT2.for2 ph hph b (by assumption) (by assumption))
      have hall := fun y (hy : y ∈ told (bits .and .i64 mask 127) (addAll [] (l.take i)) ph) => (told_mem.1 hy).2
      have hhas := fun y (hy : y ∈ told (bits .and .i64 mask 127) (addAll [] (l.take i)) ph) => has_self hnames hy
      have hlen1 := told_len (bits .and .i64 mask 127) ph (addAll [] (l.take i))
      have hord := fun k o' o => two_in_order (m := bits .and .i64 mask 127) (p := ph) (k := k) (o' := o') (o := o) hnames
      have hnm := told_names hnames (bits .and .i64 mask 127) ph
      have hokk := fun y (hy : y ∈ told (bits .and .i64 mask 127) (addAll [] (l.take i)) ph) => HT.out.rb.ok y (told_mem.1 hy).1
      obtain ⟨L1, hL1⟩ : ∃ L1, L1 = told (bits .and .i64 mask 127) (addAll [] (l.take i)) ph := ⟨_, rfl⟩
      rw [← hL1] at hv1 hall hlen1 hhas hord hnm HF hokk
      unfold ptr at HF
      clear hL1 HS hT2
      go_wp2_with fail
      refine HF.out.mono ?_
      rintro e w5 ⟨v2, rfl, hv2, hT3, hb5⟩
      have hv1' := hv1.keep hb5
      obtain ⟨a1, cap1, rfl, _, hc1⟩ := hv1'
      obtain ⟨a2, cap2, rfl, _, hc2⟩ := hv2
      have HC1 := Lib.hid hc1
      have HC2 := Lib.hid hc2
      have HAll := Lib.hid hall
      have HHas := Lib.hid hhas
      have HOrd := Lib.hid hord
      have HNm := Lib.hid hnm
      have HOk := Lib.hid hokk
      clear hall hc1 hc2 hhas hord hnm hokk hv1 hb5 HF hnames HT
      obtain ⟨hs, hhs⟩ : ∃ hs, hs = addAll [] (l.take i) := ⟨_, rfl⟩
      rw [← hhs] at hT3 HHas hlen1 hal
      clear hhs
      have HMask : Hid (∀ y ∈ L1, ¬ y.bit = 0 → ¬ bits .and .i64 (bits .and .i64 y.bit mask) 127 = 0) := Lib.hid (fun y hy h0 => onB_mask127 (HAll.out y hy).2 h0)
      generalize bits .and .i64 mask 127 = m1 at *
      obtain ⟨n1, hn1⟩ : ∃ n1, n1 = L1.length := ⟨_, rfl⟩
      rw [← hn1] at hlen1 ⊢
      have HN1 := Lib.hid hn1
      obtain ⟨n2, hn2⟩ : ∃ n2, n2 = (L1.filter (trigB b)).length := ⟨_, rfl⟩
      have hn21 : n2 ≤ n1 := by rw [hn2, hn1]; exact List.length_filter_le _ _
      rw [← hn2]
      have HN2 := Lib.hid hn2
      clear hn1 hn2
      go_wp2_with fail
      go_loopg [14, 15] n1 (fun G s14 s15 wr => ∃ j : Nat, j + G = n1 ∧ s15 = .int .i64 j ∧ s14 = .int .i64 (((L1.take j).filter (trigB b)).length : Nat) ∧ At w wr X' A m1 hs true 0 ∧ Below w5.heap.size w5 wr)
      case atStart => exact ⟨0, by omega, rfl, rfl, hT3, Below.refl _ _⟩
      case round =>
        obtain ⟨j, hjg, rfl, rfl, hT4, hbw⟩ := hrel
        cases gk with
        | zero =>
          have hlt2 : ¬ ((j : Int) < (n1 : Int)) := by omega
          have he : ((L1.take j).filter (trigB b)).length = n2 := by rw [List.take_of_length_le (by have := HN1.out; omega), HN2.out]
          have hb := hT4.on
          rw [he]
          clear hT4 hT3 hbw
          go_wp2
          go_ret
          exact ⟨rfl, hb⟩
        | succ G =>
          have hlt2 : (j : Int) < (n1 : Int) := by omega
          obtain ⟨o, ho⟩ : ∃ o, L1[j]? = some o := ⟨_, List.getElem?_eq_getElem (by have := HN1.out; omega)⟩
          rcases HC1.out with rfl | ⟨b1, off1, rfl, hcell⟩
          · simp at ho
          have K := (hcell j o ho).keep hbw
          have c0 : wr.cell? ⟨b1, off1 + j * 5, none⟩ = some (.string o.name) := K.c0
          have c1 : wr.cell? ⟨b1, off1 + j * 5 + 1, none⟩ = some (.int .i64 o.ph) := K.c1
          have c4 : wr.cell? ⟨b1, off1 + j * 5 + 4, none⟩ = some (.int .i64 o.bit) := K.c4
          have hmem := List.mem_of_getElem? ho
          obtain ⟨hoph, hon⟩ := HAll.out o hmem
          have hself := HHas.out o hmem
          have hmask := HMask.out o hmem
          have HK := Lib.hid (fun W (hW : Below wr.heap.size wr W) => K.keep hW)
          have HSf := Lib.hid (hT4.has2 o.name (HOk.out o hmem).1)
          rw [hself] at HSf
          unfold ptr at HSf
          have HBw := Lib.hid hbw
          clear K hself hT4 hbw hmem hon
          have e1 : (o.ph != ph) = false := by simp [hoph]
          go_upto_region 17 with fail
          go_cut [100] from 65 to 163 (fun v100 wx => v100 = .bool false ∧ At w wx X' A m1 hs true 0 ∧ Below wr.heap.size wr wx)
          case first =>
            by_cases h0 : o.bit = 0
            · have e0 : (o.bit != 0) = false := by simp [h0]
              go_wp2_with fail
              refine HSf.out.mono ?_
              rintro e w6 ⟨rfl, hT5, hb6⟩
              have H5 := Lib.hid hT5
              have HB6 := Lib.hid hb6
              clear hT5 hb6
              go_wp2
              go_meet
              exact ⟨rfl, H5.out, HB6.out⟩
            · have e0 : (o.bit != 0) = true := by simp [h0]
              have e2 : (bits .and .i64 (bits .and .i64 o.bit mask) 127 == 0) = false := by simpa using hmask h0
              go_wp2_with fail
              refine HSf.out.mono ?_
              rintro e w6 ⟨rfl, hT5, hb6⟩
              have H5 := Lib.hid hT5
              have HB6 := Lib.hid hb6
              clear hT5 hb6
              go_wp2
              go_meet
              exact ⟨rfl, H5.out, HB6.out⟩
          obtain ⟨rfl, hT5, hb6⟩ := hcut
          have H5 := Lib.hid hT5
          have HB6 := Lib.hid hb6
          have K := HK.out _ hb6
          have c0 : wc.cell? ⟨b1, off1 + j * 5, none⟩ = some (.string o.name) := K.c0
          have c2 : wc.cell? ⟨b1, off1 + j * 5 + 2, none⟩ = some (.int .i64 o.pri) := K.c2
          clear hT5 hb6 K c1 c4
          go_upto_region 19 with fail
          go_cut [144] from 65 to 163 (fun v144 wx => v144 = .bool false ∧ At w wx X' A m1 hs true 0 ∧ Below wr.heap.size wr wx)
          case first =>
            have HEnd : Hid (∀ n, At w (wc.drewN n) X' A m1 hs true 0 ∧ Below wr.heap.size wr (wc.drewN n)) := Lib.hid (fun n => ⟨H5.out.then_below (below_drewN (Below.refl _ _) n), below_drewN HB6.out n⟩)
            by_cases hj0 : (0 : Int) < (j : Int)
            · obtain ⟨k, rfl⟩ : ∃ k, j = k + 1 := ⟨j - 1, by omega⟩
              obtain ⟨o', ho'⟩ : ∃ o', L1[k]? = some o' := ⟨_, List.getElem?_eq_getElem (by have := HN1.out; omega)⟩
              have K' := (hcell k o' ho').keep (below_later HBw.out HB6.out)
              have d0 : wc.cell? ⟨b1, off1 + k * 5, none⟩ = some (.string o'.name) := K'.c0
              have d2 : wc.cell? ⟨b1, off1 + k * 5 + 2, none⟩ = some (.int .i64 o'.pri) := K'.c2
              obtain ⟨hp, hpn⟩ := HOrd.out k o' o ho' ho
              have hsub : IntKind.i64.wrap (((k + 1 : Nat) : Int) - 1) = (k : Int) := by rw [IntKind.wrap_i64]; omega
              have hsub2 : IntKind.i64.wrap ((k : Int) + 1 - 1) = (k : Int) := by rw [IntKind.wrap_i64]; omega
              have hsub3 : IntKind.i64.wrap (k : Int) = (k : Int) := by rw [IntKind.wrap_i64]; omega
              have hkl : (k : Int) < (n1 : Int) := by omega
              have q1 : decide (o.pri < o'.pri) = false := by simp; omega
              clear K' ho' ho hcell
              by_cases hpe : o'.pri = o.pri
              · have q2 : (o'.pri == o.pri) = true := by simp [hpe]
                have q3 := hpn hpe
                rw [← toList_eq, ← toList_eq] at q3
                clear hpn hpe
                go_wp2_with fail
                go_big_quiet (fail)
                go_wp2
                go_meet
                exact ⟨rfl, HEnd.out _⟩
              · have q2 : (o'.pri == o.pri) = false := by simp [hpe]
                clear hpn
                go_wp2_with fail
                go_big_quiet (fail)
                go_wp2
                go_meet
                exact ⟨rfl, HEnd.out _⟩
            · obtain rfl : j = 0 := by omega
              go_wp2_with fail
              go_big_quiet (fail)
              go_wp2
              go_meet
              exact ⟨rfl, HEnd.out _⟩
          obtain ⟨rfl, hT6, hb7⟩ := hcut
          have H6 := Lib.hid hT6
          have HB7 := Lib.hid hb7
          have K := HK.out _ hb7
          have c0 : wc.cell? ⟨b1, off1 + j * 5, none⟩ = some (.string o.name) := K.c0
          obtain ⟨cnt, hcnt⟩ : ∃ cnt, cnt = ((L1.take j).filter (trigB b)).length := ⟨_, rfl⟩
          rw [← hcnt]
          have HCnt := Lib.hid hcnt
          have hb5 := below_later HBw.out hb7
          clear hT6 hb7 K c2 hcnt
          go_upto_region 21 with fail
          go_cut [161] from 65 to 163 (fun v161 wx => v161 = .bool (trigB b o) ∧ At w wx X' A m1 hs true 0 ∧ Below wr.heap.size wr wx)
          case first =>
            have HEnd : Hid (∀ n, At w (wc.drewN n) X' A m1 hs true 0 ∧ Below wr.heap.size wr (wc.drewN n)) := Lib.hid (fun n => ⟨H6.out.then_below (below_drewN (Below.refl _ _) n), below_drewN HB7.out n⟩)
            have HCLe : Hid (cnt ≤ n2) := Lib.hid (by rw [HCnt.out, HN2.out]; exact ((List.take_sublist j L1).filter _).length_le)
            cases htr : trigB b o with
            | true =>
              have hq := filter_at (P := trigB b) ho htr
              rw [← HCnt.out] at hq
              have hcl : (cnt : Int) < (n2 : Int) := by
                have := (List.getElem?_eq_some_iff.1 hq).1
                rw [← HN2.out] at this; omega
              rcases HC2.out with h0 | ⟨b2, off2, rfl, hcell2⟩
              · rw [h0] at hq; simp at hq
              have K2 := (hcell2 cnt o hq).keep hb5
              have d0 : wc.cell? ⟨b2, off2 + cnt * 5, none⟩ = some (.string o.name) := K2.c0
              have e3 : (o.name.toList == o.name.toList) = true := by simp
              clear K2 hcell2 hq ho hcell
              go_wp2_with fail
              go_big_quiet (fail)
              go_wp2
              go_meet
              exact ⟨by rw [htr], HEnd.out _⟩
            | false =>
              by_cases hcl : (cnt : Int) < (n2 : Int)
              · obtain ⟨q, hq⟩ : ∃ q, (L1.filter (trigB b))[cnt]? = some q := ⟨_, List.getElem?_eq_getElem (by rw [← HN2.out]; omega)⟩
                have hne := filter_past (P := trigB b) (q := q) HNm.out ho (by rw [htr]; exact Bool.false_ne_true) (by rw [← HCnt.out]; exact hq)
                rcases HC2.out with h0 | ⟨b2, off2, rfl, hcell2⟩
                · rw [h0] at hq; simp at hq
                have K2 := (hcell2 cnt q hq).keep hb5
                have d0 : wc.cell? ⟨b2, off2 + cnt * 5, none⟩ = some (.string q.name) := K2.c0
                have e3 : (q.name.toList == o.name.toList) = false := by
                  simp only [beq_eq_false_iff_ne]; exact fun e => hne (toList_inj.1 e)
                clear K2 hcell2 hq ho hcell hne
                go_wp2_with fail
                go_big_quiet (fail)
                go_wp2
                go_meet
                exact ⟨by rw [htr], HEnd.out _⟩
              · have hcl2 : cnt = n2 := by have := HCLe.out; omega
                subst hcl2
                clear ho hcell
                go_wp2_with fail
                go_big_quiet (fail)
                go_wp2
                go_meet
                exact ⟨by rw [htr], HEnd.out _⟩
          obtain ⟨rfl, hT7, hb8⟩ := hcut
          have H7 := Lib.hid (And.intro hT7 (below_later HBw.out hb8))
          have HTS := Lib.hid (filter_take_snoc (P := trigB b) ho)
          have hj1 : IntKind.i64.wrap ((j : Int) + 1) = ((j + 1 : Nat) : Int) := by rw [IntKind.wrap_i64]; omega
          have hcle : cnt ≤ n1 := by rw [HCnt.out]; exact Nat.le_trans (List.length_filter_le _ _) (by rw [List.length_take]; omega)
          have hc1 : IntKind.i64.wrap ((cnt : Int) + 1) = ((cnt + 1 : Nat) : Int) := by rw [IntKind.wrap_i64]; omega
          clear hT7 hb8 ho hcell c0 hb5
          cases htr : trigB b o with
          | true =>
            go_wp2
            go_roundg G
            case rel => exact ⟨j + 1, by omega, by first | rfl | go_num, by rw [HTS.out, htr, ← HCnt.out]; first | rfl | go_num | (congr 1; simp), H7.out.1, H7.out.2⟩
            case measure => omega
          | false =>
            go_wp2
            go_roundg G
            case rel => exact ⟨j + 1, by omega, by first | rfl | go_num, by rw [HTS.out, htr, ← HCnt.out]; first | rfl | go_num | (congr 1; simp), H7.out.1, H7.out.2⟩
            case measure => omega
    | succ G =>
      have hlt : (i : Int) < (n : Int) := by omega
      obtain ⟨x, hx⟩ : ∃ x, l[i]? = some x := ⟨_, List.getElem?_eq_getElem (by have := HLn.out; omega)⟩
      have hTK : l.take (i + 1) = l.take i ++ [x] := by rw [List.take_add_one, hx]; rfl
      rcases HC.out with rfl | ⟨b, off, rfl, hcell⟩
      · simp at hx
      have K := (hcell i x hx).carry fun off' v hv => keep_cell hT1.on hv
      have c0 : wr.cell? ⟨b, off + i * 5, none⟩ = some (.string x.name) := K.c0
      have c1 : wr.cell? ⟨b, off + i * 5 + 1, none⟩ = some (.int .i64 x.ph) := K.c1
      have c2 : wr.cell? ⟨b, off + i * 5 + 2, none⟩ = some (.int .i64 x.pri) := K.c2
      have c3 : wr.cell? ⟨b, off + i * 5 + 3, none⟩ = some (.string x.trig) := K.c3
      have c4 : wr.cell? ⟨b, off + i * 5 + 4, none⟩ = some (.int .i64 x.bit) := K.c4
      have hin := hg x (List.mem_of_getElem? hx)
      have hb := hT1.on
      clear K hcell hx
      by_cases h1 : (300 : Int) < (x.name.size : Int)
      · go_wp2
        go_ret
        exact ⟨rfl, hb⟩
      by_cases h2 : (300 : Int) < (x.trig.size : Int)
      · go_wp2
        go_ret
        exact ⟨rfl, hb⟩
      have hok : HkOk x := hin.ok (by omega) (by omega)
      have HAd := Lib.hid (addAll_snoc (l.take i) [] x)
      have HTK := Lib.hid hTK
      have HS1 := Lib.hid (hT1.add x hok (by omega))
      unfold ptr hookV hookC at HS1
      have hi1 : IntKind.i64.wrap ((i : Int) + 1) = ((i + 1 : Nat) : Int) := by rw [IntKind.wrap_i64]; omega
      clear hT1 hb HT hTK hin
      go_wp2_with fail
      refine HS1.out.mono ?_
      rintro e w4 ⟨rfl, hT3⟩
      rw [← HAd.out, ← HTK.out] at hT3
      have HT3 := Lib.hid hT3
      clear HS1 hT3
      go_wp2
      go_roundg G
      case rel => exact ⟨i + 1, by omega, by first | rfl | go_num, HT3.out⟩
      case measure => omega
end RegistrySorted
end Go.Proofs.Ytemcahbpfjlnlaa
