/- Walks of layer 12, the sixth part: the reference's codes. -/
import Derived.Test.YtapibalcekedfaaGreatDoorSpE
namespace Go.Proofs.YtapibalcekedfaaGreatDoor
open Go Go.RowKit
namespace Sp
open Sc
set_option maxRecDepth 100000
set_option linter.unusedVariables false
set_option linter.unusedSimpArgs false

/-- A row of bytes in memory. -/
def BA (w : World) (g : Nat) (l : List UInt8) : Prop := ∃ (cs : Array Value) (lo hi : Nat), w.heap[g]? = some (.cells cs 5 (lo, hi)) ∧ l.length ≤ lo ∧ ∀ i (h : i < l.length), cs[i]? = some (.int .u8 (l[i].toNat : Int))
theorem BA.cell {w : World} {g : Nat} {l : List UInt8} (h : BA w g l) {i : Nat} {c : UInt8} (hi : l[i]? = some c) : w.cell? ⟨g, i, none⟩ = some (.int .u8 (c.toNat : Int)) := by
  obtain ⟨cs, lo, hi2, hb, hlo, hc⟩ := h
  obtain ⟨h1, h2⟩ := List.getElem?_eq_some_iff.1 hi
  have := hc i h1
  rw [h2] at this
  simp [World.cell?, hb, this]
theorem BA.fr {w : World} {g : Nat} {l : List UInt8} (h : BA w g l) {i : Nat} (hi : i < l.length) : w.frozen? ⟨g, i, none⟩ = false := by
  obtain ⟨cs, lo, hi2, hb, hlo, hc⟩ := h
  simp [World.frozen?, hb]
  omega
theorem BA.set {w : World} {g : Nat} {l : List UInt8} (h : BA w g l) (i : Nat) (c : UInt8) (hi : i < l.length) : BA (w.setCell ⟨g, i, none⟩ (.int .u8 (c.toNat : Int))) g (l.set i c) := by
  obtain ⟨cs, lo, hi2, hb, hlo, hc⟩ := h
  refine ⟨cs.setIfInBounds i (.int .u8 (c.toNat : Int)), lo, hi2, ?_, by rw [List.length_set]; exact hlo, ?_⟩
  · simp only [World.setCell, Array.getElem?_modify, if_pos, hb, Option.map_some]
    rfl
  · intro j hj
    rw [List.length_set] at hj
    have hcs : i < cs.size := (Array.getElem?_eq_some_iff.1 (hc i hi)).1
    by_cases hij : i = j
    · subst hij
      rw [Array.getElem?_setIfInBounds_self_of_lt hcs]
      simp
    · rw [Array.getElem?_setIfInBounds_ne hij, hc j hj]
      simp [List.getElem_set_ne hij]
theorem conv_ba (s : ByteArray) (w : World) : ∃ cap W', (convert 9 33 (.string s)).run Tryz.prog w = .ok (.slice (some ⟨w.heap.size, 0, none⟩) s.size cap) W' ∧ BA W' w.heap.size s.data.toList ∧ Below w.heap.size w W' ∧ s.size ≤ cap := by
  refine ⟨_, _, run_bytes_of_string w 9 33 5 s Tryz.underlying9 Tryz.underlying33 Tryz.underlying5, ?_, (Below.refl _ w).drew.alloc (Nat.le_refl _) _, grownCap_ge _ _ _ _⟩
  refine ⟨_, _, _, new_block w.drew _, ?_, ?_⟩
  · rw [sz]; simp [bytesRow]
  · intro i hi
    have hi2 : i < s.data.size := by simpa using hi
    rw [bytesRow_at s _ i hi2]
    simp
theorem conv_back {w : World} {g cap n o : Nat} {l m : List UInt8} (h : BA w g l) (hm : l.drop o = m ++ l.drop (o + n)) (hn : m.length = n) : (convert 33 9 (.slice (some ⟨g, o, none⟩) n cap)).run Tryz.prog w = .ok (.string ⟨m.toArray⟩) w := by
  subst hn
  refine run_convert_bytes_back w 33 9 5 ⟨g, o, none⟩ cap m Tryz.underlying33 Tryz.underlying5 Tryz.underlying9 ?_
  intro j hj
  have h1 : (⟨g, o, none⟩ : Addr).add j = ⟨g, o + j, none⟩ := by
    unfold Addr.add
    split
    · subst_vars; rfl
    · simp
  rw [h1]
  refine h.cell ?_
  have : (l.drop o)[j]? = some m[j] := by rw [hm, List.getElem?_append_left hj]; exact List.getElem?_eq_getElem hj
  rwa [List.getElem?_drop] at this

/-- What Code answers. -/
def codeV : Option (List UInt8 × Nat) → Value
  | none => .tuple #[.string ⟨#[]⟩, .int .i64 0]
  | some (x, n) => .tuple #[.string ⟨x.toArray⟩, .int .i64 (n : Int)]
/-- What a search that stands at i answers. -/
def codeAt (l : List UInt8) (n i : Nat) : Option (List UInt8 × Nat) := (seek n 0 (l.drop i)).map fun k => (content (seg l n (i + k)), i + k + n)
theorem codeAt_start {l : List UInt8} (h : l.head? = some 96) : codeP l = codeAt l (runP l) (runP l) := by
  unfold codeP codeAt
  rw [if_pos h]
  congr 1
  funext k
  unfold seg
  rw [List.drop_take]
  congr 3
  omega
theorem codeAt_end {l : List UInt8} {n i : Nat} (h : l.length ≤ i) : codeAt l n i = none := by
  unfold codeAt
  rw [List.drop_eq_nil_of_le h, seek_nil]; rfl
theorem codeAt_miss {l : List UInt8} {n i : Nat} {c : UInt8} (hc : l[i]? = some c) (h : c ≠ 96) : codeAt l n i = codeAt l n (i + 1) := by
  obtain ⟨h1, h2⟩ := List.getElem?_eq_some_iff.1 hc
  have hd : l.drop i = c :: l.drop (i + 1) := by rw [← h2]; exact List.drop_eq_getElem_cons h1
  unfold codeAt
  rw [hd, seek_miss _ h, Option.map_map]
  congr 1
  funext k
  simp only [Function.comp]
  rw [show i + (k + 1) = i + 1 + k by omega]
theorem runP_96 {l : List UInt8} (h : l.head? = some 96) : runP l = Sc.runN 96 l := by
  cases l with
  | nil => cases h
  | cons c t => obtain rfl := Option.some.inj h; rfl
theorem codeAt_run {l : List UInt8} {n i : Nat} (hc : l[i]? = some 96) (h : runP (l.drop i) ≠ n) : codeAt l n i = codeAt l n (i + runP (l.drop i)) := by
  obtain ⟨h1, h2⟩ := List.getElem?_eq_some_iff.1 hc
  have hd : l.drop i = 96 :: l.drop (i + 1) := by rw [← h2]; exact List.drop_eq_getElem_cons h1
  rw [runP_96 (by rw [hd]; rfl)] at h ⊢
  unfold codeAt
  rw [← List.drop_drop]
  rw [hd] at h ⊢
  rw [seek_run _ h, Option.map_map]
  congr 1
  funext k
  simp only [Function.comp]
  rw [show i + (k + Sc.runN 96 (96 :: l.drop (i + 1))) = i + Sc.runN 96 (96 :: l.drop (i + 1)) + k by omega]
theorem codeAt_hit {l : List UInt8} {n i : Nat} (hc : l[i]? = some 96) (h : runP (l.drop i) = n) : codeAt l n i = some (content (seg l n i), i + n) := by
  obtain ⟨h1, h2⟩ := List.getElem?_eq_some_iff.1 hc
  have hd : l.drop i = 96 :: l.drop (i + 1) := by rw [← h2]; exact List.drop_eq_getElem_cons h1
  rw [runP_96 (by rw [hd]; rfl)] at h
  unfold codeAt
  rw [hd] at h ⊢
  rw [seek_hit _ h]; rfl

theorem mapset {l : List UInt8} {j : Nat} {c : UInt8} (h : l[j]? = some c) : ((l.take j).map bl10 ++ l.drop j).set j (bl10 c) = (l.take (j + 1)).map bl10 ++ l.drop (j + 1) ∧ ((l.take j).map bl10 ++ l.drop j)[j]? = some c := by
  obtain ⟨h1, h2⟩ := List.getElem?_eq_some_iff.1 h
  have hd : l.drop j = c :: l.drop (j + 1) := by rw [← h2]; exact List.drop_eq_getElem_cons h1
  have hlen : ((l.take j).map bl10).length = j := by rw [List.length_map, List.length_take]; omega
  constructor
  · rw [hd, List.set_append_right _ _ (by omega), hlen, Nat.sub_self, List.set_cons_zero, take_snoc h]
    simp
  · rw [List.getElem?_append_right (by omega), hlen, Nat.sub_self, hd]
    rfl
theorem mapkeep {l : List UInt8} {j : Nat} {c : UInt8} (h : l[j]? = some c) (hc : bl10 c = c) : (l.take j).map bl10 ++ l.drop j = (l.take (j + 1)).map bl10 ++ l.drop (j + 1) := by
  have h1 := mapset h
  rw [← h1.1, hc]
  obtain ⟨g1, g2⟩ := List.getElem?_eq_some_iff.1 h1.2
  conv => rhs; rw [← g2]
  exact (List.set_getElem_self g1).symm
theorem other_snoc {l : List UInt8} {j : Nat} {c : UInt8} (h : l[j]? = some c) : other ((l.take (j + 1)).map bl10) = (other ((l.take j).map bl10) || bl10 c != 32) := by
  unfold other
  rw [take_snoc h, List.map_append, List.any_append]
  simp

set_option maxHeartbeats 8000000 in
theorem rcode_any (s : ByteArray) (w : World) (hs : s.size ≤ 1000000) :
    Calls Tryz.prog 11 #[.string s] w fun e w' => e = .returned (codeV (codeP s.data.toList)) ∧ Below w.heap.size w w' := by
  have hs' : (s.size : Int) ≤ 1000000 := by omega
  obtain ⟨V, hV⟩ : ∃ V, codeV (codeP s.data.toList) = V := ⟨_, rfl⟩
  rw [hV]
  have HV := Lib.hid hV.symm
  clear hV
  by_cases h0 : 0 < s.size
  · have he := emp_f h0
    have h0' : (0 : Int) < (s.size : Int) := by omega
    obtain ⟨c, hc⟩ : ∃ c, s[0] = c := ⟨_, rfl⟩
    have hhead : s.data.toList.head? = some c := by
      have := get_of h0 hc
      rwa [List.head?_eq_getElem?]
    by_cases h96 : c = 96
    · subst h96
      have HRun := Lib.hid (rrun_any s w hs)
      have hnl := runP_le s.data.toList
      rw [sz] at hnl
      have hn1 := runP_pos (l := s.data.toList) (by intro h; rw [h] at hhead; cases hhead)
      have HV1 : Hid (V = codeV (codeAt s.data.toList (runP s.data.toList) (runP s.data.toList))) := Lib.hid (by rw [HV.out, codeAt_start hhead])
      generalize runP s.data.toList = n at *
      clear hhead
      go_enter Tryz.func11, Tryz.ntmps11
      go_wp2_with fail
      refine HRun.out.mono ?_
      rintro e w1 ⟨rfl, hb1⟩
      have HB1 := Lib.hid hb1
      clear hb1 hc HRun
      go_wp2_with fail
      go_loopg [5] (s.size - n) (fun G v5 wr => ∃ i : Nat, i + G = s.size ∧ n ≤ i ∧ v5 = .int .i64 (i : Int) ∧ Hid (Below w.heap.size w wr) ∧ Hid (V = codeV (codeAt s.data.toList n i)))
      case atStart => exact ⟨n, by omega, by omega, rfl, HB1, HV1⟩
      case round =>
        obtain ⟨i, hig, hni, rfl, HB, HR⟩ := hrel
        clear HB1 HV1
        by_cases hlt : i < s.size
        · obtain ⟨x, hx⟩ : ∃ x, s[i] = x := ⟨_, rfl⟩
          have hlt' : (i : Int) < (s.size : Int) := by omega
          have hget := get_of hlt hx
          by_cases hx96 : x = 96
          · subst hx96
            have hle' : (i : Int) ≤ (s.size : Int) := by omega
            obtain ⟨S, hS⟩ : ∃ S, s.extract i s.size = S := ⟨_, rfl⟩
            have HSl : Hid (S.data.toList = s.data.toList.drop i) := Lib.hid (by rw [← hS, ext_rest])
            have hSs : S.size + i = s.size := by rw [← sz, HSl.out, List.length_drop, sz]; omega
            have HRun := Lib.hid (rrun_any S wr (by omega))
            have hkl := runP_le S.data.toList
            have hk1 := runP_pos (l := S.data.toList) (by intro h; have := congrArg List.length h; rw [sz, List.length_nil] at this; omega)
            rw [sz] at hkl
            have HK1 : Hid (runP S.data.toList ≠ n → codeAt s.data.toList n i = codeAt s.data.toList n (i + runP S.data.toList)) := Lib.hid (by rw [HSl.out]; exact fun h => codeAt_run hget h)
            have HK2 : Hid (runP S.data.toList = n → codeAt s.data.toList n i = some (content (seg s.data.toList n i), i + n)) := Lib.hid (by rw [HSl.out]; exact fun h => codeAt_hit hget h)
            generalize runP S.data.toList = k at *
            clear hget HSl
            by_cases hkn : k = n
            · subst hkn
              have hkk : ((k : Int) != (k : Int)) = false := by simp
              have HV3 : Hid (V = .tuple #[.string ⟨(content (seg s.data.toList k i)).toArray⟩, .int .i64 ((i : Int) + (k : Int))]) := Lib.hid (by
                rw [HR.out, HK2.out rfl]
                show Value.tuple #[.string ⟨(content (seg s.data.toList k i)).toArray⟩, .int .i64 ((i + k : Nat) : Int)] = _
                rw [Int.natCast_add])
              have hki : (k : Int) ≤ (i : Int) := by omega
              obtain ⟨M, hM⟩ : ∃ M, s.extract k i = M := ⟨_, rfl⟩
              have HMl : Hid (M.data.toList = seg s.data.toList k i) := Lib.hid (by
                rw [← hM, Lib.extract_data]
                unfold seg
                rw [List.drop_take])
              have hMs : M.size + k = i := by rw [← sz, HMl.out, seg_len (by rw [sz]; omega)]; omega
              rw [← HMl.out] at HV3
              have HMs := Lib.hid hMs
              have hMz : M.size ≤ 1000000 := by omega
              clear HK1 HK2 HMl hMs hSs hkl
              go_wp2_with fail
              refine HRun.out.mono ?_
              rintro e w2 ⟨rfl, hb2⟩
              obtain ⟨cap, w3, hcv, hba, hb3, hcap⟩ := conv_ba M w2
              have HB3 := Lib.hid (HB.out.trans ((hb2.trans (hb3.mono hb2.size)).mono HB.out.size))
              have HBA := Lib.hid hba
              have hw2 : w.heap.size ≤ w2.heap.size := Nat.le_trans HB.out.size hb2.size
              have HW2 := Lib.hid hw2
              generalize w2.heap.size = g at *
              clear hba hb2 hb3 HRun HB hw2
              go_wp2_with fail
              go_loopg [8, 9] M.size (fun G v8 v9 wr => ∃ (j : Nat) (o : Bool), j + G = M.size ∧ v8 = .bool o ∧ v9 = .int .i64 (j : Int) ∧ Hid (BA wr g ((M.data.toList.take j).map bl10 ++ M.data.toList.drop j)) ∧ Hid (Below w.heap.size w wr) ∧ Hid (o = other ((M.data.toList.take j).map bl10)))
              case atStart => exact ⟨0, false, by omega, rfl, rfl, by rw [List.take_zero, List.drop_zero]; exact HBA, HB3, Lib.hid rfl⟩
              case round =>
                obtain ⟨j, o, hjg, rfl, rfl, HBj, HBB, HO⟩ := hrel
                clear hcv HBA HB3
                have hlen : ((M.data.toList.take j).map bl10 ++ M.data.toList.drop j).length = M.size := by
                  rw [List.length_append, List.length_map, List.length_take, List.length_drop, sz]; omega
                by_cases hjl : j < M.size
                · have hjl' : (j : Int) < (M.size : Int) := by omega
                  obtain ⟨y, hy⟩ : ∃ y, M.data.toList[j]? = some y := ⟨_, List.getElem?_eq_getElem (by rw [sz]; exact hjl)⟩
                  obtain ⟨q1, q2⟩ := mapset hy
                  have c0 := HBj.out.cell q2
                  have f0 := HBj.out.fr (i := j) (by rw [hlen]; exact hjl)
                  have HOs := Lib.hid (other_snoc hy)
                  by_cases hy10 : y = 10
                  · subst hy10
                    have HBn : Hid (BA (_root_.Go.World.setCell _ ⟨g, j, none⟩ (.int .u8 32)) g ((M.data.toList.take (j + 1)).map bl10 ++ M.data.toList.drop (j + 1))) := Lib.hid (by
                      have := HBj.out.set j 32 (by rw [hlen]; exact hjl)
                      rw [← q1]; exact this)
                    have HBBn := Lib.hid (HBB.out.setCell (p := ⟨g, j, none⟩) HW2.out (.int .u8 32))
                    have HOn : Hid (other ((M.data.toList.take (j + 1)).map bl10) = o) := Lib.hid (by rw [HOs.out, ← HO.out]; simp [bl10])
                    clear q1 q2 hy HOs hlen
                    cases o with
                    | true =>
                      go_wp2
                      go_roundg (gk - 1)
                      case rel => exact ⟨j + 1, true, by omega, rfl, by go_num, HBn, HBBn, Lib.hid HOn.out.symm⟩
                      case measure => omega
                    | false =>
                      go_wp2
                      go_roundg (gk - 1)
                      case rel => exact ⟨j + 1, false, by omega, rfl, by go_num, HBn, HBBn, Lib.hid HOn.out.symm⟩
                      case measure => omega
                  · have e10 : ((y.toNat : Int) == 10) = false := u8_ne (n := 10) (by decide) hy10
                    have e32 : ((y.toNat : Int) != 32) = (y != 32) := by unfold bne; rw [show ((32 : Int)) = ((32 : Nat) : Int) from rfl, eq_u8 y 32 (by decide)]; rfl
                    have hb10 : bl10 y = y := by unfold bl10; rw [if_neg hy10]
                    have HBn : Hid (BA _ g ((M.data.toList.take (j + 1)).map bl10 ++ M.data.toList.drop (j + 1))) := Lib.hid (by rw [← mapkeep hy hb10]; exact HBj.out)
                    have HOn : Hid (other ((M.data.toList.take (j + 1)).map bl10) = (o || (y != 32))) := Lib.hid (by rw [HOs.out, ← HO.out, hb10])
                    clear q1 q2 hy HOs hlen hy10 hb10
                    generalize (y != 32) = z at *
                    cases o with
                    | true =>
                      go_wp2
                      go_roundg (gk - 1)
                      case rel => exact ⟨j + 1, true, by omega, rfl, by go_num, HBn, HBB, Lib.hid HOn.out.symm⟩
                      case measure => omega
                    | false =>
                      go_wp2
                      go_roundg (gk - 1)
                      case rel => exact ⟨j + 1, z, by omega, rfl, by go_num, HBn, HBB, Lib.hid HOn.out.symm⟩
                      case measure => omega
                · have hjl' : ¬ (j : Int) < (M.size : Int) := by omega
                  have e1 : (M.data.toList.take j).map bl10 ++ M.data.toList.drop j = M.data.toList.map bl10 := by
                    rw [List.take_of_length_le (by rw [sz]; omega), drop_all (by omega), List.append_nil]
                  have e2 : M.data.toList.take j = M.data.toList := List.take_of_length_le (by rw [sz]; omega)
                  rw [e1] at HBj
                  rw [e2] at HO
                  clear e1 e2 hlen
                  have HCon : Hid (content M.data.toList = if (M.data.toList.map bl10).head? = some 32 ∧ (M.data.toList.map bl10).getLast? = some 32 ∧ other (M.data.toList.map bl10) = true then ((M.data.toList.map bl10).drop 1).dropLast else M.data.toList.map bl10) := Lib.hid rfl
                  have hLl : (M.data.toList.map bl10).length = M.size := by rw [List.length_map, sz]
                  obtain ⟨L, hL⟩ : ∃ L, M.data.toList.map bl10 = L := ⟨_, rfl⟩
                  rw [hL] at HCon HO HBj hLl
                  clear hL
                  cases o with
                  | false =>
                    have HC2 : Hid (content M.data.toList = L) := Lib.hid (by rw [HCon.out, if_neg (by rw [← HO.out]; simp)])
                    have hbk := conv_back (cap := cap) (o := 0) (n := M.size) (m := L) HBj.out (by rw [List.drop_zero, Nat.zero_add, List.drop_eq_nil_of_le (by omega), List.append_nil]) hLl
                    clear hLl
                    go_wp2
                    go_ret2
                    exact ⟨retV (by rw [HV3.out, HC2.out]; rfl), HBB.out⟩
                  | true =>
                    have hM0 : 0 < M.size := by
                      rcases Nat.eq_zero_or_pos M.size with h | h
                      · have h2 := HO.out
                        rw [List.length_eq_zero_iff.1 (hLl.trans h)] at h2; cases h2
                      · exact h
                    obtain ⟨m1, hm1⟩ : ∃ m1, M.size = m1 + 1 := ⟨M.size - 1, by omega⟩
                    obtain ⟨d0, hd0⟩ : ∃ d, L[0]? = some d := ⟨_, List.getElem?_eq_getElem (by omega)⟩
                    obtain ⟨dl, hdl⟩ : ∃ d, L[m1]? = some d := ⟨_, List.getElem?_eq_getElem (by omega)⟩
                    have c0 := HBj.out.cell hd0
                    have c1 := HBj.out.cell hdl
                    have e0 : ((d0.toNat : Int) == 32) = (d0 == 32) := eq_u8 d0 32 (by decide)
                    have e1 : ((dl.toNat : Int) == 32) = (dl == 32) := eq_u8 dl 32 (by decide)
                    have hM1 : (M.size : Int) - 1 = (m1 : Int) := by omega
                    have hM2 : (m1 : Int) < (M.size : Int) := by omega
                    have hM3 : (0 : Int) < (M.size : Int) := by omega
                    have HH0 : Hid (L.head? = some d0) := Lib.hid (by rw [List.head?_eq_getElem?]; exact hd0)
                    have HHl : Hid (L.getLast? = some dl) := Lib.hid (by rw [List.getLast?_eq_getElem?, hLl, hm1]; exact hdl)
                    cases hq0 : (d0 == 32) with
                    | false =>
                      rw [hq0] at e0
                      have HC2 : Hid (content M.data.toList = L) := Lib.hid (by
                        rw [HCon.out, if_neg]
                        intro h
                        have := h.1
                        rw [HH0.out] at this
                        obtain rfl := Option.some.inj this
                        cases hq0)
                      have hbk := conv_back (cap := cap) (o := 0) (n := M.size) (m := L) HBj.out (by rw [List.drop_zero, Nat.zero_add, List.drop_eq_nil_of_le (by omega), List.append_nil]) hLl
                      clear hLl hd0 hdl hq0 hm1
                      go_wp2
                      go_ret2
                      exact ⟨retV (by rw [HV3.out, HC2.out]; rfl), HBB.out⟩
                    | true =>
                      rw [hq0] at e0
                      cases hql : (dl == 32) with
                      | false =>
                        rw [hql] at e1
                        have HC2 : Hid (content M.data.toList = L) := Lib.hid (by
                          rw [HCon.out, if_neg]
                          intro h
                          have := h.2.1
                          rw [HHl.out] at this
                          obtain rfl := Option.some.inj this
                          cases hql)
                        have hbk := conv_back (cap := cap) (o := 0) (n := M.size) (m := L) HBj.out (by rw [List.drop_zero, Nat.zero_add, List.drop_eq_nil_of_le (by omega), List.append_nil]) hLl
                        clear hLl hd0 hdl hq0 hql hm1
                        go_wp2
                        go_ret2
                        exact ⟨retV (by rw [HV3.out, HC2.out]; rfl), HBB.out⟩
                      | true =>
                        rw [hql] at e1
                        have hm1p : 1 ≤ m1 := by
                          rcases Nat.eq_zero_or_pos m1 with h | h
                          · exfalso
                            subst h
                            have h2 := HO.out
                            obtain ⟨q, hq⟩ := List.length_eq_one_iff.1 (hLl.trans hm1)
                            rw [hq] at hd0 h2
                            obtain rfl := Option.some.inj hd0
                            rw [eq_of_beq hq0] at h2
                            cases h2
                          · exact h
                        have HC2 : Hid (content M.data.toList = (L.drop 1).dropLast) := Lib.hid (by
                          rw [HCon.out, if_pos ⟨by rw [HH0.out, eq_of_beq hq0], by rw [HHl.out, eq_of_beq hql], HO.out.symm⟩])
                        have hbk := conv_back (cap := cap - 1) (o := 1) (n := m1 - 1) (m := (L.drop 1).dropLast) HBj.out (by
                          rw [← List.drop_drop, List.dropLast_eq_take, List.length_drop, hLl, hm1, show m1 + 1 - 1 - 1 = m1 - 1 by omega, List.take_append_drop]) (by
                          rw [List.length_dropLast, List.length_drop, hLl]; omega)
                        have g1 : (1 : Int) ≤ (m1 : Int) := by omega
                        have g2 : (m1 : Int) ≤ (cap : Int) := by omega
                        have g3 : (1 : Int) < (cap : Int) := by omega
                        clear hLl hd0 hdl hq0 hql hm1
                        go_wp2
                        go_ret2
                        exact ⟨retV (by rw [HV3.out, HC2.out, List.drop_one]; rfl), HBB.out⟩
            · have hkn' : ((k : Int) != (n : Int)) = true := by simp; omega
              have HR2 : Hid (V = codeV (codeAt s.data.toList n (i + k))) := Lib.hid (by rw [HR.out, HK1.out hkn])
              go_wp2_with fail
              refine HRun.out.mono ?_
              rintro e w2 ⟨rfl, hb2⟩
              have HB2 := Lib.hid (HB.out.trans (hb2.mono HB.out.size))
              clear hb2
              go_wp2
              go_roundg (gk - k)
              case rel => exact ⟨i + k, by omega, by omega, by go_num, HB2, HR2⟩
              case measure => omega
          · have e96 : ((x.toNat : Int) != 96) = true := u8_neq (n := 96) (by decide) hx96
            have HR2 : Hid (V = codeV (codeAt s.data.toList n (i + 1))) := Lib.hid (by rw [HR.out, codeAt_miss hget hx96])
            clear hget hx96
            go_wp2
            go_roundg (gk - 1)
            case rel => exact ⟨i + 1, by omega, by omega, by go_num, HB, HR2⟩
            case measure => omega
        · have hlt' : ¬ (i : Int) < (s.size : Int) := by omega
          have HVV : Hid (V = .tuple #[.string ⟨#[]⟩, .int .i64 0]) := Lib.hid (by rw [HR.out, codeAt_end (by rw [sz]; omega)]; rfl)
          go_wp2
          go_ret2
          exact ⟨retV HVV.out.symm, HB.out⟩
    · have e96 : ((c.toNat : Int) != 96) = true := u8_neq (n := 96) (by decide) h96
      have HVV : Hid (V = .tuple #[.string ⟨#[]⟩, .int .i64 0]) := Lib.hid (by
        rw [HV.out, codeP_no]
        · rfl
        · rw [hhead]; simpa using h96)
      clear h96 hhead
      go_enter Tryz.func11, Tryz.ntmps11
      go_wp2
      go_ret2
      exact ⟨retV HVV.out.symm, Below.refl _ _⟩
  · have he := emp_t (nil_ofS h0)
    have HVV : Hid (V = .tuple #[.string ⟨#[]⟩, .int .i64 0]) := Lib.hid (by rw [HV.out, nil_ofS h0]; rfl)
    go_enter Tryz.func11, Tryz.ntmps11
    go_wp2
    go_ret2
    exact ⟨retV HVV.out.symm, Below.refl _ _⟩
end Sp
end Go.Proofs.YtapibalcekedfaaGreatDoor
