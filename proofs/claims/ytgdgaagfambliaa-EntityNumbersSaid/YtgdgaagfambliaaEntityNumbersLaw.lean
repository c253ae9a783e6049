/- EntityNumbers: the law's walk. -/
import Derived.Test.YtgdgaagfambliaaEntL
import Derived.LoopTactic
namespace Go.Proofs.Ytgdgaagfambliaa
open Go Go.RowKit
namespace EntityNumbers
open En
set_option maxRecDepth 100000
set_option linter.unusedVariables false
set_option linter.unusedSimpArgs false

theorem hzv {base z v : Int} {l : List UInt8} (hb : 2 ≤ base) (h : DRel base z v l) (hz : z ≤ 9999999) : v ≤ 9999999 := by
  obtain ⟨h1, h2, h3⟩ := h
  have hp := pow_mono (b := base) (by omega) l.length 0
  rw [Nat.zero_add] at hp
  have hn := (valN_bound base hb _ h3).1
  have hm := Int.mul_le_mul_of_nonneg_left hp h1
  simp only [Int.pow_zero, Int.mul_one] at hm
  omega
theorem len10 {z v : Int} {D : ByteArray} (h : DRel 10 z v D.data.toList) (hv : 0 < v) (hz : z ≤ 9999999) : D.size < 7 := by
  have := drel_len h (by decide) (by omega) 7 (by
    have : (10 : Int) ^ 7 = 10000000 := by decide
    omega)
  rwa [sz] at this
theorem len16 {z v : Int} {D : ByteArray} (h : DRel 16 z v D.data.toList) (hv : 0 < v) (hz : z ≤ 9999999) : D.size < 6 := by
  have := drel_len h (by decide) (by omega) 6 (by
    have : (16 : Int) ^ 6 = 16777216 := by decide
    omega)
  rwa [sz] at this
theorem one_size (x : UInt8) : (⟨#[x]⟩ : ByteArray).size = 1 := rfl
theorem ne_nil {D : ByteArray} (h : D.size ≠ 0) : D.data.toList ≠ [] := fun e => h (by rw [← sz, e]; rfl)

set_option maxHeartbeats 4000000 in
theorem law_any (n : Int) (more : ByteArray) (w : World) (hs : more.size ≤ maxLen) :
    Calls Try.prog 5 #[.int .i64 n, .string more] w fun e w' => e = .returned (.bool true) ∧ Below w.heap.size w w' := by
  unfold maxLen at hs
  have HA := Lib.hid (frm_awake w)
  have hb0 := Below.refl w.heap.size w
  have hbk := bits_and n 16777215 (by decide)
  rw [show ((16777215 : Nat) : Int) = 16777215 from rfl] at hbk
  obtain ⟨z, hz⟩ : ∃ z : Int, ((msk n 16777215 : Nat) : Int) = z := ⟨_, rfl⟩
  have hz0 : 0 ≤ z := by omega
  rw [hz] at hbk
  clear hz
  by_cases hbig : 300 < more.size
  · have hb' : (300 : Int) < (more.size : Int) := by omega
    go_enter Try.func5, Try.ntmps5
    go_wp2_with fail
    refine (HA.out _ hb0).mono ?_
    rintro e w1 ⟨rfl, hb1⟩
    go_wp2
    go_ret
    exact ⟨rfl, hb1⟩
  have hb' : (more.size : Int) ≤ 300 := by omega
  have hmn : more.size ≤ 300 := by omega
  by_cases hzb : 9999999 < z
  · go_enter Try.func5, Try.ntmps5
    go_wp2_with fail
    refine (HA.out _ hb0).mono ?_
    rintro e w1 ⟨rfl, hb1⟩
    go_wp2
    go_ret
    exact ⟨rfl, hb1⟩
  have hzb' : z ≤ 9999999 := by omega
  have HZ0 := Lib.hid hz0
  have HZB := Lib.hid hzb'
  clear hbig hzb
  go_enter Try.func5, Try.ntmps5
  go_wp2_with fail
  refine (HA.out _ hb0).mono ?_
  rintro e w1 ⟨rfl, hb1⟩
  have HB1 := Lib.hid hb1
  clear hb0 hb1 HA
  go_wp2
  go_loopg [7, 10] 8 (fun g v7 v10 wr => ∃ (v : Int) (D : ByteArray), D.size + g = 8 ∧ D.size ≤ 7 ∧ v7 = .string D ∧ v10 = .int .i64 v ∧ Hid (DRel 10 z v D.data.toList) ∧ Hid (Below w.heap.size w wr))
  case atStart => exact ⟨z, ⟨#[]⟩, rfl, by decide, rfl, rfl, Lib.hid (drel_start 10 z HZ0.out), HB1⟩
  case round =>
    obtain ⟨v, D, hg, hDs, rfl, rfl, HD, HW⟩ := hrel
    clear HB1
    have hv0 := HD.out.1
    have hv9 := hzv (by decide) HD.out HZB.out
    by_cases hgo : 0 < v ∨ D.size = 0
    · have HLN : Hid (D.size < 7) := Lib.hid (by
        by_cases hv : 0 < v
        · exact len10 HD.out hv HZB.out
        · rcases hgo with h | h
          · exact absurd h hv
          · omega)
      obtain ⟨g, rfl⟩ : ∃ g, gk = g + 1 := ⟨gk - 1, by have := HLN.out; omega⟩
      obtain ⟨d, hd⟩ : ∃ d, v % 10 = d := ⟨_, rfl⟩
      obtain ⟨q, hq⟩ : ∃ q, v / 10 = q := ⟨_, rfl⟩
      have hd0 : 0 ≤ d := by omega
      have hd9 : d ≤ 9 := by omega
      have hq0 : 0 ≤ q := by omega
      have HS := Lib.hid (drel_step (u := UInt8.ofNat (48 + d).toNat) HD.out hq0 (by omega) (dec_digit d hd0 hd9) (by omega))
      rw [← cons_data] at HS
      have hcnv := conv_int (48 + d) (by omega) (by omega) wr
      have HB2 := Lib.hid (HW.out.alloc HW.out.size (.cells #[.int .u8 (48 + d)] 5))
      have hsz := one_size (UInt8.ofNat (48 + d).toNat)
      generalize (⟨#[UInt8.ofNat (48 + d).toNat]⟩ : ByteArray) = u at *
      have hsz2 : u.size ≤ 1 := by omega
      have HSZD : Hid ((u ++ D).size + g = 8) := Lib.hid (by rw [ByteArray.size_append, hsz]; omega)
      have HSZ7 : Hid ((u ++ D).size ≤ 7) := Lib.hid (by have := HLN.out; rw [ByteArray.size_append, hsz]; omega)
      clear hsz hg
      by_cases hv : 0 < v
      · clear hgo
        go_wp2
        go_roundg g
        case rel => exact ⟨q, u ++ D, HSZD.out, HSZ7.out, rfl, (by first | rfl | rw [hq]), HS, HB2⟩
        case measure => omega
      · have hD := empty_list (D := D) (by rcases hgo with h | h; exact absurd h hv; exact h)
        clear hgo
        go_wp2
        go_roundg g
        case rel => exact ⟨q, u ++ D, HSZD.out, HSZ7.out, rfl, (by first | rfl | rw [hq]), HS, HB2⟩
        case measure => omega
    · have hv : ¬ 0 < v := fun h => hgo (Or.inl h)
      have hDn : D.size ≠ 0 := fun h => hgo (Or.inr h)
      have hDl := full_list hDn
      have HE := Lib.hid (drel_end HD.out hv)
      have H1 := Lib.hid (frm_read w (s := (⟨#[38, 35]⟩ : ByteArray) ++ D ++ ⟨#[59]⟩ ++ more) (l := [38, 35] ++ D.data.toList ++ 59 :: more.data.toList) (by rw [app_data, app_data, app_data]; simp) (read_dec HE.out.1 HE.out.2 (ne_nil hDn) (by rw [sz]; exact hDs) _) (by simp only [List.length_append, List.length_cons, List.length_nil, sz]; omega))
      rw [sz] at H1
      clear hgo hDn hg HE HD
      go_wp2
      go_loopg [8, 9, 11] 7 (fun g v8 v9 v11 wr => ∃ (v : Int) (E F : ByteArray), E.size + g = 7 ∧ E.size ≤ 6 ∧ F.size = E.size ∧ v8 = .string E ∧ v9 = .string F ∧ v11 = .int .i64 v ∧ Hid (DRel 16 z v E.data.toList) ∧ Hid (DRel 16 z v F.data.toList) ∧ Hid (Below w.heap.size w wr))
      case atStart => exact ⟨z, ⟨#[]⟩, ⟨#[]⟩, rfl, by decide, rfl, rfl, rfl, rfl, Lib.hid (drel_start 16 z HZ0.out), Lib.hid (drel_start 16 z HZ0.out), HW⟩
      case round =>
        clear hv0 hv9 hv hDl HW
        obtain ⟨v, E, F, hg, hEs, hFs, rfl, rfl, rfl, HE, HF, HW⟩ := hrel
        have hv0 := HE.out.1
        have hv9 := hzv (by decide) HE.out HZB.out
        have hFs6 : F.size ≤ 6 := by omega
        have HFS := Lib.hid hFs
        clear hFs
        by_cases hgo : 0 < v ∨ E.size = 0
        · have HLN : Hid (E.size < 6) := Lib.hid (by
            by_cases hv : 0 < v
            · exact len16 HE.out hv HZB.out
            · rcases hgo with h | h
              · exact absurd h hv
              · omega)
          obtain ⟨g, rfl⟩ : ∃ g, gk = g + 1 := ⟨gk - 1, by have := HLN.out; omega⟩
          obtain ⟨d, hd⟩ : ∃ d, v % 16 = d := ⟨_, rfl⟩
          obtain ⟨q, hq⟩ : ∃ q, v / 16 = q := ⟨_, rfl⟩
          have hd0 : 0 ≤ d := by omega
          have hd9 : d ≤ 15 := by omega
          have hq0 : 0 ≤ q := by omega
          obtain ⟨x, hx, hdx⟩ := low_digit d hd0 hd9
          obtain ⟨y, hy, hdy⟩ := upp_digit d hd0 hd9
          have HS := Lib.hid (drel_step (u := x) HE.out hq0 (by omega) hdx (by omega))
          have HS2 := Lib.hid (drel_step (u := y) HF.out hq0 (by omega) hdy (by omega))
          rw [← cons_data] at HS HS2
          have hsz := one_size x
          have hszy := one_size y
          generalize (⟨#[x]⟩ : ByteArray) = X at *
          generalize (⟨#[y]⟩ : ByteArray) = Y at *
          have hsz2 : X.size ≤ 1 := by omega
          have hszy2 : Y.size ≤ 1 := by omega
          have HSZD : Hid ((X ++ E).size + g = 7) := Lib.hid (by rw [ByteArray.size_append, hsz]; omega)
          have HSZ7 : Hid ((X ++ E).size ≤ 6) := Lib.hid (by have := HLN.out; rw [ByteArray.size_append, hsz]; omega)
          have HSZF : Hid ((Y ++ F).size = (X ++ E).size) := Lib.hid (by rw [ByteArray.size_append, ByteArray.size_append, hsz, hszy, HFS.out])
          clear hsz hszy hg hdx hdy
          by_cases hv : 0 < v
          · clear hgo
            go_wp2
            go_roundg g
            case rel => exact ⟨q, X ++ E, Y ++ F, HSZD.out, HSZ7.out, HSZF.out, rfl, rfl, (by first | rfl | rw [hq]), HS, HS2, HW⟩
            case measure => omega
          · have hE0 := empty_list (D := E) (by rcases hgo with h | h; exact absurd h hv; exact h)
            clear hgo
            go_wp2
            go_roundg g
            case rel => exact ⟨q, X ++ E, Y ++ F, HSZD.out, HSZ7.out, HSZF.out, rfl, rfl, (by first | rfl | rw [hq]), HS, HS2, HW⟩
            case measure => omega
        · have hv : ¬ 0 < v := fun h => hgo (Or.inl h)
          have hEn : E.size ≠ 0 := fun h => hgo (Or.inr h)
          have hFn : F.size ≠ 0 := by rw [HFS.out]; exact hEn
          have hEl := full_list hEn
          have HEE := Lib.hid (drel_end HE.out hv)
          have HFE := Lib.hid (drel_end HF.out hv)
          have H2 := Lib.hid (frm_read w (s := (⟨#[38, 35, 120]⟩ : ByteArray) ++ E ++ ⟨#[59]⟩ ++ more) (l := [38, 35, 120] ++ E.data.toList ++ 59 :: more.data.toList) (by rw [app_data, app_data, app_data]; simp) (read_hex 120 (Or.inl rfl) HEE.out.1 HEE.out.2 (ne_nil hEn) (by rw [sz]; exact hEs) _) (by simp only [List.length_append, List.length_cons, List.length_nil, sz]; omega))
          have H3 := Lib.hid (frm_read w (s := (⟨#[38, 35, 88]⟩ : ByteArray) ++ F ++ ⟨#[59]⟩ ++ more) (l := [38, 35, 88] ++ F.data.toList ++ 59 :: more.data.toList) (by rw [app_data, app_data, app_data]; simp) (read_hex 88 (Or.inr rfl) HFE.out.1 HFE.out.2 (ne_nil hFn) (by rw [sz]; exact hFs6) _) (by simp only [List.length_append, List.length_cons, List.length_nil, sz]; omega))
          rw [sz] at H2 H3
          rw [HFS.out] at H3
          clear hgo hEn hFn hg HEE HFE HE HF
          by_cases hz1 : z = 0
          · have HV : Hid (Utf8.encode (chr z) = ⟨#[239, 191, 189]⟩) := Lib.hid (by rw [chr_mark (Or.inl hz1), enc_mark])
            have hzb1 : (z == 0) = true := by rw [hz1]; rfl
            clear hz1
            dsimp only [resV] at H1 H2 H3
            rw [HV.out] at H1 H2 H3
            go_wp2_with fail
            refine (H1.out _ HW.out).mono ?_
            rintro e w2 ⟨rfl, hb2⟩
            go_wp2_with fail
            refine (H2.out _ hb2).mono ?_
            rintro e w3 ⟨rfl, hb3⟩
            go_wp2_with fail
            refine (H3.out _ hb3).mono ?_
            rintro e w4 ⟨rfl, hb4⟩
            go_wp2
            go_ret
            exact ⟨rfl, hb4⟩
          · have hzb1 : (z == 0) = false := by simpa using hz1
            by_cases hz2 : 1114111 < z
            · have HV : Hid (Utf8.encode (chr z) = ⟨#[239, 191, 189]⟩) := Lib.hid (by rw [chr_mark (Or.inr hz2), enc_mark])
              clear hz1
              dsimp only [resV] at H1 H2 H3
              rw [HV.out] at H1 H2 H3
              go_wp2_with fail
              refine (H1.out _ HW.out).mono ?_
              rintro e w2 ⟨rfl, hb2⟩
              go_wp2_with fail
              refine (H2.out _ hb2).mono ?_
              rintro e w3 ⟨rfl, hb3⟩
              go_wp2_with fail
              refine (H3.out _ hb3).mono ?_
              rintro e w4 ⟨rfl, hb4⟩
              go_wp2
              go_ret
              exact ⟨rfl, hb4⟩
            · have HV : Hid (Utf8.encode (chr z) = Utf8.encode z) := Lib.hid (enc_chr hz1 hz2)
              clear hz1
              dsimp only [resV] at H1 H2 H3
              rw [HV.out] at H1 H2 H3
              go_wp2_with fail
              refine (H1.out _ HW.out).mono ?_
              rintro e w2 ⟨rfl, hb2⟩
              go_wp2_with fail
              refine (H2.out _ hb2).mono ?_
              rintro e w3 ⟨rfl, hb3⟩
              go_wp2_with fail
              refine (H3.out _ hb3).mono ?_
              rintro e w4 ⟨rfl, hb4⟩
              go_wp2
              go_ret
              exact ⟨rfl, hb4⟩
end EntityNumbers
end Go.Proofs.Ytgdgaagfambliaa
