/- EntityAll: the law's walk. -/
import Derived.Test.YtgdgaagfambliaaEntK
namespace Go.Proofs.Ytgdgaagfambliaa
open Go Go.RowKit
namespace EntityAll
open En
set_option maxRecDepth 100000
set_option linter.unusedVariables false
set_option linter.unusedSimpArgs false

set_option maxHeartbeats 2000000 in
theorem law_any (k b : Int) (w : World) (h0 : 0 ≤ b) (h1 : b ≤ 255) :
    Calls Try.prog 7 #[.int .i64 k, .int .u8 b] w fun e w' => e = .returned (.bool true) ∧ Below w.heap.size w w' := by
  obtain ⟨u, rfl⟩ := u8_of_int h0 h1
  clear h0 h1
  have HA := Lib.hid (frm_awake w)
  have hb0 := Below.refl w.heap.size w
  have hbk := bits_and k 65535 (by decide)
  rw [show ((65535 : Nat) : Int) = 65535 from rfl] at hbk
  have hq := msk_le k 65535 (by decide)
  generalize msk k 65535 = q at *
  obtain ⟨j, hj⟩ : ∃ j, q % 183 = j := ⟨_, rfl⟩
  have hjl : j < 183 := by omega
  have hqj : (q : Int) % 183 = (j : Int) := by omega
  have hq0 : (q : Int) ≤ 65535 := by omega
  have HJ := Lib.hid hjl
  have hjl2 : (j : Int) < 183 := by omega
  clear hj hq
  go_enter Try.func7, Try.ntmps7
  go_wp2_with fail
  refine (HA.out _ hb0).mono ?_
  rintro e w1 ⟨rfl, hb1⟩
  go_wp2_with fail
  refine (rtab_any w1).mono ?_
  rintro e w2 ⟨hv, hb2'⟩
  obtain ⟨g, rfl, HT, hg⟩ := hv
  have hb2 := hb1.trans (hb2'.mono hb1.size)
  obtain ⟨hc1, hc2⟩ := HT j HJ.out
  clear HT hb2'
  go_upto_region 4 with fail
  have HR3 : Hid (RowAt (w2.alloc (.cells #[.string ⟨(rw j).1.toArray⟩, .int .i32 (rw j).2] 29)) w2.heap.size j) := Lib.hid ⟨by rw [World.cell?_alloc_new]; rfl, by rw [World.cell?_alloc_new]; rfl⟩
  have HB3 := Lib.hid (hb2.alloc hb2.size (.cells #[.string ⟨(rw j).1.toArray⟩, .int .i32 (rw j).2] 29))
  clear hc1 hc2 hb0 hb1 hb2 hg HA hbk hqj
  generalize w2.alloc (.cells #[.string ⟨(rw j).1.toArray⟩, .int .i32 (rw j).2] 29) = w3 at *
  generalize w2.heap.size = h at *
  have HL := Lib.hid HR3.out.lt
  have hlen := (row_ok (rw_mem HJ.out)).2.2.1
  have hnml : (⟨(rw j).1.toArray⟩ : ByteArray).data.toList = (rw j).1 := rfl
  have hnms : (⟨(rw j).1.toArray⟩ : ByteArray).size = (rw j).1.length := rfl
  have H1 := Lib.hid (frm_read w3 (s := (⟨#[38]⟩ : ByteArray) ++ ⟨(rw j).1.toArray⟩ ++ ⟨#[59]⟩) (l := 38 :: (rw j).1 ++ 59 :: []) (by rw [app_data, app_data]; rfl) (read_row HJ.out []) (by simp; omega))
  have HRR := HR3
  unfold RowAt at HRR
  generalize (⟨(rw j).1.toArray⟩ : ByteArray) = nm at *
  obtain ⟨hc0, hc1⟩ := HRR.out
  have HS := Lib.hid hnms
  have HNL := Lib.hid hnml
  have hns : nm.size ≤ 30 := by omega
  clear hnms hnml hlen
  rw [← HS.out] at H1
  dsimp only [resV] at H1
  have hb0 := Below.refl w3.heap.size w3
  go_wp2_with fail
  refine (H1.out _ hb0).mono ?_
  rintro e w4 ⟨rfl, hb4⟩
  have hc40 := (hb4.cell (p := ⟨h, 0, none⟩) HL.out).trans hc0
  clear hc0 hc1
  have hcnv := conv_one u w4
  have hb5 := hb4.alloc hb4.size (.cells #[.int .u8 (u.toNat : Int)] 5)
  have hx : (nm ++ (⟨#[u]⟩ : ByteArray)).data.toList = (rw j).1 ++ [u] := by rw [app_data, HNL.out]
  have hxs : (nm ++ (⟨#[u]⟩ : ByteArray)).size ≤ 31 := by rw [ByteArray.size_append]; show nm.size + 1 ≤ 31; omega
  have H3 := Lib.hid (frm_named w3 hx)
  by_cases hu : u = 59
  · have H2 := Lib.hid (frm_read w3 (s := (⟨#[38]⟩ : ByteArray) ++ (nm ++ ⟨#[u]⟩) ++ ⟨#[59]⟩) (l := 38 :: (rw j).1 ++ 59 :: [59]) (by rw [app_data, app_data, hx, hu]; simp) (read_row HJ.out [59]) (by simp [← HS.out]; omega))
    have hns2 : namedV ((rw j).1 ++ [u]) = .tuple #[.string ⟨#[]⟩, .bool false] := by rw [hu]; exact namedV_none (named_semi _)
    rw [hns2] at H3
    clear hns2
    rw [← HS.out] at H2
    dsimp only [resV] at H2
    have hub : ((u.toNat : Int) == 59) = true := by rw [hu]; rfl
    clear hx hu
    go_wp2_with fail
    refine (H2.out _ hb5).mono ?_
    rintro e w6 ⟨rfl, hb6⟩
    go_wp2_with fail
    refine (H3.out _ hb6).mono ?_
    rintro e w7 ⟨rfl, hb7⟩
    obtain ⟨hc70, hc71⟩ := HRR.out
    have hd0 := (hb7.cell (p := ⟨h, 0, none⟩) HL.out).trans hc70
    have hd1 := (hb7.cell (p := ⟨h, 1, none⟩) HL.out).trans hc71
    clear hc70 hc71 hcnv hc40
    go_wp2
    go_ret
    exact ⟨rfl, HB3.out.trans (hb7.mono HB3.out.size)⟩
  · have H2 := Lib.hid (frm_read w3 (s := (⟨#[38]⟩ : ByteArray) ++ (nm ++ ⟨#[u]⟩) ++ ⟨#[59]⟩) (l := 38 :: ((rw j).1 ++ [u]) ++ [59]) (by rw [app_data, app_data, hx]; rfl) (read_more HJ.out u hu) (by simp [← HS.out]; omega))
    have hub : ((u.toNat : Int) == 59) = false := u8_ne (n := 59) (by decide) hu
    clear hx hu
    cases hn : namedF rowsT ((rw j).1 ++ [u]) with
    | none =>
      rw [namedV_none hn] at H3
      rw [hn] at H2
      dsimp only [resV, Option.map_none] at H2
      clear hn
      go_wp2_with fail
      refine (H2.out _ hb5).mono ?_
      rintro e w6 ⟨rfl, hb6⟩
      go_wp2_with fail
      refine (H3.out _ hb6).mono ?_
      rintro e w7 ⟨rfl, hb7⟩
      obtain ⟨hc70, hc71⟩ := HRR.out
      have hd0 := (hb7.cell (p := ⟨h, 0, none⟩) HL.out).trans hc70
      have hd1 := (hb7.cell (p := ⟨h, 1, none⟩) HL.out).trans hc71
      clear hc70 hc71 hcnv hc40
      go_wp2
      go_ret
      exact ⟨rfl, HB3.out.trans (hb7.mono HB3.out.size)⟩
    | some z =>
      rw [namedV_some hn] at H3
      rw [hn, ← HS.out] at H2
      dsimp only [resV, Option.map_some] at H2
      have hp1 : (0 : Int) < (nm.size : Int) + 3 := by omega
      have hp2 : decide ((0 : Int) < (nm.size : Int) + 3) = true := decide_eq_true hp1
      clear hn
      go_wp2_with fail
      refine (H2.out _ hb5).mono ?_
      rintro e w6 ⟨rfl, hb6⟩
      go_wp2_with fail
      refine (H3.out _ hb6).mono ?_
      rintro e w7 ⟨rfl, hb7⟩
      obtain ⟨hc70, hc71⟩ := HRR.out
      have hd0 := (hb7.cell (p := ⟨h, 0, none⟩) HL.out).trans hc70
      have hd1 := (hb7.cell (p := ⟨h, 1, none⟩) HL.out).trans hc71
      clear hc70 hc71 hcnv hc40
      go_wp2
      go_ret
      exact ⟨rfl, HB3.out.trans (hb7.mono HB3.out.size)⟩
end EntityAll
end Go.Proofs.Ytgdgaagfambliaa
