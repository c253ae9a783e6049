/- EscapeParts: the law's walk. -/
import Derived.Test.YtimmifoicihadaaDoorEscH
namespace Go.Proofs.YtimmifoicihadaaDoor
open Go Go.RowKit
namespace EscapeParts
open En Es
set_option maxRecDepth 100000
set_option linter.unusedVariables false
set_option linter.unusedSimpArgs false

theorem app_data (a b : ByteArray) : (a ++ b).data.toList = a.data.toList ++ b.data.toList := by rw [ByteArray.data_append, Array.toList_append]

set_option maxHeartbeats 2000000 in
theorem law_any (a b : ByteArray) (w : World) (hL : LaidK w) (ha : a.size ≤ maxLen) (hb : b.size ≤ maxLen) :
    Calls Tryd.prog 7 #[.string a, .string b] w fun e w' => e = .returned (.bool true) ∧ Below w.heap.size w w' := by
  unfold maxLen at ha hb
  have HA := Lib.hid (Es.frm_awake hL)
  have hb0 := Below.refl w.heap.size w
  by_cases h1 : 1000 < a.size
  · have h1' : (1000 : Int) < (a.size : Int) := by omega
    clear hL
    go_enter Tryd.func7, Tryd.ntmps7
    go_wp2_with fail
    refine (HA.out _ hb0).mono ?_
    rintro e w1 ⟨rfl, hb1⟩
    go_wp2
    go_ret
    exact ⟨rfl, hb1⟩
  have h1' : (a.size : Int) ≤ 1000 := by omega
  by_cases h2 : 1000 < b.size
  · have h2' : (1000 : Int) < (b.size : Int) := by omega
    clear hL
    go_enter Tryd.func7, Tryd.ntmps7
    go_wp2_with fail
    refine (HA.out _ hb0).mono ?_
    rintro e w1 ⟨rfl, hb1⟩
    go_wp2
    go_ret
    exact ⟨rfl, hb1⟩
  have h2' : (b.size : Int) ≤ 1000 := by omega
  have hla : a.data.toList.length ≤ 1000 := by rw [sz]; omega
  have hlb : b.data.toList.length ≤ 1000 := by rw [sz]; omega
  have hlab : (a.data.toList ++ b.data.toList).length ≤ 100000 := by rw [List.length_append]; omega
  have A1 := Lib.hid (frm_html hL (s := a) rfl rfl (by omega))
  have B1 := Lib.hid (frm_html hL (s := b) rfl rfl (by omega))
  have C1 := Lib.hid (frm_html hL (s := a ++ b) (app_data a b) (html_app _ _) hlab)
  have A2 := Lib.hid (frm_href hL (s := a) rfl rfl (by omega))
  have B2 := Lib.hid (frm_href hL (s := b) rfl rfl (by omega))
  have C2 := Lib.hid (frm_href hL (s := a ++ b) (app_data a b) (href_app _ _) hlab)
  rw [← mk_app] at C1 C2
  have hs1 : (⟨(html a.data.toList).toArray⟩ : ByteArray).size ≤ 6000 := by rw [size_mk]; have := html_len a.data.toList; omega
  have hs2 : (⟨(html b.data.toList).toArray⟩ : ByteArray).size ≤ 6000 := by rw [size_mk]; have := html_len b.data.toList; omega
  have hs3 : (⟨(href a.data.toList).toArray⟩ : ByteArray).size ≤ 6000 := by rw [size_mk]; have := href_len a.data.toList; omega
  have hs4 : (⟨(href b.data.toList).toArray⟩ : ByteArray).size ≤ 6000 := by rw [size_mk]; have := href_len b.data.toList; omega
  clear hL h1 h2 hla hlb hlab
  generalize (⟨(html a.data.toList).toArray⟩ : ByteArray) = x1 at *
  generalize (⟨(html b.data.toList).toArray⟩ : ByteArray) = x2 at *
  generalize (⟨(href a.data.toList).toArray⟩ : ByteArray) = x3 at *
  generalize (⟨(href b.data.toList).toArray⟩ : ByteArray) = x4 at *
  go_enter Tryd.func7, Tryd.ntmps7
  go_wp2_with fail
  refine (HA.out _ hb0).mono ?_
  rintro e w1 ⟨rfl, hb1⟩
  go_wp2_with fail
  refine (C1.out _ hb1).mono ?_
  rintro e w2 ⟨rfl, hb2⟩
  go_wp2_with fail
  refine (A1.out _ hb2).mono ?_
  rintro e w3 ⟨rfl, hb3⟩
  go_wp2_with fail
  refine (B1.out _ hb3).mono ?_
  rintro e w4 ⟨rfl, hb4⟩
  go_wp2_with fail
  refine (C2.out _ hb4).mono ?_
  rintro e w5 ⟨rfl, hb5⟩
  go_wp2_with fail
  refine (A2.out _ hb5).mono ?_
  rintro e w6 ⟨rfl, hb6⟩
  go_wp2_with fail
  refine (B2.out _ hb6).mono ?_
  rintro e w7 ⟨rfl, hb7⟩
  go_wp2
  go_ret
  exact ⟨rfl, hb7⟩
end EscapeParts
end Go.Proofs.YtimmifoicihadaaDoor
