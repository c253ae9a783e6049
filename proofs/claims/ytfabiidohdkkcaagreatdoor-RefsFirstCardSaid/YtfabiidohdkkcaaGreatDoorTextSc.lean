/- Walks of layer 1, the tenth part: the reference's Runes. -/
import Derived.Test.YtfabiidohdkkcaaGreatDoorTextRc
namespace Go.Proofs.YtfabiidohdkkcaaGreatDoor
open Go Go.RowKit
namespace Tx
set_option maxRecDepth 100000
set_option linter.unusedVariables false
set_option linter.unusedSimpArgs false

def offN (n : Nat) : Int := if n = 2 then 192 else if n = 3 then 224 else if n = 4 then 240 else 0

/-- A character's number, byte by byte. -/
theorem part_facts (c : List UInt8) (h : IsChar c) : c.length ≤ 4 ∧ ∃ P : Nat → Int, P 1 = (at' c 0 : Int) - offN c.length ∧ P c.length = val c ∧ ∀ i, 1 ≤ i → i < c.length → 0 ≤ P i ∧ P i ≤ 20000 ∧ P (i + 1) = P i * 64 + (at' c i : Int) - 128 := by
  rcases isChar_cases c h with ⟨a, rfl, h⟩ | ⟨a, b, rfl, h⟩ | ⟨a, b, d, rfl, h⟩ | ⟨a, b, d, e, rfl, h⟩
  · refine ⟨by simp, fun _ => a.toNat, ?_, ?_, ?_⟩
    · show ((a.toNat : Nat) : Int) = ((a.toNat : Nat) : Int) - 0; omega
    · rfl
    · intro i h1 h2; simp at h2; omega
  · refine ⟨by simp, fun i => if i = 1 then (a.toNat : Int) - 192 else ((a.toNat : Int) - 192) * 64 + (b.toNat : Int) - 128, rfl, ?_, ?_⟩
    · rw [val_2]; show ((a.toNat : Int) - 192) * 64 + (b.toNat : Int) - 128 = _; omega
    · intro i h1 h2
      have : i = 1 := by simp at h2; omega
      subst this
      refine ⟨?_, ?_, rfl⟩
      · show 0 ≤ (a.toNat : Int) - 192; omega
      · show (a.toNat : Int) - 192 ≤ 20000; omega
  · refine ⟨by simp, fun i => if i = 1 then (a.toNat : Int) - 224 else if i = 2 then ((a.toNat : Int) - 224) * 64 + (b.toNat : Int) - 128 else (((a.toNat : Int) - 224) * 64 + (b.toNat : Int) - 128) * 64 + (d.toNat : Int) - 128, rfl, ?_, ?_⟩
    · rw [val_3]; show (((a.toNat : Int) - 224) * 64 + (b.toNat : Int) - 128) * 64 + (d.toNat : Int) - 128 = _; omega
    · intro i h1 h2
      have : i = 1 ∨ i = 2 := by simp at h2; omega
      rcases this with rfl | rfl
      · refine ⟨?_, ?_, rfl⟩
        · show 0 ≤ (a.toNat : Int) - 224; omega
        · show (a.toNat : Int) - 224 ≤ 20000; omega
      · refine ⟨?_, ?_, rfl⟩
        · show 0 ≤ ((a.toNat : Int) - 224) * 64 + (b.toNat : Int) - 128; omega
        · show ((a.toNat : Int) - 224) * 64 + (b.toNat : Int) - 128 ≤ 20000; omega
  · refine ⟨by simp, fun i => if i = 1 then (a.toNat : Int) - 240 else if i = 2 then ((a.toNat : Int) - 240) * 64 + (b.toNat : Int) - 128 else if i = 3 then (((a.toNat : Int) - 240) * 64 + (b.toNat : Int) - 128) * 64 + (d.toNat : Int) - 128 else ((((a.toNat : Int) - 240) * 64 + (b.toNat : Int) - 128) * 64 + (d.toNat : Int) - 128) * 64 + (e.toNat : Int) - 128, rfl, ?_, ?_⟩
    · rw [val_4]; show ((((a.toNat : Int) - 240) * 64 + (b.toNat : Int) - 128) * 64 + (d.toNat : Int) - 128) * 64 + (e.toNat : Int) - 128 = _; omega
    · intro i h1 h2
      have : i = 1 ∨ i = 2 ∨ i = 3 := by simp at h2; omega
      rcases this with rfl | rfl | rfl
      · refine ⟨?_, ?_, rfl⟩
        · show 0 ≤ (a.toNat : Int) - 240; omega
        · show (a.toNat : Int) - 240 ≤ 20000; omega
      · refine ⟨?_, ?_, rfl⟩
        · show 0 ≤ ((a.toNat : Int) - 240) * 64 + (b.toNat : Int) - 128; omega
        · show ((a.toNat : Int) - 240) * 64 + (b.toNat : Int) - 128 ≤ 20000; omega
      · refine ⟨?_, ?_, rfl⟩
        · show 0 ≤ (((a.toNat : Int) - 240) * 64 + (b.toNat : Int) - 128) * 64 + (d.toNat : Int) - 128; omega
        · show (((a.toNat : Int) - 240) * 64 + (b.toNat : Int) - 128) * 64 + (d.toNat : Int) - 128 ≤ 20000; omega

theorem info21 : (Tryz.prog.info? 21).map (fun i => (i.zero, i.size, i.bytes)) = some (some (.int .i32 0), 1, 4) := by kernel_rfl
def i32s (ns : List Nat) : List Value := ns.map (fun n => Value.int .i32 (n : Nat))

theorem rrel {w wr w1 : World} {c : List UInt8} {cs : List (List UInt8)} {acc : List Nat} {l : List UInt8} {u v' sv : Value} {o : Obj} (hall : ∀ x ∈ c :: cs, IsChar x) (hsv : Sl w sv cs.flatten)
    (hown : wr.ownsRow w.heap.size 21 1 u acc.length (i32s acc)) (hbw : Below w.heap.size w wr) (hacc : acc ++ (c :: cs).map val = runes l)
    (hown' : w1.ownsRow w.heap.size 21 1 v' (acc.length + 1) (i32s acc ++ [.int .i32 (val c : Nat)])) (hgrow : (wr.alloc o).grownBy w1 u.ownBlock) (hal : acc.length + (c :: cs).length ≤ 1000000000) (hf9 : (c :: cs).flatten.length ≤ 1000000000) :
    ∃ (cs' : List (List UInt8)) (acc' : List Nat), cs'.length = cs.length ∧ (∀ x ∈ cs', IsChar x) ∧ Sl w sv cs'.flatten ∧
      w1.ownsRow w.heap.size 21 1 v' acc'.length (i32s acc') ∧ acc' ++ cs'.map val = runes l ∧ Below w.heap.size w w1 ∧ acc'.length + cs'.length ≤ 1000000000 ∧ cs'.flatten.length ≤ 1000000000 := by
  have hsz := hbw.size
  exact ⟨cs, acc ++ [val c], rfl, fun x hx => hall x (by simp [hx]), hsv, by simpa [i32s] using hown', by rw [← hacc]; simp, (hbw.alloc (by omega) _).grown hgrow (by simp; omega) (fun k hk => (hown.lt k hk).1), by simp at hal ⊢; omega, by simp at hf9 ⊢; omega⟩

theorem cut_tail {w : World} {b off cap n : Nat} {c : List UInt8} {cs : List (List UInt8)} (hr : Row w b off (c :: cs).flatten) (hrc : (c :: cs).flatten.length ≤ cap) (hcm : cap ≤ maxLen) (hn : c.length = n) :
    Sl w (.slice (if cap = n then some ⟨b, off, none⟩ else some ⟨b, off + n, none⟩) ((c :: cs).flatten.length - n) (cap - n)) cs.flatten := by
  subst hn
  have hd : (c :: cs).flatten.drop c.length = cs.flatten := by rw [List.flatten_cons, List.drop_left]
  have := Sl.cut hr hrc hcm c.length _ (by simp) rfl
  rw [hd] at this
  exact this

set_option maxHeartbeats 4000000 in
theorem rrunes_any (s : ByteArray) (w : World) (hs : s.size ≤ 100000000) :
    Calls Tryz.prog 76 #[.string s] w fun e w' => ∃ v, e = .returned v ∧ RSl w' v (runes s.data.toList) ∧ Below w.heap.size w w' := by
  have hdl : s.data.toList.length = s.size := by rw [Array.length_toList]; rfl
  obtain ⟨i0, hi, hz0, hz1, hz2⟩ := info_parts info21
  obtain ⟨v1, w1, hcv, hsl, hb1⟩ := conv_sb s w (by unfold maxLen; omega)
  have Hsl := Lib.hid hsl
  clear hsl
  obtain ⟨l, hl⟩ : ∃ l, s.data.toList = l := ⟨_, rfl⟩
  rw [hl] at Hsl hdl ⊢
  have hcl := clean_length l
  have hcn := chars_length l
  go_enter Tryz.func76, Tryz.ntmps76
  go_wp2_with fail
  refine (rclean_any _ _ _ Hsl.out (by omega)).mono ?_
  rintro e w2 ⟨rfl, hb2⟩
  obtain ⟨v3, w3, hcv3, hsl3, hb3⟩ := conv_sb ⟨(clean l).toArray⟩ w2 (by rw [size_mk]; unfold maxLen; omega)
  have hbw2 := (hb1.trans (hb2.mono hb1.size))
  have hbw3 := hbw2.trans (hb3.mono hbw2.size)
  have Hsl3 := Lib.hid hsl3
  clear hsl3 hb1 hb2 hb3 hbw2 hcv
  go_wp2
  clear hcv3
  go_loopg [3, 4] (chars l).length (fun g s3 s4 wr => ∃ (cs : List (List UInt8)) (acc : List Nat), cs.length = g ∧ (∀ x ∈ cs, IsChar x) ∧ Sl w3 s4 cs.flatten ∧ wr.ownsRow w3.heap.size 21 1 s3 acc.length (i32s acc) ∧ acc ++ cs.map val = runes l ∧ Below w3.heap.size w3 wr ∧ acc.length + cs.length ≤ 1000000000 ∧ cs.flatten.length ≤ 1000000000)
  case atStart => exact ⟨chars l, [], rfl, chars_isChar l, Hsl3.out, ⟨rfl, Or.inl ⟨rfl, rfl⟩⟩, rfl, Below.refl _ _, by simp; omega, by show (clean l).length ≤ _; omega⟩
  case round =>
    obtain ⟨cs, acc, rfl, hall, hs4, hown, hacc, hbw, hal, hfl9⟩ := hrel
    have Hall := Lib.hid hall
    clear hall
    have hsz := hbw.size
    obtain ⟨ao, cap, rfl, hrc, hcm, hrow⟩ := hs4
    cases cs with
    | nil =>
      clear hrow
      go_wp2
      go_ret
      simp at hacc
      refine ⟨_, rfl, ?_, hbw3.trans (hbw.mono hbw3.size)⟩
      rw [← hacc]
      rcases hown.2 with ⟨rfl, h0⟩ | ⟨g, cap2, cur, rfl, _, hg, hn, _, hs2, hc⟩
      · have : acc = [] := List.length_eq_zero_iff.1 h0
        subst this
        exact ⟨none, 0, rfl, by simp, fun h => absurd rfl h⟩
      · refine ⟨some ⟨g, 0, none⟩, cap2, rfl, by simp at hal; omega, fun _ => ⟨g, 0, rfl, fun i hi => ?_⟩⟩
        have := hown.cellAt i (by omega)
        rw [Nat.zero_add, this]
        simp [i32s, List.getElem?_eq_getElem hi]
    | cons c cs =>
      have hcc := Hall.out c (by simp)
      have hne : c ≠ [] := hcc.1
      have hfl : (c :: cs).flatten = c ++ cs.flatten := List.flatten_cons
      obtain ⟨b, off, rfl, hr⟩ := hrow (by rw [hfl]; simp [hne])
      obtain ⟨hc4, P, hP1, hPn, hPs⟩ := part_facts c hcc
      have hrw := hr.below' hbw
      have hgd : good (c :: cs).flatten = c.length := by
        rw [hfl, good_app _ _ (by rw [hcc.2.1]; have := List.length_pos_iff.2 hne; omega), hcc.2.1]
      have hlen2 : (c :: cs).flatten.length = c.length + cs.flatten.length := by rw [hfl, List.length_append]
      have hclen : 1 ≤ c.length := List.length_pos_iff.2 hne
      have hflen : (c :: cs).flatten.length ≤ 9223372036854775807 := by unfold maxLen at hcm; omega
      have h0 : wr.cell? ⟨b, off, none⟩ = some (.int .u8 (at' c 0 : Nat)) := by
        have := hrw 0 (by omega)
        rw [Nat.add_zero, hfl, at_app _ _ _ (by omega)] at this
        exact this
      have Hc : Hid (∀ i, i < c.length → wr.cell? ⟨b, off + i, none⟩ = some (.int .u8 (at' c i : Nat))) := Lib.hid (by
        intro i hi
        have := hrw i (by omega)
        rw [hfl, at_app _ _ _ hi] at this
        exact this)
      have hb0 := at_lt c 0
      have GC := Lib.hid (rgood_any (c :: cs).flatten (some ⟨b, off, none⟩) cap wr (fun a ha => ⟨b, off, by cases ha; rfl, hrw⟩) (fun h => by cases h) (by omega))
      rw [hgd] at GC
      have Hr := Lib.hid hr
      have HP1 := Lib.hid hP1
      have HPn := Lib.hid hPn
      have HPs := Lib.hid hPs
      have Hfl := Lib.hid hfl
      have Hacc := Lib.hid hacc
      have hlpos : (0 : Int) < ((c :: cs).flatten.length : Int) := by omega
      have Hn : Hid (∀ n, n = c.length → n = c.length) := Lib.hid (fun _ h => h)
      obtain ⟨n, hn⟩ : ∃ n, c.length = n := ⟨_, rfl⟩
      have Hcn := Lib.hid hn
      rw [hn] at GC hclen hc4 hlen2
      generalize hr0 : (c :: cs).flatten = r at *
      have Hr0 := Lib.hid hr0
      have hcap' : n ≤ r.length := by omega
      clear hrow hr hrw hgd hP1 hPn hPs hacc hn hfl hr0 hne hlen2
      generalize at' c 0 = y at *
      have hcases : n = 1 ∨ n = 2 ∨ n = 3 ∨ n = 4 := by omega
      rcases hcases with hnn | hnn | hnn | hnn
      · have Hnn := Lib.hid hnn
        have t2 : ((n : Int) == 2) = false := by rw [hnn]; rfl
        have t3 : ((n : Int) == 3) = false := by rw [hnn]; rfl
        have t4 : ((n : Int) == 4) = false := by rw [hnn]; rfl
        clear hnn
        go_wp2_with (go_at_call 97; refine GC.out.mono ?_; rintro e w' ⟨rfl, rfl⟩)
        obtain ⟨w9, rfl⟩ : ∃ w9 : World, w9 = wr := ⟨_, rfl⟩
        go_loopg [6, 7] (n - 1) (fun g s6 s7 wx => ∃ i : Nat, 1 ≤ i ∧ i + g = n ∧ s6 = .int .i32 (P i) ∧ s7 = .int .i64 i ∧ wx = w9)
        case atStart => exact ⟨1, by omega, by omega, by rw [HP1.out, Hcn.out, Hnn.out]; simp [offN], rfl, rfl⟩
        case round =>
          obtain ⟨i, hi1, hig, rfl, rfl, rfl⟩ := hrel
          cases gk with
          | zero =>
            obtain rfl : i = n := by omega
            have hpn : P i = (val c : Nat) := by rw [← HPn.out, Hcn.out]
            rw [hpn]
            clear hpn
            go_wp2_with (at_builtin; refine wpList_append_own _ rfl _ _ 83 rfl w3.heap.size 21 i0 (.int .i32 0) 1 4 Tryz.underlying83 hi hz0 hz1 hz2 rfl (by decide) _ _ _ rfl (hown.alloc _) ⟨wr.heap.size, 0, none⟩ 1 1 [.int .i32 (val c : Nat)] rfl rfl ?q11 ?q12 ?q13 ?q14 ?q15 ?_)
            try (case q11 => intro j u hu; rw [add_eq, World.cell?_alloc_new]; simpa using hu)
            try (case q12 => first | rfl | (intro u hu; simp at hu; subst hu; rfl))
            try (case q13 => unfold maxLen; simp at hal; omega)
            try (case q14 => simp at hal; omega)
            try (case q15 => first | omega | (simp; omega))
            intro v' w11 hown' hgrow _
            have HB := Lib.hid (fun sv hsv => rrel (sv := sv) Hall.out hsv hown hbw Hacc.out hown' hgrow hal (by rw [Hr0.out]; exact hfl9))
            have HT := Lib.hid (fun hrc => cut_tail (cap := cap) (n := i) (by rw [Hr0.out]; exact Hr.out) hrc hcm Hcn.out)
            by_cases hci : i = cap
            · have HT2 := Lib.hid (HT.out (by rw [Hr0.out]; exact hrc))
              have h0 : cap - cap = 0 := by omega
              go_wp2
              go_roundg cs.length
              case rel =>
                refine HB.out _ ?_
                have h1 := congrArg List.length Hr0.out
                rw [List.flatten_cons, List.length_append, Hcn.out] at h1
                have hz : cs.flatten = [] := List.length_eq_zero_iff.1 (by omega)
                rw [hz]
                exact ⟨some ⟨b, off, none⟩, 0, rfl, by simp, by unfold maxLen; omega, fun h => absurd rfl h⟩
              case measure => simp
            · have hci' : ¬ cap = i := fun e => hci e.symm
              have HT2 := Lib.hid (HT.out (by rw [Hr0.out]; exact hrc))
              go_wp2
              go_roundg cs.length
              case rel =>
                refine HB.out _ ?_
                have := HT2.out
                rw [if_neg hci', Hr0.out] at this
                exact this
              case measure => simp
          | succ g =>
            obtain ⟨p1, p2, p3⟩ := HPs.out i hi1 (by rw [Hcn.out]; omega)
            have hcl2 := Hc.out i (by rw [Hcn.out]; omega)
            have hbi := at_lt c i
            have Hp3 := Lib.hid p3
            have hin : (i : Int) < (n : Int) := by omega
            clear p3
            generalize at' c i = z at *
            generalize hpi : P i = pi at *
            clear hpi
            go_wp2
            go_roundg g
            case rel => exact ⟨i + 1, by omega, by omega, by rw [Hp3.out], by go_num, rfl⟩
            case measure => omega
      · have Hnn := Lib.hid hnn
        have t2 : ((n : Int) == 2) = true := by rw [hnn]; rfl
        have t3 : ((n : Int) == 3) = false := by rw [hnn]; rfl
        have t4 : ((n : Int) == 4) = false := by rw [hnn]; rfl
        clear hnn
        go_wp2_with (go_at_call 97; refine GC.out.mono ?_; rintro e w' ⟨rfl, rfl⟩)
        obtain ⟨w9, rfl⟩ : ∃ w9 : World, w9 = wr := ⟨_, rfl⟩
        go_loopg [6, 7] (n - 1) (fun g s6 s7 wx => ∃ i : Nat, 1 ≤ i ∧ i + g = n ∧ s6 = .int .i32 (P i) ∧ s7 = .int .i64 i ∧ wx = w9)
        case atStart => exact ⟨1, by omega, by omega, by rw [HP1.out, Hcn.out, Hnn.out]; simp [offN], rfl, rfl⟩
        case round =>
          obtain ⟨i, hi1, hig, rfl, rfl, rfl⟩ := hrel
          cases gk with
          | zero =>
            obtain rfl : i = n := by omega
            have hpn : P i = (val c : Nat) := by rw [← HPn.out, Hcn.out]
            rw [hpn]
            clear hpn
            go_wp2_with (at_builtin; refine wpList_append_own _ rfl _ _ 83 rfl w3.heap.size 21 i0 (.int .i32 0) 1 4 Tryz.underlying83 hi hz0 hz1 hz2 rfl (by decide) _ _ _ rfl (hown.alloc _) ⟨wr.heap.size, 0, none⟩ 1 1 [.int .i32 (val c : Nat)] rfl rfl ?q21 ?q22 ?q23 ?q24 ?q25 ?_)
            try (case q21 => intro j u hu; rw [add_eq, World.cell?_alloc_new]; simpa using hu)
            try (case q22 => first | rfl | (intro u hu; simp at hu; subst hu; rfl))
            try (case q23 => unfold maxLen; simp at hal; omega)
            try (case q24 => simp at hal; omega)
            try (case q25 => first | omega | (simp; omega))
            intro v' w11 hown' hgrow _
            have HB := Lib.hid (fun sv hsv => rrel (sv := sv) Hall.out hsv hown hbw Hacc.out hown' hgrow hal (by rw [Hr0.out]; exact hfl9))
            have HT := Lib.hid (fun hrc => cut_tail (cap := cap) (n := i) (by rw [Hr0.out]; exact Hr.out) hrc hcm Hcn.out)
            by_cases hci : i = cap
            · have HT2 := Lib.hid (HT.out (by rw [Hr0.out]; exact hrc))
              have h0 : cap - cap = 0 := by omega
              go_wp2
              go_roundg cs.length
              case rel =>
                refine HB.out _ ?_
                have h1 := congrArg List.length Hr0.out
                rw [List.flatten_cons, List.length_append, Hcn.out] at h1
                have hz : cs.flatten = [] := List.length_eq_zero_iff.1 (by omega)
                rw [hz]
                exact ⟨some ⟨b, off, none⟩, 0, rfl, by simp, by unfold maxLen; omega, fun h => absurd rfl h⟩
              case measure => simp
            · have hci' : ¬ cap = i := fun e => hci e.symm
              have HT2 := Lib.hid (HT.out (by rw [Hr0.out]; exact hrc))
              go_wp2
              go_roundg cs.length
              case rel =>
                refine HB.out _ ?_
                have := HT2.out
                rw [if_neg hci', Hr0.out] at this
                exact this
              case measure => simp
          | succ g =>
            obtain ⟨p1, p2, p3⟩ := HPs.out i hi1 (by rw [Hcn.out]; omega)
            have hcl2 := Hc.out i (by rw [Hcn.out]; omega)
            have hbi := at_lt c i
            have Hp3 := Lib.hid p3
            have hin : (i : Int) < (n : Int) := by omega
            clear p3
            generalize at' c i = z at *
            generalize hpi : P i = pi at *
            clear hpi
            go_wp2
            go_roundg g
            case rel => exact ⟨i + 1, by omega, by omega, by rw [Hp3.out], by go_num, rfl⟩
            case measure => omega
      · have Hnn := Lib.hid hnn
        have t2 : ((n : Int) == 2) = false := by rw [hnn]; rfl
        have t3 : ((n : Int) == 3) = true := by rw [hnn]; rfl
        have t4 : ((n : Int) == 4) = false := by rw [hnn]; rfl
        clear hnn
        go_wp2_with (go_at_call 97; refine GC.out.mono ?_; rintro e w' ⟨rfl, rfl⟩)
        obtain ⟨w9, rfl⟩ : ∃ w9 : World, w9 = wr := ⟨_, rfl⟩
        go_loopg [6, 7] (n - 1) (fun g s6 s7 wx => ∃ i : Nat, 1 ≤ i ∧ i + g = n ∧ s6 = .int .i32 (P i) ∧ s7 = .int .i64 i ∧ wx = w9)
        case atStart => exact ⟨1, by omega, by omega, by rw [HP1.out, Hcn.out, Hnn.out]; simp [offN], rfl, rfl⟩
        case round =>
          obtain ⟨i, hi1, hig, rfl, rfl, rfl⟩ := hrel
          cases gk with
          | zero =>
            obtain rfl : i = n := by omega
            have hpn : P i = (val c : Nat) := by rw [← HPn.out, Hcn.out]
            rw [hpn]
            clear hpn
            go_wp2_with (at_builtin; refine wpList_append_own _ rfl _ _ 83 rfl w3.heap.size 21 i0 (.int .i32 0) 1 4 Tryz.underlying83 hi hz0 hz1 hz2 rfl (by decide) _ _ _ rfl (hown.alloc _) ⟨wr.heap.size, 0, none⟩ 1 1 [.int .i32 (val c : Nat)] rfl rfl ?q31 ?q32 ?q33 ?q34 ?q35 ?_)
            try (case q31 => intro j u hu; rw [add_eq, World.cell?_alloc_new]; simpa using hu)
            try (case q32 => first | rfl | (intro u hu; simp at hu; subst hu; rfl))
            try (case q33 => unfold maxLen; simp at hal; omega)
            try (case q34 => simp at hal; omega)
            try (case q35 => first | omega | (simp; omega))
            intro v' w11 hown' hgrow _
            have HB := Lib.hid (fun sv hsv => rrel (sv := sv) Hall.out hsv hown hbw Hacc.out hown' hgrow hal (by rw [Hr0.out]; exact hfl9))
            have HT := Lib.hid (fun hrc => cut_tail (cap := cap) (n := i) (by rw [Hr0.out]; exact Hr.out) hrc hcm Hcn.out)
            by_cases hci : i = cap
            · have HT2 := Lib.hid (HT.out (by rw [Hr0.out]; exact hrc))
              have h0 : cap - cap = 0 := by omega
              go_wp2
              go_roundg cs.length
              case rel =>
                refine HB.out _ ?_
                have h1 := congrArg List.length Hr0.out
                rw [List.flatten_cons, List.length_append, Hcn.out] at h1
                have hz : cs.flatten = [] := List.length_eq_zero_iff.1 (by omega)
                rw [hz]
                exact ⟨some ⟨b, off, none⟩, 0, rfl, by simp, by unfold maxLen; omega, fun h => absurd rfl h⟩
              case measure => simp
            · have hci' : ¬ cap = i := fun e => hci e.symm
              have HT2 := Lib.hid (HT.out (by rw [Hr0.out]; exact hrc))
              go_wp2
              go_roundg cs.length
              case rel =>
                refine HB.out _ ?_
                have := HT2.out
                rw [if_neg hci', Hr0.out] at this
                exact this
              case measure => simp
          | succ g =>
            obtain ⟨p1, p2, p3⟩ := HPs.out i hi1 (by rw [Hcn.out]; omega)
            have hcl2 := Hc.out i (by rw [Hcn.out]; omega)
            have hbi := at_lt c i
            have Hp3 := Lib.hid p3
            have hin : (i : Int) < (n : Int) := by omega
            clear p3
            generalize at' c i = z at *
            generalize hpi : P i = pi at *
            clear hpi
            go_wp2
            go_roundg g
            case rel => exact ⟨i + 1, by omega, by omega, by rw [Hp3.out], by go_num, rfl⟩
            case measure => omega
      · have Hnn := Lib.hid hnn
        have t2 : ((n : Int) == 2) = false := by rw [hnn]; rfl
        have t3 : ((n : Int) == 3) = false := by rw [hnn]; rfl
        have t4 : ((n : Int) == 4) = true := by rw [hnn]; rfl
        clear hnn
        go_wp2_with (go_at_call 97; refine GC.out.mono ?_; rintro e w' ⟨rfl, rfl⟩)
        obtain ⟨w9, rfl⟩ : ∃ w9 : World, w9 = wr := ⟨_, rfl⟩
        go_loopg [6, 7] (n - 1) (fun g s6 s7 wx => ∃ i : Nat, 1 ≤ i ∧ i + g = n ∧ s6 = .int .i32 (P i) ∧ s7 = .int .i64 i ∧ wx = w9)
        case atStart => exact ⟨1, by omega, by omega, by rw [HP1.out, Hcn.out, Hnn.out]; simp [offN], rfl, rfl⟩
        case round =>
          obtain ⟨i, hi1, hig, rfl, rfl, rfl⟩ := hrel
          cases gk with
          | zero =>
            obtain rfl : i = n := by omega
            have hpn : P i = (val c : Nat) := by rw [← HPn.out, Hcn.out]
            rw [hpn]
            clear hpn
            go_wp2_with (at_builtin; refine wpList_append_own _ rfl _ _ 83 rfl w3.heap.size 21 i0 (.int .i32 0) 1 4 Tryz.underlying83 hi hz0 hz1 hz2 rfl (by decide) _ _ _ rfl (hown.alloc _) ⟨wr.heap.size, 0, none⟩ 1 1 [.int .i32 (val c : Nat)] rfl rfl ?q41 ?q42 ?q43 ?q44 ?q45 ?_)
            try (case q41 => intro j u hu; rw [add_eq, World.cell?_alloc_new]; simpa using hu)
            try (case q42 => first | rfl | (intro u hu; simp at hu; subst hu; rfl))
            try (case q43 => unfold maxLen; simp at hal; omega)
            try (case q44 => simp at hal; omega)
            try (case q45 => first | omega | (simp; omega))
            intro v' w11 hown' hgrow _
            have HB := Lib.hid (fun sv hsv => rrel (sv := sv) Hall.out hsv hown hbw Hacc.out hown' hgrow hal (by rw [Hr0.out]; exact hfl9))
            have HT := Lib.hid (fun hrc => cut_tail (cap := cap) (n := i) (by rw [Hr0.out]; exact Hr.out) hrc hcm Hcn.out)
            by_cases hci : i = cap
            · have HT2 := Lib.hid (HT.out (by rw [Hr0.out]; exact hrc))
              have h0 : cap - cap = 0 := by omega
              go_wp2
              go_roundg cs.length
              case rel =>
                refine HB.out _ ?_
                have h1 := congrArg List.length Hr0.out
                rw [List.flatten_cons, List.length_append, Hcn.out] at h1
                have hz : cs.flatten = [] := List.length_eq_zero_iff.1 (by omega)
                rw [hz]
                exact ⟨some ⟨b, off, none⟩, 0, rfl, by simp, by unfold maxLen; omega, fun h => absurd rfl h⟩
              case measure => simp
            · have hci' : ¬ cap = i := fun e => hci e.symm
              have HT2 := Lib.hid (HT.out (by rw [Hr0.out]; exact hrc))
              go_wp2
              go_roundg cs.length
              case rel =>
                refine HB.out _ ?_
                have := HT2.out
                rw [if_neg hci', Hr0.out] at this
                exact this
              case measure => simp
          | succ g =>
            obtain ⟨p1, p2, p3⟩ := HPs.out i hi1 (by rw [Hcn.out]; omega)
            have hcl2 := Hc.out i (by rw [Hcn.out]; omega)
            have hbi := at_lt c i
            have Hp3 := Lib.hid p3
            have hin : (i : Int) < (n : Int) := by omega
            clear p3
            generalize at' c i = z at *
            generalize hpi : P i = pi at *
            clear hpi
            go_wp2
            go_roundg g
            case rel => exact ⟨i + 1, by omega, by omega, by rw [Hp3.out], by go_num, rfl⟩
            case measure => omega
end Tx
end Go.Proofs.YtfabiidohdkkcaaGreatDoor
