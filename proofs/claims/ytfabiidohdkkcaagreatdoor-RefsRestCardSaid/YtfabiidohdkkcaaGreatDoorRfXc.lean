/- Texts of one part, one behind the other (Kit, KitZ, RfIn, RfLaid). -/
import Derived.Test.YtfabiidohdkkcaaGreatDoorRows
import Derived.ProofKit
import Derived.Below
import Derived.ChangeSame
import Derived.Carry
import Derived.OpenShut
import Derived.LaidMore
import Derived.Lay
import Derived.SevenTiedAt
import Derived.Stop.Joined
import Derived.HandedShaped
import Derived.Shelf.Vars
import Derived.SizedLaws
import Derived.Test.YtfabiidohdkkcaaGreatDoorRfXa
import Derived.ChangeArms
import Derived.ChangeSlices
import Derived.Test.YtfabiidohdkkcaaGreatDoorLkC
import Derived.Test.YtfabiidohdkkcaaGreatDoorClassAr
import Derived.Deep.Strs
/- What every row of this seat needs: the end of a law's call, from 'it returned true and nothing old has turned'. -/
namespace Go.Proofs.YtfabiidohdkkcaaGreatDoor
open Go Go.ChangeShapes Go.WideShapes Go.ChangeAt Go.RowKit
namespace Kit

theorem own : ownKnob Tryz.prog.godebug = none := by kernel_rfl
theorem laidOut : laidOutB Tryz.prog = true := by kernel_rfl

theorem trodAll_stays {H : Type} {enc : TypeId × Value → H} {P : Program} (hl : laidOutB P = true) {W W' : World} (hb : Below W.heap.size W W') {sp : Nat → Bool} :
    ∀ {ts : List TypeId} {vs : List Value} {ds : List (DataW H)} {ps : List MemPlace}, (∀ t ∈ ts, P.readableRec t = true ∧ t < P.types.size) →
    DataW.TrodAll enc P W 0 (fun _ => true) true ts vs ds ps → (∀ x ∈ ps, x.block < W.heap.size) → (∀ x ∈ ps, sp x.block = true) → DataW.TrodAll enc P W' 0 sp true ts vs ds ps
  | [], [], [], ps, _, h, _, _ => h
  | t :: ts, v :: vs, d :: ds, ps, hr, h, hlt, hs => by
    obtain ⟨p, q, h1, h2, rfl⟩ := h
    refine ⟨p, q, ?_, trodAll_stays hl hb (fun x hx => hr x (by simp [hx])) h2 (fun x hx => hlt x (by simp [hx])) (fun x hx => hs x (by simp [hx])), rfl⟩
    exact WideElems.Trod_stays hl (hr t (by simp)).1 (hr t (by simp)).2 h1 (fun x hx => hb.same (hlt x (by simp [hx]))) (fun x hx => hs x (by simp [hx]))
  | [], [], _ :: _, _, _, h, _, _ => h.elim
  | [], _ :: _, _, _, _, h, _, _ => h.elim
  | _ :: _, [], _, _, _, h, _, _ => h.elim
  | _ :: _, _ :: _, [], _, _, h, _, _ => h.elim

/-- A law that returned true and turned nothing that was there meets its row's post. -/
theorem law_post {H : Type} {enc : TypeId × Value → H} {P : Program} (hl : laidOutB P = true) {f : Func} {s : ChangeSpec} {fresh handsOn again : Bool} {W W' : World} {args : Array Value} {ds gs : List (DataW H)} {before : List MemPlace} {bt : TypeId}
    (hread : ∀ t ∈ f.params.toList, P.readableRec t = true ∧ t < P.types.size)
    (hW : DataW.Whole enc P f.params.toList s.vars false W args.toList ds gs before) (hvars : s.vars = []) (hfn : s.fn H ds = { results := [.lit (.bool true)], args := ds })
    (hres : f.resultTypes = #[bt]) (hbt : P.underlying bt = some .bool) (hb : Below W.heap.size W W') :
    s.post enc P f false fresh handsOn again W args (.bool true) W' := by
  have hlt : ∀ p ∈ before, p.block < W.heap.size := fun p hp => hW.lt p hp
  have hW2 := hW
  obtain ⟨p, q, hA, hV, hpq, hz, hn⟩ := hW
  rw [hvars] at hV
  have hg : gs = [] ∧ q = [] := by
    cases gs with
    | nil => exact ⟨rfl, hV⟩
    | cons g gs => exact hV.elim
  obtain ⟨rfl, rfl⟩ := hg
  rw [List.append_nil] at hpq
  subst hpq
  have hfn' : s.fn H (ds ++ []) = { results := [.lit (.bool true)], args := ds } := by rw [List.append_nil]; exact hfn
  have hold : ∀ x ∈ before, (fun b => decide (b < W.heap.size)) x.block = true := fun x hx => by simpa using hlt x hx
  have hargs : ∀ sp : Nat → Bool, (∀ x ∈ before, sp x.block = true) → DataW.TrodAll enc P W' 0 sp true f.params.toList args.toList (s.fn H (ds ++ [])).args before := fun sp hs => by
    rw [hfn']; exact trodAll_stays hl hb hread hA hlt hs
  have hresult : ∀ (b : Nat) (sp : Nat → Bool) (hd : Bool), DataW.TrodAll enc P W' b sp hd f.resultTypes.toList ((Value.bool true).resultList f.resultTypes.size) (s.fn H (ds ++ [])).results [] := fun b sp hd => by
    rw [hfn', hres]; exact trodAll_mk1 (shut_bool hbt _)
  have hv2 : ∀ sp : Nat → Bool, DataW.TrodVars enc P W' sp s.vars (s.fn H (ds ++ [])).vars [] := fun sp => by rw [hvars, hfn']; rfl
  refine ⟨ds, [], before, [], before, [], hW2, hresult _ _ _, hargs _ hold, hv2 _, World.keptBut_mono (fun x hx => ⟨hx, ?_⟩) (hb.frame (· ∈ before)), fun _ => ?_⟩
  · exact Or.inr (Or.inl hx)
  · refine ⟨?_, _, _, ([] ++ before) ++ [], ⟨[] ++ before, [], trodAll_append (hargs _ (fun _ _ => rfl)) (hresult _ _ _), hv2 _, rfl, ?_, fun h => by cases h⟩, ?_⟩
    · exact ok_one hres rfl (okWide_bool_mk hbt _)
    · intro b off hp
      have hin : MemPlace.cell b off ∈ before := by simpa using hp
      rw [hb.frozen (hlt _ hin)]
      exact hz b off hin
    · intro x hx; try simp only [List.nil_append, List.append_nil] at hx ⊢; first | exact hx | exact fun _ => hx | (trace_state; exact Or.inl hx)
end Kit
end Go.Proofs.YtfabiidohdkkcaaGreatDoor

/- What a row needs whose walk asks the world's shape and how great the input is: the wrap with both kept beside the row's own condition. -/
namespace Go.Proofs.YtfabiidohdkkcaaGreatDoor
open Go Go.ChangeShapes Go.WideShapes Go.ChangeAt Go.RowKit
namespace Kit
variable {H : Type} {enc : TypeId × Value → H}

/-- From a contract that is told the row's further condition, the world's shape and the input's weights. -/
theorem handed_sized {a : Assume} {C : Checked} {os : Os} {f : FuncId} {fn : Func} {s : ChangeSpec} {cs : List PathCond} {ap fresh handsOn again : Bool} {X : World → Array Value → Prop}
    (hX : ∀ (w w' : World) (args : Array Value), w.heap = w'.heap → X w args → X w' args) (hown : ownKnob C.prog.godebug = none) (hst : os.Started) (hno : C.prog.inits.idxOf? f = none) (hfn : C.prog.funcs[f]? = some fn)
    (wit : ∃ (w : World) (tape : Tape) (i : Input), w.os = os ∧ (w.forCall tape i).Shaped C.prog ∧ i.vars = [] ∧ Input.okWide C.prog (w.forCall tape i) .any w.heap.size f i ∧
      ((s.pre enc C.prog fn cs ap (w.forCall tape i).memory i.args ∧ X (w.forCall tape i).memory i.args) ∧ sizedMet enc C.prog fn (OpenSpec.ofChange s) ap (w.forCall tape i).memory i.args) ∧ a.holds C.prog (lone (Frame.enter C.prog f i.args .normal) [] (w.forCall tape i)))
    (con : ∀ (W : World) (base : Nat) (args : Array Value) (ds gs : List (DataW H)) (before : List MemPlace),
      (∀ (j : Nat) t v, fn.params[j]? = some t → args[j]? = some v → Value.okWide C.prog W .any base t v) → DataW.Whole enc C.prog fn.params.toList s.vars ap W args.toList ds gs before → X W args → W.ShapedOpen C.prog →
      (DataW.weightsEach C.prog (fn.params.toList ++ s.plain.varTypes C.prog) (ds ++ gs)).all (· ≤ reachBytes) = true →
      Calls C.prog f args W fun e W' => ∃ v, e = .returned v ∧ s.post enc C.prog fn ap fresh handsOn again W args v W') :
    ReturnsInHanded a C os f .any (fun w args => (s.pre enc C.prog fn cs ap w args ∧ X w args) ∧ sizedMet enc C.prog fn (OpenSpec.ofChange s) ap w args) (s.post enc C.prog fn ap fresh handsOn again) := by
  apply returnsInHanded_of_calls hown hst hno wit
  intro w tape i _ shape _ ok pre _
  obtain ⟨_, _, _, g, hg, _, _, _, _, vals⟩ := ok
  obtain rfl : g = fn := by rw [hfn] at hg; exact (Option.some.inj hg).symm
  obtain ⟨⟨⟨ds, gs, before, whole, _⟩, x⟩, hz⟩ := pre
  have whole2 : DataW.Whole enc C.prog g.params.toList s.vars ap (w.forCall tape i) i.args.toList ds gs before := DataW.Whole.of_heap (w' := w.forCall tape i) (by rfl) whole
  have x2 : X (w.forCall tape i) i.args := hX (w.forCall tape i).memory _ _ rfl x
  have c := con (w.forCall tape i) w.heap.size i.args ds gs before vals whole2 x2 shape (hz.weights whole)
  refine c.mono ?_
  rintro e W' ⟨v, rfl, post⟩
  exact ChangeSpec.post_blind post
end Kit
end Go.Proofs.YtfabiidohdkkcaaGreatDoor

/- Layer 10: how definitions and texts that come in read. -/
namespace Go.Proofs.YtfabiidohdkkcaaGreatDoor
open Go Go.ChangeShapes Go.WideShapes Go.ChangeAt Go.ChangeMaps Go.RowKit
namespace Rf
set_option maxRecDepth 100000
set_option linter.unusedVariables false
set_option linter.unusedSimpArgs false

section
variable {H : Type} {enc : TypeId × Value → H} {W : World} {sp : Nat → Bool} {hd : Bool}
theorem weightsAll_mem {P : Program} {e : TypeId} {y : Nat} : ∀ {l : List (DataW H)} {d : DataW H}, d ∈ l → y ∈ d.weights P e → y ∈ DataW.weightsAll P e l
  | a :: l, d, h, hy => by
    rw [DataW.weightsAll, List.mem_append]
    rcases List.mem_cons.1 h with rfl | h
    · exact .inl hy
    · exact .inr (weightsAll_mem h hy)
theorem cl1 {t : TypeId} (h : Tryz.prog.cellsOf t = 1) (cs : List Value) (i : Nat) {v : Value} (e : (cs.drop i).take (Tryz.prog.cellsOf t) = [v]) : cs[i]? = some v := by
  rw [h] at e
  have : ((cs.drop i).take 1)[0]? = some v := by rw [e]; rfl
  rw [List.getElem?_take_of_lt (by omega), List.getElem?_drop] at this
  exact this
theorem list3 {cs : List Value} {v0 v1 v2 : Value} (hl : cs.length = 3) (h0 : cs[0]? = some v0) (h1 : cs[1]? = some v1) (h2 : cs[2]? = some v2) : cs = [v0, v1, v2] := by
  match cs, hl with
  | [a, b, c], _ => simp at h0 h1 h2; simp [*]
theorem cst : Tryz.prog.cellsOf 9 = 1 := by kernel_rfl
theorem cRef : Tryz.prog.cellsOf 24 = 3 := by kernel_rfl
theorem len_of {s : ByteArray} {y : DataW H} (r : y = .lit (.string s.data.toList)) (hw : ∀ n ∈ y.weights Tryz.prog 9, n ≤ reachBytes) : s.size ≤ 140737488355328 := by
  have := hw s.data.toList.length (by rw [r]; simp [DataW.weights])
  unfold reachBytes at this
  rw [szR] at this
  omega
theorem parse_ref (fuel : Nat) (cs : List Value) (x : DataW H × List MemPlace) (h : DataW.trod enc Tryz.prog W 0 sp hd fuel 24 cs = some x) (hw : ∀ y ∈ x.1.weights Tryz.prog 24, y ≤ reachBytes) : ∃ k : Rb, cs = (refC k).toList ∧ RefZ k := by
  obtain ⟨xs, n, rfl, rfl, hl, hlen, hf⟩ := DataW.trod_struct Tryz.underlying24 h
  match xs, hlen with
  | [y0, y1, y2], _ =>
    obtain ⟨s0, e0, r0, _⟩ := DataW.trod_string Tryz.underlying9 (hf 0 _ rfl)
    obtain ⟨s1, e1, r1, _⟩ := DataW.trod_string Tryz.underlying9 (hf 1 _ rfl)
    obtain ⟨s2, e2, r2, _⟩ := DataW.trod_string Tryz.underlying9 (hf 2 _ rfl)
    simp only [DataW.weights, Tryz.underlying24, List.map_cons, List.map_nil, DataW.weightsEach, List.append_nil, List.mem_append] at hw
    refine ⟨⟨s0, s1, s2⟩, list3 (by rw [hl, cRef]) (cl1 cst cs 0 e0) (cl1 cst cs 1 e1) (cl1 cst cs 2 e2), ?_, ?_, ?_⟩
    · exact len_of (y := y0.1) (by rw [r0]) (fun n hn => hw n (.inl hn))
    · exact len_of (y := y1.1) (by rw [r1]) (fun n hn => hw n (.inr (.inl hn)))
    · exact len_of (y := y2.1) (by rw [r2]) (fun n hn => hw n (.inr (.inr hn)))
/-- A slice of structs that comes in, with what it weighs. -/
theorem open_rows {α : Type} {t e : TypeId} (ht : Tryz.prog.underlying t = some (.slice e)) {c : Nat} (hc : Tryz.prog.cellsOf e = c) (hcp : 0 < c) (en : α → List Value) (hen : ∀ a, (en a).length = c) (good : α → Prop)
    (parse : ∀ fuel cs x, DataW.trod enc Tryz.prog W 0 sp hd fuel e cs = some x → (∀ y ∈ x.1.weights Tryz.prog e, y ≤ reachBytes) → ∃ a, cs = en a ∧ good a) {v : Value} {d : DataW H} {ps : List MemPlace} {r : Reach} {b0 : Nat} (hval : Value.okWide Tryz.prog W r b0 t v)
    (h : DataW.Trod enc Tryz.prog W 0 sp hd t v d ps) (hw : ∀ y ∈ d.weights Tryz.prog t, y ≤ reachBytes) : ∃ l : List α, (∀ x ∈ l, good x) ∧ ∃ a cap, v = .slice a l.length cap ∧ l.length ≤ maxLen ∧
      (l = [] ∨ ∃ b off, a = some ⟨b, off, none⟩ ∧ ∀ (i : Nat) (x : α), l[i]? = some x → ∀ j u, (en x)[j]? = some u → W.cell? ⟨b, off + i * c + j, none⟩ = some u) := by
  obtain ⟨a0, len0, cap0, rfl⟩ := okWide_slice ht hval
  obtain ⟨fuel, hf⟩ := h
  rcases DataW.trod_slice ht hf with ⟨e6, r6⟩ | ⟨a, len, cap, elems, rest, n2, hn2, e6, r6, hb, hle, hcm, hlen2, hel, _, _⟩
  · simp [Value.cells] at e6
    obtain ⟨rfl, rfl, rfl⟩ := e6
    exact ⟨[], (fun x hx => by cases hx), none, 0, rfl, Nat.zero_le _, .inl rfl⟩
  · simp [Value.cells] at e6
    obtain ⟨rfl, rfl, rfl⟩ := e6
    have hwe : ∀ (i : Nat) (d : DataW H × List MemPlace), elems[i]? = some d → ∀ y ∈ d.1.weights Tryz.prog e, y ≤ reachBytes := by
      intro i d hd y hy
      refine hw y ?_
      have r7 := congrArg Prod.fst r6
      dsimp only at r7
      rw [r7]
      simp only [DataW.weights, ht, List.mem_cons, List.mem_append]
      exact .inr (.inl (weightsAll_mem (List.mem_map.2 ⟨d, List.mem_of_getElem? hd, rfl⟩) hy))
    have elem : ∀ i, i < len0 → ∃ x : α, good x ∧ ∀ j u, (en x)[j]? = some u → W.cell? ((a.add (i * c)).add j) = some u := by
      intro i hi
      have h1 := hel i hi
      rw [hc, List.getElem?_eq_getElem (by omega : i < elems.length), Option.bind_eq_some_iff] at h1
      obtain ⟨cs', h2, h3⟩ := h1
      obtain ⟨x, rfl, hg⟩ := parse _ _ _ h3 (hwe i _ (List.getElem?_eq_getElem (by omega)))
      refine ⟨x, hg, fun j u hj => ?_⟩
      have hjc : j < c := by
        have := (List.getElem?_eq_some_iff.1 hj).1
        rwa [hen] at this
      unfold World.cells? at h2
      rw [if_pos (Nat.zero_le _)] at h2
      rw [mapM_some_get h2 j j (by simp [hjc]), ← hj]
    rcases Nat.eq_zero_or_pos len0 with h0 | hpos
    · subst h0
      exact ⟨[], (fun x hx => by cases hx), some a, cap0, rfl, Nat.zero_le _, .inl rfl⟩
    obtain ⟨b, off, spot⟩ := a
    have first : ∀ x : α, ∃ u, (en x)[0]? = some u := fun x => ⟨_, List.getElem?_eq_getElem (by rw [hen]; exact hcp)⟩
    have hspot : spot = none := by
      obtain ⟨x, _, hx⟩ := elem 0 hpos
      obtain ⟨u, hu⟩ := first x
      have := hx 0 _ hu
      simpa [Addr.add] using World.cell?_spot this
    subst hspot
    have key : ∀ j i, i + j = len0 → ∃ l : List α, l.length = j ∧ (∀ x ∈ l, good x) ∧ ∀ (k : Nat) x, l[k]? = some x → ∀ j u, (en x)[j]? = some u → W.cell? ⟨b, off + (i + k) * c + j, none⟩ = some u := by
      intro j
      induction j with
      | zero => intro i _; exact ⟨[], rfl, (fun x hx => by cases hx), fun k x h => by simp at h⟩
      | succ j ihj =>
        intro i hi
        obtain ⟨l, k1, k3, k2⟩ := ihj (i + 1) (by omega)
        obtain ⟨x, hs, hx⟩ := elem i (by omega)
        simp only [add_off] at hx
        refine ⟨x :: l, by simp [k1], ?_, fun k y hy => ?_⟩
        · intro y hy
          rcases List.mem_cons.1 hy with rfl | hy
          · exact hs
          · exact k3 y hy
        · cases k with
          | zero => simp at hy; subst hy; exact hx
          | succ k =>
            have := k2 k y (by simpa using hy)
            rw [show i + (k + 1) = i + 1 + k by omega]; exact this
    obtain ⟨l, k1, k3, k2⟩ := key len0 0 (by omega)
    subst k1
    refine ⟨l, k3, some ⟨b, off, none⟩, cap0, rfl, by omega, .inr ⟨b, off, rfl, fun i x hx j u hu => ?_⟩⟩
    have := k2 i x hx j u hu
    rwa [Nat.zero_add] at this
theorem open_refs {v : Value} {d : DataW H} {ps : List MemPlace} {r : Reach} {b0 : Nat} (hval : Value.okWide Tryz.prog W r b0 27 v)
    (h : DataW.Trod enc Tryz.prog W 0 sp hd 27 v d ps) (hw : ∀ y ∈ d.weights Tryz.prog 27, y ≤ reachBytes) : ∃ l : List Rb, Refs W v l ∧ ∀ x ∈ l, RefZ x := by
  obtain ⟨l, h1, a, cap, h2, h3, h4⟩ := open_rows (α := Rb) Tryz.underlying27 cRef (by decide) (fun k => (refC k).toList) (fun k => rfl) RefZ parse_ref hval h hw
  refine ⟨l, ⟨a, cap, h2, h3, h4.imp id ?_⟩, h1⟩
  rintro ⟨b, off, e, hc⟩
  exact ⟨b, off, e, fun i o ho => ⟨hc i o ho 0 _ rfl, hc i o ho 1 _ rfl, hc i o ho 2 _ rfl⟩⟩
theorem open_str {v : Value} {d : DataW H} {ps : List MemPlace} {r : Reach} {b0 : Nat} (hval : Value.okWide Tryz.prog W r b0 9 v)
    (h : DataW.Trod enc Tryz.prog W 0 sp hd 9 v d ps) (hw : ∀ y ∈ d.weights Tryz.prog 9, y ≤ reachBytes) : ∃ s : ByteArray, v = .string s ∧ s.size ≤ 140737488355328 := by
  obtain ⟨s, h1, h2, _, _⟩ := open_string Tryz.underlying9 hval h
  exact ⟨s, h1, len_of h2 hw⟩
end
end Rf
end Go.Proofs.YtfabiidohdkkcaaGreatDoor

/- Layer 10: from 'the listed variables read as listed', and the world's shape, to what the walks ask. -/
namespace Go.Proofs.YtfabiidohdkkcaaGreatDoor
open Go Go.ChangeShapes Go.WideShapes Go.ChangeAt Go.RowKit
namespace Rf
set_option maxRecDepth 100000
set_option linter.unusedVariables false

/-- The program's tables, and the length up to which a text is looked through at once. -/
structure LaidR (w : World) : Prop where
  tabs : Ks.Laid w
  link : Lk.LaidL w
theorem LaidR.below {w w' : World} (h : LaidR w) (hB : Below w.heap.size w w') : LaidR w' := ⟨h.tabs.below hB, h.link.below hB⟩
abbrev Tab := List (Int × Int × Int)
/-- A table of rows of three numbers, as it is listed. -/
def rowsData {H : Type} (q : IntKind) (T : Tab) : DataW H := .agg (T.map fun x => .agg [.lit (.int .i32 x.1), .lit (.int .i32 x.2.1), .lit (.int q x.2.2)])

theorem one_ofL {k k2 : IntKind} {z v : Int} {y : DataW Unit} (h1 : y = .lit (.int k z)) (h2 : y = .lit (.int k2 v)) : z = v := by
  subst h1; injection h2 with h; injection h

theorem rows_cells {P : Program} {w : World} {base : Nat} {sp : Nat → Bool} {held : Bool} {fuel : Nat} {t e t32 tq : TypeId} {n : Nat} {f0 f1 f2 : Field} {q : IntKind} {cs : List Value} {T : Tab} {p : List MemPlace}
    (ht : P.underlying t = some (.array n e)) (he : P.underlying e = some (.struct #[f0, f1, f2])) (hce : P.cellsOf e = 3) (h32 : P.underlying t32 = some (.int .i32)) (hq : P.underlying tq = some (.int q)) (c32 : P.cellsOf t32 = 1) (cq : P.cellsOf tq = 1)
    (e0 : f0.type = t32) (e1 : f1.type = t32) (e2 : f2.type = tq) (o0 : f0.offset = 0) (o1 : f1.offset = 1) (o2 : f2.offset = 2)
    (h : DataW.trod (fun _ => ()) P w base sp held fuel t cs = some (rowsData q T, p)) (i : Nat) (x : Int × Int × Int) (hx : T[i]? = some x) :
    cs[i * 3]? = some (.int .i32 x.1) ∧ cs[i * 3 + 1]? = some (.int .i32 x.2.1) ∧ cs[i * 3 + 2]? = some (.int q x.2.2) := by
  obtain ⟨xs, m, _, ex, _, hl, hel⟩ := DataW.trod_array ht h
  have ed : xs.map (·.1) = T.map fun x => (.agg [.lit (.int .i32 x.1), .lit (.int .i32 x.2.1), .lit (.int q x.2.2)] : DataW Unit) := (DataW.agg.inj (Prod.mk.inj ex).1).symm
  have hTl : T.length = n := by have := congrArg List.length ed; simp at this; omega
  have hi : i < n := by have := (List.getElem?_eq_some_iff.1 hx).1; omega
  have hE := hel i hi
  obtain ⟨b, hb⟩ : ∃ b, xs[i]? = some b := ⟨_, List.getElem?_eq_getElem (by omega)⟩
  rw [hce, hb] at hE
  have hb1 : b.1 = .agg [.lit (.int .i32 x.1), .lit (.int .i32 x.2.1), .lit (.int q x.2.2)] := by
    have := congrArg (fun l => l[i]?) ed
    simp only [List.getElem?_map, hb, hx, Option.map_some, Option.some.injEq] at this
    exact this
  obtain ⟨y0, y1, y2, m2, rfl, _, h0, h1, h2⟩ := Go.Deep.trod_struct3 he hE
  rw [e0, o0, c32] at h0
  rw [e1, o1, c32] at h1
  rw [e2, o2, cq] at h2
  obtain ⟨z0, k0, r0, _⟩ := DataW.trod_int h32 h0
  obtain ⟨z1, k1, r1, _⟩ := DataW.trod_int h32 h1
  obtain ⟨z2, k2, r2, _⟩ := DataW.trod_int hq h2
  have hp := DataW.agg.inj hb1
  simp only [List.cons.injEq, and_true] at hp
  obtain ⟨d0, d1, d2⟩ := hp
  subst r0 r1 r2
  have v0 := one_ofL rfl d0
  have v1 := one_ofL rfl d1
  have v2 := one_ofL rfl d2
  subst v0 v1 v2
  have g : ∀ (j : Nat) (v : Value), ((((cs.drop (i * 3)).take 3).drop j).take 1) = [v] → cs[i * 3 + j]? = some v := by
    intro j v hv
    have hj : ((((cs.drop (i * 3)).take 3).drop j).take 1)[0]? = some v := by rw [hv]; rfl
    rw [List.getElem?_take_of_lt (by omega), List.getElem?_drop, Nat.add_zero] at hj
    have hj3 : j < 3 := by
      rcases Nat.lt_or_ge j 3 with h | h
      · exact h
      · rw [List.getElem?_eq_none (by simp; omega)] at hj; cases hj
    rw [List.getElem?_take_of_lt hj3, List.getElem?_drop] at hj
    exact hj
  exact ⟨g 0 _ k0, g 1 _ k1, g 2 _ k2⟩

theorem cells_of_var {P : Program} {W : World} {name : String} {g : Nat} {cs : Array Value} {q : IntKind} {T : Tab} (hg : P.globalNamed name = some g) (hv : W.var? P name = some cs)
    (h : ∀ (i : Nat) (x : Int × Int × Int), T[i]? = some x → cs.toList[i * 3]? = some (.int .i32 x.1) ∧ cs.toList[i * 3 + 1]? = some (.int .i32 x.2.1) ∧ cs.toList[i * 3 + 2]? = some (.int q x.2.2)) : ∀ (i : Nat) (x : Int × Int × Int), T[i]? = some x → W.cell? ⟨g, i * 3, none⟩ = some (.int .i32 x.1) ∧ W.cell? ⟨g, i * 3 + 1, none⟩ = some (.int .i32 x.2.1) ∧ W.cell? ⟨g, i * 3 + 2, none⟩ = some (.int q x.2.2) := by
  intro i x hx
  obtain ⟨h0, h1, h2⟩ := h i x hx
  refine ⟨?_, ?_, ?_⟩
  · rw [World.var?_cell hg hv]; simpa using h0
  · rw [World.var?_cell hg hv]; simpa using h1
  · rw [World.var?_cell hg hv]; simpa using h2


/-- What the condition gives the walks. -/
theorem laid_of {W : World} (h : laidMetH Tryz.prog [("unicode/utf8.acceptRanges", Rows.laid_unicode_utf8_acceptRanges), ("incipit/class.kinds", Rows.laid_incipit_class_kinds), ("incipit/class.capitals", Rows.laid_incipit_class_capitals), ("unicode/utf8.first", Rows.laid_unicode_utf8_first)] W) (hs : W.ShapedOpen Tryz.prog) : LaidR W := by
  have hlen : ∃ m : Int, W.cell? ⟨0, 0, none⟩ = some (.int .i64 m) := cell_of_shapedOpen_int (t := 3) (zero := #[.int .i64 0]) hs (of_decide_eq_true (by kernel_rfl)) (by kernel_rfl) rfl (by kernel_rfl) (by kernel_rfl) Tryz.underlying3
  rw [MakeChecks.laidMetH_plain _ _ _ (by kernel_rfl)] at h
  obtain ⟨ps, ⟨_, _, _, _, _, _, _, _, _, _, ⟨g, t, cs, fuel, p, q, hg, ht, hv, hd, ⟨g', t', cs', fuel', p', q', hg', ht', hv', hd', _⟩, _⟩, _⟩, _⟩ := h
  obtain rfl := Option.some.inj ((show Tryz.prog.globalNamed "incipit/class.kinds" = some 4 by kernel_rfl).symm.trans hg)
  obtain rfl := Option.some.inj ((show Tryz.prog.globalNamed "incipit/class.capitals" = some 1 by kernel_rfl).symm.trans hg')
  obtain rfl := Option.some.inj ((show (Tryz.prog.globals[4]?).map (·.type) = some 138 by kernel_rfl).symm.trans ht)
  obtain rfl := Option.some.inj ((show (Tryz.prog.globals[1]?).map (·.type) = some 101 by kernel_rfl).symm.trans ht')
  have hk := cells_of_var hg hv (fun i x hx => rows_cells (T := Ks.kinds) Tryz.underlying138 Tryz.underlying137 (by kernel_rfl) Tryz.underlying21 Tryz.underlying3 (by kernel_rfl) (by kernel_rfl) rfl rfl rfl rfl rfl rfl hd i x hx)
  have hc := cells_of_var hg' hv' (fun i x hx => rows_cells (T := Ks.caps) Tryz.underlying101 Tryz.underlying100 (by kernel_rfl) Tryz.underlying21 Tryz.underlying21 (by kernel_rfl) (by kernel_rfl) rfl rfl rfl rfl rfl rfl hd' i x hx)
  exact ⟨⟨hk, hc⟩, ⟨hk, hlen⟩⟩
end Rf
end Go.Proofs.YtfabiidohdkkcaaGreatDoor
