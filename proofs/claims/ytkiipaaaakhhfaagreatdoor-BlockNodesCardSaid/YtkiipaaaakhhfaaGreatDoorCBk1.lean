import Derived.Test.YtkiipaaaakhhfaaGreatDoorCCol1
section
set_option linter.unusedVariables false
set_option linter.unusedSimpArgs false
set_option maxRecDepth 100000
namespace Go.Proofs.YtkiipaaaakhhfaaGreatDoor
namespace Bk
abbrev Str := List UInt8
structure Rest where
 s : Str
 col : Nat
def Rest.ind (r : Rest) : Nat := Cl.indC r.s r.col
def Rest.aft (r : Rest) : Str := r.s.drop (Cl.indB r.s r.col)
def Rest.past (r : Rest) (m : Nat) : Rest := ⟨r.s.drop (Cl.indB r.s r.col + m), r.col + Cl.indC r.s r.col + m⟩
def Rest.skip (r : Rest) (n : Nat) : Rest := ⟨(Cl.skp r.s r.col n).1, (Cl.skp r.s r.col n).2⟩
def bl (c : UInt8) : Bool := c == 32 || c == 9
def blank (s : Str) : Bool := s.all bl
structure Scan (ρ : Type) where
 atx : Str → Nat × Str
 fence : Str → UInt8 × Nat × Str
 html : Str → Nat
 ends : Str → Nat → Bool
 setx : Str → Nat
 rule : Str → Bool
 bul : Str → Nat
 ord : Str → Nat × UInt8 × Nat
 closes : Str → UInt8 → Nat → Bool
 une : Str → Str
 defs : Str → List ρ × Str
def nlab (c : UInt8) : Bool := !(c == 32 || c == 9 || c == 10 || c == 91 || c == 93)
def labelP : Str → Str × Nat
 | 91 :: 94 :: t => match t.drop (t.takeWhile nlab).length with
  | 93 :: 58 :: _ => if t.takeWhile nlab = [] then ([], 0) else (t.takeWhile nlab, (t.takeWhile nlab).length + 4)
  | _ => ([], 0)
 | _ => ([], 0)
inductive B where
 | mk (k : Nat) (s t : Str) (n m : Nat) (fen stx : Bool) (ls : List Str) (a z : Nat) (kids : List B)
structure Fr where
 k : Nat
 s : Str
 n : Nat
 m : Nat
 need : Nat
 a : Nat
 z : Nat
 kids : List B
structure Lf where
 k : Nat
 t : Str
 n : Nat
 fen : Bool
 c : UInt8
 cnt : Nat
 need : Nat
 a : Nat
 z : Nat
 ls : List Str
def Lf.b (l : Lf) : B := .mk l.k [] l.t l.n 0 l.fen false l.ls l.a l.z []
def Fr.b (f : Fr) (more : List B) : B := .mk f.k f.s [] f.n f.m false false [] f.a f.z (f.kids ++ more)
def shut : List Fr → Option Lf → List B
 | [], none => []
 | [], some l => [l.b]
 | f :: fs, l => [f.b (shut fs l)]
def grow (bs : List B) (f : Fr) : Fr := { f with kids := f.kids ++ bs }
def touch (i : Nat) (f : Fr) : Fr := { f with z := i }
def onLast (g : Fr → Fr) : List Fr → List Fr
 | [] => []
 | f :: fs => if fs = [] then [g f] else f :: onLast g fs
def popList : List Fr → List Fr
 | f :: g :: fs => if fs = [] ∧ g.k = 3 then [grow [g.b []] f] else f :: popList (g :: fs)
 | l => l
structure Ln where
 ms : List Fr
 us : List Fr
 leaf : Option Lf
 r : Rest
def isK (k : Nat) : Option Lf → Bool
 | none => false
 | some l => l.k == k
def Ln.goes (L : Ln) : Bool := isK 7 L.leaf
def hasKid (f : Fr) (fs : List Fr) (leaf : Option Lf) : Bool := !f.kids.isEmpty || !fs.isEmpty || leaf.isSome
def meet1 (f : Fr) (has : Bool) (r : Rest) : Option Rest :=
 if f.k = 3 then some r
 else if f.k = 2 then (if 4 ≤ r.ind then none else if r.aft.head? = some 62 then some ((r.past 1).skip 1) else none)
 else if f.k = 4 ∧ blank r.s = true ∧ has = false then none
 else if r.ind < (if f.k = 4 then f.need else 4) ∧ blank r.s = false then none
 else some (r.skip (min r.ind (if f.k = 4 then f.need else 4)))
def met (i : Nat) (f : Fr) : Fr := if f.k = 2 then touch i f else f
def meets (i : Nat) (leaf : Option Lf) : List Fr → Rest → List Fr × List Fr × Rest
 | [], r => ([], [], r)
 | f :: fs, r => match meet1 f (hasKid f fs leaf) r with
  | none => ([], f :: fs, r)
  | some r1 => (met i f :: (meets i leaf fs r1).1, (meets i leaf fs r1).2.1, (meets i leaf fs r1).2.2)
def Lf.take (i : Nat) (s : Str) (l : Lf) : Lf := if blank s = true then { l with ls := l.ls ++ [s] } else { l with ls := l.ls ++ [s], z := i }
def Ln.add (i : Nat) (s : Str) (L : Ln) : Ln := { L with leaf := L.leaf.map (Lf.take i s) }
def Ln.shut (L : Ln) : Ln := { L with ms := onLast (grow (Bk.shut L.us L.leaf)) L.ms, us := [], leaf := none }
def Ln.place (item : Bool) (L : Ln) : List Fr :=
 if item = true then onLast (grow (Bk.shut L.us L.leaf)) L.ms else popList (onLast (grow (Bk.shut L.us L.leaf)) L.ms)
def Ln.contain (i : Nat) (f : Fr) (item : Bool) (L : Ln) : Ln := { ms := L.place item ++ [{ f with a := i, z := i, kids := [] }], us := [], leaf := none, r := L.r }
def Ln.open (i : Nat) (l : Lf) (L : Ln) : Ln := { ms := L.place false, us := [], leaf := some { l with a := i, z := i }, r := L.r }
def Ln.lay (i : Nat) (b : Nat → B) (L : Ln) : Ln := { ms := onLast (grow [b i]) (L.place false), us := [], leaf := none, r := L.r }
def nilF : Fr := ⟨0, [], 0, 0, 0, 0, 0, []⟩
def nilL : Lf := ⟨0, [], 0, false, 0, 0, 0, 0, 0, []⟩
section
variable {ρ : Type} (X : Scan ρ)
def takes (i : Nat) (L : Ln) : Bool × Ln := match L.us, L.leaf with
 | [], some l =>
  if l.k = 5 ∧ l.fen = true then
   if L.r.ind < 4 ∧ X.closes L.r.aft l.c l.cnt = true then (true, Ln.shut { L with leaf := some { l with z := i } })
   else (true, L.add i (L.r.skip l.need).s)
  else if l.k = 6 then
   if X.ends L.r.s l.n = true then (if blank L.r.s = true then (false, L.shut) else (true, (L.add i L.r.s).shut))
   else (true, L.add i L.r.s)
  else (false, L)
 | _, _ => (false, L)
def bare (L : Ln) : Bool := L.us.isEmpty && match L.leaf with
 | none => false
 | some l => l.k == 5 && !l.fen
def indented (i : Nat) (L : Ln) : Ln := if bare L = true then L.add i (L.r.skip 4).s else (L.open i { nilL with k := 5 }).add i (L.r.skip 4).s
def lines : List Str → Str
 | [] => []
 | [s] => s
 | s :: l => s ++ 10 :: lines l
def bodyT (l : List Str) : Str := Cl.rgt (lines l)
def setRest (L : Ln) : Bool := match L.leaf with
 | none => false
 | some l => !(X.defs (bodyT l.ls)).2.isEmpty
def leaves (i : Nat) (L : Ln) : Option Ln :=
 if 0 < (X.atx L.r.aft).1 then some (L.lay i fun i => .mk 8 (Cl.rgt (X.atx L.r.aft).2) [] (X.atx L.r.aft).1 0 false false [] i i [])
 else if 0 < (X.fence L.r.aft).2.1 then some (L.open i { nilL with k := 5, fen := true, c := (X.fence L.r.aft).1, cnt := (X.fence L.r.aft).2.1, need := L.r.ind, t := X.une (X.fence L.r.aft).2.2 })
 else if 0 < X.html L.r.aft ∧ ¬ (X.html L.r.aft = 7 ∧ L.goes = true) then
  if X.ends L.r.s (X.html L.r.aft) = true then some (L.lay i fun i => .mk 6 [] [] (X.html L.r.aft) 0 false false [L.r.s] i i [])
  else some (L.open i { nilL with k := 6, n := X.html L.r.aft, ls := [L.r.s] })
 else if 0 < X.setx L.r.aft ∧ L.us = [] ∧ L.goes = true ∧ setRest X L = true then
  match L.leaf with
  | none => none
  | some l => some { L with ms := onLast (grow [.mk 8 [] [] (X.setx L.r.aft) 0 false true l.ls l.a i []]) L.ms, leaf := none }
 else if X.rule L.r.aft = true then some (L.lay i fun i => .mk 9 [] [] 0 0 false false [] i i [])
 else none
def note (foot : Bool) (i : Nat) (L : Ln) : Option Ln :=
 if foot = false ∨ L.goes = true ∨ (labelP L.r.aft).2 = 0 then none
 else some (({ L with r := (L.r.past (labelP L.r.aft).2).skip (L.r.past (labelP L.r.aft).2).ind }).contain i { nilF with k := 13, s := (labelP L.r.aft).1 } false)
def sign (t : Str) : Nat × UInt8 × Nat := if 0 < X.bul t then (0, t.headD 0, X.bul t) else X.ord t
def isOrd (c : UInt8) : Bool := c == 46 || c == 41
def lastIs (m : Nat) (ms : List Fr) : Bool := match ms.getLast? with
 | none => false
 | some f => f.k == 3 && f.m == m
def width (L : Ln) (m : Nat) : Nat :=
 if blank (L.r.aft.drop m) = true ∨ 5 ≤ Cl.indC (L.r.aft.drop m) (L.r.col + L.r.ind + m) then 1 else Cl.indC (L.r.aft.drop m) (L.r.col + L.r.ind + m)
def item (i : Nat) (L : Ln) : Option Ln :=
 let q := sign X L.r.aft
 if q.2.2 = 0 then none
 else if L.us = [] ∧ L.goes = true ∧ (blank (L.r.aft.drop q.2.2) = true ∨ (isOrd q.2.1 = true ∧ q.1 ≠ 1)) then none
 else
  let b := width L q.2.2
  let L1 : Ln := { L with r := (L.r.past q.2.2).skip b }
  let L2 : Ln := if lastIs q.2.1.toNat L.ms = true then L1 else L1.contain i { nilF with k := 3, n := q.1, m := q.2.1.toNat } false
  some (L2.contain i { nilF with k := 4, need := L.r.ind + q.2.2 + b } true)
def begins (foot : Bool) (i : Nat) : Nat → Ln → Bool × Ln
 | 0, L => (false, L)
 | n + 1, L =>
  if blank L.r.s = true then (false, L)
  else if 4 ≤ L.r.ind then (if L.goes = true then (false, L) else (true, indented i L))
  else if L.r.aft.head? = some 62 then begins foot i n (({ L with r := (L.r.past 1).skip 1 }).contain i { nilF with k := 2 } false)
  else match leaves X i L with
   | some L1 => (true, L1)
   | none => match note foot i L with
    | some L1 => begins foot i n L1
    | none => match item X i L with
     | some L1 => begins foot i n L1
     | none => (false, L)
def text (i : Nat) (L : Ln) : Ln :=
 if blank L.r.s = true then (if bare L = true then L.add i (L.r.skip 4).s else L.shut)
 else if L.goes = true then L.add i (Cl.lft L.r.s)
 else (L.open i { nilL with k := 7 }).add i (Cl.lft L.r.s)
structure St where
 fs : List Fr
 leaf : Option Lf
def Ln.st (L : Ln) : St := ⟨L.ms ++ L.us, L.leaf⟩
def nb (s : Str) : Nat := s.countP fun c => !bl c
def lineL (i : Nat) (b : Fr) (fs : List Fr) (leaf : Option Lf) (r : Rest) : Ln :=
 { ms := b :: (meets i leaf fs r).1, us := (meets i leaf fs r).2.1, leaf := leaf, r := (meets i leaf fs r).2.2 }
def rest (foot : Bool) (i : Nat) (L : Ln) : Ln :=
 let t := takes X i L
 if t.1 = true then t.2 else
 let q := begins X foot i (nb t.2.r.s + 1) t.2
 if q.1 = true then q.2 else text i q.2
def line (foot : Bool) (i : Nat) (st : St) (s : Str) : St := match st.fs with
 | [] => st
 | b :: fs => (rest X foot i (lineL i b fs st.leaf ⟨s, 0⟩)).st
def go (foot : Bool) : Nat → St → List Str → St
 | _, st, [] => st
 | i, st, s :: l => go foot (i + 1) (line X foot i st s) l
def doc0 : St := ⟨[{ nilF with k := 1 }], none⟩
def St.kids (st : St) : List B := match st.fs with
 | [] => []
 | b :: fs => b.kids ++ shut fs st.leaf
inductive Blk where
 | mk (k : Nat) (s t : Str) (n m : Nat) (flag : Bool) (a z : Nat) (kids : List Blk)
def B.a : B → Nat
 | .mk _ _ _ _ _ _ _ _ a _ _ => a
def B.z : B → Nat
 | .mk _ _ _ _ _ _ _ _ _ z _ => z
def B.kids : B → List B
 | .mk _ _ _ _ _ _ _ _ _ _ l => l
def white (k : Nat) (ls : List Str) : Bool := k == 7 && ls.all blank
mutual
def zB : B → Nat → Nat
 | .mk k s t n m fen stx ls a z kids => fun acc => if white k ls = true then acc else zL kids (max acc z)
def zL : List B → Nat → Nat
 | [] => fun acc => acc
 | b :: l => fun acc => zL l (zB b acc)
end
theorem zB_mk (k : Nat) (s t : Str) (n m : Nat) (fen stx : Bool) (ls : List Str) (a z : Nat) (kids : List B) (acc : Nat) : zB (.mk k s t n m fen stx ls a z kids) acc = if white k ls = true then acc else zL kids (max acc z) := by rw [zB]
theorem zL_nil (acc : Nat) : zL [] acc = acc := by rw [zL]
theorem zL_cons (b : B) (l : List B) (acc : Nat) : zL (b :: l) acc = zL l (zB b acc) := by rw [zL]
def apart : List B → Bool
 | x :: y :: l => decide (zB x x.a + 1 < y.a) || apart (y :: l)
 | _ => false
def tight (l : List B) : Bool := !apart l && l.all fun b => !apart b.kids
def ended : List Str → Str
 | [] => []
 | s :: l => s ++ 10 :: ended l
def unblank (l : List Str) : List Str := (l.reverse.dropWhile blank).reverse
def defsB (k : Nat) (stx : Bool) (ls : List Str) : List ρ := if k = 7 ∨ (k = 8 ∧ stx = true) then (X.defs (bodyT ls)).1 else []
def goneB (k : Nat) (ls : List Str) : Bool := k == 7 && (X.defs (bodyT ls)).2.isEmpty
def sOf (k : Nat) (s : Str) (fen stx : Bool) (ls : List Str) : Str :=
 if k = 5 then ended (if fen = true then ls else unblank ls) else if k = 6 then ended ls else if k = 7 ∨ (k = 8 ∧ stx = true) then (X.defs (bodyT ls)).2 else s
mutual
def out : B → List Blk
 | .mk k s t n m fen stx ls a z kids => if goneB X k ls = true then [] else [.mk k (sOf X k s fen stx ls) t n m (k == 3 && tight kids) a (zL kids z) (outL kids)]
def outL : List B → List Blk
 | [] => []
 | b :: l => out b ++ outL l
end
mutual
def defsO : B → List ρ
 | .mk k s t n m fen stx ls a z kids => defsB X k stx ls ++ defsL kids
def defsL : List B → List ρ
 | [] => []
 | b :: l => defsO b ++ defsL l
end
def parse (foot : Bool) (l : List Str) : List Blk × List ρ := (outL X (go X foot 0 doc0 l).kids, defsL X (go X foot 0 doc0 l).kids)
end
end Bk
end Go.Proofs.YtkiipaaaakhhfaaGreatDoor
end
section
set_option linter.unusedVariables false
set_option linter.unusedSimpArgs false
set_option maxRecDepth 100000
namespace Go.Proofs.YtkiipaaaakhhfaaGreatDoor
namespace Bk
mutual
def shB (d : Nat) : B → B
 | .mk k s t n m f x ls a z kids => .mk k s t n m f x ls (a + d) (z + d) (shBs d kids)
def shBs (d : Nat) : List B → List B
 | [] => []
 | b :: l => shB d b :: shBs d l
end
theorem shBs_nil (d : Nat) : shBs d [] = [] := by rw [shBs]
theorem shBs_cons (d : Nat) (b : B) (l : List B) : shBs d (b :: l) = shB d b :: shBs d l := by rw [shBs]
theorem shBs_app (d : Nat) : ∀ (l m : List B), shBs d (l ++ m) = shBs d l ++ shBs d m
 | [], m => by rw [shBs_nil]; rfl
 | b :: l, m => by rw [List.cons_append, shBs_cons, shBs_cons, shBs_app d l m]; rfl
def shF (d : Nat) (f : Fr) : Fr := { f with a := f.a + d, z := f.z + d, kids := shBs d f.kids }
def shL (d : Nat) (l : Lf) : Lf := { l with a := l.a + d, z := l.z + d }
theorem shL_b (d : Nat) (l : Lf) : (shL d l).b = shB d l.b := by unfold Lf.b; rw [shB, shBs_nil]; rfl
theorem shF_b (d : Nat) (f : Fr) (more : List B) : (shF d f).b (shBs d more) = shB d (f.b more) := by
 unfold Fr.b shF
 rw [shB, shBs_app]
theorem shut_sh (d : Nat) : ∀ (fs : List Fr) (l : Option Lf), shut (fs.map (shF d)) (l.map (shL d)) = shBs d (shut fs l)
 | [], none => by rw [List.map_nil, shut, shBs_nil]; rfl
 | [], some l => by rw [List.map_nil, Option.map_some, shut, shut, shBs_cons, shBs_nil, shL_b]
 | f :: fs, l => by rw [List.map_cons, shut, shut, shut_sh d fs l, shF_b, shBs_cons, shBs_nil]
theorem shF_grow (d : Nat) (bs : List B) (f : Fr) : grow (shBs d bs) (shF d f) = shF d (grow bs f) := by
 unfold grow shF
 simp only [shBs_app]
theorem onLast_cons (g : Fr → Fr) (f : Fr) (fs : List Fr) : onLast g (f :: fs) = if fs = [] then [g f] else f :: onLast g fs := rfl
theorem onLast_sh (d : Nat) (bs : List B) : ∀ fs : List Fr, onLast (grow (shBs d bs)) (fs.map (shF d)) = (onLast (grow bs) fs).map (shF d)
 | [] => rfl
 | f :: fs => by
  rw [List.map_cons, onLast_cons, onLast_cons]
  by_cases h : fs = []
  ·rw [if_pos h, if_pos (by rw [h]; rfl), List.map_cons, List.map_nil, shF_grow]
  ·rw [if_neg h, if_neg (fun e => h (List.map_eq_nil_iff.1 e)), List.map_cons, onLast_sh d bs fs]
theorem onLast_ne (g : Fr → Fr) (l : List Fr) : onLast g l = [] ↔ l = [] := by
 cases l with
 | nil => exact Iff.rfl
 | cons f fs => rw [onLast_cons]; split <;> simp
theorem onLast_app (g : Fr → Fr) (x : Fr) (ys : List Fr) : ∀ xs : List Fr, onLast g (xs ++ x :: ys) = xs ++ onLast g (x :: ys)
 | [] => rfl
 | f :: xs => by rw [List.cons_append, onLast_cons, if_neg (by simp), onLast_app g x ys xs]; rfl
theorem popList_two (f g : Fr) (fs : List Fr) : popList (f :: g :: fs) = if fs = [] ∧ g.k = 3 then [grow [g.b []] f] else f :: popList (g :: fs) := by rw [popList]
theorem popList_app (x : Fr) (ys : List Fr) (h : x.k ≠ 3) : ∀ xs : List Fr, popList (xs ++ x :: ys) = xs ++ popList (x :: ys)
 | [] => rfl
 | [f] => by
  show popList (f :: x :: ys) = _
  rw [popList_two, if_neg (fun e => h e.2)]
  rfl
 | f :: g :: xs => by
  show popList (f :: g :: (xs ++ x :: ys)) = _
  rw [popList_two, if_neg (fun e => by have := e.1; simp at this)]
  have := popList_app x ys h (g :: xs)
  rw [List.cons_append] at this
  rw [this]
  rfl
theorem popList_one (f : Fr) : popList [f] = [f] := rfl
theorem popList_sh (d : Nat) : ∀ fs : List Fr, popList (fs.map (shF d)) = (popList fs).map (shF d)
 | [] => rfl
 | [f] => rfl
 | f :: g :: fs => by
  rw [List.map_cons, List.map_cons, popList_two, popList_two]
  by_cases h : fs = [] ∧ g.k = 3
  ·rw [if_pos h, if_pos ⟨by rw [h.1]; rfl, h.2⟩, List.map_cons, List.map_nil, ← shF_grow, shBs_cons, shBs_nil, ← shF_b, shBs_nil]
  ·rw [if_neg h, if_neg (fun e => h ⟨List.map_eq_nil_iff.1 e.1, e.2⟩), List.map_cons]
   have := popList_sh d (g :: fs)
   rw [List.map_cons] at this
   rw [this]
def NT (s : Str) : Prop := ∀ c ∈ s, c ≠ 9
theorem NT.cons {c : UInt8} {t : Str} (h : NT (c :: t)) : c ≠ 9 ∧ NT t := ⟨h c List.mem_cons_self, fun x hx => h x (List.mem_cons_of_mem _ hx)⟩
theorem NT.drop {s : Str} (h : NT s) (n : Nat) : NT (s.drop n) := fun c hc => h c (List.mem_of_mem_drop hc)
theorem wd_nt {c : UInt8} (h : c ≠ 9) (a b : Nat) : Cl.wd c a = Cl.wd c b := by unfold Cl.wd; rw [if_neg h, if_neg h]
theorem indC_nt : ∀ {s : Str}, NT s → ∀ a b, Cl.indC s a = Cl.indC s b
 | [], _, a, b => rfl
 | c :: t, h, a, b => by
  rw [Cl.indC, Cl.indC, wd_nt h.cons.1 a b, indC_nt h.cons.2 (a + Cl.wd c b) (b + Cl.wd c b)]
theorem indB_nt : ∀ {s : Str}, NT s → ∀ a b, Cl.indB s a = Cl.indB s b
 | [], _, a, b => rfl
 | c :: t, h, a, b => by
  rw [Cl.indB, Cl.indB, wd_nt h.cons.1 a b, indB_nt h.cons.2 (a + Cl.wd c b) (b + Cl.wd c b)]
theorem skp_nt : ∀ {s : Str}, NT s → ∀ a b n, (Cl.skp s a n).1 = (Cl.skp s b n).1
 | [], _, a, b, n => by rw [Cl.skp_nil, Cl.skp_nil]
 | c :: t, h, a, b, 0 => by rw [Cl.skp, Cl.skp]
 | c :: t, h, a, b, n + 1 => by
  rw [Cl.skp, Cl.skp, wd_nt h.cons.1 a b]
  split
  ·rfl
  ·split
   ·rfl
   ·exact skp_nt h.cons.2 _ _ _
theorem skp_NT : ∀ {s : Str}, NT s → ∀ a n, NT (Cl.skp s a n).1
 | [], h, a, n => by rw [Cl.skp_nil]; exact h
 | c :: t, h, a, 0 => by rw [Cl.skp]; exact h
 | c :: t, h, a, n + 1 => by
  rw [Cl.skp]
  split
  ·exact h
  ·split
   ·intro x hx
    rcases List.mem_append.1 hx with hx | hx
    ·rw [List.eq_of_mem_replicate hx]; decide
    ·exact h.cons.2 x hx
   ·exact skp_NT h.cons.2 _ _
def RR (r r' : Rest) : Prop := r' = r ∨ (r'.s = r.s ∧ NT r.s)
theorem RR.s {r r' : Rest} (h : RR r r') : r'.s = r.s := by
 rcases h with rfl | ⟨h, _⟩
 ·rfl
 ·exact h
theorem RR.ind {r r' : Rest} (h : RR r r') : r'.ind = r.ind := by
 rcases h with rfl | ⟨h, hn⟩
 ·rfl
 ·unfold Rest.ind; rw [h]; exact indC_nt hn _ _
theorem RR.aft {r r' : Rest} (h : RR r r') : r'.aft = r.aft := by
 rcases h with rfl | ⟨h, hn⟩
 ·rfl
 ·unfold Rest.aft; rw [h, indB_nt hn r'.col r.col]
theorem RR.past {r r' : Rest} (h : RR r r') (m : Nat) : RR (r.past m) (r'.past m) := by
 rcases h with rfl | ⟨h, hn⟩
 ·exact .inl rfl
 ·refine .inr ⟨?_, hn.drop _⟩
  show r'.s.drop _ = r.s.drop _
  rw [h, indB_nt hn r'.col r.col]
theorem RR.skip {r r' : Rest} (h : RR r r') (n : Nat) : RR (r.skip n) (r'.skip n) := by
 rcases h with rfl | ⟨h, hn⟩
 ·exact .inl rfl
 ·refine .inr ⟨?_, skp_NT hn _ _⟩
  show (Cl.skp r'.s r'.col n).1 = (Cl.skp r.s r.col n).1
  rw [h]; exact skp_nt hn _ _ _
theorem RR.wide {r r' : Rest} (h : RR r r') (m : Nat) : Cl.indC (r'.aft.drop m) (r'.col + r'.ind + m) = Cl.indC (r.aft.drop m) (r.col + r.ind + m) := by
 rcases h with rfl | ⟨h, hn⟩
 ·rfl
 ·rw [RR.aft (.inr ⟨h, hn⟩)]
  refine indC_nt ?_ _ _
  unfold Rest.aft
  exact (hn.drop _).drop _
structure Env where
 d : Nat
 K0 : List B
 ctx : List Fr
 b0 : Fr
 zc : Bool
 hb : b0.k ≠ 3
def clr (f : Fr) : Fr := { f with z := 0 }
def clrK (f : Fr) : Fr := { f with z := 0, kids := [] }
variable (E : Env)
def BR (i : Nat) (b b' : Fr) : Prop := b'.kids = E.K0 ++ shBs E.d b.kids ∧ b.k ≠ 3 ∧ clrK b' = clrK E.b0 ∧ (E.zc = true → b'.z = i + E.d)
theorem BR.k {E : Env} {i : Nat} {b b' : Fr} (h : BR E i b b') : b'.k ≠ 3 := by
 have : b'.k = E.b0.k := congrArg (fun f => f.k) h.2.2.1
 rw [this]; exact E.hb
theorem BR.touch {E : Env} {i : Nat} {b b' : Fr} (h : BR E i b b') : BR E i (touch i b) (touch (i + E.d) b') := ⟨h.1, h.2.1, h.2.2.1, fun _ => rfl⟩
theorem BR.later {E : Env} {i j : Nat} {b b' : Fr} (h : BR E i b b') (hz : E.zc = false) : BR E j b b' := ⟨h.1, h.2.1, h.2.2.1, fun e => by rw [hz] at e; cases e⟩
theorem BR.grow {E : Env} {i : Nat} {b b' : Fr} (h : BR E i b b') (bs : List B) : BR E i (grow bs b) (Bk.grow (shBs E.d bs) b') := by
 refine ⟨?_, h.2.1, h.2.2.1, h.2.2.2⟩
 show b'.kids ++ shBs E.d bs = E.K0 ++ shBs E.d (b.kids ++ bs)
 rw [h.1, shBs_app, List.append_assoc]
def MS (i : Nat) (ms ms' : List Fr) : Prop := ∃ b b' fs ctx', ms = b :: fs ∧ ms' = ctx' ++ b' :: fs.map (shF E.d) ∧ BR E i b b' ∧ ctx'.map clr = E.ctx.map clr
variable {E : Env} {i : Nat}
theorem MS.onLast {ms ms' : List Fr} (h : MS E i ms ms') (bs : List B) : MS E i (onLast (grow bs) ms) (Bk.onLast (Bk.grow (shBs E.d bs)) ms') := by
 obtain ⟨b, b', fs, ctx', rfl, rfl, hb, hc⟩ := h
 rw [onLast_app, onLast_cons, onLast_cons]
 by_cases hf : fs = []
 ·subst hf
  exact ⟨Bk.grow bs b, Bk.grow (shBs E.d bs) b', [], ctx', by rw [if_pos rfl], by rw [List.map_nil, if_pos rfl], hb.grow bs, hc⟩
 ·refine ⟨b, b', Bk.onLast (Bk.grow bs) fs, ctx', by rw [if_neg hf], ?_, hb, hc⟩
  rw [if_neg (fun e => hf (List.map_eq_nil_iff.1 e)), onLast_sh]
theorem MS.pop {ms ms' : List Fr} (h : MS E i ms ms') : MS E i (popList ms) (popList ms') := by
 obtain ⟨b, b', fs, ctx', rfl, rfl, hb, hc⟩ := h
 rw [popList_app _ _ hb.k]
 match fs with
 | [] => exact ⟨b, b', [], ctx', rfl, rfl, hb, hc⟩
 | [g] =>
  by_cases hg : g.k = 3
  ·refine ⟨Bk.grow [g.b []] b, Bk.grow (shBs E.d [g.b []]) b', [], ctx', ?_, ?_, hb.grow _, hc⟩
   ·rw [popList_two, if_pos ⟨rfl, hg⟩]
   ·show ctx' ++ popList (b' :: shF E.d g :: []) = _
    rw [popList_two, if_pos ⟨rfl, hg⟩, shBs_cons, shBs_nil, ← shF_b, shBs_nil]; rfl
  ·refine ⟨b, b', [g], ctx', ?_, ?_, hb, hc⟩
   ·rw [popList_two, if_neg (fun e => hg e.2)]; rfl
   ·show ctx' ++ popList (b' :: shF E.d g :: []) = _
    rw [popList_two, if_neg (fun e => hg e.2)]; rfl
 | g :: g2 :: fs =>
  refine ⟨b, b', popList (g :: g2 :: fs), ctx', ?_, ?_, hb, hc⟩
  ·rw [popList_two, if_neg (fun e => by cases e.1)]
  ·rw [← popList_sh]
   show ctx' ++ popList (b' :: shF E.d g :: (g2 :: fs).map (shF E.d)) = _
   rw [popList_two, if_neg (fun e => by cases e.1)]; rfl
theorem MS.snoc {ms ms' : List Fr} (h : MS E i ms ms') (f : Fr) : MS E i (ms ++ [f]) (ms' ++ [shF E.d f]) := by
 obtain ⟨b, b', fs, ctx', rfl, rfl, hb, hc⟩ := h
 exact ⟨b, b', fs ++ [f], ctx', rfl, by simp, hb, hc⟩
theorem MS.lastIs {ms ms' : List Fr} (h : MS E i ms ms') (m : Nat) : lastIs m ms' = Bk.lastIs m ms := by
 obtain ⟨b, b', fs, ctx', rfl, rfl, hb, hc⟩ := h
 unfold Bk.lastIs
 rw [List.getLast?_append]
 cases hf : fs.getLast? with
 | none =>
  have : fs = [] := List.getLast?_eq_none_iff.1 hf
  subst this
  have h1 : (b.k == 3) = false := beq_eq_false_iff_ne.2 hb.2.1
  have h2 : (b'.k == 3) = false := beq_eq_false_iff_ne.2 hb.k
  simp [h1, h2]
 | some f =>
  have e1 : (b :: fs).getLast? = some f := by rw [List.getLast?_cons, hf]; rfl
  have e2 : (b' :: fs.map (shF E.d)).getLast? = some (shF E.d f) := by rw [List.getLast?_cons, List.getLast?_map, hf]; rfl
  rw [e1, e2]
  rfl
structure Sim (E : Env) (i : Nat) (L L' : Ln) : Prop where
 ms : MS E i L.ms L'.ms
 us : L'.us = L.us.map (shF E.d)
 leaf : L'.leaf = L.leaf.map (shL E.d)
 r : RR L.r L'.r
theorem isK_sh (k : Nat) (l : Option Lf) (d : Nat) : isK k (l.map (shL d)) = isK k l := by cases l <;> rfl
variable {L L' : Ln}
theorem Sim.goes (h : Sim E i L L') : L'.goes = L.goes := by
 unfold Ln.goes
 rw [h.leaf, isK_sh]
theorem Sim.empty (h : Sim E i L L') : (L'.us = []) ↔ L.us = [] := by rw [h.us]; exact List.map_eq_nil_iff
theorem Sim.bare (h : Sim E i L L') : bare L' = Bk.bare L := by
 unfold Bk.bare
 rw [h.us, h.leaf, List.isEmpty_map]
 cases hl : L.leaf <;> rfl
theorem take_sh (i d : Nat) (s : Str) (l : Lf) : Lf.take (i + d) s (shL d l) = shL d (Lf.take i s l) := by
 unfold Lf.take
 split <;> rfl
theorem Sim.add (h : Sim E i L L') (s : Str) : Sim E i (L.add i s) (L'.add (i + E.d) s) := by
 refine ⟨h.ms, h.us, ?_, h.r⟩
 show L'.leaf.map _ = (L.leaf.map _).map _
 rw [h.leaf]
 cases L.leaf with
 | none => rfl
 | some l => exact congrArg some (take_sh i E.d s l)
theorem Sim.shut' (h : Sim E i L L') : MS E i (onLast (grow (Bk.shut L.us L.leaf)) L.ms) (onLast (grow (Bk.shut L'.us L'.leaf)) L'.ms) := by
 rw [h.us, h.leaf, shut_sh]
 exact h.ms.onLast _
theorem Sim.shut (h : Sim E i L L') : Sim E i L.shut L'.shut := ⟨h.shut', rfl, rfl, h.r⟩
theorem Sim.place (h : Sim E i L L') (item : Bool) : MS E i (L.place item) (L'.place item) := by
 unfold Ln.place
 cases item with
 | true => rw [if_pos rfl, if_pos rfl]; exact h.shut'
 | false => rw [if_neg (by decide), if_neg (by decide)]; exact h.shut'.pop
theorem Sim.contain (h : Sim E i L L') (f : Fr) (item : Bool) : Sim E i (L.contain i f item) (L'.contain (i + E.d) f item) := by
 unfold Ln.contain
 refine ⟨?_, rfl, rfl, h.r⟩
 have := (h.place item).snoc { f with a := i, z := i, kids := [] }
 unfold shF at this
 rw [shBs_nil] at this
 exact this
theorem Sim.open (h : Sim E i L L') (l : Lf) : Sim E i (L.open i l) (L'.open (i + E.d) l) := ⟨h.place false, rfl, rfl, h.r⟩
theorem Sim.lay (h : Sim E i L L') {b : Nat → B} {b' : Nat → B} (hb : b' (i + E.d) = shB E.d (b i)) : Sim E i (L.lay i b) (L'.lay (i + E.d) b') := by
 refine ⟨?_, rfl, rfl, h.r⟩
 have := (h.place false).onLast [b i]
 rw [shBs_cons, shBs_nil, ← hb] at this
 exact this
theorem Sim.rest (h : Sim E i L L') {r r' : Rest} (hr : RR r r') : Sim E i { L with r := r } { L' with r := r' } := ⟨h.ms, h.us, h.leaf, hr⟩
section
variable {ρ : Type} (X : Scan ρ)
end
structure SS (E : Env) (i : Nat) (st st' : St) : Prop where
 fs : MS E i st.fs st'.fs
 leaf : st'.leaf = st.leaf.map (shL E.d)
theorem Sim.st (h : Sim E i L L') : SS E i L.st L'.st := by
 refine ⟨?_, h.leaf⟩
 obtain ⟨b, b', fs, ctx', h1, h2, hb, hc⟩ := h.ms
 refine ⟨b, b', fs ++ L.us, ctx', ?_, ?_, hb, hc⟩
 ·show L.ms ++ L.us = _
  rw [h1]; rfl
 ·show L'.ms ++ L'.us = _
  rw [h2, h.us]; simp
end Bk
end Go.Proofs.YtkiipaaaakhhfaaGreatDoor
end
section
set_option linter.unusedVariables false
set_option linter.unusedSimpArgs false
set_option maxRecDepth 100000
namespace Go.Proofs.YtkiipaaaakhhfaaGreatDoor
namespace Bk
section
variable {ρ : Type} (X : Scan ρ)
def tail (foot : Bool) (i n : Nat) (L : Ln) : Ln := if (begins X foot i n L).1 = true then (begins X foot i n L).2 else text i (begins X foot i n L).2
theorem rest_eq (foot : Bool) (i : Nat) (L : Ln) : rest X foot i L = if (takes X i L).1 = true then (takes X i L).2 else tail X foot i (nb (takes X i L).2.r.s + 1) (takes X i L).2 := rfl
theorem rest_none (foot : Bool) (i : Nat) {L : Ln} (h : L.leaf = none) : rest X foot i L = tail X foot i (nb L.r.s + 1) L := by
 have : takes X i L = (false, L) := by
  unfold takes
  rw [h]
  cases L.us <;> rfl
 rw [rest_eq, this]
 rfl
theorem line_cons (foot : Bool) (i : Nat) (b : Fr) (fs : List Fr) (leaf : Option Lf) (s : Str) : line X foot i ⟨b :: fs, leaf⟩ s = (rest X foot i (lineL i b fs leaf ⟨s, 0⟩)).st := rfl
theorem nb_cons (c : UInt8) (s : Str) : nb (c :: s) = nb s + (if bl c = true then 0 else 1) := by
 unfold nb
 rw [List.countP_cons]
 cases bl c <;> rfl
theorem blank_cons (c : UInt8) (s : Str) : blank (c :: s) = (bl c && blank s) := rfl
def docF : Fr := { nilF with k := 1 }
theorem outL_cons (b : B) (l : List B) : outL X (b :: l) = out X b ++ outL X l := by rw [outL]
theorem outL_nil : outL X [] = [] := by rw [outL]
theorem defsL_cons (b : B) (l : List B) : defsL X (b :: l) = defsO X b ++ defsL X l := by rw [defsL]
theorem defsL_nil : defsL X [] = [] := by rw [defsL]
theorem outL_app : ∀ l m : List B, outL X (l ++ m) = outL X l ++ outL X m
 | [], m => by rw [outL_nil]; rfl
 | b :: l, m => by rw [List.cons_append, outL_cons, outL_cons, outL_app l m, List.append_assoc]
theorem defsL_app : ∀ l m : List B, defsL X (l ++ m) = defsL X l ++ defsL X m
 | [], m => by rw [defsL_nil]; rfl
 | b :: l, m => by rw [List.cons_append, defsL_cons, defsL_cons, defsL_app l m, List.append_assoc]
end
end Bk
end Go.Proofs.YtkiipaaaakhhfaaGreatDoor
end
section
set_option linter.unusedVariables false
set_option linter.unusedSimpArgs false
set_option maxRecDepth 100000
namespace Go.Proofs.YtkiipaaaakhhfaaGreatDoor
namespace Bk
def HasL (L : Ln) : Prop := ∃ b fs, L.ms = b :: fs ∧ (b.kids ≠ [] ∨ fs ≠ [] ∨ L.us ≠ [] ∨ L.leaf ≠ none)
def HasS (st : St) : Prop := ∃ b fs, st.fs = b :: fs ∧ hasKid b fs st.leaf = true
theorem HasL.ne {L : Ln} (h : HasL L) : L.ms ≠ [] := by obtain ⟨b, fs, e, _⟩ := h; rw [e]; simp
theorem popList_ne : ∀ l : List Fr, popList l = [] → l = []
 | [], _ => rfl
 | [f], h => by cases h
 | f :: g :: fs, h => by
  rw [popList_two] at h
  split at h <;> cases h
theorem place_ne {L : Ln} (h : L.ms ≠ []) (item : Bool) : ∃ p ps, L.place item = p :: ps := by
 cases hp : L.place item with
 | cons p ps => exact ⟨p, ps, rfl⟩
 | nil =>
  exfalso
  unfold Ln.place at hp
  split at hp
  ·exact h ((onLast_ne _ _).1 hp)
  ·exact h ((onLast_ne _ _).1 (popList_ne _ hp))
section
variable {ρ : Type} (X : Scan ρ)
theorem HasL.st {L : Ln} (h : HasL L) : HasS L.st := by
 obtain ⟨b, fs, e, h⟩ := h
 refine ⟨b, fs ++ L.us, by show L.ms ++ L.us = _; rw [e]; rfl, ?_⟩
 unfold hasKid
 show (!b.kids.isEmpty || !(fs ++ L.us).isEmpty || L.leaf.isSome) = true
 rcases h with h | h | h | h
 ·cases hk : b.kids with
  | nil => exact absurd hk h
  | cons _ _ => rfl
 ·cases fs with
  | nil => exact absurd rfl h
  | cons _ _ => simp
 ·cases hu : L.us with
  | nil => exact absurd hu h
  | cons _ _ => simp
 ·cases hl : L.leaf with
  | none => exact absurd hl h
  | some _ => simp
theorem bl_wd {c : UInt8} (h : bl c = false) (col : Nat) : Cl.wd c col = 0 := by
 unfold bl at h
 have h1 : c ≠ 32 := fun e => by rw [e] at h; cases h
 have h2 : c ≠ 9 := fun e => by rw [e] at h; cases h
 unfold Cl.wd
 rw [if_neg h1, if_neg h2]
end
end Bk
end Go.Proofs.YtkiipaaaakhhfaaGreatDoor
end
section
set_option linter.unusedVariables false
set_option linter.unusedSimpArgs false
set_option maxRecDepth 100000
namespace Go.Proofs.YtkiipaaaakhhfaaGreatDoor
namespace Bk
section
variable {ρ : Type} (X : Scan ρ)
theorem grow_nil (b : Fr) : grow [] b = b := by unfold grow; rw [List.append_nil]
theorem ind_head {c : UInt8} (h : bl c = false) (t : Str) (col : Nat) : (⟨c :: t, col⟩ : Rest).ind = 0 ∧ (⟨c :: t, col⟩ : Rest).aft = c :: t := by
 refine ⟨Cl.indC_z c t col (bl_wd h col), ?_⟩
 show (c :: t).drop (Cl.indB (c :: t) col) = _
 rw [Cl.indB_z c t col (bl_wd h col)]
 rfl
def ln (b : Fr) (leaf : Option Lf) (s : Str) : Ln := { ms := [b], us := [], leaf := leaf, r := ⟨s, 0⟩ }
theorem line_one (foot : Bool) (i : Nat) (b : Fr) (leaf : Option Lf) (s : Str) : line X foot i ⟨[b], leaf⟩ s = (rest X foot i (ln b leaf s)).st := rfl
theorem line_none (foot : Bool) (i : Nat) (b : Fr) (s : Str) : line X foot i ⟨[b], none⟩ s = (tail X foot i (nb s + 1) (ln b none s)).st := by
 rw [line_one, rest_none X foot i rfl]
 rfl
theorem tail_text (foot : Bool) (i n : Nat) {b : Fr} {leaf : Option Lf} {c : UInt8} {t : Str} (hc : bl c = false) (h62 : c ≠ 62) (h1 : leaves X i (ln b leaf (c :: t)) = none) (h2 : note foot i (ln b leaf (c :: t)) = none) (h3 : item X i (ln b leaf (c :: t)) = none) :
  tail X foot i (n + 1) (ln b leaf (c :: t)) = text i (ln b leaf (c :: t)) := by
 have : begins X foot i (n + 1) (ln b leaf (c :: t)) = (false, ln b leaf (c :: t)) := by
  rw [begins]
  rw [if_neg (by show ¬ blank (c :: t) = true; rw [blank_cons, hc]; exact Bool.false_ne_true)]
  rw [if_neg (by show ¬ 4 ≤ (⟨c :: t, 0⟩ : Rest).ind; rw [(ind_head hc t 0).1]; decide)]
  rw [if_neg (by show ¬ ((⟨c :: t, 0⟩ : Rest).aft).head? = some 62; rw [(ind_head hc t 0).2]; intro e; injection e with e; exact h62 e), h1, h2, h3]
 unfold tail
 rw [this, if_neg Bool.false_ne_true]
theorem tail_empty (foot : Bool) (i n : Nat) (b : Fr) (leaf : Option Lf) : tail X foot i (n + 1) (ln b leaf []) = text i (ln b leaf []) := by
 have : begins X foot i (n + 1) (ln b leaf []) = (false, ln b leaf []) := by
  rw [begins, if_pos (by rfl)]
 unfold tail
 rw [this, if_neg Bool.false_ne_true]
end
end Bk
end Go.Proofs.YtkiipaaaakhhfaaGreatDoor
end
section
set_option linter.unusedVariables false
set_option linter.unusedSimpArgs false
set_option maxRecDepth 100000
namespace Go.Proofs.YtkiipaaaakhhfaaGreatDoor
namespace Bk
def okc (p k : Nat) : Prop := (p = 0 ∧ k = 1) ∨ (p = 3 ∧ k = 4) ∨ (p ≠ 0 ∧ p ≠ 3 ∧ (k = 2 ∨ k = 3 ∨ k = 13))
theorem okc_ne {p k : Nat} (h : okc p k) : k ≠ 0 := by unfold okc at h; omega
mutual
def wOne : B → Nat → Nat → Nat → Prop
 | .mk k s t m1 m2 f x ls a z kids => fun at' n p => at' ≤ a ∧ a ≤ z ∧ z < n ∧ p ≠ 0 ∧ (okc p k ∨ (5 ≤ k ∧ k ≤ 9 ∧ p ≠ 3 ∧ kids = [])) ∧ wAll kids a n k
def wAll : List B → Nat → Nat → Nat → Prop
 | [] => fun _ _ _ => True
 | b :: l => fun at' n p => wOne b at' n p ∧ wAll l b.a n p
end
theorem wAll_nil (a n p : Nat) : wAll [] a n p := by rw [wAll]; trivial
theorem wAll_cons (b : B) (l : List B) (a n p : Nat) : wAll (b :: l) a n p ↔ wOne b a n p ∧ wAll l b.a n p := by rw [wAll]
theorem wOne_mk {k : Nat} {s t : Str} {m1 m2 : Nat} {f x : Bool} {ls : List Str} {a z : Nat} {kids : List B} (at' n p : Nat) : wOne (.mk k s t m1 m2 f x ls a z kids) at' n p ↔ (at' ≤ a ∧ a ≤ z ∧ z < n ∧ p ≠ 0 ∧ (okc p k ∨ (5 ≤ k ∧ k ≤ 9 ∧ p ≠ 3 ∧ kids = [])) ∧ wAll kids a n k) := by rw [wOne]
def lastA : List B → Nat → Nat
 | [], a => a
 | b :: l, _ => lastA l b.a
mutual
theorem wOne_mono {n m : Nat} (hm : n ≤ m) : ∀ {b : B} {a p : Nat}, wOne b a n p → wOne b a m p
 | .mk k s t m1 m2 f x ls a0 z kids, a, p, h => by
  rw [wOne_mk] at h ⊢
  exact ⟨h.1, h.2.1, by have := h.2.2.1; omega, h.2.2.2.1, h.2.2.2.2.1, wAll_mono hm h.2.2.2.2.2⟩
theorem wAll_mono {n m : Nat} (hm : n ≤ m) : ∀ {l : List B} {a p : Nat}, wAll l a n p → wAll l a m p
 | [], a, p, _ => wAll_nil _ _ _
 | b :: l, a, p, h => by
  rw [wAll_cons] at h ⊢
  exact ⟨wOne_mono hm h.1, wAll_mono hm h.2⟩
end
theorem wAll_app : ∀ (l m : List B) (a n p : Nat), wAll (l ++ m) a n p ↔ wAll l a n p ∧ wAll m (lastA l a) n p
 | [], m, a, n, p => by rw [List.nil_append]; exact ⟨fun h => ⟨wAll_nil _ _ _, h⟩, fun h => h.2⟩
 | b :: l, m, a, n, p => by
  rw [List.cons_append, wAll_cons, wAll_cons, wAll_app l m, lastA, and_assoc]
theorem lastA_lt : ∀ {l : List B} {a n p : Nat}, wAll l a n p → a < n → lastA l a < n
 | [], a, n, p, _, ha => ha
 | b :: l, a, n, p, h, ha => by
  rw [wAll_cons] at h
  rw [lastA]
  refine lastA_lt h.2 ?_
  cases b
  have := h.1
  rw [wOne_mk] at this
  show _ < n
  exact Nat.lt_of_le_of_lt this.2.1 this.2.2.1
def wPath : List Fr → Option Lf → Nat → Nat → Nat → Prop
 | [], none => fun _ _ _ => True
 | [], some l => fun a n p => p ≠ 0 ∧ p ≠ 3 ∧ (l.k = 5 ∨ l.k = 6 ∨ l.k = 7) ∧ a ≤ l.a ∧ l.a ≤ l.z ∧ l.z < n
 | f :: fs, leaf => fun a n p => okc p f.k ∧ a ≤ f.a ∧ f.a ≤ f.z ∧ f.z < n ∧ wAll f.kids f.a n f.k ∧ wPath fs leaf (lastA f.kids f.a) n f.k
theorem wPath_mono {n m : Nat} (hm : n ≤ m) : ∀ {fs : List Fr} {leaf : Option Lf} {a p : Nat}, wPath fs leaf a n p → wPath fs leaf a m p
 | [], none, _, _, _ => trivial
 | [], some l, a, p, h => ⟨h.1, h.2.1, h.2.2.1, h.2.2.2.1, h.2.2.2.2.1, by have := h.2.2.2.2.2; omega⟩
 | f :: fs, leaf, a, p, h => ⟨h.1, h.2.1, h.2.2.1, by have := h.2.2.2.1; omega, wAll_mono hm h.2.2.2.2.1, wPath_mono hm h.2.2.2.2.2⟩
theorem w_leaf {l : Lf} {a n p : Nat} (h : wPath [] (some l) a n p) : wOne l.b a n p := by
 unfold Lf.b
 rw [wOne_mk]
 obtain ⟨h1, h2, h3, h4, h5, h6⟩ := h
 exact ⟨h4, h5, h6, h1, .inr ⟨by omega, by omega, h2, rfl⟩, wAll_nil _ _ _⟩
theorem w_shut : ∀ {fs : List Fr} {leaf : Option Lf} {a n p : Nat}, wPath fs leaf a n p → p ≠ 0 → wAll (shut fs leaf) a n p
 | [], none, _, _, _, _, _ => wAll_nil _ _ _
 | [], some l, a, n, p, h, _ => by
  rw [shut, wAll_cons]
  exact ⟨w_leaf h, wAll_nil _ _ _⟩
 | f :: fs, leaf, a, n, p, h, hp => by
  rw [shut, wAll_cons]
  refine ⟨?_, wAll_nil _ _ _⟩
  obtain ⟨h1, h2, h3, h4, h5, h6⟩ := h
  unfold Fr.b
  rw [wOne_mk]
  exact ⟨h2, h3, h4, hp, .inl h1, (wAll_app _ _ _ _ _).2 ⟨h5, w_shut h6 (okc_ne h1)⟩⟩
theorem w_leaf' {n : Nat} (l l' : Lf) (hk : l'.k = l.k) (ha : l'.a = l.a) (hz : l.a ≤ l.z → l.z < n → l'.a ≤ l'.z ∧ l'.z < n) : ∀ {fs : List Fr} {a p : Nat}, wPath fs (some l) a n p → wPath fs (some l') a n p
 | [], a, p, h => by
  obtain ⟨h1, h2, h3, h4, h5, h6⟩ := h
  exact ⟨h1, h2, by rw [hk]; exact h3, by rw [ha]; exact h4, (hz h5 h6).1, (hz h5 h6).2⟩
 | f :: fs, a, p, h => ⟨h.1, h.2.1, h.2.2.1, h.2.2.2.1, h.2.2.2.2.1, w_leaf' l l' hk ha hz h.2.2.2.2.2⟩
theorem w_settle {us : List Fr} {leaf : Option Lf} : ∀ {ms : List Fr} {a n p : Nat}, wPath (ms ++ us) leaf a n p → wPath (onLast (grow (shut us leaf)) ms) none a n p
 | [], a, n, p, h => trivial
 | f :: ms, a, n, p, h => by
  obtain ⟨h1, h2, h3, h4, h5, h6⟩ := h
  rw [onLast_cons]
  by_cases hm : ms = []
  ·subst hm
   rw [if_pos rfl]
   exact ⟨h1, h2, h3, h4, (wAll_app _ _ _ _ _).2 ⟨h5, w_shut h6 (okc_ne h1)⟩, trivial⟩
  ·rw [if_neg hm]
   exact ⟨h1, h2, h3, h4, h5, w_settle h6⟩
def lastK : List Fr → Nat
 | [] => 0
 | f :: fs => if fs = [] then f.k else lastK fs
theorem lastK_cons (f : Fr) (fs : List Fr) : lastK (f :: fs) = if fs = [] then f.k else lastK fs := rfl
theorem lastK_onLast (g : Fr → Fr) (hg : ∀ f, (g f).k = f.k) : ∀ l : List Fr, lastK (onLast g l) = lastK l
 | [] => rfl
 | f :: fs => by
  rw [onLast_cons, lastK_cons]
  by_cases h : fs = []
  ·rw [if_pos h, if_pos h]; exact hg f
  ·rw [if_neg h, if_neg h, lastK_cons, if_neg (fun e => h ((onLast_ne _ _).1 e)), lastK_onLast g hg fs]
theorem lastK_snoc (f : Fr) : ∀ l : List Fr, lastK (l ++ [f]) = f.k
 | [] => rfl
 | g :: l => by rw [List.cons_append, lastK_cons, if_neg (by simp), lastK_snoc f l]
theorem lastK_is {m : Nat} : ∀ {l : List Fr}, lastIs m l = true → lastK l = 3
 | [], h => by cases h
 | [f], h => by
  unfold lastIs at h
  simp at h
  exact h.1
 | f :: g :: l, h => by
  rw [lastK_cons, if_neg (by simp)]
  refine lastK_is (l := g :: l) (m := m) ?_
  unfold lastIs at h ⊢
  rw [List.getLast?_cons_cons] at h
  exact h
theorem w_pop : ∀ {f : Fr} {fs : List Fr} {a n p : Nat}, wPath (f :: fs) none a n p → (fs ≠ [] ∨ f.k ≠ 3) → wPath (popList (f :: fs)) none a n p ∧ lastK (popList (f :: fs)) ≠ 3
 | f, [], a, n, p, h, hf => ⟨h, by rw [popList_one]; exact hf.resolve_left (fun e => e rfl)⟩
 | f, g :: fs, a, n, p, h, hf => by
  rw [popList_two]
  obtain ⟨h1, h2, h3, h4, h5, h6⟩ := h
  by_cases hc : fs = [] ∧ g.k = 3
  ·obtain ⟨rfl, hg⟩ := hc
   rw [if_pos ⟨rfl, hg⟩]
   have hk := h6.1
   refine ⟨⟨h1, h2, h3, h4, (wAll_app _ _ _ _ _).2 ⟨h5, w_shut (fs := [g]) (leaf := none) h6 (okc_ne h1)⟩, trivial⟩, ?_⟩
   show f.k ≠ 3
   unfold okc at hk
   omega
  ·rw [if_neg hc]
   have hg : fs ≠ [] ∨ g.k ≠ 3 := by
    by_cases e : fs = []
    ·exact .inr (fun e2 => hc ⟨e, e2⟩)
    ·exact .inl e
   obtain ⟨k1, k2⟩ := w_pop h6 hg
   refine ⟨⟨h1, h2, h3, h4, h5, k1⟩, ?_⟩
   rw [lastK_cons, if_neg (fun e => by have := popList_ne _ e; cases this)]
   exact k2
theorem w_more {i : Nat} {ys : List Fr} {leaf : Option Lf} {lk : Nat} (hY : ∀ a, a ≤ i → wPath ys leaf a (i + 1) lk) : ∀ {qs : List Fr} {a p : Nat}, qs ≠ [] → lastK qs = lk → wPath qs none a (i + 1) p → wPath (qs ++ ys) leaf a (i + 1) p
 | [], _, _, h, _, _ => absurd rfl h
 | f :: qs, a, p, _, hk, h => by
  obtain ⟨h1, h2, h3, h4, h5, h6⟩ := h
  rw [lastK_cons] at hk
  by_cases hq : qs = []
  ·subst hq
   rw [if_pos rfl] at hk
   refine ⟨h1, h2, h3, h4, h5, ?_⟩
   rw [hk]
   exact hY _ (Nat.lt_succ_iff.1 (lastA_lt h5 (by omega)))
  ·rw [if_neg hq] at hk
   exact ⟨h1, h2, h3, h4, h5, w_more hY hq hk h6⟩
theorem w_lay {i : Nat} {b : B} {lk : Nat} (hb : ∀ a, a ≤ i → wOne b a (i + 1) lk) : ∀ {qs : List Fr} {a p : Nat}, lastK qs = lk → wPath qs none a (i + 1) p → wPath (onLast (grow [b]) qs) none a (i + 1) p
 | [], _, _, _, _ => trivial
 | f :: qs, a, p, hk, h => by
  obtain ⟨h1, h2, h3, h4, h5, h6⟩ := h
  rw [lastK_cons] at hk
  rw [onLast_cons]
  by_cases hq : qs = []
  ·subst hq
   rw [if_pos rfl] at hk
   rw [if_pos rfl]
   refine ⟨h1, h2, h3, h4, (wAll_app _ _ _ _ _).2 ⟨h5, ?_⟩, trivial⟩
   rw [wAll_cons]
   refine ⟨?_, wAll_nil _ _ _⟩
   have := hb _ (Nat.lt_succ_iff.1 (lastA_lt h5 (by omega)))
   rw [← hk] at this
   exact this
  ·rw [if_neg hq] at hk
   rw [if_neg hq]
   exact ⟨h1, h2, h3, h4, h5, w_lay hb hk h6⟩
def InL (i : Nat) (L : Ln) : Prop := wPath (L.ms ++ L.us) L.leaf 0 (i + 1) 0 ∧ L.ms ≠ []
variable {i : Nat} {L : Ln}
theorem in_rest (h : InL i L) (r : Rest) : InL i { L with r := r } := h
theorem take_az (i : Nat) (s : Str) (l : Lf) : (l.take i s).k = l.k ∧ (l.take i s).a = l.a ∧ (l.a ≤ l.z → l.z < i + 1 → (l.take i s).a ≤ (l.take i s).z ∧ (l.take i s).z < i + 1) := by
 unfold Lf.take
 split
 ·exact ⟨rfl, rfl, fun a b => ⟨a, b⟩⟩
 ·exact ⟨rfl, rfl, fun a b => ⟨by show l.a ≤ i; omega, by show i < i + 1; omega⟩⟩
theorem in_add (h : InL i L) (s : Str) : InL i (L.add i s) := by
 refine ⟨?_, h.2⟩
 have h1 := h.1
 show wPath (L.ms ++ L.us) (L.leaf.map _) 0 (i + 1) 0
 cases hl : L.leaf with
 | none => rw [hl] at h1; exact h1
 | some l =>
  rw [hl] at h1
  obtain ⟨a, b, c⟩ := take_az i s l
  exact w_leaf' l (l.take i s) a b c h1
theorem in_shut (h : InL i L) : InL i L.shut := by
 refine ⟨?_, fun e => h.2 ((onLast_ne _ _).1 e)⟩
 show wPath (onLast (grow (shut L.us L.leaf)) L.ms ++ []) none 0 (i + 1) 0
 rw [List.append_nil]
 exact w_settle h.1
theorem in_place (h : InL i L) (item : Bool) : ∃ qs, L.place item = qs ∧ qs ≠ [] ∧ wPath qs none 0 (i + 1) 0 ∧ (item = false → lastK qs ≠ 3) ∧ (item = true → lastK qs = lastK L.ms) ∧ lastK qs ≠ 0 := by
 have hs := w_settle h.1
 have hne : onLast (grow (shut L.us L.leaf)) L.ms ≠ [] := fun e => h.2 ((onLast_ne _ _).1 e)
 have hk0 : ∀ {qs : List Fr} {a n p : Nat}, wPath qs none a n p → qs ≠ [] → lastK qs ≠ 0 := by
  intro qs
  induction qs with
  | nil => intro a n p _ e; exact absurd rfl e
  | cons f qs ih =>
   intro a n p h _
   rw [lastK_cons]
   by_cases hq : qs = []
   ·rw [if_pos hq]; exact okc_ne h.1
   ·rw [if_neg hq]; exact ih h.2.2.2.2.2 hq
 unfold Ln.place
 cases item with
 | true => exact ⟨_, rfl, hne, hs, fun e => (by cases e), fun _ => (by rw [if_pos rfl]; exact lastK_onLast (grow (shut L.us L.leaf)) (fun f => rfl) L.ms), hk0 hs hne⟩
 | false =>
  rw [if_neg Bool.false_ne_true]
  cases hm : onLast (grow (shut L.us L.leaf)) L.ms with
  | nil => exact absurd hm hne
  | cons f fs =>
   rw [hm] at hs
   have hf : f.k ≠ 3 := by
    have := hs.1
    unfold okc at this
    omega
   obtain ⟨k1, k2⟩ := w_pop hs (.inr hf)
   have hpn : popList (f :: fs) ≠ [] := fun e => by have := popList_ne _ e; cases this
   exact ⟨_, rfl, hpn, k1, fun _ => k2, fun e => (by cases e), hk0 k1 hpn⟩
theorem in_contain (h : InL i L) (f : Fr) (item : Bool) (hk : okc (if item = true then 3 else 1) f.k) (hl : item = true → lastK L.ms = 3) : InL i (L.contain i f item) := by
 obtain ⟨qs, e, hq, hw, h1, h2, h3⟩ := in_place h item
 unfold Ln.contain
 rw [e]
 refine ⟨?_, by simp⟩
 show wPath ((qs ++ [{ f with a := i, z := i, kids := [] }]) ++ []) none 0 (i + 1) 0
 rw [List.append_nil]
 refine w_more (lk := lastK qs) (fun a ha => ?_) hq rfl hw
 refine ⟨?_, ha, Nat.le_refl _, Nat.lt_succ_self _, wAll_nil _ _ _, trivial⟩
 show okc (lastK qs) f.k
 cases item with
 | true =>
  rw [h2 rfl, hl rfl]
  exact hk
 | false =>
  have := h1 rfl
  rw [if_neg Bool.false_ne_true] at hk
  unfold okc at hk ⊢
  omega
theorem in_open (h : InL i L) (l : Lf) (hk : l.k = 5 ∨ l.k = 6 ∨ l.k = 7) : InL i (L.open i l) := by
 obtain ⟨qs, e, hq, hw, h1, h2, h3⟩ := in_place h false
 unfold Ln.open
 rw [e]
 refine ⟨?_, hq⟩
 show wPath (qs ++ []) _ 0 (i + 1) 0
 exact w_more (ys := []) (leaf := some { l with a := i, z := i }) (lk := lastK qs) (fun a ha => ⟨h3, h1 rfl, hk, ha, Nat.le_refl _, Nat.lt_succ_self _⟩) hq rfl hw
theorem in_lay (h : InL i L) (b : Nat → B) (hb : ∃ k s t m1 m2 f x ls, b i = .mk k s t m1 m2 f x ls i i [] ∧ 5 ≤ k ∧ k ≤ 9) : InL i (L.lay i b) := by
 obtain ⟨qs, e, hq, hw, h1, h2, h3⟩ := in_place h false
 obtain ⟨k, s, t, m1, m2, f, x, ls, hbe, hk1, hk2⟩ := hb
 unfold Ln.lay
 rw [e]
 refine ⟨?_, fun e => hq ((onLast_ne _ _).1 e)⟩
 show wPath (onLast (grow [b i]) qs ++ []) none 0 (i + 1) 0
 rw [List.append_nil]
 refine w_lay (lk := lastK qs) (fun a ha => ?_) rfl hw
 rw [hbe, wOne_mk]
 exact ⟨ha, Nat.le_refl _, Nat.lt_succ_self _, h3, .inr ⟨hk1, hk2, h1 rfl, rfl⟩, wAll_nil _ _ _⟩
section
variable {ρ : Type} (X : Scan ρ)
theorem in_takes (h : InL i L) : InL i (takes X i L).2 := by
 unfold takes
 split
 ·rename_i l hus hl
  split
  ·split
   ·refine in_shut ⟨?_, h.2⟩
    have h1 := h.1
    rw [hl] at h1
    exact w_leaf' l { l with z := i } rfl rfl (fun a b => ⟨by show l.a ≤ i; omega, by show i < i + 1; omega⟩) h1
   ·exact in_add h _
  ·split
   ·split
    ·split
     ·exact in_shut h
     ·exact in_shut (in_add h _)
    ·exact in_add h _
   ·exact h
 ·exact h
theorem in_item {L1 : Ln} (h : InL i L) (e : item X i L = some L1) : InL i L1 := by
 unfold item at e
 simp only [] at e
 split at e
 ·cases e
 ·split at e
  ·cases e
  ·cases e
   split
   ·rename_i hl
    exact in_contain (in_rest h _) _ true (by unfold okc; simp) (fun _ => lastK_is hl)
   ·refine in_contain (in_contain (in_rest h _) _ false (by unfold okc; simp) (fun e => by cases e)) _ true (by unfold okc; simp) (fun _ => ?_)
    unfold Ln.contain
    exact lastK_snoc _ _
theorem in_meets (leaf leaf' : Option Lf) : ∀ {fs : List Fr} {r : Rest} {a p : Nat}, wPath fs leaf' a (i + 1) p → wPath ((meets i leaf fs r).1 ++ (meets i leaf fs r).2.1) leaf' a (i + 1) p
 | [], r, a, p, h => by
  rw [meets]
  exact h
 | f :: fs, r, a, p, h => by
  rw [meets]
  cases hm : meet1 f (hasKid f fs leaf) r with
  | none => exact h
  | some q =>
   simp only []
   obtain ⟨h1, h2, h3, h4, h5, h6⟩ := h
   have ih := in_meets leaf leaf' (r := q) h6
   unfold met
   split
   ·exact ⟨h1, h2, by show f.a ≤ i; omega, by show i < i + 1; omega, h5, ih⟩
   ·exact ⟨h1, h2, h3, h4, h5, ih⟩
theorem bl_wht {c : UInt8} (h : bl c = true) : Cl.wht c = true := by
 unfold bl at h
 rw [Bool.or_eq_true, beq_iff_eq, beq_iff_eq] at h
 rcases h with rfl | rfl <;> rfl
theorem lines_wht : ∀ {ls : List Str}, ls.all blank = true → ∀ c ∈ lines ls, Cl.wht c = true
 | [], _, c, h => by cases h
 | [s], h, c, hc => by
  rw [List.all_cons, Bool.and_eq_true] at h
  exact bl_wht (List.all_eq_true.1 h.1 c hc)
 | s :: t :: l, h, c, hc => by
  rw [List.all_cons, Bool.and_eq_true] at h
  rcases List.mem_append.1 (show c ∈ s ++ 10 :: lines (t :: l) from hc) with hc | hc
  ·exact bl_wht (List.all_eq_true.1 h.1 c hc)
  ·rcases List.mem_cons.1 hc with rfl | hc
   ·rfl
   ·exact lines_wht h.2 c hc
theorem body_white {ls : List Str} (h : ls.all blank = true) : bodyT ls = [] := by
 unfold bodyT Cl.rgt
 have key : ∀ l : Str, (∀ c ∈ l, Cl.wht c = true) → l.dropWhile Cl.wht = [] := by
  intro l
  induction l with
  | nil => intro _; rfl
  | cons c l ih => intro h; rw [List.dropWhile_cons_of_pos (h c List.mem_cons_self)]; exact ih fun d hd => h d (List.mem_cons_of_mem _ hd)
 have := key (lines ls).reverse fun c hc => lines_wht h c (List.mem_reverse.1 hc)
 rw [this]; rfl
def Blk.k : Blk → Nat
 | .mk k _ _ _ _ _ _ _ _ => k
def Blk.a : Blk → Nat
 | .mk _ _ _ _ _ _ a _ _ => a
def Blk.z : Blk → Nat
 | .mk _ _ _ _ _ _ _ z _ => z
def Blk.kids : Blk → List Blk
 | .mk _ _ _ _ _ _ _ _ l => l
def holds (k : Nat) : Bool := k == 2 || k == 3 || k == 4 || k == 13
end
end Bk
end Go.Proofs.YtkiipaaaakhhfaaGreatDoor
end
section
set_option linter.unusedVariables false
set_option linter.unusedSimpArgs false
set_option maxRecDepth 100000
namespace Go.Proofs.YtkiipaaaakhhfaaGreatDoor
namespace Bk
section
variable {ρ : Type} (X : Scan ρ)
structure TextOk (s : Str) : Prop where
 atx : (X.atx s).1 = 0
 fence : (X.fence s).2.1 = 0
 html : X.html s = 0
 setx : X.setx s = 0
 rule : X.rule s = false
 sign : (sign X s).2.2 = 0
theorem label_none {c : UInt8} {t : Str} (h : c ≠ 91) : (labelP (c :: t)).2 = 0 := by
 unfold labelP
 split
 ·rename_i e; injection e with e _; exact absurd e h
 ·rfl
theorem leaves_none {i : Nat} {b : Fr} {leaf : Option Lf} {c : UInt8} {t : Str} (hc : bl c = false) (hX : TextOk X (c :: t)) : leaves X i (ln b leaf (c :: t)) = none := by
 unfold leaves
 rw [show (ln b leaf (c :: t)).r.aft = c :: t from (ind_head hc t 0).2, hX.atx, hX.fence, hX.html, hX.setx, hX.rule, if_neg (by omega), if_neg (by omega), if_neg (fun e => by have := e.1; omega), if_neg (fun e => by have := e.1; omega), if_neg Bool.false_ne_true]
theorem note_none {foot : Bool} {i : Nat} {b : Fr} {leaf : Option Lf} {c : UInt8} {t : Str} (hc : bl c = false) (h : c ≠ 91) : note foot i (ln b leaf (c :: t)) = none := by
 unfold note
 rw [show (ln b leaf (c :: t)).r.aft = c :: t from (ind_head hc t 0).2, if_pos (.inr (.inr (label_none h)))]
theorem item_none {i : Nat} {b : Fr} {leaf : Option Lf} {c : UInt8} {t : Str} (hc : bl c = false) (hX : TextOk X (c :: t)) : item X i (ln b leaf (c :: t)) = none := by
 unfold item
 rw [show (ln b leaf (c :: t)).r.aft = c :: t from (ind_head hc t 0).2]
 simp only []
 rw [if_pos hX.sign]
def paraL (a z : Nat) (ls : List Str) : Lf := { nilL with k := 7, a := a, z := z, ls := ls }
theorem lft_head {c : UInt8} (h : Cl.wht c = false) (t : Str) : Cl.lft (c :: t) = c :: t := by
 unfold Cl.lft
 rw [List.dropWhile_cons_of_neg (by rw [h]; exact Bool.false_ne_true)]
theorem blank_head {c : UInt8} (h : bl c = false) (t : Str) : blank (c :: t) = false := by rw [blank_cons, h]; rfl
theorem para_first (foot : Bool) (i : Nat) (b : Fr) {c : UInt8} {t : Str} (hc : bl c = false) (hw : Cl.wht c = false) (h62 : c ≠ 62) (h91 : c ≠ 91) (hX : TextOk X (c :: t)) :
  line X foot i ⟨[b], none⟩ (c :: t) = ⟨[b], some (paraL i i [c :: t])⟩ := by
 rw [line_none, tail_text X foot i _ hc h62 (leaves_none X hc hX) (note_none hc h91) (item_none X hc hX)]
 unfold text
 rw [if_neg (by show ¬ blank (c :: t) = true; rw [blank_head hc]; exact Bool.false_ne_true), if_neg (by show ¬ false = true; exact Bool.false_ne_true)]
 rw [show (ln b none (c :: t)).r.s = c :: t from rfl, lft_head hw]
 unfold Ln.add Ln.open
 rw [show (ln b none (c :: t)).place false = [grow [] b] from rfl, grow_nil]
 simp only [Option.map_some]
 unfold Lf.take
 rw [if_neg (by rw [blank_head hc]; exact Bool.false_ne_true)]
 rfl
theorem takes_para (i : Nat) (b : Fr) (l : Lf) (hl : l.k = 7) (s : Str) : takes X i (ln b (some l) s) = (false, ln b (some l) s) := by
 show (if l.k = 5 ∧ l.fen = true then _ else if l.k = 6 then _ else _) = _
 rw [if_neg (by rw [hl]; intro e; cases e.1), if_neg (by rw [hl]; decide)]
theorem para_more (foot : Bool) (i a z : Nat) (ls : List Str) (b : Fr) {c : UInt8} {t : Str} (hc : bl c = false) (hw : Cl.wht c = false) (h62 : c ≠ 62) (h91 : c ≠ 91) (hX : TextOk X (c :: t)) :
  line X foot i ⟨[b], some (paraL a z ls)⟩ (c :: t) = ⟨[b], some (paraL a i (ls ++ [c :: t]))⟩ := by
 rw [line_one, rest_eq, takes_para X i b _ rfl, if_neg Bool.false_ne_true]
 show (tail X foot i (nb (c :: t) + 1) (ln b (some (paraL a z ls)) (c :: t))).st = _
 rw [tail_text X foot i _ hc h62 (leaves_none X hc hX) (note_none hc h91) (item_none X hc hX)]
 unfold text
 rw [if_neg (by show ¬ blank (c :: t) = true; rw [blank_head hc]; exact Bool.false_ne_true), if_pos (by rfl)]
 rw [show (ln b (some (paraL a z ls)) (c :: t)).r.s = c :: t from rfl, lft_head hw]
 unfold Ln.add
 simp only [show (ln b (some (paraL a z ls)) (c :: t)).leaf = some (paraL a z ls) from rfl, Option.map_some]
 unfold Lf.take
 rw [if_neg (by rw [blank_head hc]; exact Bool.false_ne_true)]
 rfl
theorem para_end (foot : Bool) (i a z : Nat) (ls : List Str) (b : Fr) : line X foot i ⟨[b], some (paraL a z ls)⟩ [] = ⟨[grow [(paraL a z ls).b] b], none⟩ := by
 rw [line_one, rest_eq, takes_para X i b _ rfl, if_neg Bool.false_ne_true]
 show (tail X foot i (nb [] + 1) (ln b (some (paraL a z ls)) [])).st = _
 rw [tail_empty]
 rfl
structure ParaOk (s : Str) : Prop where
 ne : ∃ c t, s = c :: t ∧ bl c = false ∧ Cl.wht c = false ∧ c ≠ 62 ∧ c ≠ 91
 ok : TextOk X s
theorem para_go (foot : Bool) : ∀ (l : List Str) (i a z : Nat) (ls : List Str) (b : Fr), (∀ s ∈ l, ParaOk X s) → ∃ b', go X foot i ⟨[b], some (paraL a z ls)⟩ l = ⟨[b'], some (paraL a (if l = [] then z else i + l.length - 1) (ls ++ l))⟩ ∧ b'.kids = b.kids
 | [], i, a, z, ls, b, _ => ⟨b, by rw [if_pos rfl, List.append_nil]; rfl, rfl⟩
 | s :: l, i, a, z, ls, b, h => by
  obtain ⟨⟨c, t, rfl, h1, h2, h3, h4⟩, hX⟩ := h s List.mem_cons_self
  obtain ⟨b', e1, e2⟩ := para_go foot l (i + 1) a i (ls ++ [c :: t]) b (fun y hy => h y (List.mem_cons_of_mem _ hy))
  refine ⟨b', ?_, by rw [e2]⟩
  show go X foot (i + 1) (line X foot i ⟨[b], some (paraL a z ls)⟩ (c :: t)) l = _
  have hz : (if l = [] then i else i + 1 + l.length - 1) = i + (l.length + 1) - 1 := by
   by_cases he : l = []
   ·rw [if_pos he, he]; rfl
   ·rw [if_neg he]; omega
  have h0 : (if (c :: t) :: l = [] then z else i + ((c :: t) :: l).length - 1) = i + (l.length + 1) - 1 := by
   rw [if_neg (by simp), List.length_cons]
  rw [para_more X foot i a z ls b h1 h2 h3 h4 hX, e1, hz, h0, List.append_assoc]
  rfl
theorem para_all (foot : Bool) (l : List Str) (hl : l ≠ []) (i : Nat) (b : Fr) (h : ∀ s ∈ l, ParaOk X s) : ∃ b', go X foot i ⟨[b], none⟩ l = ⟨[b'], some (paraL i (i + l.length - 1) l)⟩ ∧ b'.kids = b.kids := by
 match l, hl with
 | s :: l, _ =>
  obtain ⟨⟨c, t, rfl, h1, h2, h3, h4⟩, hX⟩ := h s List.mem_cons_self
  obtain ⟨b', e1, e2⟩ := para_go X foot l (i + 1) i i [c :: t] b (fun y hy => h y (List.mem_cons_of_mem _ hy))
  refine ⟨b', ?_, by rw [e2]⟩
  show go X foot (i + 1) (line X foot i ⟨[b], none⟩ (c :: t)) l = _
  have hz : (if l = [] then i else i + 1 + l.length - 1) = i + (l.length + 1) - 1 := by
   by_cases he : l = []
   ·rw [if_pos he, he]; rfl
   ·rw [if_neg he]; omega
  rw [para_first X foot i b h1 h2 h3 h4 hX, e1, hz, List.length_cons]
  rfl
theorem go_app (foot : Bool) : ∀ (l m : List Str) (i : Nat) (st : St), go X foot i st (l ++ m) = go X foot (i + l.length) (go X foot i st l) m
 | [], m, i, st => rfl
 | s :: l, m, i, st => by
  show go X foot (i + 1) (line X foot i st s) (l ++ m) = _
  rw [go_app foot l m]
  show _ = go X foot (i + (l.length + 1)) (go X foot (i + 1) (line X foot i st s) l) m
  rw [show i + 1 + l.length = i + (l.length + 1) by omega]
def PlainT (ls : List Str) : Prop := X.defs (bodyT ls) = ([], lines ls) ∧ lines ls ≠ []
theorem out_para (a z : Nat) {ls : List Str} (h : PlainT X ls) : out X (paraL a z ls).b = [.mk 7 (lines ls) [] 0 0 false a z []] ∧ defsO X (paraL a z ls).b = [] := by
 unfold Lf.b
 constructor
 ·rw [out, outL_nil]
  have hg : goneB X (paraL a z ls).k (paraL a z ls).ls = false := by
   show (true && (X.defs (bodyT ls)).2.isEmpty) = false
   rw [h.1]
   cases hl : lines ls with
   | nil => exact absurd hl h.2
   | cons _ _ => rfl
  rw [hg, if_neg Bool.false_ne_true]
  have hs : sOf X (paraL a z ls).k [] (paraL a z ls).fen false (paraL a z ls).ls = lines ls := by
   show (X.defs (bodyT ls)).2 = _
   rw [h.1]
  rw [hs]
  rfl
 ·rw [defsO, defsL_nil]
  show defsB X 7 false ls ++ [] = []
  unfold defsB
  rw [if_pos (.inl rfl), h.1]
  rfl
theorem plain (foot : Bool) (a b : List Str) (ha : a ≠ []) (hb : b ≠ []) (ha' : ∀ s ∈ a, ParaOk X s) (hb' : ∀ s ∈ b, ParaOk X s) (hta : PlainT X a) (htb : PlainT X b) :
  parse X foot (a ++ [] :: b) = ([.mk 7 (lines a) [] 0 0 false 0 (a.length - 1) [], .mk 7 (lines b) [] 0 0 false (a.length + 1) (a.length + b.length) []], []) := by
 obtain ⟨b1, e1, k1⟩ := para_all X foot a ha 0 docF ha'
 obtain ⟨b2, e2, k2⟩ := para_all X foot b hb (a.length + 1) (grow [(paraL 0 (0 + a.length - 1) a).b] b1) hb'
 have hg : go X foot 0 doc0 (a ++ [] :: b) = ⟨[b2], some (paraL (a.length + 1) (a.length + 1 + b.length - 1) b)⟩ := by
  rw [go_app, show go X foot 0 doc0 a = _ from e1]
  show go X foot (0 + a.length + 1) (line X foot (0 + a.length) _ []) b = _
  rw [para_end, Nat.zero_add]
  rw [Nat.zero_add] at e2
  exact e2
 have hk : (go X foot 0 doc0 (a ++ [] :: b)).kids = [(paraL 0 (a.length - 1) a).b, (paraL (a.length + 1) (a.length + b.length) b).b] := by
  rw [hg]
  show b2.kids ++ [(paraL (a.length + 1) (a.length + 1 + b.length - 1) b).b] = _
  rw [k2]
  show (b1.kids ++ [(paraL 0 (0 + a.length - 1) a).b]) ++ _ = _
  rw [k1, Nat.zero_add, show a.length + 1 + b.length - 1 = a.length + b.length by omega]
  rfl
 unfold parse
 rw [hk, outL_cons, outL_cons, outL_nil, defsL_cons, defsL_cons, defsL_nil, (out_para X _ _ hta).1, (out_para X _ _ hta).2, (out_para X _ _ htb).1, (out_para X _ _ htb).2]
 rfl
theorem skp_zero (s : Str) (col : Nat) : Cl.skp s col 0 = (s, col) := by cases s <;> rw [Cl.skp]
theorem takes_code {i : Nat} {L : Ln} {l : Lf} (hu : L.us = []) (hl : L.leaf = some l) (hk : l.k = 5 ∧ l.fen = true) : takes X i L =
  if L.r.ind < 4 ∧ X.closes L.r.aft l.c l.cnt = true then (true, Ln.shut ⟨L.ms, [], some { l with z := i }, L.r⟩) else (true, L.add i (L.r.skip l.need).s) := by
 unfold takes
 rw [hu, hl]
 exact if_pos hk
end
end Bk
end Go.Proofs.YtkiipaaaakhhfaaGreatDoor
end
