/- Plain mathematics of layer 6: nodes, trees. -/
namespace Go.Proofs.Ytlpfffioidbkeaa
namespace Tr
/-- A node's own fields. -/
structure Own where
  kind : Int
  s : ByteArray
  t : ByteArray
  n : Int
  m : Int
  flag : Bool
/-- A node with what stands in it. -/
inductive Tree where
  | mk (o : Own) (kids : List Tree)
def Tree.own : Tree → Own | .mk o _ => o
def Tree.kids : Tree → List Tree | .mk _ l => l
theorem Tree.eta (T : Tree) : T = .mk T.own T.kids := by cases T; rfl

theorem Tree.ind {P : Tree → Prop} (h : ∀ o kids, (∀ t ∈ kids, P t) → P (.mk o kids)) (T : Tree) : P T :=
  Tree.rec (motive_1 := P) (motive_2 := fun ts => ∀ t ∈ ts, P t) (fun o kids ih => h o kids ih) (fun t ht => by cases ht)
    (fun t ts h1 h2 u hu => by rcases List.mem_cons.1 hu with rfl | hu; exact h1; exact h2 u hu) T

/-- Are two nodes' own fields the same? -/
def Own.eq (a b : Own) : Bool := decide (a.kind = b.kind) && decide (a.s.toList = b.s.toList) && decide (a.t.toList = b.t.toList) && decide (a.n = b.n) && decide (a.m = b.m) && (a.flag == b.flag)
mutual
/-- How many nodes. -/
def Tree.cnt : Tree → Nat | .mk _ kids => 1 + cntL kids
def cntL : List Tree → Nat | [] => 0 | t :: ts => t.cnt + cntL ts
end
mutual
/-- How deep. -/
def Tree.dep : Tree → Nat | .mk _ kids => 1 + depL kids
def depL : List Tree → Nat | [] => 0 | t :: ts => max t.dep (depL ts)
end
mutual
/-- Are two trees the same? -/
def same : Tree → Tree → Bool | .mk o k, .mk o' k' => Own.eq o o' && (k.length == k'.length) && sameL k k'
def sameL : List Tree → List Tree → Bool | a :: as, b :: bs => same a b && sameL as bs | _, _ => true
end
mutual
/-- How many of so many nodes and letters are left. -/
def few : Tree → Int → Int | .mk o kids, left => fewL kids (left - 1 - o.s.size - o.t.size)
def fewL : List Tree → Int → Int | [], left => left | t :: ts, left => if 0 ≤ left then fewL ts (few t left) else left
end
def block (k : Int) : Bool := k == 2 || k == 3 || k == 5 || k == 6 || k == 7 || k == 8 || k == 9 || k == 10 || k == 13
def inline (k : Int) : Bool := k == 14 || k == 15 || k == 16 || k == 17 || k == 18 || k == 19 || k == 20 || k == 21 || k == 22 || k == 23 || k == 24 || k == 25
/-- May a kind stand in a kind? -/
def may (kind within : Int) : Bool :=
  if within == 1 || within == 2 || within == 4 || within == 13 then block kind
  else if within == 3 then kind == 4
  else if within == 10 then kind == 11
  else if within == 11 then kind == 12
  else if within == 7 || within == 8 || within == 12 || within == 18 || within == 19 || within == 20 || within == 21 || within == 23 then inline kind
  else false
mutual
/-- Does only what may stand in a node, in a link or not? -/
def fits : Tree → Bool → Bool | .mk o kids, linked => fitsL o.kind kids (linked || o.kind == 20)
def fitsL (k : Int) : List Tree → Bool → Bool | [], _ => true | t :: ts, linked => !(linked && t.own.kind == 20) && may t.own.kind k && fits t linked && fitsL k ts linked
end
def Tree.well (T : Tree) : Bool := T.own.kind == 1 && fits T false
def sort (k : Int) : Int := ([0, 0, 1, 1, 3, 1, 1, 1, 1, 1, 1, 4, 5, 1, 2, 2, 2, 2, 2, 2, 2, 2, 2, 2, 2, 2] : List Int).getD k.toNat 0
def holds (k : Int) : Int :=
  if k == 1 || k == 2 || k == 4 || k == 13 then 1
  else if k == 7 || k == 8 || k == 12 || k == 18 || k == 19 || k == 20 || k == 21 || k == 23 then 2
  else if k == 3 then 3 else if k == 10 then 4 else if k == 11 then 5 else 0
end Tr
end Go.Proofs.Ytlpfffioidbkeaa
