/-
  No cell of these rows narrows 'for every input' (looked for: loops, veiled, ifaces, maps, wideKeys, modest, calm, conditions, laid).
  DERIVED. THE GIVEN ROWS OF THIS SEAT. 6 by the template 'for every input the law returns true; each argument reads behind the call as it read before'; 0 by the template 'total and deterministic' (their statements: YtgdgaagfambliaaTotals.lean).
  GIVEN WITH THE SEED: the statements are not yours to turn. If you find one false, say at which input.
  Laid BY PROGRAM, IN A SANDBOX (cutbox-rows.mjs): the forced cells as the released guide's own fill.sh prints them over the translation cb6f38225a1ffeee… (all of the seat's roots in one cut). By AI agents, Wed Nov 11 2026. No macro, syntax, notation, axiom, sorry.
-/
import Derived.Test.YtgdgaagfambliaaChecked
import GoSem.Claim
import GoSem.ClaimJoined
import GoSem.ClaimMapViews
import Derived.JoinedTies
import Derived.KernelRfl
namespace Go.Proofs.Ytgdgaagfambliaa
/- THE CELL 'sum', in the pinned program and in every row, IS THE sha256 OF THE DUMP (.gsa) THAT YtgdgaagfambliaaProg.lean LOADS. Nothing in Lean hashes anything: it is a label: what it is worth is what the hold of that sum in a sandbox is worth. -/
noncomputable def Try.pinned : Pinned := { name := "ytgdgaagfambliaa", sum := "cb6f38225a1ffeeea027b15fc896a79a05c2c435a53b8285efbe6a0ad8eda816", checked := Try.checked }
namespace Rows
def none {H : Type} : Left H := { results := [], args := [] }

/-- 'incipitlaw04.EntityReads': WHATEVER THE INPUT: true; the input reads as it did. -/
def entityReadsSpec : ChangeSpec := { name := "entityReads", fn := fun _ => fun
  | [d] => { results := [.lit (.bool true)], args := [d] }
  | _ => none }
def entityReadsRow : OpenClaim := { program := "ytgdgaagfambliaa", sum := "cb6f38225a1ffeeea027b15fc896a79a05c2c435a53b8285efbe6a0ad8eda816", func := "incipit/incipitlaw04.EntityReads", spec := "entityReads", inPlace := ["internal/bytealg.abigen_runtime_cmpstring"], unfollowed := true, recurses := true, apart := false }
def EntityReadsSaid : Prop := entityReadsRow.holds Try.pinned (OpenSpec.ofChange entityReadsSpec)

/-- ITS FALSE NEIGHBOUR: 'it returns false'. Refute it at one input. -/
def entityReadsWrong : ChangeSpec := { name := "entityReads", fn := fun _ => fun
  | [d] => { results := [.lit (.bool false)], args := [d] }
  | _ => none }
def EntityReadsWrongFalsely : Prop := entityReadsRow.holds Try.pinned (OpenSpec.ofChange entityReadsWrong)

/-- 'incipitlaw04.EntityNames': WHATEVER THE INPUT: true; the input reads as it did. -/
def entityNamesSpec : ChangeSpec := { name := "entityNames", fn := fun _ => fun
  | [d1, d2] => { results := [.lit (.bool true)], args := [d1, d2] }
  | _ => none }
def entityNamesRow : OpenClaim := { program := "ytgdgaagfambliaa", sum := "cb6f38225a1ffeeea027b15fc896a79a05c2c435a53b8285efbe6a0ad8eda816", func := "incipit/incipitlaw04.EntityNames", spec := "entityNames", inPlace := ["internal/bytealg.abigen_runtime_cmpstring"], unfollowed := true, recurses := true, apart := false }
def EntityNamesSaid : Prop := entityNamesRow.holds Try.pinned (OpenSpec.ofChange entityNamesSpec)

/-- ITS FALSE NEIGHBOUR: 'it returns false'. Refute it at one input. -/
def entityNamesWrong : ChangeSpec := { name := "entityNames", fn := fun _ => fun
  | [d1, d2] => { results := [.lit (.bool false)], args := [d1, d2] }
  | _ => none }
def EntityNamesWrongFalsely : Prop := entityNamesRow.holds Try.pinned (OpenSpec.ofChange entityNamesWrong)

/-- 'incipitlaw04.EntityNumbers': WHATEVER THE INPUT: true; the input reads as it did. -/
def entityNumbersSpec : ChangeSpec := { name := "entityNumbers", fn := fun _ => fun
  | [d1, d2] => { results := [.lit (.bool true)], args := [d1, d2] }
  | _ => none }
def entityNumbersRow : OpenClaim := { program := "ytgdgaagfambliaa", sum := "cb6f38225a1ffeeea027b15fc896a79a05c2c435a53b8285efbe6a0ad8eda816", func := "incipit/incipitlaw04.EntityNumbers", spec := "entityNumbers", inPlace := ["internal/bytealg.abigen_runtime_cmpstring"], unfollowed := true, recurses := true, apart := false }
def EntityNumbersSaid : Prop := entityNumbersRow.holds Try.pinned (OpenSpec.ofChange entityNumbersSpec)

/-- ITS FALSE NEIGHBOUR: 'it returns false'. Refute it at one input. -/
def entityNumbersWrong : ChangeSpec := { name := "entityNumbers", fn := fun _ => fun
  | [d1, d2] => { results := [.lit (.bool false)], args := [d1, d2] }
  | _ => none }
def EntityNumbersWrongFalsely : Prop := entityNumbersRow.holds Try.pinned (OpenSpec.ofChange entityNumbersWrong)

/-- 'incipitlaw04.EntityEnds': WHATEVER THE INPUT: true; the input reads as it did. -/
def entityEndsSpec : ChangeSpec := { name := "entityEnds", fn := fun _ => fun
  | [d1, d2] => { results := [.lit (.bool true)], args := [d1, d2] }
  | _ => none }
def entityEndsRow : OpenClaim := { program := "ytgdgaagfambliaa", sum := "cb6f38225a1ffeeea027b15fc896a79a05c2c435a53b8285efbe6a0ad8eda816", func := "incipit/incipitlaw04.EntityEnds", spec := "entityEnds", inPlace := ["internal/bytealg.abigen_runtime_cmpstring"], unfollowed := true, recurses := true, apart := false }
def EntityEndsSaid : Prop := entityEndsRow.holds Try.pinned (OpenSpec.ofChange entityEndsSpec)

/-- ITS FALSE NEIGHBOUR: 'it returns false'. Refute it at one input. -/
def entityEndsWrong : ChangeSpec := { name := "entityEnds", fn := fun _ => fun
  | [d1, d2] => { results := [.lit (.bool false)], args := [d1, d2] }
  | _ => none }
def EntityEndsWrongFalsely : Prop := entityEndsRow.holds Try.pinned (OpenSpec.ofChange entityEndsWrong)

/-- 'incipitlaw04.EntityAll': WHATEVER THE INPUT: true; the input reads as it did. -/
def entityAllSpec : ChangeSpec := { name := "entityAll", fn := fun _ => fun
  | [d1, d2] => { results := [.lit (.bool true)], args := [d1, d2] }
  | _ => none }
def entityAllRow : OpenClaim := { program := "ytgdgaagfambliaa", sum := "cb6f38225a1ffeeea027b15fc896a79a05c2c435a53b8285efbe6a0ad8eda816", func := "incipit/incipitlaw04.EntityAll", spec := "entityAll", inPlace := ["internal/bytealg.abigen_runtime_cmpstring"], unfollowed := true, recurses := true, apart := false }
def EntityAllSaid : Prop := entityAllRow.holds Try.pinned (OpenSpec.ofChange entityAllSpec)

/-- ITS FALSE NEIGHBOUR: 'it returns false'. Refute it at one input. -/
def entityAllWrong : ChangeSpec := { name := "entityAll", fn := fun _ => fun
  | [d1, d2] => { results := [.lit (.bool false)], args := [d1, d2] }
  | _ => none }
def EntityAllWrongFalsely : Prop := entityAllRow.holds Try.pinned (OpenSpec.ofChange entityAllWrong)

/-- 'incipitlaw04.EntityNone': WHATEVER THE INPUT: true; the input reads as it did. -/
def entityNoneSpec : ChangeSpec := { name := "entityNone", fn := fun _ => fun
  | [d] => { results := [.lit (.bool true)], args := [d] }
  | _ => none }
def entityNoneRow : OpenClaim := { program := "ytgdgaagfambliaa", sum := "cb6f38225a1ffeeea027b15fc896a79a05c2c435a53b8285efbe6a0ad8eda816", func := "incipit/incipitlaw04.EntityNone", spec := "entityNone", inPlace := ["internal/bytealg.abigen_runtime_cmpstring"], unfollowed := true, recurses := true, apart := false }
def EntityNoneSaid : Prop := entityNoneRow.holds Try.pinned (OpenSpec.ofChange entityNoneSpec)

/-- ITS FALSE NEIGHBOUR: 'it returns false'. Refute it at one input. -/
def entityNoneWrong : ChangeSpec := { name := "entityNone", fn := fun _ => fun
  | [d] => { results := [.lit (.bool false)], args := [d] }
  | _ => none }
def EntityNoneWrongFalsely : Prop := entityNoneRow.holds Try.pinned (OpenSpec.ofChange entityNoneWrong)

/- THE SECOND FORM. 'bulk': how many values and letters a reading holds, each counted each time it is reached (what is shared counts as often as it is met; a slice's spare places count too). A statement '..UptoSaid' is the law's where the arguments, and the package variables that the reading takes, are together of bulk at most 1048576: NARROWER than '..Said'. Prove '..Said' where nothing that the law and all that it calls make is longer than what came in: it says more and counts as full. Else prove '..UptoSaid'. A law counts once. -/
mutual
def uptoBulk {H : Type} : DataW H → Nat
  | .lit (.string bytes) => bytes.length + 1
  | .lit _ => 1
  | .nil => 1
  | .ptr d => uptoBulk d + 1
  | .slice elems spare => uptoBulkAll elems + uptoBulkAll spare + 1
  | .agg parts => uptoBulkAll parts + 1
  | .iface _ d => uptoBulk d + 1
  | .map entries => uptoBulkEntries entries + 1
  | .held _ => 1
def uptoBulkAll {H : Type} : List (DataW H) → Nat
  | [] => 0
  | d :: r => uptoBulk d + uptoBulkAll r
def uptoBulkEntries {H : Type} : List (Lit × DataW H) → Nat
  | [] => 0
  | x :: r => uptoBulkEntry x + uptoBulkEntries r
def uptoBulkEntry {H : Type} : Lit × DataW H → Nat
  | (.string bytes, d) => bytes.length + uptoBulk d + 1
  | (_, d) => uptoBulk d + 1
 end
def uptoSmall : (H : Type) → List (DataW H) → Bool := fun _ ds => decide (uptoBulkAll ds ≤ 1048576)
def OpenSpec.upto (s : _root_.Go.ChangeSpec) : _root_.Go.OpenSpec := { _root_.Go.OpenSpec.ofChange s with cond := some uptoSmall }

/-- 'incipitlaw04.EntityReads', WHERE WHAT IT READS IS OF BULK AT MOST 1048576: true; the input reads as it did. -/
def entityReadsUptoRow : OpenClaim := { program := "ytgdgaagfambliaa", sum := "cb6f38225a1ffeeea027b15fc896a79a05c2c435a53b8285efbe6a0ad8eda816", func := "incipit/incipitlaw04.EntityReads", spec := "entityReads", inPlace := ["internal/bytealg.abigen_runtime_cmpstring"], unfollowed := true, recurses := true, apart := false, narrowed := true }
def EntityReadsUptoSaid : Prop := entityReadsUptoRow.holds Try.pinned (OpenSpec.upto entityReadsSpec)

/-- 'incipitlaw04.EntityNames', WHERE WHAT IT READS IS OF BULK AT MOST 1048576: true; the input reads as it did. -/
def entityNamesUptoRow : OpenClaim := { program := "ytgdgaagfambliaa", sum := "cb6f38225a1ffeeea027b15fc896a79a05c2c435a53b8285efbe6a0ad8eda816", func := "incipit/incipitlaw04.EntityNames", spec := "entityNames", inPlace := ["internal/bytealg.abigen_runtime_cmpstring"], unfollowed := true, recurses := true, apart := false, narrowed := true }
def EntityNamesUptoSaid : Prop := entityNamesUptoRow.holds Try.pinned (OpenSpec.upto entityNamesSpec)

/-- 'incipitlaw04.EntityNumbers', WHERE WHAT IT READS IS OF BULK AT MOST 1048576: true; the input reads as it did. -/
def entityNumbersUptoRow : OpenClaim := { program := "ytgdgaagfambliaa", sum := "cb6f38225a1ffeeea027b15fc896a79a05c2c435a53b8285efbe6a0ad8eda816", func := "incipit/incipitlaw04.EntityNumbers", spec := "entityNumbers", inPlace := ["internal/bytealg.abigen_runtime_cmpstring"], unfollowed := true, recurses := true, apart := false, narrowed := true }
def EntityNumbersUptoSaid : Prop := entityNumbersUptoRow.holds Try.pinned (OpenSpec.upto entityNumbersSpec)

/-- 'incipitlaw04.EntityEnds', WHERE WHAT IT READS IS OF BULK AT MOST 1048576: true; the input reads as it did. -/
def entityEndsUptoRow : OpenClaim := { program := "ytgdgaagfambliaa", sum := "cb6f38225a1ffeeea027b15fc896a79a05c2c435a53b8285efbe6a0ad8eda816", func := "incipit/incipitlaw04.EntityEnds", spec := "entityEnds", inPlace := ["internal/bytealg.abigen_runtime_cmpstring"], unfollowed := true, recurses := true, apart := false, narrowed := true }
def EntityEndsUptoSaid : Prop := entityEndsUptoRow.holds Try.pinned (OpenSpec.upto entityEndsSpec)

/-- 'incipitlaw04.EntityAll', WHERE WHAT IT READS IS OF BULK AT MOST 1048576: true; the input reads as it did. -/
def entityAllUptoRow : OpenClaim := { program := "ytgdgaagfambliaa", sum := "cb6f38225a1ffeeea027b15fc896a79a05c2c435a53b8285efbe6a0ad8eda816", func := "incipit/incipitlaw04.EntityAll", spec := "entityAll", inPlace := ["internal/bytealg.abigen_runtime_cmpstring"], unfollowed := true, recurses := true, apart := false, narrowed := true }
def EntityAllUptoSaid : Prop := entityAllUptoRow.holds Try.pinned (OpenSpec.upto entityAllSpec)

/-- 'incipitlaw04.EntityNone', WHERE WHAT IT READS IS OF BULK AT MOST 1048576: true; the input reads as it did. -/
def entityNoneUptoRow : OpenClaim := { program := "ytgdgaagfambliaa", sum := "cb6f38225a1ffeeea027b15fc896a79a05c2c435a53b8285efbe6a0ad8eda816", func := "incipit/incipitlaw04.EntityNone", spec := "entityNone", inPlace := ["internal/bytealg.abigen_runtime_cmpstring"], unfollowed := true, recurses := true, apart := false, narrowed := true }
def EntityNoneUptoSaid : Prop := entityNoneUptoRow.holds Try.pinned (OpenSpec.upto entityNoneSpec)

end Rows
end Go.Proofs.Ytgdgaagfambliaa
