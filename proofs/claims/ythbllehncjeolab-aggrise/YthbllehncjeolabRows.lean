/-
  No cell of these rows narrows 'for every input' (looked for: loops, veiled, ifaces, maps, wideKeys, modest, calm, conditions, laid).
  DERIVED. THE GIVEN ROWS OF THIS SEAT. 3 by the template 'for every input the law returns true; each argument reads behind the call as it read before'; 0 by the template 'total and deterministic' (their statements: YthbllehncjeolabTotals.lean).
  GIVEN WITH THE SEED: the statements are not yours to turn. If you find one false, say at which input.
  Laid BY PROGRAM, IN A SANDBOX (cutbox-rows.mjs): the forced cells as the released guide's own fill.sh prints them over the translation 507d5401ff5a2055… (all of the seat's roots in one cut). By AI agents, Wed Nov 11 2026. No macro, syntax, notation, axiom, sorry.
-/
import Derived.Test.YthbllehncjeolabChecked
import GoSem.Claim
import GoSem.ClaimJoined
import GoSem.ClaimMapViews
import Derived.JoinedTies
import Derived.KernelRfl
namespace Go.Proofs.Ythbllehncjeolab
/- THE CELL 'sum', in the pinned program and in every row, IS THE sha256 OF THE DUMP (.gsa) THAT YthbllehncjeolabProg.lean LOADS. Nothing in Lean hashes anything: it is a label: what it is worth is what the hold of that sum in a sandbox is worth. -/
noncomputable def Try.pinned : Pinned := { name := "ythbllehncjeolab", sum := "507d5401ff5a2055534d3ec6615e2828df0a3e18d4d46b0f47c2d0f1a5135a43", checked := Try.checked }
namespace Rows
def none {H : Type} : Left H := { results := [], args := [] }

/-- 'grainlaw2.AggJoined': WHATEVER THE INPUT: true; the input reads as it did. -/
def aggJoinedSpec : ChangeSpec := { name := "aggJoined", fn := fun _ => fun
  | [d1, d2, d3] => { results := [.lit (.bool true)], args := [d1, d2, d3] }
  | _ => none }
def aggJoinedRow : OpenClaim := { program := "ythbllehncjeolab", sum := "507d5401ff5a2055534d3ec6615e2828df0a3e18d4d46b0f47c2d0f1a5135a43", func := "grainstore/grainlaw2.AggJoined", spec := "aggJoined", apart := false }
def AggJoinedSaid : Prop := aggJoinedRow.holds Try.pinned (OpenSpec.ofChange aggJoinedSpec)

/-- ITS FALSE NEIGHBOUR: 'it returns false'. Refute it at one input. -/
def aggJoinedWrong : ChangeSpec := { name := "aggJoined", fn := fun _ => fun
  | [d1, d2, d3] => { results := [.lit (.bool false)], args := [d1, d2, d3] }
  | _ => none }
def AggJoinedWrongFalsely : Prop := aggJoinedRow.holds Try.pinned (OpenSpec.ofChange aggJoinedWrong)

/-- 'grainlaw2.AggBounds': WHATEVER THE INPUT: true; the input reads as it did. -/
def aggBoundsSpec : ChangeSpec := { name := "aggBounds", fn := fun _ => fun
  | [d] => { results := [.lit (.bool true)], args := [d] }
  | _ => none }
def aggBoundsRow : OpenClaim := { program := "ythbllehncjeolab", sum := "507d5401ff5a2055534d3ec6615e2828df0a3e18d4d46b0f47c2d0f1a5135a43", func := "grainstore/grainlaw2.AggBounds", spec := "aggBounds", apart := false }
def AggBoundsSaid : Prop := aggBoundsRow.holds Try.pinned (OpenSpec.ofChange aggBoundsSpec)

/-- ITS FALSE NEIGHBOUR: 'it returns false'. Refute it at one input. -/
def aggBoundsWrong : ChangeSpec := { name := "aggBounds", fn := fun _ => fun
  | [d] => { results := [.lit (.bool false)], args := [d] }
  | _ => none }
def AggBoundsWrongFalsely : Prop := aggBoundsRow.holds Try.pinned (OpenSpec.ofChange aggBoundsWrong)

/-- 'grainlaw2.AggRise': WHATEVER THE INPUT: true; the input reads as it did. -/
def aggRiseSpec : ChangeSpec := { name := "aggRise", fn := fun _ => fun
  | [d1, d2] => { results := [.lit (.bool true)], args := [d1, d2] }
  | _ => none }
def aggRiseRow : OpenClaim := { program := "ythbllehncjeolab", sum := "507d5401ff5a2055534d3ec6615e2828df0a3e18d4d46b0f47c2d0f1a5135a43", func := "grainstore/grainlaw2.AggRise", spec := "aggRise", unfollowed := true, recurses := true, apart := false }
def AggRiseSaid : Prop := aggRiseRow.holds Try.pinned (OpenSpec.ofChange aggRiseSpec)

/-- ITS FALSE NEIGHBOUR: 'it returns false'. Refute it at one input. -/
def aggRiseWrong : ChangeSpec := { name := "aggRise", fn := fun _ => fun
  | [d1, d2] => { results := [.lit (.bool false)], args := [d1, d2] }
  | _ => none }
def AggRiseWrongFalsely : Prop := aggRiseRow.holds Try.pinned (OpenSpec.ofChange aggRiseWrong)

/- THE SECOND FORM. 'bulk': how many values and letters a reading holds, each counted each time it is reached (what is shared counts as often as it is met; a slice's spare places count too). A statement '..UptoSaid' is the law's where the arguments, and the package variables that the reading takes, are together of bulk at most 1048576: NARROWER than '..Said'. Prove '..Said' where nothing that the law and all that it calls make is longer than what came in: it says more and counts as full. Else prove '..UptoSaid'. A law counts once. -/
mutual
def uptoBulk {H : Type} : DataW H → Nat
  | .lit (.string bytes) => bytes.length + 1
  | .lit _ => 1
  | .nil => 1
  | .ptr d => uptoBulk d + 1
  | .slice elems spare => uptoBulkAll elems + uptoBulkAll spare + 1
  | .agg parts => uptoBulkAll parts + 1
  | .iface _ d => uptoBulk d + 1
  | .map entries => uptoBulkEntries entries + 1
  | .held _ => 1
def uptoBulkAll {H : Type} : List (DataW H) → Nat
  | [] => 0
  | d :: r => uptoBulk d + uptoBulkAll r
def uptoBulkEntries {H : Type} : List (Lit × DataW H) → Nat
  | [] => 0
  | x :: r => uptoBulkEntry x + uptoBulkEntries r
def uptoBulkEntry {H : Type} : Lit × DataW H → Nat
  | (.string bytes, d) => bytes.length + uptoBulk d + 1
  | (_, d) => uptoBulk d + 1
 end
def uptoSmall : (H : Type) → List (DataW H) → Bool := fun _ ds => decide (uptoBulkAll ds ≤ 1048576)
def OpenSpec.upto (s : _root_.Go.ChangeSpec) : _root_.Go.OpenSpec := { _root_.Go.OpenSpec.ofChange s with cond := some uptoSmall }

/-- 'grainlaw2.AggJoined', WHERE WHAT IT READS IS OF BULK AT MOST 1048576: true; the input reads as it did. -/
def aggJoinedUptoRow : OpenClaim := { program := "ythbllehncjeolab", sum := "507d5401ff5a2055534d3ec6615e2828df0a3e18d4d46b0f47c2d0f1a5135a43", func := "grainstore/grainlaw2.AggJoined", spec := "aggJoined", apart := false, narrowed := true }
def AggJoinedUptoSaid : Prop := aggJoinedUptoRow.holds Try.pinned (OpenSpec.upto aggJoinedSpec)

/-- 'grainlaw2.AggBounds', WHERE WHAT IT READS IS OF BULK AT MOST 1048576: true; the input reads as it did. -/
def aggBoundsUptoRow : OpenClaim := { program := "ythbllehncjeolab", sum := "507d5401ff5a2055534d3ec6615e2828df0a3e18d4d46b0f47c2d0f1a5135a43", func := "grainstore/grainlaw2.AggBounds", spec := "aggBounds", apart := false, narrowed := true }
def AggBoundsUptoSaid : Prop := aggBoundsUptoRow.holds Try.pinned (OpenSpec.upto aggBoundsSpec)

/-- 'grainlaw2.AggRise', WHERE WHAT IT READS IS OF BULK AT MOST 1048576: true; the input reads as it did. -/
def aggRiseUptoRow : OpenClaim := { program := "ythbllehncjeolab", sum := "507d5401ff5a2055534d3ec6615e2828df0a3e18d4d46b0f47c2d0f1a5135a43", func := "grainstore/grainlaw2.AggRise", spec := "aggRise", unfollowed := true, recurses := true, apart := false, narrowed := true }
def AggRiseUptoSaid : Prop := aggRiseUptoRow.holds Try.pinned (OpenSpec.upto aggRiseSpec)

end Rows
end Go.Proofs.Ythbllehncjeolab
