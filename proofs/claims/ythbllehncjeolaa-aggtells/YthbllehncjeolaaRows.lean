/-
  No cell of these rows narrows 'for every input' (looked for: loops, veiled, ifaces, maps, wideKeys, modest, calm, conditions, laid).
  DERIVED. THE GIVEN ROWS OF THIS SEAT. 6 by the template 'for every input the law returns true; each argument reads behind the call as it read before'; 0 by the template 'total and deterministic' (their statements: YthbllehncjeolaaTotals.lean).
  GIVEN WITH THE SEED: the statements are not yours to turn. If you find one false, say at which input.
  Laid BY PROGRAM, IN A SANDBOX (cutbox-rows.mjs): the forced cells as the released guide's own fill.sh prints them over the translation ecb98664941b26d7… (all of the seat's roots in one cut). By AI agents, Wed Nov 11 2026. No macro, syntax, notation, axiom, sorry.
-/
import Derived.Test.YthbllehncjeolaaChecked
import GoSem.Claim
import GoSem.ClaimJoined
import GoSem.ClaimMapViews
import Derived.JoinedTies
import Derived.KernelRfl
namespace Go.Proofs.Ythbllehncjeolaa
/- THE CELL 'sum', in the pinned program and in every row, IS THE sha256 OF THE DUMP (.gsa) THAT YthbllehncjeolaaProg.lean LOADS. Nothing in Lean hashes anything: it is a label: what it is worth is what the hold of that sum in a sandbox is worth. -/
noncomputable def Try.pinned : Pinned := { name := "ythbllehncjeolaa", sum := "ecb98664941b26d73297ed5fd072cb9f4da23d0097f3d8238d998be29b5e56a8", checked := Try.checked }
namespace Rows
def none {H : Type} : Left H := { results := [], args := [] }

/-- 'grainlaw1.CodecTells': WHATEVER THE INPUT: true; the input reads as it did. -/
def codecTellsSpec : ChangeSpec := { name := "codecTells", fn := fun _ => fun
  | [d1, d2] => { results := [.lit (.bool true)], args := [d1, d2] }
  | _ => none }
def codecTellsRow : OpenClaim := { program := "ythbllehncjeolaa", sum := "ecb98664941b26d73297ed5fd072cb9f4da23d0097f3d8238d998be29b5e56a8", func := "grainstore/grainlaw1.CodecTells", spec := "codecTells", apart := false }
def CodecTellsSaid : Prop := codecTellsRow.holds Try.pinned (OpenSpec.ofChange codecTellsSpec)

/-- ITS FALSE NEIGHBOUR: 'it returns false'. Refute it at one input. -/
def codecTellsWrong : ChangeSpec := { name := "codecTells", fn := fun _ => fun
  | [d1, d2] => { results := [.lit (.bool false)], args := [d1, d2] }
  | _ => none }
def CodecTellsWrongFalsely : Prop := codecTellsRow.holds Try.pinned (OpenSpec.ofChange codecTellsWrong)

/-- 'grainlaw1.CodecTurns': WHATEVER THE INPUT: true; the input reads as it did. -/
def codecTurnsSpec : ChangeSpec := { name := "codecTurns", fn := fun _ => fun
  | [d1, d2] => { results := [.lit (.bool true)], args := [d1, d2] }
  | _ => none }
def codecTurnsRow : OpenClaim := { program := "ythbllehncjeolaa", sum := "ecb98664941b26d73297ed5fd072cb9f4da23d0097f3d8238d998be29b5e56a8", func := "grainstore/grainlaw1.CodecTurns", spec := "codecTurns", apart := false }
def CodecTurnsSaid : Prop := codecTurnsRow.holds Try.pinned (OpenSpec.ofChange codecTurnsSpec)

/-- ITS FALSE NEIGHBOUR: 'it returns false'. Refute it at one input. -/
def codecTurnsWrong : ChangeSpec := { name := "codecTurns", fn := fun _ => fun
  | [d1, d2] => { results := [.lit (.bool false)], args := [d1, d2] }
  | _ => none }
def CodecTurnsWrongFalsely : Prop := codecTurnsRow.holds Try.pinned (OpenSpec.ofChange codecTurnsWrong)

/-- 'grainlaw1.CodecEven': WHATEVER THE INPUT: true; the input reads as it did. -/
def codecEvenSpec : ChangeSpec := { name := "codecEven", fn := fun _ => fun
  | [d1, d2, d3, d4] => { results := [.lit (.bool true)], args := [d1, d2, d3, d4] }
  | _ => none }
def codecEvenRow : OpenClaim := { program := "ythbllehncjeolaa", sum := "ecb98664941b26d73297ed5fd072cb9f4da23d0097f3d8238d998be29b5e56a8", func := "grainstore/grainlaw1.CodecEven", spec := "codecEven", apart := false }
def CodecEvenSaid : Prop := codecEvenRow.holds Try.pinned (OpenSpec.ofChange codecEvenSpec)

/-- ITS FALSE NEIGHBOUR: 'it returns false'. Refute it at one input. -/
def codecEvenWrong : ChangeSpec := { name := "codecEven", fn := fun _ => fun
  | [d1, d2, d3, d4] => { results := [.lit (.bool false)], args := [d1, d2, d3, d4] }
  | _ => none }
def CodecEvenWrongFalsely : Prop := codecEvenRow.holds Try.pinned (OpenSpec.ofChange codecEvenWrong)

/-- 'grainlaw1.CodecMoved': WHATEVER THE INPUT: true; the input reads as it did. -/
def codecMovedSpec : ChangeSpec := { name := "codecMoved", fn := fun _ => fun
  | [d1, d2] => { results := [.lit (.bool true)], args := [d1, d2] }
  | _ => none }
def codecMovedRow : OpenClaim := { program := "ythbllehncjeolaa", sum := "ecb98664941b26d73297ed5fd072cb9f4da23d0097f3d8238d998be29b5e56a8", func := "grainstore/grainlaw1.CodecMoved", spec := "codecMoved", apart := false }
def CodecMovedSaid : Prop := codecMovedRow.holds Try.pinned (OpenSpec.ofChange codecMovedSpec)

/-- ITS FALSE NEIGHBOUR: 'it returns false'. Refute it at one input. -/
def codecMovedWrong : ChangeSpec := { name := "codecMoved", fn := fun _ => fun
  | [d1, d2] => { results := [.lit (.bool false)], args := [d1, d2] }
  | _ => none }
def CodecMovedWrongFalsely : Prop := codecMovedRow.holds Try.pinned (OpenSpec.ofChange codecMovedWrong)

/-- 'grainlaw2.AggTells': WHATEVER THE INPUT: true; the input reads as it did. -/
def aggTellsSpec : ChangeSpec := { name := "aggTells", fn := fun _ => fun
  | [d1, d2, d3, d4, d5] => { results := [.lit (.bool true)], args := [d1, d2, d3, d4, d5] }
  | _ => none }
def aggTellsRow : OpenClaim := { program := "ythbllehncjeolaa", sum := "ecb98664941b26d73297ed5fd072cb9f4da23d0097f3d8238d998be29b5e56a8", func := "grainstore/grainlaw2.AggTells", spec := "aggTells", apart := false }
def AggTellsSaid : Prop := aggTellsRow.holds Try.pinned (OpenSpec.ofChange aggTellsSpec)

/-- ITS FALSE NEIGHBOUR: 'it returns false'. Refute it at one input. -/
def aggTellsWrong : ChangeSpec := { name := "aggTells", fn := fun _ => fun
  | [d1, d2, d3, d4, d5] => { results := [.lit (.bool false)], args := [d1, d2, d3, d4, d5] }
  | _ => none }
def AggTellsWrongFalsely : Prop := aggTellsRow.holds Try.pinned (OpenSpec.ofChange aggTellsWrong)

/-- 'grainlaw2.AggParts': WHATEVER THE INPUT: true; the input reads as it did. -/
def aggPartsSpec : ChangeSpec := { name := "aggParts", fn := fun _ => fun
  | [d1, d2] => { results := [.lit (.bool true)], args := [d1, d2] }
  | _ => none }
def aggPartsRow : OpenClaim := { program := "ythbllehncjeolaa", sum := "ecb98664941b26d73297ed5fd072cb9f4da23d0097f3d8238d998be29b5e56a8", func := "grainstore/grainlaw2.AggParts", spec := "aggParts", apart := false }
def AggPartsSaid : Prop := aggPartsRow.holds Try.pinned (OpenSpec.ofChange aggPartsSpec)

/-- ITS FALSE NEIGHBOUR: 'it returns false'. Refute it at one input. -/
def aggPartsWrong : ChangeSpec := { name := "aggParts", fn := fun _ => fun
  | [d1, d2] => { results := [.lit (.bool false)], args := [d1, d2] }
  | _ => none }
def AggPartsWrongFalsely : Prop := aggPartsRow.holds Try.pinned (OpenSpec.ofChange aggPartsWrong)

/- THE SECOND FORM. 'bulk': how many values and letters a reading holds, each counted each time it is reached (what is shared counts as often as it is met; a slice's spare places count too). A statement '..UptoSaid' is the law's where the arguments, and the package variables that the reading takes, are together of bulk at most 1048576: NARROWER than '..Said'. Prove '..Said' where nothing that the law and all that it calls make is longer than what came in: it says more and counts as full. Else prove '..UptoSaid'. A law counts once. -/
mutual
def uptoBulk {H : Type} : DataW H → Nat
  | .lit (.string bytes) => bytes.length + 1
  | .lit _ => 1
  | .nil => 1
  | .ptr d => uptoBulk d + 1
  | .slice elems spare => uptoBulkAll elems + uptoBulkAll spare + 1
  | .agg parts => uptoBulkAll parts + 1
  | .iface _ d => uptoBulk d + 1
  | .map entries => uptoBulkEntries entries + 1
  | .held _ => 1
def uptoBulkAll {H : Type} : List (DataW H) → Nat
  | [] => 0
  | d :: r => uptoBulk d + uptoBulkAll r
def uptoBulkEntries {H : Type} : List (Lit × DataW H) → Nat
  | [] => 0
  | x :: r => uptoBulkEntry x + uptoBulkEntries r
def uptoBulkEntry {H : Type} : Lit × DataW H → Nat
  | (.string bytes, d) => bytes.length + uptoBulk d + 1
  | (_, d) => uptoBulk d + 1
 end
def uptoSmall : (H : Type) → List (DataW H) → Bool := fun _ ds => decide (uptoBulkAll ds ≤ 1048576)
def OpenSpec.upto (s : _root_.Go.ChangeSpec) : _root_.Go.OpenSpec := { _root_.Go.OpenSpec.ofChange s with cond := some uptoSmall }

/-- 'grainlaw1.CodecTells', WHERE WHAT IT READS IS OF BULK AT MOST 1048576: true; the input reads as it did. -/
def codecTellsUptoRow : OpenClaim := { program := "ythbllehncjeolaa", sum := "ecb98664941b26d73297ed5fd072cb9f4da23d0097f3d8238d998be29b5e56a8", func := "grainstore/grainlaw1.CodecTells", spec := "codecTells", apart := false, narrowed := true }
def CodecTellsUptoSaid : Prop := codecTellsUptoRow.holds Try.pinned (OpenSpec.upto codecTellsSpec)

/-- 'grainlaw1.CodecTurns', WHERE WHAT IT READS IS OF BULK AT MOST 1048576: true; the input reads as it did. -/
def codecTurnsUptoRow : OpenClaim := { program := "ythbllehncjeolaa", sum := "ecb98664941b26d73297ed5fd072cb9f4da23d0097f3d8238d998be29b5e56a8", func := "grainstore/grainlaw1.CodecTurns", spec := "codecTurns", apart := false, narrowed := true }
def CodecTurnsUptoSaid : Prop := codecTurnsUptoRow.holds Try.pinned (OpenSpec.upto codecTurnsSpec)

/-- 'grainlaw1.CodecEven', WHERE WHAT IT READS IS OF BULK AT MOST 1048576: true; the input reads as it did. -/
def codecEvenUptoRow : OpenClaim := { program := "ythbllehncjeolaa", sum := "ecb98664941b26d73297ed5fd072cb9f4da23d0097f3d8238d998be29b5e56a8", func := "grainstore/grainlaw1.CodecEven", spec := "codecEven", apart := false, narrowed := true }
def CodecEvenUptoSaid : Prop := codecEvenUptoRow.holds Try.pinned (OpenSpec.upto codecEvenSpec)

/-- 'grainlaw1.CodecMoved', WHERE WHAT IT READS IS OF BULK AT MOST 1048576: true; the input reads as it did. -/
def codecMovedUptoRow : OpenClaim := { program := "ythbllehncjeolaa", sum := "ecb98664941b26d73297ed5fd072cb9f4da23d0097f3d8238d998be29b5e56a8", func := "grainstore/grainlaw1.CodecMoved", spec := "codecMoved", apart := false, narrowed := true }
def CodecMovedUptoSaid : Prop := codecMovedUptoRow.holds Try.pinned (OpenSpec.upto codecMovedSpec)

/-- 'grainlaw2.AggTells', WHERE WHAT IT READS IS OF BULK AT MOST 1048576: true; the input reads as it did. -/
def aggTellsUptoRow : OpenClaim := { program := "ythbllehncjeolaa", sum := "ecb98664941b26d73297ed5fd072cb9f4da23d0097f3d8238d998be29b5e56a8", func := "grainstore/grainlaw2.AggTells", spec := "aggTells", apart := false, narrowed := true }
def AggTellsUptoSaid : Prop := aggTellsUptoRow.holds Try.pinned (OpenSpec.upto aggTellsSpec)

/-- 'grainlaw2.AggParts', WHERE WHAT IT READS IS OF BULK AT MOST 1048576: true; the input reads as it did. -/
def aggPartsUptoRow : OpenClaim := { program := "ythbllehncjeolaa", sum := "ecb98664941b26d73297ed5fd072cb9f4da23d0097f3d8238d998be29b5e56a8", func := "grainstore/grainlaw2.AggParts", spec := "aggParts", apart := false, narrowed := true }
def AggPartsUptoSaid : Prop := aggPartsUptoRow.holds Try.pinned (OpenSpec.upto aggPartsSpec)

end Rows
end Go.Proofs.Ythbllehncjeolaa
