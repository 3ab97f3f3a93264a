/-
  DERIVED. GIVEN WITH THE SEED: THE CARDS: each row of YtfgablhgjbjbkadGreatDoorRows.lean that lists a variable, with what it lists TIED to the program's text (the seventh form; the later family's looks); each row that meets fmt, with fmt's text TOLD by the authors' own Lean function (tested against real Go, not proved from fmt's source: count such statements apart). THE CARD IS WHAT COUNTS. Prove the row's statement (the work); the ties are given (YtfgablhgjbjbkadGreatDoorTie.lean); close each card by the builder's one call (the guide's Derived/Test/ToyasCard.lean, 'card_holds'). Laid BY PROGRAM, IN A SANDBOX (cutbox-door.mjs). By AI agents, Wed Nov 11 2026. No macro, syntax, notation, axiom, sorry.
-/
import Derived.Test.YtfgablhgjbjbkadGreatDoorRows
import GoSem.ClaimSeven
namespace Go.Proofs.YtfgablhgjbjbkadGreatDoor
namespace Rows

/-- THE TIED CARD OF 'grainlaw5.LangTurns'. -/
def langTurnsCard : Claim7 := { stood := { row := langTurnsRow, standIns := [], harness := (true, "8ed584997cf5727959d965af6b512d6b5399fe352495f36f42071e2d6c4ef316"), looks := true }, kinds := [], alts := [], laidByText := true, laidKinds := [.data, .data, .data, .sentinel, .sentinel], laidTests := true, laidLooks := .later }
def LangTurnsCardSaid : Prop := Claim7.holds Tryz.pinned (.plain (OpenSpec.ofChange langTurnsSpec)) langTurnsCard

/-- THE TIED CARD OF 'grainlaw5.LangAgain'. -/
def langAgainCard : Claim7 := { stood := { row := langAgainRow, standIns := [], harness := (true, "8ed584997cf5727959d965af6b512d6b5399fe352495f36f42071e2d6c4ef316"), looks := true }, kinds := [], alts := [], laidByText := true, laidKinds := [.data, .data, .data, .sentinel, .sentinel], laidTests := true, laidLooks := .later }
def LangAgainCardSaid : Prop := Claim7.holds Tryz.pinned (.plain (OpenSpec.ofChange langAgainSpec)) langAgainCard

/-- THE SECOND FORM's CARD OF 'grainlaw5.LangTurns'. -/
def langTurnsUptoCard : Claim7 := { stood := { row := langTurnsUptoRow, standIns := [], harness := (true, "8ed584997cf5727959d965af6b512d6b5399fe352495f36f42071e2d6c4ef316"), looks := true }, kinds := [], alts := [], laidByText := true, laidKinds := [.data, .data, .data, .sentinel, .sentinel], laidTests := true, laidLooks := .later }
def LangTurnsUptoCardSaid : Prop := Claim7.holds Tryz.pinned (.plain (OpenSpec.upto langTurnsSpec)) langTurnsUptoCard

/-- THE SECOND FORM's CARD OF 'grainlaw5.LangAgain'. -/
def langAgainUptoCard : Claim7 := { stood := { row := langAgainUptoRow, standIns := [], harness := (true, "8ed584997cf5727959d965af6b512d6b5399fe352495f36f42071e2d6c4ef316"), looks := true }, kinds := [], alts := [], laidByText := true, laidKinds := [.data, .data, .data, .sentinel, .sentinel], laidTests := true, laidLooks := .later }
def LangAgainUptoCardSaid : Prop := Claim7.holds Tryz.pinned (.plain (OpenSpec.upto langAgainSpec)) langAgainUptoCard
end Rows
end Go.Proofs.YtfgablhgjbjbkadGreatDoor
