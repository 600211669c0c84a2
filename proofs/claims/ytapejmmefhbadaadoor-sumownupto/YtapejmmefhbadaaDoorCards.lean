/-
  DERIVED. GIVEN WITH THE SEED: THE CARDS: each row of YtapejmmefhbadaaDoorRows.lean that lists a variable, with what it lists TIED to the program's text (the seventh form; the later family's looks); each row that meets fmt, with fmt's text TOLD by the authors' own Lean function (tested against real Go, not proved from fmt's source: count such statements apart). THE CARD IS WHAT COUNTS. Prove the row's statement (the work); the ties are given (YtapejmmefhbadaaDoorTie.lean); close each card by the builder's one call (the guide's Derived/Test/ToyasCard.lean, 'card_holds'). Laid BY PROGRAM, IN A SANDBOX (cutbox-door.mjs). By AI agents, Wed Nov 11 2026. No macro, syntax, notation, axiom, sorry.
-/
import Derived.Test.YtapejmmefhbadaaDoorRows
import GoSem.ClaimSeven
namespace Go.Proofs.YtapejmmefhbadaaDoor
namespace Rows

/-- THE TIED CARD OF 'turnpikelaw01.SumOwn'. -/
def sumOwnCard : Claim7 := { stood := { row := sumOwnRow, standIns := [], harness := (true, "6c4d5dda8b0969f8fc16ffea39392123d3a84cfaa10c6be51d1119f8e45c3484"), looks := false }, kinds := [], alts := [], laidByText := true, laidKinds := [.data], laidTests := true, laidLooks := .later }
def SumOwnCardSaid : Prop := Claim7.holds Tryd.pinned (.plain (OpenSpec.ofChange sumOwnSpec)) sumOwnCard

/-- THE SECOND FORM's CARD OF 'turnpikelaw01.SumOwn'. -/
def sumOwnUptoCard : Claim7 := { stood := { row := sumOwnUptoRow, standIns := [], harness := (true, "6c4d5dda8b0969f8fc16ffea39392123d3a84cfaa10c6be51d1119f8e45c3484"), looks := false }, kinds := [], alts := [], laidByText := true, laidKinds := [.data], laidTests := true, laidLooks := .later }
def SumOwnUptoCardSaid : Prop := Claim7.holds Tryd.pinned (.plain (OpenSpec.upto sumOwnSpec)) sumOwnUptoCard
end Rows
end Go.Proofs.YtapejmmefhbadaaDoor
