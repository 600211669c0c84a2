/-
  DERIVED. GIVEN WITH THE SEED: THE CARDS: each row of YtfhobglcploaoaaDoorRows.lean that lists a variable, with what it lists TIED to the program's text (the seventh form; the later family's looks); each row that meets fmt, with fmt's text TOLD by the authors' own Lean function (tested against real Go, not proved from fmt's source: count such statements apart). THE CARD IS WHAT COUNTS. Prove the row's statement (the work); the ties are given (YtfhobglcploaoaaDoorTie.lean); close each card by the builder's one call (the guide's Derived/Test/ToyasCard.lean, 'card_holds'). Laid BY PROGRAM, IN A SANDBOX (cutbox-door.mjs). By AI agents, Wed Nov 11 2026. No macro, syntax, notation, axiom, sorry.
-/
import Derived.Test.YtfhobglcploaoaaDoorRows
import GoSem.ClaimSeven
namespace Go.Proofs.YtfhobglcploaoaaDoor
namespace Rows

/-- THE TIED CARD OF 'turnpikelaw16.DecideAnswers'. -/
def decideAnswersCard : Claim7 := { stood := { row := decideAnswersRow, standIns := [], harness := (true, "0a44ca87e3c073ef5cbec42350a127bd2bd3b18084a46999df4f3d66ddfceaad"), looks := false }, kinds := [], alts := [], laidByText := true, laidKinds := [.data], laidTests := true, laidLooks := .later }
def DecideAnswersCardSaid : Prop := Claim7.holds Tryd.pinned (.plain (OpenSpec.ofChange decideAnswersSpec)) decideAnswersCard

/-- THE TIED CARD OF 'turnpikelaw16.DecideDenied'. -/
def decideDeniedCard : Claim7 := { stood := { row := decideDeniedRow, standIns := [], harness := (true, "0a44ca87e3c073ef5cbec42350a127bd2bd3b18084a46999df4f3d66ddfceaad"), looks := false }, kinds := [], alts := [], laidByText := true, laidKinds := [.data], laidTests := true, laidLooks := .later }
def DecideDeniedCardSaid : Prop := Claim7.holds Tryd.pinned (.plain (OpenSpec.ofChange decideDeniedSpec)) decideDeniedCard

/-- THE TIED CARD OF 'turnpikelaw16.DecideForward'. -/
def decideForwardCard : Claim7 := { stood := { row := decideForwardRow, standIns := [], harness := (true, "0a44ca87e3c073ef5cbec42350a127bd2bd3b18084a46999df4f3d66ddfceaad"), looks := false }, kinds := [], alts := [], laidByText := true, laidKinds := [.data], laidTests := true, laidLooks := .later }
def DecideForwardCardSaid : Prop := Claim7.holds Tryd.pinned (.plain (OpenSpec.ofChange decideForwardSpec)) decideForwardCard

/-- THE TIED CARD OF 'turnpikelaw16.DecideDraws'. -/
def decideDrawsCard : Claim7 := { stood := { row := decideDrawsRow, standIns := [], harness := (true, "0a44ca87e3c073ef5cbec42350a127bd2bd3b18084a46999df4f3d66ddfceaad"), looks := false }, kinds := [], alts := [], laidByText := true, laidKinds := [.data], laidTests := true, laidLooks := .later }
def DecideDrawsCardSaid : Prop := Claim7.holds Tryd.pinned (.plain (OpenSpec.ofChange decideDrawsSpec)) decideDrawsCard

/-- THE SECOND FORM's CARD OF 'turnpikelaw16.DecideAnswers'. -/
def decideAnswersUptoCard : Claim7 := { stood := { row := decideAnswersUptoRow, standIns := [], harness := (true, "0a44ca87e3c073ef5cbec42350a127bd2bd3b18084a46999df4f3d66ddfceaad"), looks := false }, kinds := [], alts := [], laidByText := true, laidKinds := [.data], laidTests := true, laidLooks := .later }
def DecideAnswersUptoCardSaid : Prop := Claim7.holds Tryd.pinned (.plain (OpenSpec.upto decideAnswersSpec)) decideAnswersUptoCard

/-- THE SECOND FORM's CARD OF 'turnpikelaw16.DecideDenied'. -/
def decideDeniedUptoCard : Claim7 := { stood := { row := decideDeniedUptoRow, standIns := [], harness := (true, "0a44ca87e3c073ef5cbec42350a127bd2bd3b18084a46999df4f3d66ddfceaad"), looks := false }, kinds := [], alts := [], laidByText := true, laidKinds := [.data], laidTests := true, laidLooks := .later }
def DecideDeniedUptoCardSaid : Prop := Claim7.holds Tryd.pinned (.plain (OpenSpec.upto decideDeniedSpec)) decideDeniedUptoCard

/-- THE SECOND FORM's CARD OF 'turnpikelaw16.DecideForward'. -/
def decideForwardUptoCard : Claim7 := { stood := { row := decideForwardUptoRow, standIns := [], harness := (true, "0a44ca87e3c073ef5cbec42350a127bd2bd3b18084a46999df4f3d66ddfceaad"), looks := false }, kinds := [], alts := [], laidByText := true, laidKinds := [.data], laidTests := true, laidLooks := .later }
def DecideForwardUptoCardSaid : Prop := Claim7.holds Tryd.pinned (.plain (OpenSpec.upto decideForwardSpec)) decideForwardUptoCard

/-- THE SECOND FORM's CARD OF 'turnpikelaw16.DecideDraws'. -/
def decideDrawsUptoCard : Claim7 := { stood := { row := decideDrawsUptoRow, standIns := [], harness := (true, "0a44ca87e3c073ef5cbec42350a127bd2bd3b18084a46999df4f3d66ddfceaad"), looks := false }, kinds := [], alts := [], laidByText := true, laidKinds := [.data], laidTests := true, laidLooks := .later }
def DecideDrawsUptoCardSaid : Prop := Claim7.holds Tryd.pinned (.plain (OpenSpec.upto decideDrawsSpec)) decideDrawsUptoCard
end Rows
end Go.Proofs.YtfhobglcploaoaaDoor
