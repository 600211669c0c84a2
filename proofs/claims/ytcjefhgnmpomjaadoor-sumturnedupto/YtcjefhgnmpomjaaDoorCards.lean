/-
  DERIVED. GIVEN WITH THE SEED: THE CARDS: each row of YtcjefhgnmpomjaaDoorRows.lean that lists a variable, with what it lists TIED to the program's text (the seventh form; the later family's looks); each row that meets fmt, with fmt's text TOLD by the authors' own Lean function (tested against real Go, not proved from fmt's source: count such statements apart). THE CARD IS WHAT COUNTS. Prove the row's statement (the work); the ties are given (YtcjefhgnmpomjaaDoorTie.lean); close each card by the builder's one call (the guide's Derived/Test/ToyasCard.lean, 'card_holds'). Laid BY PROGRAM, IN A SANDBOX (cutbox-door.mjs). By AI agents, Wed Nov 11 2026. No macro, syntax, notation, axiom, sorry.
-/
import Derived.Test.YtcjefhgnmpomjaaDoorRows
import GoSem.ClaimSeven
namespace Go.Proofs.YtcjefhgnmpomjaaDoor
namespace Rows

/-- THE TIED CARD OF 'turnpikelaw01.SumFrames'. -/
def sumFramesCard : Claim7 := { stood := { row := sumFramesRow, standIns := [], harness := (true, "81c6fff031fa326a7ed4e44cd0eee1ba33ca92ce2f8ba60c363d8cac95354aac"), looks := false }, kinds := [], alts := [], laidByText := true, laidKinds := [.data], laidTests := true, laidLooks := .later }
def SumFramesCardSaid : Prop := Claim7.holds Tryd.pinned (.plain (OpenSpec.ofChange sumFramesSpec)) sumFramesCard

/-- THE TIED CARD OF 'turnpikelaw01.SumReads'. -/
def sumReadsCard : Claim7 := { stood := { row := sumReadsRow, standIns := [], harness := (true, "81c6fff031fa326a7ed4e44cd0eee1ba33ca92ce2f8ba60c363d8cac95354aac"), looks := false }, kinds := [], alts := [], laidByText := true, laidKinds := [.data], laidTests := true, laidLooks := .later }
def SumReadsCardSaid : Prop := Claim7.holds Tryd.pinned (.plain (OpenSpec.ofChange sumReadsSpec)) sumReadsCard

/-- THE TIED CARD OF 'turnpikelaw01.SumScans'. -/
def sumScansCard : Claim7 := { stood := { row := sumScansRow, standIns := [], harness := (true, "81c6fff031fa326a7ed4e44cd0eee1ba33ca92ce2f8ba60c363d8cac95354aac"), looks := false }, kinds := [], alts := [], laidByText := true, laidKinds := [.data], laidTests := true, laidLooks := .later }
def SumScansCardSaid : Prop := Claim7.holds Tryd.pinned (.plain (OpenSpec.ofChange sumScansSpec)) sumScansCard

/-- THE TIED CARD OF 'turnpikelaw01.SumCut'. -/
def sumCutCard : Claim7 := { stood := { row := sumCutRow, standIns := [], harness := (true, "81c6fff031fa326a7ed4e44cd0eee1ba33ca92ce2f8ba60c363d8cac95354aac"), looks := false }, kinds := [], alts := [], laidByText := true, laidKinds := [.data], laidTests := true, laidLooks := .later }
def SumCutCardSaid : Prop := Claim7.holds Tryd.pinned (.plain (OpenSpec.ofChange sumCutSpec)) sumCutCard

/-- THE TIED CARD OF 'turnpikelaw01.SumTurned'. -/
def sumTurnedCard : Claim7 := { stood := { row := sumTurnedRow, standIns := [], harness := (true, "81c6fff031fa326a7ed4e44cd0eee1ba33ca92ce2f8ba60c363d8cac95354aac"), looks := false }, kinds := [], alts := [], laidByText := true, laidKinds := [.data], laidTests := true, laidLooks := .later }
def SumTurnedCardSaid : Prop := Claim7.holds Tryd.pinned (.plain (OpenSpec.ofChange sumTurnedSpec)) sumTurnedCard

/-- THE TIED CARD OF 'turnpikelaw01.SumParts'. -/
def sumPartsCard : Claim7 := { stood := { row := sumPartsRow, standIns := [], harness := (true, "81c6fff031fa326a7ed4e44cd0eee1ba33ca92ce2f8ba60c363d8cac95354aac"), looks := false }, kinds := [], alts := [], laidByText := true, laidKinds := [.data], laidTests := true, laidLooks := .later }
def SumPartsCardSaid : Prop := Claim7.holds Tryd.pinned (.plain (OpenSpec.ofChange sumPartsSpec)) sumPartsCard

/-- THE SECOND FORM's CARD OF 'turnpikelaw01.SumFrames'. -/
def sumFramesUptoCard : Claim7 := { stood := { row := sumFramesUptoRow, standIns := [], harness := (true, "81c6fff031fa326a7ed4e44cd0eee1ba33ca92ce2f8ba60c363d8cac95354aac"), looks := false }, kinds := [], alts := [], laidByText := true, laidKinds := [.data], laidTests := true, laidLooks := .later }
def SumFramesUptoCardSaid : Prop := Claim7.holds Tryd.pinned (.plain (OpenSpec.upto sumFramesSpec)) sumFramesUptoCard

/-- THE SECOND FORM's CARD OF 'turnpikelaw01.SumReads'. -/
def sumReadsUptoCard : Claim7 := { stood := { row := sumReadsUptoRow, standIns := [], harness := (true, "81c6fff031fa326a7ed4e44cd0eee1ba33ca92ce2f8ba60c363d8cac95354aac"), looks := false }, kinds := [], alts := [], laidByText := true, laidKinds := [.data], laidTests := true, laidLooks := .later }
def SumReadsUptoCardSaid : Prop := Claim7.holds Tryd.pinned (.plain (OpenSpec.upto sumReadsSpec)) sumReadsUptoCard

/-- THE SECOND FORM's CARD OF 'turnpikelaw01.SumScans'. -/
def sumScansUptoCard : Claim7 := { stood := { row := sumScansUptoRow, standIns := [], harness := (true, "81c6fff031fa326a7ed4e44cd0eee1ba33ca92ce2f8ba60c363d8cac95354aac"), looks := false }, kinds := [], alts := [], laidByText := true, laidKinds := [.data], laidTests := true, laidLooks := .later }
def SumScansUptoCardSaid : Prop := Claim7.holds Tryd.pinned (.plain (OpenSpec.upto sumScansSpec)) sumScansUptoCard

/-- THE SECOND FORM's CARD OF 'turnpikelaw01.SumCut'. -/
def sumCutUptoCard : Claim7 := { stood := { row := sumCutUptoRow, standIns := [], harness := (true, "81c6fff031fa326a7ed4e44cd0eee1ba33ca92ce2f8ba60c363d8cac95354aac"), looks := false }, kinds := [], alts := [], laidByText := true, laidKinds := [.data], laidTests := true, laidLooks := .later }
def SumCutUptoCardSaid : Prop := Claim7.holds Tryd.pinned (.plain (OpenSpec.upto sumCutSpec)) sumCutUptoCard

/-- THE SECOND FORM's CARD OF 'turnpikelaw01.SumTurned'. -/
def sumTurnedUptoCard : Claim7 := { stood := { row := sumTurnedUptoRow, standIns := [], harness := (true, "81c6fff031fa326a7ed4e44cd0eee1ba33ca92ce2f8ba60c363d8cac95354aac"), looks := false }, kinds := [], alts := [], laidByText := true, laidKinds := [.data], laidTests := true, laidLooks := .later }
def SumTurnedUptoCardSaid : Prop := Claim7.holds Tryd.pinned (.plain (OpenSpec.upto sumTurnedSpec)) sumTurnedUptoCard

/-- THE SECOND FORM's CARD OF 'turnpikelaw01.SumParts'. -/
def sumPartsUptoCard : Claim7 := { stood := { row := sumPartsUptoRow, standIns := [], harness := (true, "81c6fff031fa326a7ed4e44cd0eee1ba33ca92ce2f8ba60c363d8cac95354aac"), looks := false }, kinds := [], alts := [], laidByText := true, laidKinds := [.data], laidTests := true, laidLooks := .later }
def SumPartsUptoCardSaid : Prop := Claim7.holds Tryd.pinned (.plain (OpenSpec.upto sumPartsSpec)) sumPartsUptoCard
end Rows
end Go.Proofs.YtcjefhgnmpomjaaDoor
