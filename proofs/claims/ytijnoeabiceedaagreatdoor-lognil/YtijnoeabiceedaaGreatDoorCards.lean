/-
  DERIVED. GIVEN WITH THE SEED: THE CARDS: each row of YtijnoeabiceedaaGreatDoorRows.lean that lists a variable, with what it lists TIED to the program's text (the seventh form; the later family's looks); each row that meets fmt, with fmt's text TOLD by the authors' own Lean function (tested against real Go, not proved from fmt's source: count such statements apart). THE CARD IS WHAT COUNTS. Prove the row's statement (the work); the ties are given (YtijnoeabiceedaaGreatDoorTie.lean); close each card by the builder's one call (the guide's Derived/Test/ToyasCard.lean, 'card_holds'). Laid BY PROGRAM, IN A SANDBOX (cutbox-door.mjs). By AI agents, Wed Nov 11 2026. No macro, syntax, notation, axiom, sorry.
-/
import Derived.Test.YtijnoeabiceedaaGreatDoorRows
import GoSem.ClaimSeven
namespace Go.Proofs.YtijnoeabiceedaaGreatDoor
namespace Rows

/-- THE TIED CARD OF 'turnpikelaw06.LogScripts'. -/
def logScriptsCard : Claim7 := { stood := { row := logScriptsRow, standIns := [], harness := (true, "37816a775ac410cbcdac8b4dcdc552a8a4f6601c6587c80bcb82d2dd88ae3b9f"), looks := true }, kinds := [], alts := [], laidByText := true, laidKinds := [.data, .data, .data, .data], laidTests := true, laidLooks := .later }
def LogScriptsCardSaid : Prop := Claim7.holds Tryz.pinned (.plain (OpenSpec.ofChange logScriptsSpec)) logScriptsCard

/-- THE TIED CARD OF 'turnpikelaw06.LogNil'. -/
def logNilCard : Claim7 := { stood := { row := logNilRow, standIns := [], harness := (true, "37816a775ac410cbcdac8b4dcdc552a8a4f6601c6587c80bcb82d2dd88ae3b9f"), looks := true }, kinds := [], alts := [], laidByText := true, laidKinds := [.data, .data, .data, .data], laidTests := true, laidLooks := .later }
def LogNilCardSaid : Prop := Claim7.holds Tryz.pinned (.plain (OpenSpec.ofChange logNilSpec)) logNilCard

/-- THE TIED CARD OF 'turnpikelaw06.LogCrashes'. -/
def logCrashesCard : Claim7 := { stood := { row := logCrashesRow, standIns := [], harness := (true, "37816a775ac410cbcdac8b4dcdc552a8a4f6601c6587c80bcb82d2dd88ae3b9f"), looks := true }, kinds := [], alts := [], laidByText := true, laidKinds := [.data, .data, .data, .data], laidTests := true, laidLooks := .later }
def LogCrashesCardSaid : Prop := Claim7.holds Tryz.pinned (.plain (OpenSpec.ofChange logCrashesSpec)) logCrashesCard

/-- THE TIED CARD OF 'turnpikelaw06.LogHeads'. -/
def logHeadsCard : Claim7 := { stood := { row := logHeadsRow, standIns := [], harness := (true, "37816a775ac410cbcdac8b4dcdc552a8a4f6601c6587c80bcb82d2dd88ae3b9f"), looks := true }, kinds := [], alts := [], laidByText := true, laidKinds := [.data, .data, .data, .data], laidTests := true, laidLooks := .later }
def LogHeadsCardSaid : Prop := Claim7.holds Tryz.pinned (.plain (OpenSpec.ofChange logHeadsSpec)) logHeadsCard

/-- THE TIED CARD OF 'turnpikelaw06.LogFull'. -/
def logFullCard : Claim7 := { stood := { row := logFullRow, standIns := [], harness := (true, "37816a775ac410cbcdac8b4dcdc552a8a4f6601c6587c80bcb82d2dd88ae3b9f"), looks := true }, kinds := [], alts := [], laidByText := true, laidKinds := [.data, .data, .data, .data], laidTests := true, laidLooks := .later }
def LogFullCardSaid : Prop := Claim7.holds Tryz.pinned (.plain (OpenSpec.ofChange logFullSpec)) logFullCard

/-- THE TIED CARD OF 'turnpikelaw06.LogOwn'. -/
def logOwnCard : Claim7 := { stood := { row := logOwnRow, standIns := [], harness := (true, "37816a775ac410cbcdac8b4dcdc552a8a4f6601c6587c80bcb82d2dd88ae3b9f"), looks := true }, kinds := [], alts := [], laidByText := true, laidKinds := [.data, .data, .data, .data], laidTests := true, laidLooks := .later }
def LogOwnCardSaid : Prop := Claim7.holds Tryz.pinned (.plain (OpenSpec.ofChange logOwnSpec)) logOwnCard

/-- THE SECOND FORM's CARD OF 'turnpikelaw06.LogScripts'. -/
def logScriptsUptoCard : Claim7 := { stood := { row := logScriptsUptoRow, standIns := [], harness := (true, "37816a775ac410cbcdac8b4dcdc552a8a4f6601c6587c80bcb82d2dd88ae3b9f"), looks := true }, kinds := [], alts := [], laidByText := true, laidKinds := [.data, .data, .data, .data], laidTests := true, laidLooks := .later }
def LogScriptsUptoCardSaid : Prop := Claim7.holds Tryz.pinned (.plain (OpenSpec.upto logScriptsSpec)) logScriptsUptoCard

/-- THE SECOND FORM's CARD OF 'turnpikelaw06.LogNil'. -/
def logNilUptoCard : Claim7 := { stood := { row := logNilUptoRow, standIns := [], harness := (true, "37816a775ac410cbcdac8b4dcdc552a8a4f6601c6587c80bcb82d2dd88ae3b9f"), looks := true }, kinds := [], alts := [], laidByText := true, laidKinds := [.data, .data, .data, .data], laidTests := true, laidLooks := .later }
def LogNilUptoCardSaid : Prop := Claim7.holds Tryz.pinned (.plain (OpenSpec.upto logNilSpec)) logNilUptoCard

/-- THE SECOND FORM's CARD OF 'turnpikelaw06.LogCrashes'. -/
def logCrashesUptoCard : Claim7 := { stood := { row := logCrashesUptoRow, standIns := [], harness := (true, "37816a775ac410cbcdac8b4dcdc552a8a4f6601c6587c80bcb82d2dd88ae3b9f"), looks := true }, kinds := [], alts := [], laidByText := true, laidKinds := [.data, .data, .data, .data], laidTests := true, laidLooks := .later }
def LogCrashesUptoCardSaid : Prop := Claim7.holds Tryz.pinned (.plain (OpenSpec.upto logCrashesSpec)) logCrashesUptoCard

/-- THE SECOND FORM's CARD OF 'turnpikelaw06.LogHeads'. -/
def logHeadsUptoCard : Claim7 := { stood := { row := logHeadsUptoRow, standIns := [], harness := (true, "37816a775ac410cbcdac8b4dcdc552a8a4f6601c6587c80bcb82d2dd88ae3b9f"), looks := true }, kinds := [], alts := [], laidByText := true, laidKinds := [.data, .data, .data, .data], laidTests := true, laidLooks := .later }
def LogHeadsUptoCardSaid : Prop := Claim7.holds Tryz.pinned (.plain (OpenSpec.upto logHeadsSpec)) logHeadsUptoCard

/-- THE SECOND FORM's CARD OF 'turnpikelaw06.LogFull'. -/
def logFullUptoCard : Claim7 := { stood := { row := logFullUptoRow, standIns := [], harness := (true, "37816a775ac410cbcdac8b4dcdc552a8a4f6601c6587c80bcb82d2dd88ae3b9f"), looks := true }, kinds := [], alts := [], laidByText := true, laidKinds := [.data, .data, .data, .data], laidTests := true, laidLooks := .later }
def LogFullUptoCardSaid : Prop := Claim7.holds Tryz.pinned (.plain (OpenSpec.upto logFullSpec)) logFullUptoCard

/-- THE SECOND FORM's CARD OF 'turnpikelaw06.LogOwn'. -/
def logOwnUptoCard : Claim7 := { stood := { row := logOwnUptoRow, standIns := [], harness := (true, "37816a775ac410cbcdac8b4dcdc552a8a4f6601c6587c80bcb82d2dd88ae3b9f"), looks := true }, kinds := [], alts := [], laidByText := true, laidKinds := [.data, .data, .data, .data], laidTests := true, laidLooks := .later }
def LogOwnUptoCardSaid : Prop := Claim7.holds Tryz.pinned (.plain (OpenSpec.upto logOwnSpec)) logOwnUptoCard
end Rows
end Go.Proofs.YtijnoeabiceedaaGreatDoor
