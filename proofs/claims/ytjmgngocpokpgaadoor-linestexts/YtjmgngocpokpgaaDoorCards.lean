/-
  DERIVED. GIVEN WITH THE SEED: THE CARDS: each row of YtjmgngocpokpgaaDoorRows.lean that lists a variable, with what it lists TIED to the program's text (the seventh form; the later family's looks); each row that meets fmt, with fmt's text TOLD by the authors' own Lean function (tested against real Go, not proved from fmt's source: count such statements apart). THE CARD IS WHAT COUNTS. Prove the row's statement (the work); the ties are given (YtjmgngocpokpgaaDoorTie.lean); close each card by the builder's one call (the guide's Derived/Test/ToyasCard.lean, 'card_holds'). Laid BY PROGRAM, IN A SANDBOX (cutbox-door.mjs). By AI agents, Wed Nov 11 2026. No macro, syntax, notation, axiom, sorry.
-/
import Derived.Test.YtjmgngocpokpgaaDoorRows
import GoSem.ClaimSeven
namespace Go.Proofs.YtjmgngocpokpgaaDoor
namespace Rows

/-- THE TIED CARD OF 'turnpikelaw08.LinesScan'. -/
def linesScanCard : Claim7 := { stood := { row := linesScanRow, standIns := [], harness := (true, "00ba11ad12b3d8900b6c8903314c365255a535d7e59a44f82d93e524addacf15"), looks := false }, kinds := [], alts := [], laidByText := true, laidKinds := [.data, .pinned], laidTests := true, laidLooks := .later }
def LinesScanCardSaid : Prop := Claim7.holds Tryd.pinned (.plain (OpenSpec.ofChange linesScanSpec)) linesScanCard

/-- THE TIED CARD OF 'turnpikelaw08.LinesEach'. -/
def linesEachCard : Claim7 := { stood := { row := linesEachRow, standIns := [], harness := (true, "00ba11ad12b3d8900b6c8903314c365255a535d7e59a44f82d93e524addacf15"), looks := false }, kinds := [], alts := [], laidByText := true, laidKinds := [.data, .pinned], laidTests := true, laidLooks := .later }
def LinesEachCardSaid : Prop := Claim7.holds Tryd.pinned (.plain (OpenSpec.ofChange linesEachSpec)) linesEachCard

/-- THE TIED CARD OF 'turnpikelaw08.LinesTexts'. -/
def linesTextsCard : Claim7 := { stood := { row := linesTextsRow, standIns := [], harness := (true, "00ba11ad12b3d8900b6c8903314c365255a535d7e59a44f82d93e524addacf15"), looks := false }, kinds := [], alts := [], laidByText := true, laidKinds := [.data, .pinned], laidTests := true, laidLooks := .later }
def LinesTextsCardSaid : Prop := Claim7.holds Tryd.pinned (.plain (OpenSpec.ofChange linesTextsSpec)) linesTextsCard

/-- THE TIED CARD OF 'turnpikelaw08.LinesQuoted'. -/
def linesQuotedCard : Claim7 := { stood := { row := linesQuotedRow, standIns := [], harness := (true, "00ba11ad12b3d8900b6c8903314c365255a535d7e59a44f82d93e524addacf15"), looks := false }, kinds := [], alts := [], laidByText := true, laidKinds := [.data, .pinned], laidTests := true, laidLooks := .later }
def LinesQuotedCardSaid : Prop := Claim7.holds Tryd.pinned (.plain (OpenSpec.ofChange linesQuotedSpec)) linesQuotedCard

/-- THE TIED CARD OF 'turnpikelaw08.LinesAlone'. -/
def linesAloneCard : Claim7 := { stood := { row := linesAloneRow, standIns := [], harness := (true, "00ba11ad12b3d8900b6c8903314c365255a535d7e59a44f82d93e524addacf15"), looks := false }, kinds := [], alts := [], laidByText := true, laidKinds := [.data, .pinned], laidTests := true, laidLooks := .later }
def LinesAloneCardSaid : Prop := Claim7.holds Tryd.pinned (.plain (OpenSpec.ofChange linesAloneSpec)) linesAloneCard

/-- THE TIED CARD OF 'turnpikelaw08.LinesOwn'. -/
def linesOwnCard : Claim7 := { stood := { row := linesOwnRow, standIns := [], harness := (true, "00ba11ad12b3d8900b6c8903314c365255a535d7e59a44f82d93e524addacf15"), looks := false }, kinds := [], alts := [], laidByText := true, laidKinds := [.data, .pinned], laidTests := true, laidLooks := .later }
def LinesOwnCardSaid : Prop := Claim7.holds Tryd.pinned (.plain (OpenSpec.ofChange linesOwnSpec)) linesOwnCard

/-- THE SECOND FORM's CARD OF 'turnpikelaw08.LinesScan'. -/
def linesScanUptoCard : Claim7 := { stood := { row := linesScanUptoRow, standIns := [], harness := (true, "00ba11ad12b3d8900b6c8903314c365255a535d7e59a44f82d93e524addacf15"), looks := false }, kinds := [], alts := [], laidByText := true, laidKinds := [.data, .pinned], laidTests := true, laidLooks := .later }
def LinesScanUptoCardSaid : Prop := Claim7.holds Tryd.pinned (.plain (OpenSpec.upto linesScanSpec)) linesScanUptoCard

/-- THE SECOND FORM's CARD OF 'turnpikelaw08.LinesEach'. -/
def linesEachUptoCard : Claim7 := { stood := { row := linesEachUptoRow, standIns := [], harness := (true, "00ba11ad12b3d8900b6c8903314c365255a535d7e59a44f82d93e524addacf15"), looks := false }, kinds := [], alts := [], laidByText := true, laidKinds := [.data, .pinned], laidTests := true, laidLooks := .later }
def LinesEachUptoCardSaid : Prop := Claim7.holds Tryd.pinned (.plain (OpenSpec.upto linesEachSpec)) linesEachUptoCard

/-- THE SECOND FORM's CARD OF 'turnpikelaw08.LinesTexts'. -/
def linesTextsUptoCard : Claim7 := { stood := { row := linesTextsUptoRow, standIns := [], harness := (true, "00ba11ad12b3d8900b6c8903314c365255a535d7e59a44f82d93e524addacf15"), looks := false }, kinds := [], alts := [], laidByText := true, laidKinds := [.data, .pinned], laidTests := true, laidLooks := .later }
def LinesTextsUptoCardSaid : Prop := Claim7.holds Tryd.pinned (.plain (OpenSpec.upto linesTextsSpec)) linesTextsUptoCard

/-- THE SECOND FORM's CARD OF 'turnpikelaw08.LinesQuoted'. -/
def linesQuotedUptoCard : Claim7 := { stood := { row := linesQuotedUptoRow, standIns := [], harness := (true, "00ba11ad12b3d8900b6c8903314c365255a535d7e59a44f82d93e524addacf15"), looks := false }, kinds := [], alts := [], laidByText := true, laidKinds := [.data, .pinned], laidTests := true, laidLooks := .later }
def LinesQuotedUptoCardSaid : Prop := Claim7.holds Tryd.pinned (.plain (OpenSpec.upto linesQuotedSpec)) linesQuotedUptoCard

/-- THE SECOND FORM's CARD OF 'turnpikelaw08.LinesAlone'. -/
def linesAloneUptoCard : Claim7 := { stood := { row := linesAloneUptoRow, standIns := [], harness := (true, "00ba11ad12b3d8900b6c8903314c365255a535d7e59a44f82d93e524addacf15"), looks := false }, kinds := [], alts := [], laidByText := true, laidKinds := [.data, .pinned], laidTests := true, laidLooks := .later }
def LinesAloneUptoCardSaid : Prop := Claim7.holds Tryd.pinned (.plain (OpenSpec.upto linesAloneSpec)) linesAloneUptoCard

/-- THE SECOND FORM's CARD OF 'turnpikelaw08.LinesOwn'. -/
def linesOwnUptoCard : Claim7 := { stood := { row := linesOwnUptoRow, standIns := [], harness := (true, "00ba11ad12b3d8900b6c8903314c365255a535d7e59a44f82d93e524addacf15"), looks := false }, kinds := [], alts := [], laidByText := true, laidKinds := [.data, .pinned], laidTests := true, laidLooks := .later }
def LinesOwnUptoCardSaid : Prop := Claim7.holds Tryd.pinned (.plain (OpenSpec.upto linesOwnSpec)) linesOwnUptoCard
end Rows
end Go.Proofs.YtjmgngocpokpgaaDoor
