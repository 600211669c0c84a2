/-
  DERIVED. GIVEN WITH THE SEED: THE CARDS: each row of YteeclghhoioapaaDoorRows.lean that lists a variable, with what it lists TIED to the program's text (the seventh form; the later family's looks); each row that meets fmt, with fmt's text TOLD by the authors' own Lean function (tested against real Go, not proved from fmt's source: count such statements apart). THE CARD IS WHAT COUNTS. Prove the row's statement (the work); the ties are given (YteeclghhoioapaaDoorTie.lean); close each card by the builder's one call (the guide's Derived/Test/ToyasCard.lean, 'card_holds'). Laid BY PROGRAM, IN A SANDBOX (cutbox-door.mjs). By AI agents, Wed Nov 11 2026. No macro, syntax, notation, axiom, sorry.
-/
import Derived.Test.YteeclghhoioapaaDoorRows
import GoSem.ClaimSeven
namespace Go.Proofs.YteeclghhoioapaaDoor
namespace Rows

/-- THE TIED CARD OF 'turnpikelaw19.FramesWrites'. -/
def framesWritesCard : Claim7 := { stood := { row := framesWritesRow, standIns := [], harness := (true, "050b4be9bb648714d5e31d988ac3a105a476020b3a9e54660ce090fe93a10169"), looks := false }, kinds := [], alts := [], laidByText := true, laidKinds := [.data], laidTests := true, laidLooks := .later }
def FramesWritesCardSaid : Prop := Claim7.holds Tryd.pinned (.plain (OpenSpec.ofChange framesWritesSpec)) framesWritesCard

/-- THE TIED CARD OF 'turnpikelaw19.FramesReads'. -/
def framesReadsCard : Claim7 := { stood := { row := framesReadsRow, standIns := [], harness := (true, "050b4be9bb648714d5e31d988ac3a105a476020b3a9e54660ce090fe93a10169"), looks := false }, kinds := [], alts := [], laidByText := true, laidKinds := [.data], laidTests := true, laidLooks := .later }
def FramesReadsCardSaid : Prop := Claim7.holds Tryd.pinned (.plain (OpenSpec.ofChange framesReadsSpec)) framesReadsCard

/-- THE TIED CARD OF 'turnpikelaw19.FramesFeeds'. -/
def framesFeedsCard : Claim7 := { stood := { row := framesFeedsRow, standIns := [], harness := (true, "050b4be9bb648714d5e31d988ac3a105a476020b3a9e54660ce090fe93a10169"), looks := false }, kinds := [], alts := [], laidByText := true, laidKinds := [.data], laidTests := true, laidLooks := .later }
def FramesFeedsCardSaid : Prop := Claim7.holds Tryd.pinned (.plain (OpenSpec.ofChange framesFeedsSpec)) framesFeedsCard

/-- THE TIED CARD OF 'turnpikelaw19.FramesBack'. -/
def framesBackCard : Claim7 := { stood := { row := framesBackRow, standIns := [], harness := (true, "050b4be9bb648714d5e31d988ac3a105a476020b3a9e54660ce090fe93a10169"), looks := false }, kinds := [], alts := [], laidByText := true, laidKinds := [.data], laidTests := true, laidLooks := .later }
def FramesBackCardSaid : Prop := Claim7.holds Tryd.pinned (.plain (OpenSpec.ofChange framesBackSpec)) framesBackCard

/-- THE TIED CARD OF 'turnpikelaw19.FramesPieces'. -/
def framesPiecesCard : Claim7 := { stood := { row := framesPiecesRow, standIns := [], harness := (true, "050b4be9bb648714d5e31d988ac3a105a476020b3a9e54660ce090fe93a10169"), looks := false }, kinds := [], alts := [], laidByText := true, laidKinds := [.data], laidTests := true, laidLooks := .later }
def FramesPiecesCardSaid : Prop := Claim7.holds Tryd.pinned (.plain (OpenSpec.ofChange framesPiecesSpec)) framesPiecesCard

/-- THE TIED CARD OF 'turnpikelaw19.FramesTurned'. -/
def framesTurnedCard : Claim7 := { stood := { row := framesTurnedRow, standIns := [], harness := (true, "050b4be9bb648714d5e31d988ac3a105a476020b3a9e54660ce090fe93a10169"), looks := false }, kinds := [], alts := [], laidByText := true, laidKinds := [.data], laidTests := true, laidLooks := .later }
def FramesTurnedCardSaid : Prop := Claim7.holds Tryd.pinned (.plain (OpenSpec.ofChange framesTurnedSpec)) framesTurnedCard

/-- THE SECOND FORM's CARD OF 'turnpikelaw19.FramesWrites'. -/
def framesWritesUptoCard : Claim7 := { stood := { row := framesWritesUptoRow, standIns := [], harness := (true, "050b4be9bb648714d5e31d988ac3a105a476020b3a9e54660ce090fe93a10169"), looks := false }, kinds := [], alts := [], laidByText := true, laidKinds := [.data], laidTests := true, laidLooks := .later }
def FramesWritesUptoCardSaid : Prop := Claim7.holds Tryd.pinned (.plain (OpenSpec.upto framesWritesSpec)) framesWritesUptoCard

/-- THE SECOND FORM's CARD OF 'turnpikelaw19.FramesReads'. -/
def framesReadsUptoCard : Claim7 := { stood := { row := framesReadsUptoRow, standIns := [], harness := (true, "050b4be9bb648714d5e31d988ac3a105a476020b3a9e54660ce090fe93a10169"), looks := false }, kinds := [], alts := [], laidByText := true, laidKinds := [.data], laidTests := true, laidLooks := .later }
def FramesReadsUptoCardSaid : Prop := Claim7.holds Tryd.pinned (.plain (OpenSpec.upto framesReadsSpec)) framesReadsUptoCard

/-- THE SECOND FORM's CARD OF 'turnpikelaw19.FramesFeeds'. -/
def framesFeedsUptoCard : Claim7 := { stood := { row := framesFeedsUptoRow, standIns := [], harness := (true, "050b4be9bb648714d5e31d988ac3a105a476020b3a9e54660ce090fe93a10169"), looks := false }, kinds := [], alts := [], laidByText := true, laidKinds := [.data], laidTests := true, laidLooks := .later }
def FramesFeedsUptoCardSaid : Prop := Claim7.holds Tryd.pinned (.plain (OpenSpec.upto framesFeedsSpec)) framesFeedsUptoCard

/-- THE SECOND FORM's CARD OF 'turnpikelaw19.FramesBack'. -/
def framesBackUptoCard : Claim7 := { stood := { row := framesBackUptoRow, standIns := [], harness := (true, "050b4be9bb648714d5e31d988ac3a105a476020b3a9e54660ce090fe93a10169"), looks := false }, kinds := [], alts := [], laidByText := true, laidKinds := [.data], laidTests := true, laidLooks := .later }
def FramesBackUptoCardSaid : Prop := Claim7.holds Tryd.pinned (.plain (OpenSpec.upto framesBackSpec)) framesBackUptoCard

/-- THE SECOND FORM's CARD OF 'turnpikelaw19.FramesPieces'. -/
def framesPiecesUptoCard : Claim7 := { stood := { row := framesPiecesUptoRow, standIns := [], harness := (true, "050b4be9bb648714d5e31d988ac3a105a476020b3a9e54660ce090fe93a10169"), looks := false }, kinds := [], alts := [], laidByText := true, laidKinds := [.data], laidTests := true, laidLooks := .later }
def FramesPiecesUptoCardSaid : Prop := Claim7.holds Tryd.pinned (.plain (OpenSpec.upto framesPiecesSpec)) framesPiecesUptoCard

/-- THE SECOND FORM's CARD OF 'turnpikelaw19.FramesTurned'. -/
def framesTurnedUptoCard : Claim7 := { stood := { row := framesTurnedUptoRow, standIns := [], harness := (true, "050b4be9bb648714d5e31d988ac3a105a476020b3a9e54660ce090fe93a10169"), looks := false }, kinds := [], alts := [], laidByText := true, laidKinds := [.data], laidTests := true, laidLooks := .later }
def FramesTurnedUptoCardSaid : Prop := Claim7.holds Tryd.pinned (.plain (OpenSpec.upto framesTurnedSpec)) framesTurnedUptoCard
end Rows
end Go.Proofs.YteeclghhoioapaaDoor
