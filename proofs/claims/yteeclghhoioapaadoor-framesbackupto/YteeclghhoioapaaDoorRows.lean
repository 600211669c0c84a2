/-
  NARROWER THAN 'FOR EVERY INPUT', by the rows' own cells (each row's printed sentence says how): FramesWrites: laid · FramesReads: laid · FramesFeeds: laid · FramesBack: laid · FramesPieces: laid · FramesTurned: laid.
  DERIVED. THE GIVEN ROWS OF THIS SEAT. 6 by the template 'for every input the law returns true; each argument reads behind the call as it read before'; 0 by the template 'total and deterministic' (their statements: YteeclghhoioapaaDoorTotals.lean).
  GIVEN WITH THE SEED: the statements are not yours to turn. If you find one false, say at which input.
  Laid BY PROGRAM, IN A SANDBOX (cutbox-rows.mjs): the forced cells as the released guide's own fill.sh prints them over the translation 44c17e10c0af8937… (all of the seat's roots in one cut). By AI agents, Wed Nov 11 2026. No macro, syntax, notation, axiom, sorry.
-/
import Derived.Test.YteeclghhoioapaaDoorChecked
import GoSem.Claim
import GoSem.ClaimJoined
import GoSem.ClaimMapViews
import Derived.JoinedTies
import Derived.KernelRfl
namespace Go.Proofs.YteeclghhoioapaaDoor
/- THE CELL 'sum', in the pinned program and in every row, IS THE sha256 OF THE DUMP (.gsa) THAT YteeclghhoioapaaDoorProg.lean LOADS. Nothing in Lean hashes anything: it is a label: what it is worth is what the hold of that sum in a sandbox is worth. -/
noncomputable def Tryd.pinned : Pinned := { name := "yteeclghhoioapaadoor", sum := "44c17e10c0af89373c202c0a8ff43008dbe1ca04e8e58700f8624f8256520522", checked := Tryd.checked }
namespace Rows
def none {H : Type} : Left H := { results := [], args := [] }

/- WHAT THE LISTED PACKAGE-LEVEL VARIABLES READ AS WHEN THE CALL BEGINS. Each datum BY PROGRAM (the guide's laid-datum.mjs) off the statement by which the dump's own 'gosem.cut.vars' lays the variable. In a bare row this is a premise. The card (YteeclghhoioapaaDoorCards.lean) ties it to the program's text. -/
def laid_turnpike_sum_halves {H : Type} : DataW H := .agg [.lit (.int .u32 0), .lit (.int .u32 274646895), .lit (.int .u32 549293790), .lit (.int .u32 820201905), .lit (.int .u32 1098587580), .lit (.int .u32 1361435347), .lit (.int .u32 1640403810), .lit (.int .u32 1905808397), .lit (.int .u32 2197175160), .lit (.int .u32 2460548119), .lit (.int .u32 2722870694), .lit (.int .u32 2987750089), .lit (.int .u32 3280807620), .lit (.int .u32 3553878443), .lit (.int .u32 3811616794), .lit (.int .u32 4084100981)]

/-- 'turnpikelaw19.FramesWrites': WHATEVER THE INPUT: true; the input reads as it did. -/
def framesWritesSpec : ChangeSpec := { name := "framesWrites", fn := fun _ => fun
  | [d] => { results := [.lit (.bool true)], args := [d] }
  | _ => none }
def framesWritesRow : OpenClaim := { program := "yteeclghhoioapaadoor", sum := "44c17e10c0af89373c202c0a8ff43008dbe1ca04e8e58700f8624f8256520522", func := "turnpike/turnpikelaw19.FramesWrites", spec := "framesWrites", named := ["turnpike/sum.halves"], apart := false, laid := [("turnpike/sum.halves", laid_turnpike_sum_halves)] }
def FramesWritesSaid : Prop := framesWritesRow.holds Tryd.pinned (OpenSpec.ofChange framesWritesSpec)

/-- ITS FALSE NEIGHBOUR: 'it returns false'. Refute it at one input. -/
def framesWritesWrong : ChangeSpec := { name := "framesWrites", fn := fun _ => fun
  | [d] => { results := [.lit (.bool false)], args := [d] }
  | _ => none }
def FramesWritesWrongFalsely : Prop := framesWritesRow.holds Tryd.pinned (OpenSpec.ofChange framesWritesWrong)

/-- 'turnpikelaw19.FramesReads': WHATEVER THE INPUT: true; the input reads as it did. -/
def framesReadsSpec : ChangeSpec := { name := "framesReads", fn := fun _ => fun
  | [d] => { results := [.lit (.bool true)], args := [d] }
  | _ => none }
def framesReadsRow : OpenClaim := { program := "yteeclghhoioapaadoor", sum := "44c17e10c0af89373c202c0a8ff43008dbe1ca04e8e58700f8624f8256520522", func := "turnpike/turnpikelaw19.FramesReads", spec := "framesReads", named := ["turnpike/sum.halves"], apart := false, laid := [("turnpike/sum.halves", laid_turnpike_sum_halves)] }
def FramesReadsSaid : Prop := framesReadsRow.holds Tryd.pinned (OpenSpec.ofChange framesReadsSpec)

/-- ITS FALSE NEIGHBOUR: 'it returns false'. Refute it at one input. -/
def framesReadsWrong : ChangeSpec := { name := "framesReads", fn := fun _ => fun
  | [d] => { results := [.lit (.bool false)], args := [d] }
  | _ => none }
def FramesReadsWrongFalsely : Prop := framesReadsRow.holds Tryd.pinned (OpenSpec.ofChange framesReadsWrong)

/-- 'turnpikelaw19.FramesFeeds': WHATEVER THE INPUT: true; the input reads as it did. -/
def framesFeedsSpec : ChangeSpec := { name := "framesFeeds", fn := fun _ => fun
  | [d1, d2] => { results := [.lit (.bool true)], args := [d1, d2] }
  | _ => none }
def framesFeedsRow : OpenClaim := { program := "yteeclghhoioapaadoor", sum := "44c17e10c0af89373c202c0a8ff43008dbe1ca04e8e58700f8624f8256520522", func := "turnpike/turnpikelaw19.FramesFeeds", spec := "framesFeeds", named := ["turnpike/sum.halves"], apart := false, laid := [("turnpike/sum.halves", laid_turnpike_sum_halves)] }
def FramesFeedsSaid : Prop := framesFeedsRow.holds Tryd.pinned (OpenSpec.ofChange framesFeedsSpec)

/-- ITS FALSE NEIGHBOUR: 'it returns false'. Refute it at one input. -/
def framesFeedsWrong : ChangeSpec := { name := "framesFeeds", fn := fun _ => fun
  | [d1, d2] => { results := [.lit (.bool false)], args := [d1, d2] }
  | _ => none }
def FramesFeedsWrongFalsely : Prop := framesFeedsRow.holds Tryd.pinned (OpenSpec.ofChange framesFeedsWrong)

/-- 'turnpikelaw19.FramesBack': WHATEVER THE INPUT: true; the input reads as it did. -/
def framesBackSpec : ChangeSpec := { name := "framesBack", fn := fun _ => fun
  | [d1, d2, d3] => { results := [.lit (.bool true)], args := [d1, d2, d3] }
  | _ => none }
def framesBackRow : OpenClaim := { program := "yteeclghhoioapaadoor", sum := "44c17e10c0af89373c202c0a8ff43008dbe1ca04e8e58700f8624f8256520522", func := "turnpike/turnpikelaw19.FramesBack", spec := "framesBack", named := ["turnpike/sum.halves"], apart := false, laid := [("turnpike/sum.halves", laid_turnpike_sum_halves)] }
def FramesBackSaid : Prop := framesBackRow.holds Tryd.pinned (OpenSpec.ofChange framesBackSpec)

/-- ITS FALSE NEIGHBOUR: 'it returns false'. Refute it at one input. -/
def framesBackWrong : ChangeSpec := { name := "framesBack", fn := fun _ => fun
  | [d1, d2, d3] => { results := [.lit (.bool false)], args := [d1, d2, d3] }
  | _ => none }
def FramesBackWrongFalsely : Prop := framesBackRow.holds Tryd.pinned (OpenSpec.ofChange framesBackWrong)

/-- 'turnpikelaw19.FramesPieces': WHATEVER THE INPUT: true; the input reads as it did. -/
def framesPiecesSpec : ChangeSpec := { name := "framesPieces", fn := fun _ => fun
  | [d1, d2, d3] => { results := [.lit (.bool true)], args := [d1, d2, d3] }
  | _ => none }
def framesPiecesRow : OpenClaim := { program := "yteeclghhoioapaadoor", sum := "44c17e10c0af89373c202c0a8ff43008dbe1ca04e8e58700f8624f8256520522", func := "turnpike/turnpikelaw19.FramesPieces", spec := "framesPieces", named := ["turnpike/sum.halves"], apart := false, laid := [("turnpike/sum.halves", laid_turnpike_sum_halves)] }
def FramesPiecesSaid : Prop := framesPiecesRow.holds Tryd.pinned (OpenSpec.ofChange framesPiecesSpec)

/-- ITS FALSE NEIGHBOUR: 'it returns false'. Refute it at one input. -/
def framesPiecesWrong : ChangeSpec := { name := "framesPieces", fn := fun _ => fun
  | [d1, d2, d3] => { results := [.lit (.bool false)], args := [d1, d2, d3] }
  | _ => none }
def FramesPiecesWrongFalsely : Prop := framesPiecesRow.holds Tryd.pinned (OpenSpec.ofChange framesPiecesWrong)

/-- 'turnpikelaw19.FramesTurned': WHATEVER THE INPUT: true; the input reads as it did. -/
def framesTurnedSpec : ChangeSpec := { name := "framesTurned", fn := fun _ => fun
  | [d] => { results := [.lit (.bool true)], args := [d] }
  | _ => none }
def framesTurnedRow : OpenClaim := { program := "yteeclghhoioapaadoor", sum := "44c17e10c0af89373c202c0a8ff43008dbe1ca04e8e58700f8624f8256520522", func := "turnpike/turnpikelaw19.FramesTurned", spec := "framesTurned", named := ["turnpike/sum.halves"], apart := false, laid := [("turnpike/sum.halves", laid_turnpike_sum_halves)] }
def FramesTurnedSaid : Prop := framesTurnedRow.holds Tryd.pinned (OpenSpec.ofChange framesTurnedSpec)

/-- ITS FALSE NEIGHBOUR: 'it returns false'. Refute it at one input. -/
def framesTurnedWrong : ChangeSpec := { name := "framesTurned", fn := fun _ => fun
  | [d] => { results := [.lit (.bool false)], args := [d] }
  | _ => none }
def FramesTurnedWrongFalsely : Prop := framesTurnedRow.holds Tryd.pinned (OpenSpec.ofChange framesTurnedWrong)

/- THE SECOND FORM. 'bulk': how many values and letters a reading holds, each counted each time it is reached (what is shared counts as often as it is met; a slice's spare places count too). A statement '..UptoSaid' is the law's where the arguments, and the package variables that the reading takes, are together of bulk at most 1048576: NARROWER than '..Said'. Prove '..Said' where nothing that the law and all that it calls make is longer than what came in: it says more and counts as full. Else prove '..UptoSaid'. A law counts once. -/
mutual
def uptoBulk {H : Type} : DataW H → Nat
  | .lit (.string bytes) => bytes.length + 1
  | .lit _ => 1
  | .nil => 1
  | .ptr d => uptoBulk d + 1
  | .slice elems spare => uptoBulkAll elems + uptoBulkAll spare + 1
  | .agg parts => uptoBulkAll parts + 1
  | .iface _ d => uptoBulk d + 1
  | .map entries => uptoBulkEntries entries + 1
  | .held _ => 1
def uptoBulkAll {H : Type} : List (DataW H) → Nat
  | [] => 0
  | d :: r => uptoBulk d + uptoBulkAll r
def uptoBulkEntries {H : Type} : List (Lit × DataW H) → Nat
  | [] => 0
  | x :: r => uptoBulkEntry x + uptoBulkEntries r
def uptoBulkEntry {H : Type} : Lit × DataW H → Nat
  | (.string bytes, d) => bytes.length + uptoBulk d + 1
  | (_, d) => uptoBulk d + 1
 end
def uptoSmall : (H : Type) → List (DataW H) → Bool := fun _ ds => decide (uptoBulkAll ds ≤ 1048576)
def OpenSpec.upto (s : _root_.Go.ChangeSpec) : _root_.Go.OpenSpec := { _root_.Go.OpenSpec.ofChange s with cond := some uptoSmall }

/-- 'turnpikelaw19.FramesWrites', WHERE WHAT IT READS IS OF BULK AT MOST 1048576: true; the input reads as it did. -/
def framesWritesUptoRow : OpenClaim := { program := "yteeclghhoioapaadoor", sum := "44c17e10c0af89373c202c0a8ff43008dbe1ca04e8e58700f8624f8256520522", func := "turnpike/turnpikelaw19.FramesWrites", spec := "framesWrites", named := ["turnpike/sum.halves"], apart := false, laid := [("turnpike/sum.halves", laid_turnpike_sum_halves)], narrowed := true }
def FramesWritesUptoSaid : Prop := framesWritesUptoRow.holds Tryd.pinned (OpenSpec.upto framesWritesSpec)

/-- 'turnpikelaw19.FramesReads', WHERE WHAT IT READS IS OF BULK AT MOST 1048576: true; the input reads as it did. -/
def framesReadsUptoRow : OpenClaim := { program := "yteeclghhoioapaadoor", sum := "44c17e10c0af89373c202c0a8ff43008dbe1ca04e8e58700f8624f8256520522", func := "turnpike/turnpikelaw19.FramesReads", spec := "framesReads", named := ["turnpike/sum.halves"], apart := false, laid := [("turnpike/sum.halves", laid_turnpike_sum_halves)], narrowed := true }
def FramesReadsUptoSaid : Prop := framesReadsUptoRow.holds Tryd.pinned (OpenSpec.upto framesReadsSpec)

/-- 'turnpikelaw19.FramesFeeds', WHERE WHAT IT READS IS OF BULK AT MOST 1048576: true; the input reads as it did. -/
def framesFeedsUptoRow : OpenClaim := { program := "yteeclghhoioapaadoor", sum := "44c17e10c0af89373c202c0a8ff43008dbe1ca04e8e58700f8624f8256520522", func := "turnpike/turnpikelaw19.FramesFeeds", spec := "framesFeeds", named := ["turnpike/sum.halves"], apart := false, laid := [("turnpike/sum.halves", laid_turnpike_sum_halves)], narrowed := true }
def FramesFeedsUptoSaid : Prop := framesFeedsUptoRow.holds Tryd.pinned (OpenSpec.upto framesFeedsSpec)

/-- 'turnpikelaw19.FramesBack', WHERE WHAT IT READS IS OF BULK AT MOST 1048576: true; the input reads as it did. -/
def framesBackUptoRow : OpenClaim := { program := "yteeclghhoioapaadoor", sum := "44c17e10c0af89373c202c0a8ff43008dbe1ca04e8e58700f8624f8256520522", func := "turnpike/turnpikelaw19.FramesBack", spec := "framesBack", named := ["turnpike/sum.halves"], apart := false, laid := [("turnpike/sum.halves", laid_turnpike_sum_halves)], narrowed := true }
def FramesBackUptoSaid : Prop := framesBackUptoRow.holds Tryd.pinned (OpenSpec.upto framesBackSpec)

/-- 'turnpikelaw19.FramesPieces', WHERE WHAT IT READS IS OF BULK AT MOST 1048576: true; the input reads as it did. -/
def framesPiecesUptoRow : OpenClaim := { program := "yteeclghhoioapaadoor", sum := "44c17e10c0af89373c202c0a8ff43008dbe1ca04e8e58700f8624f8256520522", func := "turnpike/turnpikelaw19.FramesPieces", spec := "framesPieces", named := ["turnpike/sum.halves"], apart := false, laid := [("turnpike/sum.halves", laid_turnpike_sum_halves)], narrowed := true }
def FramesPiecesUptoSaid : Prop := framesPiecesUptoRow.holds Tryd.pinned (OpenSpec.upto framesPiecesSpec)

/-- 'turnpikelaw19.FramesTurned', WHERE WHAT IT READS IS OF BULK AT MOST 1048576: true; the input reads as it did. -/
def framesTurnedUptoRow : OpenClaim := { program := "yteeclghhoioapaadoor", sum := "44c17e10c0af89373c202c0a8ff43008dbe1ca04e8e58700f8624f8256520522", func := "turnpike/turnpikelaw19.FramesTurned", spec := "framesTurned", named := ["turnpike/sum.halves"], apart := false, laid := [("turnpike/sum.halves", laid_turnpike_sum_halves)], narrowed := true }
def FramesTurnedUptoSaid : Prop := framesTurnedUptoRow.holds Tryd.pinned (OpenSpec.upto framesTurnedSpec)

end Rows
end Go.Proofs.YteeclghhoioapaaDoor
