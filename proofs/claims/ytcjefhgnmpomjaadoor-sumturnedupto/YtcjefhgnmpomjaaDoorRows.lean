/-
  NARROWER THAN 'FOR EVERY INPUT', by the rows' own cells (each row's printed sentence says how): SumFrames: laid · SumReads: laid · SumScans: laid · SumCut: laid · SumTurned: laid · SumParts: laid.
  DERIVED. THE GIVEN ROWS OF THIS SEAT. 6 by the template 'for every input the law returns true; each argument reads behind the call as it read before'; 0 by the template 'total and deterministic' (their statements: YtcjefhgnmpomjaaDoorTotals.lean).
  GIVEN WITH THE SEED: the statements are not yours to turn. If you find one false, say at which input.
  Laid BY PROGRAM, IN A SANDBOX (cutbox-rows.mjs): the forced cells as the released guide's own fill.sh prints them over the translation ad3e44010de96d5c… (all of the seat's roots in one cut). By AI agents, Wed Nov 11 2026. No macro, syntax, notation, axiom, sorry.
-/
import Derived.Test.YtcjefhgnmpomjaaDoorChecked
import GoSem.Claim
import GoSem.ClaimJoined
import GoSem.ClaimMapViews
import Derived.JoinedTies
import Derived.KernelRfl
namespace Go.Proofs.YtcjefhgnmpomjaaDoor
/- THE CELL 'sum', in the pinned program and in every row, IS THE sha256 OF THE DUMP (.gsa) THAT YtcjefhgnmpomjaaDoorProg.lean LOADS. Nothing in Lean hashes anything: it is a label: what it is worth is what the hold of that sum in a sandbox is worth. -/
noncomputable def Tryd.pinned : Pinned := { name := "ytcjefhgnmpomjaadoor", sum := "ad3e44010de96d5c834313adf3a9354018b047a51583db6a61a12e68735bc7a3", checked := Tryd.checked }
namespace Rows
def none {H : Type} : Left H := { results := [], args := [] }

/- WHAT THE LISTED PACKAGE-LEVEL VARIABLES READ AS WHEN THE CALL BEGINS. Each datum BY PROGRAM (the guide's laid-datum.mjs) off the statement by which the dump's own 'gosem.cut.vars' lays the variable. In a bare row this is a premise. The card (YtcjefhgnmpomjaaDoorCards.lean) ties it to the program's text. -/
def laid_turnpike_sum_halves {H : Type} : DataW H := .agg [.lit (.int .u32 0), .lit (.int .u32 274646895), .lit (.int .u32 549293790), .lit (.int .u32 820201905), .lit (.int .u32 1098587580), .lit (.int .u32 1361435347), .lit (.int .u32 1640403810), .lit (.int .u32 1905808397), .lit (.int .u32 2197175160), .lit (.int .u32 2460548119), .lit (.int .u32 2722870694), .lit (.int .u32 2987750089), .lit (.int .u32 3280807620), .lit (.int .u32 3553878443), .lit (.int .u32 3811616794), .lit (.int .u32 4084100981)]

/-- 'turnpikelaw01.SumFrames': WHATEVER THE INPUT: true; the input reads as it did. -/
def sumFramesSpec : ChangeSpec := { name := "sumFrames", fn := fun _ => fun
  | [d1, d2] => { results := [.lit (.bool true)], args := [d1, d2] }
  | _ => none }
def sumFramesRow : OpenClaim := { program := "ytcjefhgnmpomjaadoor", sum := "ad3e44010de96d5c834313adf3a9354018b047a51583db6a61a12e68735bc7a3", func := "turnpike/turnpikelaw01.SumFrames", spec := "sumFrames", named := ["turnpike/sum.halves"], apart := false, laid := [("turnpike/sum.halves", laid_turnpike_sum_halves)] }
def SumFramesSaid : Prop := sumFramesRow.holds Tryd.pinned (OpenSpec.ofChange sumFramesSpec)

/-- ITS FALSE NEIGHBOUR: 'it returns false'. Refute it at one input. -/
def sumFramesWrong : ChangeSpec := { name := "sumFrames", fn := fun _ => fun
  | [d1, d2] => { results := [.lit (.bool false)], args := [d1, d2] }
  | _ => none }
def SumFramesWrongFalsely : Prop := sumFramesRow.holds Tryd.pinned (OpenSpec.ofChange sumFramesWrong)

/-- 'turnpikelaw01.SumReads': WHATEVER THE INPUT: true; the input reads as it did. -/
def sumReadsSpec : ChangeSpec := { name := "sumReads", fn := fun _ => fun
  | [d] => { results := [.lit (.bool true)], args := [d] }
  | _ => none }
def sumReadsRow : OpenClaim := { program := "ytcjefhgnmpomjaadoor", sum := "ad3e44010de96d5c834313adf3a9354018b047a51583db6a61a12e68735bc7a3", func := "turnpike/turnpikelaw01.SumReads", spec := "sumReads", named := ["turnpike/sum.halves"], apart := false, laid := [("turnpike/sum.halves", laid_turnpike_sum_halves)] }
def SumReadsSaid : Prop := sumReadsRow.holds Tryd.pinned (OpenSpec.ofChange sumReadsSpec)

/-- ITS FALSE NEIGHBOUR: 'it returns false'. Refute it at one input. -/
def sumReadsWrong : ChangeSpec := { name := "sumReads", fn := fun _ => fun
  | [d] => { results := [.lit (.bool false)], args := [d] }
  | _ => none }
def SumReadsWrongFalsely : Prop := sumReadsRow.holds Tryd.pinned (OpenSpec.ofChange sumReadsWrong)

/-- 'turnpikelaw01.SumScans': WHATEVER THE INPUT: true; the input reads as it did. -/
def sumScansSpec : ChangeSpec := { name := "sumScans", fn := fun _ => fun
  | [d1, d2] => { results := [.lit (.bool true)], args := [d1, d2] }
  | _ => none }
def sumScansRow : OpenClaim := { program := "ytcjefhgnmpomjaadoor", sum := "ad3e44010de96d5c834313adf3a9354018b047a51583db6a61a12e68735bc7a3", func := "turnpike/turnpikelaw01.SumScans", spec := "sumScans", unfollowed := true, recurses := true, named := ["turnpike/sum.halves"], apart := false, laid := [("turnpike/sum.halves", laid_turnpike_sum_halves)] }
def SumScansSaid : Prop := sumScansRow.holds Tryd.pinned (OpenSpec.ofChange sumScansSpec)

/-- ITS FALSE NEIGHBOUR: 'it returns false'. Refute it at one input. -/
def sumScansWrong : ChangeSpec := { name := "sumScans", fn := fun _ => fun
  | [d1, d2] => { results := [.lit (.bool false)], args := [d1, d2] }
  | _ => none }
def SumScansWrongFalsely : Prop := sumScansRow.holds Tryd.pinned (OpenSpec.ofChange sumScansWrong)

/-- 'turnpikelaw01.SumCut': WHATEVER THE INPUT: true; the input reads as it did. -/
def sumCutSpec : ChangeSpec := { name := "sumCut", fn := fun _ => fun
  | [d1, d2, d3] => { results := [.lit (.bool true)], args := [d1, d2, d3] }
  | _ => none }
def sumCutRow : OpenClaim := { program := "ytcjefhgnmpomjaadoor", sum := "ad3e44010de96d5c834313adf3a9354018b047a51583db6a61a12e68735bc7a3", func := "turnpike/turnpikelaw01.SumCut", spec := "sumCut", unfollowed := true, recurses := true, named := ["turnpike/sum.halves"], apart := false, laid := [("turnpike/sum.halves", laid_turnpike_sum_halves)] }
def SumCutSaid : Prop := sumCutRow.holds Tryd.pinned (OpenSpec.ofChange sumCutSpec)

/-- ITS FALSE NEIGHBOUR: 'it returns false'. Refute it at one input. -/
def sumCutWrong : ChangeSpec := { name := "sumCut", fn := fun _ => fun
  | [d1, d2, d3] => { results := [.lit (.bool false)], args := [d1, d2, d3] }
  | _ => none }
def SumCutWrongFalsely : Prop := sumCutRow.holds Tryd.pinned (OpenSpec.ofChange sumCutWrong)

/-- 'turnpikelaw01.SumTurned': WHATEVER THE INPUT: true; the input reads as it did. -/
def sumTurnedSpec : ChangeSpec := { name := "sumTurned", fn := fun _ => fun
  | [d] => { results := [.lit (.bool true)], args := [d] }
  | _ => none }
def sumTurnedRow : OpenClaim := { program := "ytcjefhgnmpomjaadoor", sum := "ad3e44010de96d5c834313adf3a9354018b047a51583db6a61a12e68735bc7a3", func := "turnpike/turnpikelaw01.SumTurned", spec := "sumTurned", unfollowed := true, recurses := true, named := ["turnpike/sum.halves"], apart := false, laid := [("turnpike/sum.halves", laid_turnpike_sum_halves)] }
def SumTurnedSaid : Prop := sumTurnedRow.holds Tryd.pinned (OpenSpec.ofChange sumTurnedSpec)

/-- ITS FALSE NEIGHBOUR: 'it returns false'. Refute it at one input. -/
def sumTurnedWrong : ChangeSpec := { name := "sumTurned", fn := fun _ => fun
  | [d] => { results := [.lit (.bool false)], args := [d] }
  | _ => none }
def SumTurnedWrongFalsely : Prop := sumTurnedRow.holds Tryd.pinned (OpenSpec.ofChange sumTurnedWrong)

/-- 'turnpikelaw01.SumParts': WHATEVER THE INPUT: true; the input reads as it did. -/
def sumPartsSpec : ChangeSpec := { name := "sumParts", fn := fun _ => fun
  | [d1, d2, d3] => { results := [.lit (.bool true)], args := [d1, d2, d3] }
  | _ => none }
def sumPartsRow : OpenClaim := { program := "ytcjefhgnmpomjaadoor", sum := "ad3e44010de96d5c834313adf3a9354018b047a51583db6a61a12e68735bc7a3", func := "turnpike/turnpikelaw01.SumParts", spec := "sumParts", named := ["turnpike/sum.halves"], apart := false, laid := [("turnpike/sum.halves", laid_turnpike_sum_halves)] }
def SumPartsSaid : Prop := sumPartsRow.holds Tryd.pinned (OpenSpec.ofChange sumPartsSpec)

/-- ITS FALSE NEIGHBOUR: 'it returns false'. Refute it at one input. -/
def sumPartsWrong : ChangeSpec := { name := "sumParts", fn := fun _ => fun
  | [d1, d2, d3] => { results := [.lit (.bool false)], args := [d1, d2, d3] }
  | _ => none }
def SumPartsWrongFalsely : Prop := sumPartsRow.holds Tryd.pinned (OpenSpec.ofChange sumPartsWrong)

/- THE SECOND FORM. 'bulk': how many values and letters a reading holds, each counted each time it is reached (what is shared counts as often as it is met; a slice's spare places count too). A statement '..UptoSaid' is the law's where the arguments, and the package variables that the reading takes, are together of bulk at most 1048576: NARROWER than '..Said'. Prove '..Said' where nothing that the law and all that it calls make is longer than what came in: it says more and counts as full. Else prove '..UptoSaid'. A law counts once. -/
mutual
def uptoBulk {H : Type} : DataW H → Nat
  | .lit (.string bytes) => bytes.length + 1
  | .lit _ => 1
  | .nil => 1
  | .ptr d => uptoBulk d + 1
  | .slice elems spare => uptoBulkAll elems + uptoBulkAll spare + 1
  | .agg parts => uptoBulkAll parts + 1
  | .iface _ d => uptoBulk d + 1
  | .map entries => uptoBulkEntries entries + 1
  | .held _ => 1
def uptoBulkAll {H : Type} : List (DataW H) → Nat
  | [] => 0
  | d :: r => uptoBulk d + uptoBulkAll r
def uptoBulkEntries {H : Type} : List (Lit × DataW H) → Nat
  | [] => 0
  | x :: r => uptoBulkEntry x + uptoBulkEntries r
def uptoBulkEntry {H : Type} : Lit × DataW H → Nat
  | (.string bytes, d) => bytes.length + uptoBulk d + 1
  | (_, d) => uptoBulk d + 1
 end
def uptoSmall : (H : Type) → List (DataW H) → Bool := fun _ ds => decide (uptoBulkAll ds ≤ 1048576)
def OpenSpec.upto (s : _root_.Go.ChangeSpec) : _root_.Go.OpenSpec := { _root_.Go.OpenSpec.ofChange s with cond := some uptoSmall }

/-- 'turnpikelaw01.SumFrames', WHERE WHAT IT READS IS OF BULK AT MOST 1048576: true; the input reads as it did. -/
def sumFramesUptoRow : OpenClaim := { program := "ytcjefhgnmpomjaadoor", sum := "ad3e44010de96d5c834313adf3a9354018b047a51583db6a61a12e68735bc7a3", func := "turnpike/turnpikelaw01.SumFrames", spec := "sumFrames", named := ["turnpike/sum.halves"], apart := false, laid := [("turnpike/sum.halves", laid_turnpike_sum_halves)], narrowed := true }
def SumFramesUptoSaid : Prop := sumFramesUptoRow.holds Tryd.pinned (OpenSpec.upto sumFramesSpec)

/-- 'turnpikelaw01.SumReads', WHERE WHAT IT READS IS OF BULK AT MOST 1048576: true; the input reads as it did. -/
def sumReadsUptoRow : OpenClaim := { program := "ytcjefhgnmpomjaadoor", sum := "ad3e44010de96d5c834313adf3a9354018b047a51583db6a61a12e68735bc7a3", func := "turnpike/turnpikelaw01.SumReads", spec := "sumReads", named := ["turnpike/sum.halves"], apart := false, laid := [("turnpike/sum.halves", laid_turnpike_sum_halves)], narrowed := true }
def SumReadsUptoSaid : Prop := sumReadsUptoRow.holds Tryd.pinned (OpenSpec.upto sumReadsSpec)

/-- 'turnpikelaw01.SumScans', WHERE WHAT IT READS IS OF BULK AT MOST 1048576: true; the input reads as it did. -/
def sumScansUptoRow : OpenClaim := { program := "ytcjefhgnmpomjaadoor", sum := "ad3e44010de96d5c834313adf3a9354018b047a51583db6a61a12e68735bc7a3", func := "turnpike/turnpikelaw01.SumScans", spec := "sumScans", unfollowed := true, recurses := true, named := ["turnpike/sum.halves"], apart := false, laid := [("turnpike/sum.halves", laid_turnpike_sum_halves)], narrowed := true }
def SumScansUptoSaid : Prop := sumScansUptoRow.holds Tryd.pinned (OpenSpec.upto sumScansSpec)

/-- 'turnpikelaw01.SumCut', WHERE WHAT IT READS IS OF BULK AT MOST 1048576: true; the input reads as it did. -/
def sumCutUptoRow : OpenClaim := { program := "ytcjefhgnmpomjaadoor", sum := "ad3e44010de96d5c834313adf3a9354018b047a51583db6a61a12e68735bc7a3", func := "turnpike/turnpikelaw01.SumCut", spec := "sumCut", unfollowed := true, recurses := true, named := ["turnpike/sum.halves"], apart := false, laid := [("turnpike/sum.halves", laid_turnpike_sum_halves)], narrowed := true }
def SumCutUptoSaid : Prop := sumCutUptoRow.holds Tryd.pinned (OpenSpec.upto sumCutSpec)

/-- 'turnpikelaw01.SumTurned', WHERE WHAT IT READS IS OF BULK AT MOST 1048576: true; the input reads as it did. -/
def sumTurnedUptoRow : OpenClaim := { program := "ytcjefhgnmpomjaadoor", sum := "ad3e44010de96d5c834313adf3a9354018b047a51583db6a61a12e68735bc7a3", func := "turnpike/turnpikelaw01.SumTurned", spec := "sumTurned", unfollowed := true, recurses := true, named := ["turnpike/sum.halves"], apart := false, laid := [("turnpike/sum.halves", laid_turnpike_sum_halves)], narrowed := true }
def SumTurnedUptoSaid : Prop := sumTurnedUptoRow.holds Tryd.pinned (OpenSpec.upto sumTurnedSpec)

/-- 'turnpikelaw01.SumParts', WHERE WHAT IT READS IS OF BULK AT MOST 1048576: true; the input reads as it did. -/
def sumPartsUptoRow : OpenClaim := { program := "ytcjefhgnmpomjaadoor", sum := "ad3e44010de96d5c834313adf3a9354018b047a51583db6a61a12e68735bc7a3", func := "turnpike/turnpikelaw01.SumParts", spec := "sumParts", named := ["turnpike/sum.halves"], apart := false, laid := [("turnpike/sum.halves", laid_turnpike_sum_halves)], narrowed := true }
def SumPartsUptoSaid : Prop := sumPartsUptoRow.holds Tryd.pinned (OpenSpec.upto sumPartsSpec)

end Rows
end Go.Proofs.YtcjefhgnmpomjaaDoor
