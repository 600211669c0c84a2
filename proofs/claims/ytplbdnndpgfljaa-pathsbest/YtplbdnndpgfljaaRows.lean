/-
  No cell of these rows narrows 'for every input' (looked for: loops, veiled, ifaces, maps, wideKeys, modest, calm, conditions, laid).
  DERIVED. THE GIVEN ROWS OF THIS SEAT. 6 by the template 'for every input the law returns true; each argument reads behind the call as it read before'; 0 by the template 'total and deterministic' (their statements: YtplbdnndpgfljaaTotals.lean).
  GIVEN WITH THE SEED: the statements are not yours to turn. If you find one false, say at which input.
  Laid BY PROGRAM, IN A SANDBOX (cutbox-rows.mjs): the forced cells as the released guide's own fill.sh prints them over the translation ff5e733f7d09b4ba… (all of the seat's roots in one cut). By AI agents, Wed Nov 11 2026. No macro, syntax, notation, axiom, sorry.
-/
import Derived.Test.YtplbdnndpgfljaaChecked
import GoSem.Claim
import GoSem.ClaimJoined
import GoSem.ClaimMapViews
import Derived.JoinedTies
import Derived.KernelRfl
namespace Go.Proofs.Ytplbdnndpgfljaa
/- THE CELL 'sum', in the pinned program and in every row, IS THE sha256 OF THE DUMP (.gsa) THAT YtplbdnndpgfljaaProg.lean LOADS. Nothing in Lean hashes anything: it is a label: what it is worth is what the hold of that sum in a sandbox is worth. -/
noncomputable def Try.pinned : Pinned := { name := "ytplbdnndpgfljaa", sum := "ff5e733f7d09b4ba2c6820dc8c6d3fa0d702b74f41fe85df7311229cbd7ba6d9", checked := Try.checked }
namespace Rows
def none {H : Type} : Left H := { results := [], args := [] }

/-- 'turnpikelaw13.PathsPatterns': WHATEVER THE INPUT: true; the input reads as it did. -/
def pathsPatternsSpec : ChangeSpec := { name := "pathsPatterns", fn := fun _ => fun
  | [d] => { results := [.lit (.bool true)], args := [d] }
  | _ => none }
def pathsPatternsRow : OpenClaim := { program := "ytplbdnndpgfljaa", sum := "ff5e733f7d09b4ba2c6820dc8c6d3fa0d702b74f41fe85df7311229cbd7ba6d9", func := "turnpike/turnpikelaw13.PathsPatterns", spec := "pathsPatterns", unfollowed := true, recurses := true, apart := false }
def PathsPatternsSaid : Prop := pathsPatternsRow.holds Try.pinned (OpenSpec.ofChange pathsPatternsSpec)

/-- ITS FALSE NEIGHBOUR: 'it returns false'. Refute it at one input. -/
def pathsPatternsWrong : ChangeSpec := { name := "pathsPatterns", fn := fun _ => fun
  | [d] => { results := [.lit (.bool false)], args := [d] }
  | _ => none }
def PathsPatternsWrongFalsely : Prop := pathsPatternsRow.holds Try.pinned (OpenSpec.ofChange pathsPatternsWrong)

/-- 'turnpikelaw13.PathsTakes': WHATEVER THE INPUT: true; the input reads as it did. -/
def pathsTakesSpec : ChangeSpec := { name := "pathsTakes", fn := fun _ => fun
  | [d1, d2] => { results := [.lit (.bool true)], args := [d1, d2] }
  | _ => none }
def pathsTakesRow : OpenClaim := { program := "ytplbdnndpgfljaa", sum := "ff5e733f7d09b4ba2c6820dc8c6d3fa0d702b74f41fe85df7311229cbd7ba6d9", func := "turnpike/turnpikelaw13.PathsTakes", spec := "pathsTakes", unfollowed := true, recurses := true, apart := false }
def PathsTakesSaid : Prop := pathsTakesRow.holds Try.pinned (OpenSpec.ofChange pathsTakesSpec)

/-- ITS FALSE NEIGHBOUR: 'it returns false'. Refute it at one input. -/
def pathsTakesWrong : ChangeSpec := { name := "pathsTakes", fn := fun _ => fun
  | [d1, d2] => { results := [.lit (.bool false)], args := [d1, d2] }
  | _ => none }
def PathsTakesWrongFalsely : Prop := pathsTakesRow.holds Try.pinned (OpenSpec.ofChange pathsTakesWrong)

/-- 'turnpikelaw13.PathsCovers': WHATEVER THE INPUT: true; the input reads as it did. -/
def pathsCoversSpec : ChangeSpec := { name := "pathsCovers", fn := fun _ => fun
  | [d1, d2] => { results := [.lit (.bool true)], args := [d1, d2] }
  | _ => none }
def pathsCoversRow : OpenClaim := { program := "ytplbdnndpgfljaa", sum := "ff5e733f7d09b4ba2c6820dc8c6d3fa0d702b74f41fe85df7311229cbd7ba6d9", func := "turnpike/turnpikelaw13.PathsCovers", spec := "pathsCovers", inPlace := ["internal/bytealg.abigen_runtime_cmpstring"], unfollowed := true, recurses := true, apart := false }
def PathsCoversSaid : Prop := pathsCoversRow.holds Try.pinned (OpenSpec.ofChange pathsCoversSpec)

/-- ITS FALSE NEIGHBOUR: 'it returns false'. Refute it at one input. -/
def pathsCoversWrong : ChangeSpec := { name := "pathsCovers", fn := fun _ => fun
  | [d1, d2] => { results := [.lit (.bool false)], args := [d1, d2] }
  | _ => none }
def PathsCoversWrongFalsely : Prop := pathsCoversRow.holds Try.pinned (OpenSpec.ofChange pathsCoversWrong)

/-- 'turnpikelaw13.PathsBest': WHATEVER THE INPUT: true; the input reads as it did. -/
def pathsBestSpec : ChangeSpec := { name := "pathsBest", fn := fun _ => fun
  | [d1, d2] => { results := [.lit (.bool true)], args := [d1, d2] }
  | _ => none }
def pathsBestRow : OpenClaim := { program := "ytplbdnndpgfljaa", sum := "ff5e733f7d09b4ba2c6820dc8c6d3fa0d702b74f41fe85df7311229cbd7ba6d9", func := "turnpike/turnpikelaw13.PathsBest", spec := "pathsBest", inPlace := ["internal/bytealg.abigen_runtime_cmpstring"], unfollowed := true, recurses := true, apart := false }
def PathsBestSaid : Prop := pathsBestRow.holds Try.pinned (OpenSpec.ofChange pathsBestSpec)

/-- ITS FALSE NEIGHBOUR: 'it returns false'. Refute it at one input. -/
def pathsBestWrong : ChangeSpec := { name := "pathsBest", fn := fun _ => fun
  | [d1, d2] => { results := [.lit (.bool false)], args := [d1, d2] }
  | _ => none }
def PathsBestWrongFalsely : Prop := pathsBestRow.holds Try.pinned (OpenSpec.ofChange pathsBestWrong)

/-- 'turnpikelaw13.PathsWithin': WHATEVER THE INPUT: true; the input reads as it did. -/
def pathsWithinSpec : ChangeSpec := { name := "pathsWithin", fn := fun _ => fun
  | [d1, d2, d3] => { results := [.lit (.bool true)], args := [d1, d2, d3] }
  | _ => none }
def pathsWithinRow : OpenClaim := { program := "ytplbdnndpgfljaa", sum := "ff5e733f7d09b4ba2c6820dc8c6d3fa0d702b74f41fe85df7311229cbd7ba6d9", func := "turnpike/turnpikelaw13.PathsWithin", spec := "pathsWithin", inPlace := ["internal/bytealg.abigen_runtime_cmpstring"], unfollowed := true, recurses := true, apart := false }
def PathsWithinSaid : Prop := pathsWithinRow.holds Try.pinned (OpenSpec.ofChange pathsWithinSpec)

/-- ITS FALSE NEIGHBOUR: 'it returns false'. Refute it at one input. -/
def pathsWithinWrong : ChangeSpec := { name := "pathsWithin", fn := fun _ => fun
  | [d1, d2, d3] => { results := [.lit (.bool false)], args := [d1, d2, d3] }
  | _ => none }
def PathsWithinWrongFalsely : Prop := pathsWithinRow.holds Try.pinned (OpenSpec.ofChange pathsWithinWrong)

/-- 'turnpikelaw13.PathsChain': WHATEVER THE INPUT: true; the input reads as it did. -/
def pathsChainSpec : ChangeSpec := { name := "pathsChain", fn := fun _ => fun
  | [d1, d2, d3] => { results := [.lit (.bool true)], args := [d1, d2, d3] }
  | _ => none }
def pathsChainRow : OpenClaim := { program := "ytplbdnndpgfljaa", sum := "ff5e733f7d09b4ba2c6820dc8c6d3fa0d702b74f41fe85df7311229cbd7ba6d9", func := "turnpike/turnpikelaw13.PathsChain", spec := "pathsChain", inPlace := ["internal/bytealg.abigen_runtime_cmpstring"], unfollowed := true, recurses := true, apart := false }
def PathsChainSaid : Prop := pathsChainRow.holds Try.pinned (OpenSpec.ofChange pathsChainSpec)

/-- ITS FALSE NEIGHBOUR: 'it returns false'. Refute it at one input. -/
def pathsChainWrong : ChangeSpec := { name := "pathsChain", fn := fun _ => fun
  | [d1, d2, d3] => { results := [.lit (.bool false)], args := [d1, d2, d3] }
  | _ => none }
def PathsChainWrongFalsely : Prop := pathsChainRow.holds Try.pinned (OpenSpec.ofChange pathsChainWrong)

/- THE SECOND FORM. 'bulk': how many values and letters a reading holds, each counted each time it is reached (what is shared counts as often as it is met; a slice's spare places count too). A statement '..UptoSaid' is the law's where the arguments, and the package variables that the reading takes, are together of bulk at most 1048576: NARROWER than '..Said'. Prove '..Said' where nothing that the law and all that it calls make is longer than what came in: it says more and counts as full. Else prove '..UptoSaid'. A law counts once. -/
mutual
def uptoBulk {H : Type} : DataW H → Nat
  | .lit (.string bytes) => bytes.length + 1
  | .lit _ => 1
  | .nil => 1
  | .ptr d => uptoBulk d + 1
  | .slice elems spare => uptoBulkAll elems + uptoBulkAll spare + 1
  | .agg parts => uptoBulkAll parts + 1
  | .iface _ d => uptoBulk d + 1
  | .map entries => uptoBulkEntries entries + 1
  | .held _ => 1
def uptoBulkAll {H : Type} : List (DataW H) → Nat
  | [] => 0
  | d :: r => uptoBulk d + uptoBulkAll r
def uptoBulkEntries {H : Type} : List (Lit × DataW H) → Nat
  | [] => 0
  | x :: r => uptoBulkEntry x + uptoBulkEntries r
def uptoBulkEntry {H : Type} : Lit × DataW H → Nat
  | (.string bytes, d) => bytes.length + uptoBulk d + 1
  | (_, d) => uptoBulk d + 1
 end
def uptoSmall : (H : Type) → List (DataW H) → Bool := fun _ ds => decide (uptoBulkAll ds ≤ 1048576)
def OpenSpec.upto (s : _root_.Go.ChangeSpec) : _root_.Go.OpenSpec := { _root_.Go.OpenSpec.ofChange s with cond := some uptoSmall }

/-- 'turnpikelaw13.PathsPatterns', WHERE WHAT IT READS IS OF BULK AT MOST 1048576: true; the input reads as it did. -/
def pathsPatternsUptoRow : OpenClaim := { program := "ytplbdnndpgfljaa", sum := "ff5e733f7d09b4ba2c6820dc8c6d3fa0d702b74f41fe85df7311229cbd7ba6d9", func := "turnpike/turnpikelaw13.PathsPatterns", spec := "pathsPatterns", unfollowed := true, recurses := true, apart := false, narrowed := true }
def PathsPatternsUptoSaid : Prop := pathsPatternsUptoRow.holds Try.pinned (OpenSpec.upto pathsPatternsSpec)

/-- 'turnpikelaw13.PathsTakes', WHERE WHAT IT READS IS OF BULK AT MOST 1048576: true; the input reads as it did. -/
def pathsTakesUptoRow : OpenClaim := { program := "ytplbdnndpgfljaa", sum := "ff5e733f7d09b4ba2c6820dc8c6d3fa0d702b74f41fe85df7311229cbd7ba6d9", func := "turnpike/turnpikelaw13.PathsTakes", spec := "pathsTakes", unfollowed := true, recurses := true, apart := false, narrowed := true }
def PathsTakesUptoSaid : Prop := pathsTakesUptoRow.holds Try.pinned (OpenSpec.upto pathsTakesSpec)

/-- 'turnpikelaw13.PathsCovers', WHERE WHAT IT READS IS OF BULK AT MOST 1048576: true; the input reads as it did. -/
def pathsCoversUptoRow : OpenClaim := { program := "ytplbdnndpgfljaa", sum := "ff5e733f7d09b4ba2c6820dc8c6d3fa0d702b74f41fe85df7311229cbd7ba6d9", func := "turnpike/turnpikelaw13.PathsCovers", spec := "pathsCovers", inPlace := ["internal/bytealg.abigen_runtime_cmpstring"], unfollowed := true, recurses := true, apart := false, narrowed := true }
def PathsCoversUptoSaid : Prop := pathsCoversUptoRow.holds Try.pinned (OpenSpec.upto pathsCoversSpec)

/-- 'turnpikelaw13.PathsBest', WHERE WHAT IT READS IS OF BULK AT MOST 1048576: true; the input reads as it did. -/
def pathsBestUptoRow : OpenClaim := { program := "ytplbdnndpgfljaa", sum := "ff5e733f7d09b4ba2c6820dc8c6d3fa0d702b74f41fe85df7311229cbd7ba6d9", func := "turnpike/turnpikelaw13.PathsBest", spec := "pathsBest", inPlace := ["internal/bytealg.abigen_runtime_cmpstring"], unfollowed := true, recurses := true, apart := false, narrowed := true }
def PathsBestUptoSaid : Prop := pathsBestUptoRow.holds Try.pinned (OpenSpec.upto pathsBestSpec)

/-- 'turnpikelaw13.PathsWithin', WHERE WHAT IT READS IS OF BULK AT MOST 1048576: true; the input reads as it did. -/
def pathsWithinUptoRow : OpenClaim := { program := "ytplbdnndpgfljaa", sum := "ff5e733f7d09b4ba2c6820dc8c6d3fa0d702b74f41fe85df7311229cbd7ba6d9", func := "turnpike/turnpikelaw13.PathsWithin", spec := "pathsWithin", inPlace := ["internal/bytealg.abigen_runtime_cmpstring"], unfollowed := true, recurses := true, apart := false, narrowed := true }
def PathsWithinUptoSaid : Prop := pathsWithinUptoRow.holds Try.pinned (OpenSpec.upto pathsWithinSpec)

/-- 'turnpikelaw13.PathsChain', WHERE WHAT IT READS IS OF BULK AT MOST 1048576: true; the input reads as it did. -/
def pathsChainUptoRow : OpenClaim := { program := "ytplbdnndpgfljaa", sum := "ff5e733f7d09b4ba2c6820dc8c6d3fa0d702b74f41fe85df7311229cbd7ba6d9", func := "turnpike/turnpikelaw13.PathsChain", spec := "pathsChain", inPlace := ["internal/bytealg.abigen_runtime_cmpstring"], unfollowed := true, recurses := true, apart := false, narrowed := true }
def PathsChainUptoSaid : Prop := pathsChainUptoRow.holds Try.pinned (OpenSpec.upto pathsChainSpec)

end Rows
end Go.Proofs.Ytplbdnndpgfljaa
