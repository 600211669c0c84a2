/-
  No cell of these rows narrows 'for every input' (looked for: loops, veiled, ifaces, maps, wideKeys, modest, calm, conditions, laid).
  DERIVED. THE GIVEN ROWS OF THIS SEAT. 3 by the template 'for every input the law returns true; each argument reads behind the call as it read before'; 0 by the template 'total and deterministic' (their statements: YtidpglbokpgpbaaTotals.lean).
  GIVEN WITH THE SEED: the statements are not yours to turn. If you find one false, say at which input.
  Laid BY PROGRAM, IN A SANDBOX (cutbox-rows.mjs): the forced cells as the released guide's own fill.sh prints them over the translation 7d9ab8ee3217ccdc… (all of the seat's roots in one cut). By AI agents, Wed Nov 11 2026. No macro, syntax, notation, axiom, sorry.
-/
import Derived.Test.YtidpglbokpgpbaaChecked
import GoSem.Claim
import GoSem.ClaimJoined
import GoSem.ClaimMapViews
import Derived.JoinedTies
import Derived.KernelRfl
namespace Go.Proofs.Ytidpglbokpgpbaa
/- THE CELL 'sum', in the pinned program and in every row, IS THE sha256 OF THE DUMP (.gsa) THAT YtidpglbokpgpbaaProg.lean LOADS. Nothing in Lean hashes anything: it is a label: what it is worth is what the hold of that sum in a sandbox is worth. -/
noncomputable def Try.pinned : Pinned := { name := "ytidpglbokpgpbaa", sum := "7d9ab8ee3217ccdc4cbade29462d31e4e8746035833bad34f92f05fe1e4ddea1", checked := Try.checked }
namespace Rows
def none {H : Type} : Left H := { results := [], args := [] }

/-- 'turnpikelaw18.RegistryEpochs': WHATEVER THE INPUT: true; the input reads as it did. -/
def registryEpochsSpec : ChangeSpec := { name := "registryEpochs", fn := fun _ => fun
  | [d1, d2, d3] => { results := [.lit (.bool true)], args := [d1, d2, d3] }
  | _ => none }
def registryEpochsRow : OpenClaim := { program := "ytidpglbokpgpbaa", sum := "7d9ab8ee3217ccdc4cbade29462d31e4e8746035833bad34f92f05fe1e4ddea1", func := "turnpike/turnpikelaw18.RegistryEpochs", spec := "registryEpochs", inPlace := ["internal/bytealg.abigen_runtime_cmpstring", "math.Float64bits", "math.Float64frombits"], unfollowed := true, recurses := true, apart := false }
def RegistryEpochsSaid : Prop := registryEpochsRow.holds Try.pinned (OpenSpec.ofChange registryEpochsSpec)

/-- ITS FALSE NEIGHBOUR: 'it returns false'. Refute it at one input. -/
def registryEpochsWrong : ChangeSpec := { name := "registryEpochs", fn := fun _ => fun
  | [d1, d2, d3] => { results := [.lit (.bool false)], args := [d1, d2, d3] }
  | _ => none }
def RegistryEpochsWrongFalsely : Prop := registryEpochsRow.holds Try.pinned (OpenSpec.ofChange registryEpochsWrong)

/-- 'turnpikelaw18.RegistryPicks': WHATEVER THE INPUT: true; the input reads as it did. -/
def registryPicksSpec : ChangeSpec := { name := "registryPicks", fn := fun _ => fun
  | [d1, d2, d3, d4] => { results := [.lit (.bool true)], args := [d1, d2, d3, d4] }
  | _ => none }
def registryPicksRow : OpenClaim := { program := "ytidpglbokpgpbaa", sum := "7d9ab8ee3217ccdc4cbade29462d31e4e8746035833bad34f92f05fe1e4ddea1", func := "turnpike/turnpikelaw18.RegistryPicks", spec := "registryPicks", inPlace := ["internal/bytealg.abigen_runtime_cmpstring", "math.Float64bits", "math.Float64frombits"], unfollowed := true, recurses := true, apart := false }
def RegistryPicksSaid : Prop := registryPicksRow.holds Try.pinned (OpenSpec.ofChange registryPicksSpec)

/-- ITS FALSE NEIGHBOUR: 'it returns false'. Refute it at one input. -/
def registryPicksWrong : ChangeSpec := { name := "registryPicks", fn := fun _ => fun
  | [d1, d2, d3, d4] => { results := [.lit (.bool false)], args := [d1, d2, d3, d4] }
  | _ => none }
def RegistryPicksWrongFalsely : Prop := registryPicksRow.holds Try.pinned (OpenSpec.ofChange registryPicksWrong)

/-- 'turnpikelaw18.RegistryOwn': WHATEVER THE INPUT: true; the input reads as it did. -/
def registryOwnSpec : ChangeSpec := { name := "registryOwn", fn := fun _ => fun
  | [d1, d2, d3] => { results := [.lit (.bool true)], args := [d1, d2, d3] }
  | _ => none }
def registryOwnRow : OpenClaim := { program := "ytidpglbokpgpbaa", sum := "7d9ab8ee3217ccdc4cbade29462d31e4e8746035833bad34f92f05fe1e4ddea1", func := "turnpike/turnpikelaw18.RegistryOwn", spec := "registryOwn", inPlace := ["internal/bytealg.abigen_runtime_cmpstring", "math.Float64bits", "math.Float64frombits"], unfollowed := true, recurses := true, apart := false }
def RegistryOwnSaid : Prop := registryOwnRow.holds Try.pinned (OpenSpec.ofChange registryOwnSpec)

/-- ITS FALSE NEIGHBOUR: 'it returns false'. Refute it at one input. -/
def registryOwnWrong : ChangeSpec := { name := "registryOwn", fn := fun _ => fun
  | [d1, d2, d3] => { results := [.lit (.bool false)], args := [d1, d2, d3] }
  | _ => none }
def RegistryOwnWrongFalsely : Prop := registryOwnRow.holds Try.pinned (OpenSpec.ofChange registryOwnWrong)

/- THE SECOND FORM. 'bulk': how many values and letters a reading holds, each counted each time it is reached (what is shared counts as often as it is met; a slice's spare places count too). A statement '..UptoSaid' is the law's where the arguments, and the package variables that the reading takes, are together of bulk at most 1048576: NARROWER than '..Said'. Prove '..Said' where nothing that the law and all that it calls make is longer than what came in: it says more and counts as full. Else prove '..UptoSaid'. A law counts once. -/
mutual
def uptoBulk {H : Type} : DataW H → Nat
  | .lit (.string bytes) => bytes.length + 1
  | .lit _ => 1
  | .nil => 1
  | .ptr d => uptoBulk d + 1
  | .slice elems spare => uptoBulkAll elems + uptoBulkAll spare + 1
  | .agg parts => uptoBulkAll parts + 1
  | .iface _ d => uptoBulk d + 1
  | .map entries => uptoBulkEntries entries + 1
  | .held _ => 1
def uptoBulkAll {H : Type} : List (DataW H) → Nat
  | [] => 0
  | d :: r => uptoBulk d + uptoBulkAll r
def uptoBulkEntries {H : Type} : List (Lit × DataW H) → Nat
  | [] => 0
  | x :: r => uptoBulkEntry x + uptoBulkEntries r
def uptoBulkEntry {H : Type} : Lit × DataW H → Nat
  | (.string bytes, d) => bytes.length + uptoBulk d + 1
  | (_, d) => uptoBulk d + 1
 end
def uptoSmall : (H : Type) → List (DataW H) → Bool := fun _ ds => decide (uptoBulkAll ds ≤ 1048576)
def OpenSpec.upto (s : _root_.Go.ChangeSpec) : _root_.Go.OpenSpec := { _root_.Go.OpenSpec.ofChange s with cond := some uptoSmall }

/-- 'turnpikelaw18.RegistryEpochs', WHERE WHAT IT READS IS OF BULK AT MOST 1048576: true; the input reads as it did. -/
def registryEpochsUptoRow : OpenClaim := { program := "ytidpglbokpgpbaa", sum := "7d9ab8ee3217ccdc4cbade29462d31e4e8746035833bad34f92f05fe1e4ddea1", func := "turnpike/turnpikelaw18.RegistryEpochs", spec := "registryEpochs", inPlace := ["internal/bytealg.abigen_runtime_cmpstring", "math.Float64bits", "math.Float64frombits"], unfollowed := true, recurses := true, apart := false, narrowed := true }
def RegistryEpochsUptoSaid : Prop := registryEpochsUptoRow.holds Try.pinned (OpenSpec.upto registryEpochsSpec)

/-- 'turnpikelaw18.RegistryPicks', WHERE WHAT IT READS IS OF BULK AT MOST 1048576: true; the input reads as it did. -/
def registryPicksUptoRow : OpenClaim := { program := "ytidpglbokpgpbaa", sum := "7d9ab8ee3217ccdc4cbade29462d31e4e8746035833bad34f92f05fe1e4ddea1", func := "turnpike/turnpikelaw18.RegistryPicks", spec := "registryPicks", inPlace := ["internal/bytealg.abigen_runtime_cmpstring", "math.Float64bits", "math.Float64frombits"], unfollowed := true, recurses := true, apart := false, narrowed := true }
def RegistryPicksUptoSaid : Prop := registryPicksUptoRow.holds Try.pinned (OpenSpec.upto registryPicksSpec)

/-- 'turnpikelaw18.RegistryOwn', WHERE WHAT IT READS IS OF BULK AT MOST 1048576: true; the input reads as it did. -/
def registryOwnUptoRow : OpenClaim := { program := "ytidpglbokpgpbaa", sum := "7d9ab8ee3217ccdc4cbade29462d31e4e8746035833bad34f92f05fe1e4ddea1", func := "turnpike/turnpikelaw18.RegistryOwn", spec := "registryOwn", inPlace := ["internal/bytealg.abigen_runtime_cmpstring", "math.Float64bits", "math.Float64frombits"], unfollowed := true, recurses := true, apart := false, narrowed := true }
def RegistryOwnUptoSaid : Prop := registryOwnUptoRow.holds Try.pinned (OpenSpec.upto registryOwnSpec)

end Rows
end Go.Proofs.Ytidpglbokpgpbaa
