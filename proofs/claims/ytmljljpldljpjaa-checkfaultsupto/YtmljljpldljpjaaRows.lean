/-
  No cell of these rows narrows 'for every input' (looked for: loops, veiled, ifaces, maps, wideKeys, modest, calm, conditions, laid).
  DERIVED. THE GIVEN ROWS OF THIS SEAT. 6 by the template 'for every input the law returns true; each argument reads behind the call as it read before'; 0 by the template 'total and deterministic' (their statements: YtmljljpldljpjaaTotals.lean).
  GIVEN WITH THE SEED: the statements are not yours to turn. If you find one false, say at which input.
  Laid BY PROGRAM, IN A SANDBOX (cutbox-rows.mjs): the forced cells as the released guide's own fill.sh prints them over the translation 1dd375005ba39309… (all of the seat's roots in one cut). By AI agents, Wed Nov 11 2026. No macro, syntax, notation, axiom, sorry.
-/
import Derived.Test.YtmljljpldljpjaaChecked
import GoSem.Claim
import GoSem.ClaimJoined
import GoSem.ClaimMapViews
import Derived.JoinedTies
import Derived.KernelRfl
namespace Go.Proofs.Ytmljljpldljpjaa
/- THE CELL 'sum', in the pinned program and in every row, IS THE sha256 OF THE DUMP (.gsa) THAT YtmljljpldljpjaaProg.lean LOADS. Nothing in Lean hashes anything: it is a label: what it is worth is what the hold of that sum in a sandbox is worth. -/
noncomputable def Try.pinned : Pinned := { name := "ytmljljpldljpjaa", sum := "1dd375005ba39309dfbb272f10e74219610b4e9a64ee73a389fab35057918ca2", checked := Try.checked }
namespace Rows
def none {H : Type} : Left H := { results := [], args := [] }

/-- 'turnpikelaw14.CheckMerges': WHATEVER THE INPUT: true; the input reads as it did. -/
def checkMergesSpec : ChangeSpec := { name := "checkMerges", fn := fun _ => fun
  | [d1, d2] => { results := [.lit (.bool true)], args := [d1, d2] }
  | _ => none }
def checkMergesRow : OpenClaim := { program := "ytmljljpldljpjaa", sum := "1dd375005ba39309dfbb272f10e74219610b4e9a64ee73a389fab35057918ca2", func := "turnpike/turnpikelaw14.CheckMerges", spec := "checkMerges", unfollowed := true, recurses := true, plainKeys := false, apart := false }
def CheckMergesSaid : Prop := checkMergesRow.holds Try.pinned (OpenSpec.ofChange checkMergesSpec)

/-- ITS FALSE NEIGHBOUR: 'it returns false'. Refute it at one input. -/
def checkMergesWrong : ChangeSpec := { name := "checkMerges", fn := fun _ => fun
  | [d1, d2] => { results := [.lit (.bool false)], args := [d1, d2] }
  | _ => none }
def CheckMergesWrongFalsely : Prop := checkMergesRow.holds Try.pinned (OpenSpec.ofChange checkMergesWrong)

/-- 'turnpikelaw14.CheckFaults': WHATEVER THE INPUT: true; the input reads as it did. -/
def checkFaultsSpec : ChangeSpec := { name := "checkFaults", fn := fun _ => fun
  | [d] => { results := [.lit (.bool true)], args := [d] }
  | _ => none }
def checkFaultsRow : OpenClaim := { program := "ytmljljpldljpjaa", sum := "1dd375005ba39309dfbb272f10e74219610b4e9a64ee73a389fab35057918ca2", func := "turnpike/turnpikelaw14.CheckFaults", spec := "checkFaults", unfollowed := true, recurses := true, plainKeys := false, apart := false }
def CheckFaultsSaid : Prop := checkFaultsRow.holds Try.pinned (OpenSpec.ofChange checkFaultsSpec)

/-- ITS FALSE NEIGHBOUR: 'it returns false'. Refute it at one input. -/
def checkFaultsWrong : ChangeSpec := { name := "checkFaults", fn := fun _ => fun
  | [d] => { results := [.lit (.bool false)], args := [d] }
  | _ => none }
def CheckFaultsWrongFalsely : Prop := checkFaultsRow.holds Try.pinned (OpenSpec.ofChange checkFaultsWrong)

/-- 'turnpikelaw14.CheckDiffs': WHATEVER THE INPUT: true; the input reads as it did. -/
def checkDiffsSpec : ChangeSpec := { name := "checkDiffs", fn := fun _ => fun
  | [d1, d2] => { results := [.lit (.bool true)], args := [d1, d2] }
  | _ => none }
def checkDiffsRow : OpenClaim := { program := "ytmljljpldljpjaa", sum := "1dd375005ba39309dfbb272f10e74219610b4e9a64ee73a389fab35057918ca2", func := "turnpike/turnpikelaw14.CheckDiffs", spec := "checkDiffs", unfollowed := true, recurses := true, plainKeys := false, apart := false }
def CheckDiffsSaid : Prop := checkDiffsRow.holds Try.pinned (OpenSpec.ofChange checkDiffsSpec)

/-- ITS FALSE NEIGHBOUR: 'it returns false'. Refute it at one input. -/
def checkDiffsWrong : ChangeSpec := { name := "checkDiffs", fn := fun _ => fun
  | [d1, d2] => { results := [.lit (.bool false)], args := [d1, d2] }
  | _ => none }
def CheckDiffsWrongFalsely : Prop := checkDiffsRow.holds Try.pinned (OpenSpec.ofChange checkDiffsWrong)

/-- 'turnpikelaw14.CheckBack': WHATEVER THE INPUT: true; the input reads as it did. -/
def checkBackSpec : ChangeSpec := { name := "checkBack", fn := fun _ => fun
  | [d1, d2] => { results := [.lit (.bool true)], args := [d1, d2] }
  | _ => none }
def checkBackRow : OpenClaim := { program := "ytmljljpldljpjaa", sum := "1dd375005ba39309dfbb272f10e74219610b4e9a64ee73a389fab35057918ca2", func := "turnpike/turnpikelaw14.CheckBack", spec := "checkBack", unfollowed := true, recurses := true, plainKeys := false, apart := false }
def CheckBackSaid : Prop := checkBackRow.holds Try.pinned (OpenSpec.ofChange checkBackSpec)

/-- ITS FALSE NEIGHBOUR: 'it returns false'. Refute it at one input. -/
def checkBackWrong : ChangeSpec := { name := "checkBack", fn := fun _ => fun
  | [d1, d2] => { results := [.lit (.bool false)], args := [d1, d2] }
  | _ => none }
def CheckBackWrongFalsely : Prop := checkBackRow.holds Try.pinned (OpenSpec.ofChange checkBackWrong)

/-- 'turnpikelaw14.CheckKeeps': WHATEVER THE INPUT: true; the input reads as it did. -/
def checkKeepsSpec : ChangeSpec := { name := "checkKeeps", fn := fun _ => fun
  | [d1, d2] => { results := [.lit (.bool true)], args := [d1, d2] }
  | _ => none }
def checkKeepsRow : OpenClaim := { program := "ytmljljpldljpjaa", sum := "1dd375005ba39309dfbb272f10e74219610b4e9a64ee73a389fab35057918ca2", func := "turnpike/turnpikelaw14.CheckKeeps", spec := "checkKeeps", unfollowed := true, recurses := true, plainKeys := false, apart := false }
def CheckKeepsSaid : Prop := checkKeepsRow.holds Try.pinned (OpenSpec.ofChange checkKeepsSpec)

/-- ITS FALSE NEIGHBOUR: 'it returns false'. Refute it at one input. -/
def checkKeepsWrong : ChangeSpec := { name := "checkKeeps", fn := fun _ => fun
  | [d1, d2] => { results := [.lit (.bool false)], args := [d1, d2] }
  | _ => none }
def CheckKeepsWrongFalsely : Prop := checkKeepsRow.holds Try.pinned (OpenSpec.ofChange checkKeepsWrong)

/-- 'turnpikelaw14.CheckStands': WHATEVER THE INPUT: true; the input reads as it did. -/
def checkStandsSpec : ChangeSpec := { name := "checkStands", fn := fun _ => fun
  | [d1, d2] => { results := [.lit (.bool true)], args := [d1, d2] }
  | _ => none }
def checkStandsRow : OpenClaim := { program := "ytmljljpldljpjaa", sum := "1dd375005ba39309dfbb272f10e74219610b4e9a64ee73a389fab35057918ca2", func := "turnpike/turnpikelaw14.CheckStands", spec := "checkStands", unfollowed := true, recurses := true, plainKeys := false, apart := false }
def CheckStandsSaid : Prop := checkStandsRow.holds Try.pinned (OpenSpec.ofChange checkStandsSpec)

/-- ITS FALSE NEIGHBOUR: 'it returns false'. Refute it at one input. -/
def checkStandsWrong : ChangeSpec := { name := "checkStands", fn := fun _ => fun
  | [d1, d2] => { results := [.lit (.bool false)], args := [d1, d2] }
  | _ => none }
def CheckStandsWrongFalsely : Prop := checkStandsRow.holds Try.pinned (OpenSpec.ofChange checkStandsWrong)

/- THE SECOND FORM. 'bulk': how many values and letters a reading holds, each counted each time it is reached (what is shared counts as often as it is met; a slice's spare places count too). A statement '..UptoSaid' is the law's where the arguments, and the package variables that the reading takes, are together of bulk at most 1048576: NARROWER than '..Said'. Prove '..Said' where nothing that the law and all that it calls make is longer than what came in: it says more and counts as full. Else prove '..UptoSaid'. A law counts once. -/
mutual
def uptoBulk {H : Type} : DataW H → Nat
  | .lit (.string bytes) => bytes.length + 1
  | .lit _ => 1
  | .nil => 1
  | .ptr d => uptoBulk d + 1
  | .slice elems spare => uptoBulkAll elems + uptoBulkAll spare + 1
  | .agg parts => uptoBulkAll parts + 1
  | .iface _ d => uptoBulk d + 1
  | .map entries => uptoBulkEntries entries + 1
  | .held _ => 1
def uptoBulkAll {H : Type} : List (DataW H) → Nat
  | [] => 0
  | d :: r => uptoBulk d + uptoBulkAll r
def uptoBulkEntries {H : Type} : List (Lit × DataW H) → Nat
  | [] => 0
  | x :: r => uptoBulkEntry x + uptoBulkEntries r
def uptoBulkEntry {H : Type} : Lit × DataW H → Nat
  | (.string bytes, d) => bytes.length + uptoBulk d + 1
  | (_, d) => uptoBulk d + 1
 end
def uptoSmall : (H : Type) → List (DataW H) → Bool := fun _ ds => decide (uptoBulkAll ds ≤ 1048576)
def OpenSpec.upto (s : _root_.Go.ChangeSpec) : _root_.Go.OpenSpec := { _root_.Go.OpenSpec.ofChange s with cond := some uptoSmall }

/-- 'turnpikelaw14.CheckMerges', WHERE WHAT IT READS IS OF BULK AT MOST 1048576: true; the input reads as it did. -/
def checkMergesUptoRow : OpenClaim := { program := "ytmljljpldljpjaa", sum := "1dd375005ba39309dfbb272f10e74219610b4e9a64ee73a389fab35057918ca2", func := "turnpike/turnpikelaw14.CheckMerges", spec := "checkMerges", unfollowed := true, recurses := true, plainKeys := false, apart := false, narrowed := true }
def CheckMergesUptoSaid : Prop := checkMergesUptoRow.holds Try.pinned (OpenSpec.upto checkMergesSpec)

/-- 'turnpikelaw14.CheckFaults', WHERE WHAT IT READS IS OF BULK AT MOST 1048576: true; the input reads as it did. -/
def checkFaultsUptoRow : OpenClaim := { program := "ytmljljpldljpjaa", sum := "1dd375005ba39309dfbb272f10e74219610b4e9a64ee73a389fab35057918ca2", func := "turnpike/turnpikelaw14.CheckFaults", spec := "checkFaults", unfollowed := true, recurses := true, plainKeys := false, apart := false, narrowed := true }
def CheckFaultsUptoSaid : Prop := checkFaultsUptoRow.holds Try.pinned (OpenSpec.upto checkFaultsSpec)

/-- 'turnpikelaw14.CheckDiffs', WHERE WHAT IT READS IS OF BULK AT MOST 1048576: true; the input reads as it did. -/
def checkDiffsUptoRow : OpenClaim := { program := "ytmljljpldljpjaa", sum := "1dd375005ba39309dfbb272f10e74219610b4e9a64ee73a389fab35057918ca2", func := "turnpike/turnpikelaw14.CheckDiffs", spec := "checkDiffs", unfollowed := true, recurses := true, plainKeys := false, apart := false, narrowed := true }
def CheckDiffsUptoSaid : Prop := checkDiffsUptoRow.holds Try.pinned (OpenSpec.upto checkDiffsSpec)

/-- 'turnpikelaw14.CheckBack', WHERE WHAT IT READS IS OF BULK AT MOST 1048576: true; the input reads as it did. -/
def checkBackUptoRow : OpenClaim := { program := "ytmljljpldljpjaa", sum := "1dd375005ba39309dfbb272f10e74219610b4e9a64ee73a389fab35057918ca2", func := "turnpike/turnpikelaw14.CheckBack", spec := "checkBack", unfollowed := true, recurses := true, plainKeys := false, apart := false, narrowed := true }
def CheckBackUptoSaid : Prop := checkBackUptoRow.holds Try.pinned (OpenSpec.upto checkBackSpec)

/-- 'turnpikelaw14.CheckKeeps', WHERE WHAT IT READS IS OF BULK AT MOST 1048576: true; the input reads as it did. -/
def checkKeepsUptoRow : OpenClaim := { program := "ytmljljpldljpjaa", sum := "1dd375005ba39309dfbb272f10e74219610b4e9a64ee73a389fab35057918ca2", func := "turnpike/turnpikelaw14.CheckKeeps", spec := "checkKeeps", unfollowed := true, recurses := true, plainKeys := false, apart := false, narrowed := true }
def CheckKeepsUptoSaid : Prop := checkKeepsUptoRow.holds Try.pinned (OpenSpec.upto checkKeepsSpec)

/-- 'turnpikelaw14.CheckStands', WHERE WHAT IT READS IS OF BULK AT MOST 1048576: true; the input reads as it did. -/
def checkStandsUptoRow : OpenClaim := { program := "ytmljljpldljpjaa", sum := "1dd375005ba39309dfbb272f10e74219610b4e9a64ee73a389fab35057918ca2", func := "turnpike/turnpikelaw14.CheckStands", spec := "checkStands", unfollowed := true, recurses := true, plainKeys := false, apart := false, narrowed := true }
def CheckStandsUptoSaid : Prop := checkStandsUptoRow.holds Try.pinned (OpenSpec.upto checkStandsSpec)

end Rows
end Go.Proofs.Ytmljljpldljpjaa
