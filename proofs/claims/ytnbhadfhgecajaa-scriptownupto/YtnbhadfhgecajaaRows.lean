/-
  No cell of these rows narrows 'for every input' (looked for: loops, veiled, ifaces, maps, wideKeys, modest, calm, conditions, laid).
  DERIVED. THE GIVEN ROWS OF THIS SEAT. 5 by the template 'for every input the law returns true; each argument reads behind the call as it read before'; 0 by the template 'total and deterministic' (their statements: YtnbhadfhgecajaaTotals.lean).
  GIVEN WITH THE SEED: the statements are not yours to turn. If you find one false, say at which input.
  Laid BY PROGRAM, IN A SANDBOX (cutbox-rows.mjs): the forced cells as the released guide's own fill.sh prints them over the translation 7b3841b8fc483d68… (all of the seat's roots in one cut). By AI agents, Wed Nov 11 2026. No macro, syntax, notation, axiom, sorry.
-/
import Derived.Test.YtnbhadfhgecajaaChecked
import GoSem.Claim
import GoSem.ClaimJoined
import GoSem.ClaimMapViews
import Derived.JoinedTies
import Derived.KernelRfl
namespace Go.Proofs.Ytnbhadfhgecajaa
/- THE CELL 'sum', in the pinned program and in every row, IS THE sha256 OF THE DUMP (.gsa) THAT YtnbhadfhgecajaaProg.lean LOADS. Nothing in Lean hashes anything: it is a label: what it is worth is what the hold of that sum in a sandbox is worth. -/
noncomputable def Try.pinned : Pinned := { name := "ytnbhadfhgecajaa", sum := "7b3841b8fc483d6852b8afd33c878249c5a4f857866f890bdd4661b39f0c3dde", checked := Try.checked }
namespace Rows
def none {H : Type} : Left H := { results := [], args := [] }

/-- 'turnpikelaw02.ScriptReads': WHATEVER THE INPUT: true; the input reads as it did. -/
def scriptReadsSpec : ChangeSpec := { name := "scriptReads", fn := fun _ => fun
  | [d1, d2, d3] => { results := [.lit (.bool true)], args := [d1, d2, d3] }
  | _ => none }
def scriptReadsRow : OpenClaim := { program := "ytnbhadfhgecajaa", sum := "7b3841b8fc483d6852b8afd33c878249c5a4f857866f890bdd4661b39f0c3dde", func := "turnpike/turnpikelaw02.ScriptReads", spec := "scriptReads", unfollowed := true, recurses := true, apart := false }
def ScriptReadsSaid : Prop := scriptReadsRow.holds Try.pinned (OpenSpec.ofChange scriptReadsSpec)

/-- ITS FALSE NEIGHBOUR: 'it returns false'. Refute it at one input. -/
def scriptReadsWrong : ChangeSpec := { name := "scriptReads", fn := fun _ => fun
  | [d1, d2, d3] => { results := [.lit (.bool false)], args := [d1, d2, d3] }
  | _ => none }
def ScriptReadsWrongFalsely : Prop := scriptReadsRow.holds Try.pinned (OpenSpec.ofChange scriptReadsWrong)

/-- 'turnpikelaw02.ScriptWrites': WHATEVER THE INPUT: true; the input reads as it did. -/
def scriptWritesSpec : ChangeSpec := { name := "scriptWrites", fn := fun _ => fun
  | [d] => { results := [.lit (.bool true)], args := [d] }
  | _ => none }
def scriptWritesRow : OpenClaim := { program := "ytnbhadfhgecajaa", sum := "7b3841b8fc483d6852b8afd33c878249c5a4f857866f890bdd4661b39f0c3dde", func := "turnpike/turnpikelaw02.ScriptWrites", spec := "scriptWrites", apart := false }
def ScriptWritesSaid : Prop := scriptWritesRow.holds Try.pinned (OpenSpec.ofChange scriptWritesSpec)

/-- ITS FALSE NEIGHBOUR: 'it returns false'. Refute it at one input. -/
def scriptWritesWrong : ChangeSpec := { name := "scriptWrites", fn := fun _ => fun
  | [d] => { results := [.lit (.bool false)], args := [d] }
  | _ => none }
def ScriptWritesWrongFalsely : Prop := scriptWritesRow.holds Try.pinned (OpenSpec.ofChange scriptWritesWrong)

/-- 'turnpikelaw02.ScriptBack': WHATEVER THE INPUT: true; the input reads as it did. -/
def scriptBackSpec : ChangeSpec := { name := "scriptBack", fn := fun _ => fun
  | [d1, d2] => { results := [.lit (.bool true)], args := [d1, d2] }
  | _ => none }
def scriptBackRow : OpenClaim := { program := "ytnbhadfhgecajaa", sum := "7b3841b8fc483d6852b8afd33c878249c5a4f857866f890bdd4661b39f0c3dde", func := "turnpike/turnpikelaw02.ScriptBack", spec := "scriptBack", unfollowed := true, recurses := true, apart := false }
def ScriptBackSaid : Prop := scriptBackRow.holds Try.pinned (OpenSpec.ofChange scriptBackSpec)

/-- ITS FALSE NEIGHBOUR: 'it returns false'. Refute it at one input. -/
def scriptBackWrong : ChangeSpec := { name := "scriptBack", fn := fun _ => fun
  | [d1, d2] => { results := [.lit (.bool false)], args := [d1, d2] }
  | _ => none }
def ScriptBackWrongFalsely : Prop := scriptBackRow.holds Try.pinned (OpenSpec.ofChange scriptBackWrong)

/-- 'turnpikelaw02.ScriptTotal': WHATEVER THE INPUT: true; the input reads as it did. -/
def scriptTotalSpec : ChangeSpec := { name := "scriptTotal", fn := fun _ => fun
  | [d] => { results := [.lit (.bool true)], args := [d] }
  | _ => none }
def scriptTotalRow : OpenClaim := { program := "ytnbhadfhgecajaa", sum := "7b3841b8fc483d6852b8afd33c878249c5a4f857866f890bdd4661b39f0c3dde", func := "turnpike/turnpikelaw02.ScriptTotal", spec := "scriptTotal", unfollowed := true, recurses := true, apart := false }
def ScriptTotalSaid : Prop := scriptTotalRow.holds Try.pinned (OpenSpec.ofChange scriptTotalSpec)

/-- ITS FALSE NEIGHBOUR: 'it returns false'. Refute it at one input. -/
def scriptTotalWrong : ChangeSpec := { name := "scriptTotal", fn := fun _ => fun
  | [d] => { results := [.lit (.bool false)], args := [d] }
  | _ => none }
def ScriptTotalWrongFalsely : Prop := scriptTotalRow.holds Try.pinned (OpenSpec.ofChange scriptTotalWrong)

/-- 'turnpikelaw02.ScriptOwn': WHATEVER THE INPUT: true; the input reads as it did. -/
def scriptOwnSpec : ChangeSpec := { name := "scriptOwn", fn := fun _ => fun
  | [d] => { results := [.lit (.bool true)], args := [d] }
  | _ => none }
def scriptOwnRow : OpenClaim := { program := "ytnbhadfhgecajaa", sum := "7b3841b8fc483d6852b8afd33c878249c5a4f857866f890bdd4661b39f0c3dde", func := "turnpike/turnpikelaw02.ScriptOwn", spec := "scriptOwn", unfollowed := true, recurses := true, apart := false }
def ScriptOwnSaid : Prop := scriptOwnRow.holds Try.pinned (OpenSpec.ofChange scriptOwnSpec)

/-- ITS FALSE NEIGHBOUR: 'it returns false'. Refute it at one input. -/
def scriptOwnWrong : ChangeSpec := { name := "scriptOwn", fn := fun _ => fun
  | [d] => { results := [.lit (.bool false)], args := [d] }
  | _ => none }
def ScriptOwnWrongFalsely : Prop := scriptOwnRow.holds Try.pinned (OpenSpec.ofChange scriptOwnWrong)

/- THE SECOND FORM. 'bulk': how many values and letters a reading holds, each counted each time it is reached (what is shared counts as often as it is met; a slice's spare places count too). A statement '..UptoSaid' is the law's where the arguments, and the package variables that the reading takes, are together of bulk at most 1048576: NARROWER than '..Said'. Prove '..Said' where nothing that the law and all that it calls make is longer than what came in: it says more and counts as full. Else prove '..UptoSaid'. A law counts once. -/
mutual
def uptoBulk {H : Type} : DataW H → Nat
  | .lit (.string bytes) => bytes.length + 1
  | .lit _ => 1
  | .nil => 1
  | .ptr d => uptoBulk d + 1
  | .slice elems spare => uptoBulkAll elems + uptoBulkAll spare + 1
  | .agg parts => uptoBulkAll parts + 1
  | .iface _ d => uptoBulk d + 1
  | .map entries => uptoBulkEntries entries + 1
  | .held _ => 1
def uptoBulkAll {H : Type} : List (DataW H) → Nat
  | [] => 0
  | d :: r => uptoBulk d + uptoBulkAll r
def uptoBulkEntries {H : Type} : List (Lit × DataW H) → Nat
  | [] => 0
  | x :: r => uptoBulkEntry x + uptoBulkEntries r
def uptoBulkEntry {H : Type} : Lit × DataW H → Nat
  | (.string bytes, d) => bytes.length + uptoBulk d + 1
  | (_, d) => uptoBulk d + 1
 end
def uptoSmall : (H : Type) → List (DataW H) → Bool := fun _ ds => decide (uptoBulkAll ds ≤ 1048576)
def OpenSpec.upto (s : _root_.Go.ChangeSpec) : _root_.Go.OpenSpec := { _root_.Go.OpenSpec.ofChange s with cond := some uptoSmall }

/-- 'turnpikelaw02.ScriptReads', WHERE WHAT IT READS IS OF BULK AT MOST 1048576: true; the input reads as it did. -/
def scriptReadsUptoRow : OpenClaim := { program := "ytnbhadfhgecajaa", sum := "7b3841b8fc483d6852b8afd33c878249c5a4f857866f890bdd4661b39f0c3dde", func := "turnpike/turnpikelaw02.ScriptReads", spec := "scriptReads", unfollowed := true, recurses := true, apart := false, narrowed := true }
def ScriptReadsUptoSaid : Prop := scriptReadsUptoRow.holds Try.pinned (OpenSpec.upto scriptReadsSpec)

/-- 'turnpikelaw02.ScriptWrites', WHERE WHAT IT READS IS OF BULK AT MOST 1048576: true; the input reads as it did. -/
def scriptWritesUptoRow : OpenClaim := { program := "ytnbhadfhgecajaa", sum := "7b3841b8fc483d6852b8afd33c878249c5a4f857866f890bdd4661b39f0c3dde", func := "turnpike/turnpikelaw02.ScriptWrites", spec := "scriptWrites", apart := false, narrowed := true }
def ScriptWritesUptoSaid : Prop := scriptWritesUptoRow.holds Try.pinned (OpenSpec.upto scriptWritesSpec)

/-- 'turnpikelaw02.ScriptBack', WHERE WHAT IT READS IS OF BULK AT MOST 1048576: true; the input reads as it did. -/
def scriptBackUptoRow : OpenClaim := { program := "ytnbhadfhgecajaa", sum := "7b3841b8fc483d6852b8afd33c878249c5a4f857866f890bdd4661b39f0c3dde", func := "turnpike/turnpikelaw02.ScriptBack", spec := "scriptBack", unfollowed := true, recurses := true, apart := false, narrowed := true }
def ScriptBackUptoSaid : Prop := scriptBackUptoRow.holds Try.pinned (OpenSpec.upto scriptBackSpec)

/-- 'turnpikelaw02.ScriptTotal', WHERE WHAT IT READS IS OF BULK AT MOST 1048576: true; the input reads as it did. -/
def scriptTotalUptoRow : OpenClaim := { program := "ytnbhadfhgecajaa", sum := "7b3841b8fc483d6852b8afd33c878249c5a4f857866f890bdd4661b39f0c3dde", func := "turnpike/turnpikelaw02.ScriptTotal", spec := "scriptTotal", unfollowed := true, recurses := true, apart := false, narrowed := true }
def ScriptTotalUptoSaid : Prop := scriptTotalUptoRow.holds Try.pinned (OpenSpec.upto scriptTotalSpec)

/-- 'turnpikelaw02.ScriptOwn', WHERE WHAT IT READS IS OF BULK AT MOST 1048576: true; the input reads as it did. -/
def scriptOwnUptoRow : OpenClaim := { program := "ytnbhadfhgecajaa", sum := "7b3841b8fc483d6852b8afd33c878249c5a4f857866f890bdd4661b39f0c3dde", func := "turnpike/turnpikelaw02.ScriptOwn", spec := "scriptOwn", unfollowed := true, recurses := true, apart := false, narrowed := true }
def ScriptOwnUptoSaid : Prop := scriptOwnUptoRow.holds Try.pinned (OpenSpec.upto scriptOwnSpec)

end Rows
end Go.Proofs.Ytnbhadfhgecajaa
