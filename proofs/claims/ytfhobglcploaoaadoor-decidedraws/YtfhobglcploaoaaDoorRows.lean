/-
  NARROWER THAN 'FOR EVERY INPUT', by the rows' own cells (each row's printed sentence says how): DecideAnswers: laid · DecideDenied: laid · DecideForward: laid · DecideDraws: laid.
  DERIVED. THE GIVEN ROWS OF THIS SEAT. 4 by the template 'for every input the law returns true; each argument reads behind the call as it read before'; 0 by the template 'total and deterministic' (their statements: YtfhobglcploaoaaDoorTotals.lean).
  GIVEN WITH THE SEED: the statements are not yours to turn. If you find one false, say at which input.
  Laid BY PROGRAM, IN A SANDBOX (cutbox-rows.mjs): the forced cells as the released guide's own fill.sh prints them over the translation ba75858fcb149af1… (all of the seat's roots in one cut). By AI agents, Wed Nov 11 2026. No macro, syntax, notation, axiom, sorry.
-/
import Derived.Test.YtfhobglcploaoaaDoorChecked
import GoSem.Claim
import GoSem.ClaimJoined
import GoSem.ClaimMapViews
import Derived.JoinedTies
import Derived.KernelRfl
namespace Go.Proofs.YtfhobglcploaoaaDoor
/- THE CELL 'sum', in the pinned program and in every row, IS THE sha256 OF THE DUMP (.gsa) THAT YtfhobglcploaoaaDoorProg.lean LOADS. Nothing in Lean hashes anything: it is a label: what it is worth is what the hold of that sum in a sandbox is worth. -/
noncomputable def Tryd.pinned : Pinned := { name := "ytfhobglcploaoaadoor", sum := "ba75858fcb149af13f62993744436583c80539a6865cfc3843ed3c43ab0a50d5", checked := Tryd.checked }
namespace Rows
def none {H : Type} : Left H := { results := [], args := [] }

/- WHAT THE LISTED PACKAGE-LEVEL VARIABLES READ AS WHEN THE CALL BEGINS. Each datum BY PROGRAM (the guide's laid-datum.mjs) off the statement by which the dump's own 'gosem.cut.vars' lays the variable. In a bare row this is a premise. The card (YtfhobglcploaoaaDoorCards.lean) ties it to the program's text. -/
def laid_turnpike_decide_statuses {H : Type} : DataW H := .agg [.lit (.int .i64 0), .lit (.int .i64 0), .lit (.int .i64 404), .lit (.int .i64 404), .lit (.int .i64 403), .lit (.int .i64 503)]

/-- 'turnpikelaw16.DecideAnswers': WHATEVER THE INPUT: true; the input reads as it did. -/
def decideAnswersSpec : ChangeSpec := { name := "decideAnswers", fn := fun _ => fun
  | [d1, d2, d3] => { results := [.lit (.bool true)], args := [d1, d2, d3] }
  | _ => none }
def decideAnswersRow : OpenClaim := { program := "ytfhobglcploaoaadoor", sum := "ba75858fcb149af13f62993744436583c80539a6865cfc3843ed3c43ab0a50d5", func := "turnpike/turnpikelaw16.DecideAnswers", spec := "decideAnswers", unfollowed := true, recurses := true, named := ["turnpike/decide.statuses"], apart := false, laid := [("turnpike/decide.statuses", laid_turnpike_decide_statuses)] }
def DecideAnswersSaid : Prop := decideAnswersRow.holds Tryd.pinned (OpenSpec.ofChange decideAnswersSpec)

/-- ITS FALSE NEIGHBOUR: 'it returns false'. Refute it at one input. -/
def decideAnswersWrong : ChangeSpec := { name := "decideAnswers", fn := fun _ => fun
  | [d1, d2, d3] => { results := [.lit (.bool false)], args := [d1, d2, d3] }
  | _ => none }
def DecideAnswersWrongFalsely : Prop := decideAnswersRow.holds Tryd.pinned (OpenSpec.ofChange decideAnswersWrong)

/-- 'turnpikelaw16.DecideDenied': WHATEVER THE INPUT: true; the input reads as it did. -/
def decideDeniedSpec : ChangeSpec := { name := "decideDenied", fn := fun _ => fun
  | [d1, d2, d3, d4, d5] => { results := [.lit (.bool true)], args := [d1, d2, d3, d4, d5] }
  | _ => none }
def decideDeniedRow : OpenClaim := { program := "ytfhobglcploaoaadoor", sum := "ba75858fcb149af13f62993744436583c80539a6865cfc3843ed3c43ab0a50d5", func := "turnpike/turnpikelaw16.DecideDenied", spec := "decideDenied", unfollowed := true, recurses := true, named := ["turnpike/decide.statuses"], apart := false, laid := [("turnpike/decide.statuses", laid_turnpike_decide_statuses)] }
def DecideDeniedSaid : Prop := decideDeniedRow.holds Tryd.pinned (OpenSpec.ofChange decideDeniedSpec)

/-- ITS FALSE NEIGHBOUR: 'it returns false'. Refute it at one input. -/
def decideDeniedWrong : ChangeSpec := { name := "decideDenied", fn := fun _ => fun
  | [d1, d2, d3, d4, d5] => { results := [.lit (.bool false)], args := [d1, d2, d3, d4, d5] }
  | _ => none }
def DecideDeniedWrongFalsely : Prop := decideDeniedRow.holds Tryd.pinned (OpenSpec.ofChange decideDeniedWrong)

/-- 'turnpikelaw16.DecideForward': WHATEVER THE INPUT: true; the input reads as it did. -/
def decideForwardSpec : ChangeSpec := { name := "decideForward", fn := fun _ => fun
  | [d1, d2, d3] => { results := [.lit (.bool true)], args := [d1, d2, d3] }
  | _ => none }
def decideForwardRow : OpenClaim := { program := "ytfhobglcploaoaadoor", sum := "ba75858fcb149af13f62993744436583c80539a6865cfc3843ed3c43ab0a50d5", func := "turnpike/turnpikelaw16.DecideForward", spec := "decideForward", unfollowed := true, recurses := true, named := ["turnpike/decide.statuses"], apart := false, laid := [("turnpike/decide.statuses", laid_turnpike_decide_statuses)] }
def DecideForwardSaid : Prop := decideForwardRow.holds Tryd.pinned (OpenSpec.ofChange decideForwardSpec)

/-- ITS FALSE NEIGHBOUR: 'it returns false'. Refute it at one input. -/
def decideForwardWrong : ChangeSpec := { name := "decideForward", fn := fun _ => fun
  | [d1, d2, d3] => { results := [.lit (.bool false)], args := [d1, d2, d3] }
  | _ => none }
def DecideForwardWrongFalsely : Prop := decideForwardRow.holds Tryd.pinned (OpenSpec.ofChange decideForwardWrong)

/-- 'turnpikelaw16.DecideDraws': WHATEVER THE INPUT: true; the input reads as it did. -/
def decideDrawsSpec : ChangeSpec := { name := "decideDraws", fn := fun _ => fun
  | [d1, d2, d3, d4] => { results := [.lit (.bool true)], args := [d1, d2, d3, d4] }
  | _ => none }
def decideDrawsRow : OpenClaim := { program := "ytfhobglcploaoaadoor", sum := "ba75858fcb149af13f62993744436583c80539a6865cfc3843ed3c43ab0a50d5", func := "turnpike/turnpikelaw16.DecideDraws", spec := "decideDraws", unfollowed := true, recurses := true, named := ["turnpike/decide.statuses"], apart := false, laid := [("turnpike/decide.statuses", laid_turnpike_decide_statuses)] }
def DecideDrawsSaid : Prop := decideDrawsRow.holds Tryd.pinned (OpenSpec.ofChange decideDrawsSpec)

/-- ITS FALSE NEIGHBOUR: 'it returns false'. Refute it at one input. -/
def decideDrawsWrong : ChangeSpec := { name := "decideDraws", fn := fun _ => fun
  | [d1, d2, d3, d4] => { results := [.lit (.bool false)], args := [d1, d2, d3, d4] }
  | _ => none }
def DecideDrawsWrongFalsely : Prop := decideDrawsRow.holds Tryd.pinned (OpenSpec.ofChange decideDrawsWrong)

/- THE SECOND FORM. 'bulk': how many values and letters a reading holds, each counted each time it is reached (what is shared counts as often as it is met; a slice's spare places count too). A statement '..UptoSaid' is the law's where the arguments, and the package variables that the reading takes, are together of bulk at most 1048576: NARROWER than '..Said'. Prove '..Said' where nothing that the law and all that it calls make is longer than what came in: it says more and counts as full. Else prove '..UptoSaid'. A law counts once. -/
mutual
def uptoBulk {H : Type} : DataW H → Nat
  | .lit (.string bytes) => bytes.length + 1
  | .lit _ => 1
  | .nil => 1
  | .ptr d => uptoBulk d + 1
  | .slice elems spare => uptoBulkAll elems + uptoBulkAll spare + 1
  | .agg parts => uptoBulkAll parts + 1
  | .iface _ d => uptoBulk d + 1
  | .map entries => uptoBulkEntries entries + 1
  | .held _ => 1
def uptoBulkAll {H : Type} : List (DataW H) → Nat
  | [] => 0
  | d :: r => uptoBulk d + uptoBulkAll r
def uptoBulkEntries {H : Type} : List (Lit × DataW H) → Nat
  | [] => 0
  | x :: r => uptoBulkEntry x + uptoBulkEntries r
def uptoBulkEntry {H : Type} : Lit × DataW H → Nat
  | (.string bytes, d) => bytes.length + uptoBulk d + 1
  | (_, d) => uptoBulk d + 1
 end
def uptoSmall : (H : Type) → List (DataW H) → Bool := fun _ ds => decide (uptoBulkAll ds ≤ 1048576)
def OpenSpec.upto (s : _root_.Go.ChangeSpec) : _root_.Go.OpenSpec := { _root_.Go.OpenSpec.ofChange s with cond := some uptoSmall }

/-- 'turnpikelaw16.DecideAnswers', WHERE WHAT IT READS IS OF BULK AT MOST 1048576: true; the input reads as it did. -/
def decideAnswersUptoRow : OpenClaim := { program := "ytfhobglcploaoaadoor", sum := "ba75858fcb149af13f62993744436583c80539a6865cfc3843ed3c43ab0a50d5", func := "turnpike/turnpikelaw16.DecideAnswers", spec := "decideAnswers", unfollowed := true, recurses := true, named := ["turnpike/decide.statuses"], apart := false, laid := [("turnpike/decide.statuses", laid_turnpike_decide_statuses)], narrowed := true }
def DecideAnswersUptoSaid : Prop := decideAnswersUptoRow.holds Tryd.pinned (OpenSpec.upto decideAnswersSpec)

/-- 'turnpikelaw16.DecideDenied', WHERE WHAT IT READS IS OF BULK AT MOST 1048576: true; the input reads as it did. -/
def decideDeniedUptoRow : OpenClaim := { program := "ytfhobglcploaoaadoor", sum := "ba75858fcb149af13f62993744436583c80539a6865cfc3843ed3c43ab0a50d5", func := "turnpike/turnpikelaw16.DecideDenied", spec := "decideDenied", unfollowed := true, recurses := true, named := ["turnpike/decide.statuses"], apart := false, laid := [("turnpike/decide.statuses", laid_turnpike_decide_statuses)], narrowed := true }
def DecideDeniedUptoSaid : Prop := decideDeniedUptoRow.holds Tryd.pinned (OpenSpec.upto decideDeniedSpec)

/-- 'turnpikelaw16.DecideForward', WHERE WHAT IT READS IS OF BULK AT MOST 1048576: true; the input reads as it did. -/
def decideForwardUptoRow : OpenClaim := { program := "ytfhobglcploaoaadoor", sum := "ba75858fcb149af13f62993744436583c80539a6865cfc3843ed3c43ab0a50d5", func := "turnpike/turnpikelaw16.DecideForward", spec := "decideForward", unfollowed := true, recurses := true, named := ["turnpike/decide.statuses"], apart := false, laid := [("turnpike/decide.statuses", laid_turnpike_decide_statuses)], narrowed := true }
def DecideForwardUptoSaid : Prop := decideForwardUptoRow.holds Tryd.pinned (OpenSpec.upto decideForwardSpec)

/-- 'turnpikelaw16.DecideDraws', WHERE WHAT IT READS IS OF BULK AT MOST 1048576: true; the input reads as it did. -/
def decideDrawsUptoRow : OpenClaim := { program := "ytfhobglcploaoaadoor", sum := "ba75858fcb149af13f62993744436583c80539a6865cfc3843ed3c43ab0a50d5", func := "turnpike/turnpikelaw16.DecideDraws", spec := "decideDraws", unfollowed := true, recurses := true, named := ["turnpike/decide.statuses"], apart := false, laid := [("turnpike/decide.statuses", laid_turnpike_decide_statuses)], narrowed := true }
def DecideDrawsUptoSaid : Prop := decideDrawsUptoRow.holds Tryd.pinned (OpenSpec.upto decideDrawsSpec)

end Rows
end Go.Proofs.YtfhobglcploaoaaDoor
