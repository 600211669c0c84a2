/-
  What the rows' frames share: texts that came in, opened.
-/
import Derived.Test.YtplbdnndpgfljaaBase
import Derived.ProofKit
import Derived.ChangeOld
import Derived.JoinedCond
import Derived.Lib.SmallJoins
import Derived.ChangeMaps5
import Derived.SizedLaws
namespace Go.Proofs.Ytplbdnndpgfljaa
open Go.ChangeShapes Go.WideShapes Go.ChangeAt Go.RowKit
set_option linter.unusedVariables false
set_option linter.unusedSimpArgs false
theorem own : ownKnob Try.prog.godebug = none := by kernel_rfl
theorem laidOut : laidOutB Try.prog = true := by kernel_rfl
theorem str_list (s : ByteArray) : s = ⟨s.data.toList.toArray⟩ := by cases s; rfl
theorem str_len {s : ByteArray} (h : s.size ≤ 140737488355328) : s.data.toList.length ≤ 2 ^ 62 := by
  have : s.data.toList.length = s.size := by cases s; rfl
  omega
theorem str_len1 {s : ByteArray} (h : s.size ≤ 140737488355328) : s.data.toList.length ≤ 2 ^ 61 := by
  have : s.data.toList.length = s.size := by cases s; rfl
  omega
end Go.Proofs.Ytplbdnndpgfljaa
