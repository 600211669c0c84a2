/-
  A reading, while other blocks turn.
-/
import Derived.Test.YtgododijnogegaaPl
namespace Go.Proofs.Ytgododijnogegaa
open Go.RowKit
set_option linter.unusedVariables false
/-- its own block and the tokens' stay: so does the reading -/
theorem Rg.keep {w w' : World} {rp : Nat} {a : Option Addr} {n cap : Nat} {L : List Tk} {q : Nat} {line err : Int} {made : Nat} (h : Rg w rp a n cap L q line err made) (h1 : w'.heap[rp]? = w.heap[rp]?) (h2 : ∀ x, a = some x → L ≠ [] → w'.heap[x.block]? = w.heap[x.block]?) : Rg w' rp a n cap L q line err made :=
  { h with blk := h1.trans h.blk, ts := h.ts.keep h2 }
end Go.Proofs.Ytgododijnogegaa
