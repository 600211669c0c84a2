/-
  PathsPatterns: the walk.
-/
import Derived.Test.YtfhobglcploaoaaDoorKPf
namespace Go.Proofs.YtfhobglcploaoaaDoor.Kk
open Go.RowKit
set_option linter.unusedVariables false
set_option linter.unusedSimpArgs false
set_option maxRecDepth 100000
theorem at_below {f : Nat} {args : Array Value} {w : World} {b : Bool} (h : Calls Tryd.prog f args w fun e w' => e = .returned (.bool b) ∧ w' = w) : Calls Tryd.prog f args w fun e w' => e = .returned (.bool b) ∧ Below w.heap.size w w' :=
  h.mono fun e w' ⟨h1, h2⟩ => ⟨h1, by rw [h2]; exact Below.refl _ _⟩
theorem below_two {w w1 w2 : World} (h : Below w.heap.size w w1) (h2 : Below w1.heap.size w1 w2) : Below w.heap.size w w2 := h.trans (h2.mono h.size)
end Go.Proofs.YtfhobglcploaoaaDoor.Kk
