/-
  The walk of DecideSteps.
-/
import Derived.Test.YtfhobglcploaoaaDoorDc
import Derived.Deep.RegionHeld3
namespace Go.Proofs.YtfhobglcploaoaaDoor
open Go.RowKit
set_option linter.unusedVariables false
set_option linter.unusedSimpArgs false
set_option maxRecDepth 100000
/-- a request -/
structure Rq where
  me : ByteArray
  ho : ByteArray
  pa : ByteArray
  u : Nat
  n : Int
  a : Int
  b : Int
theorem seven_cells {W : World} {b : Nat} {x0 x1 x2 x3 x4 x5 x6 : Value} {t : TypeId} (h : W.heap[b]? = some (.cells #[x0, x1, x2, x3, x4, x5, x6] t (0, 0))) : W.cell? ⟨b, 0, none⟩ = some x0 ∧ W.cell? ⟨b, 1, none⟩ = some x1 ∧ W.cell? ⟨b, 2, none⟩ = some x2 ∧ W.cell? ⟨b, 3, none⟩ = some x3 ∧ W.cell? ⟨b, 4, none⟩ = some x4 ∧ W.cell? ⟨b, 5, none⟩ = some x5 ∧ W.cell? ⟨b, 6, none⟩ = some x6 := by
  refine ⟨?_, ?_, ?_, ?_, ?_, ?_, ?_⟩ <;> (rw [cell_block h]; rfl)
end Go.Proofs.YtfhobglcploaoaaDoor
