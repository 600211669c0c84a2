/-
  NetOrder, of whatever world.
-/
import Derived.Test.YtcbnmoppnoiggaaOrder
namespace Go.Proofs.Ytcbnmoppnoiggaa
open Go.RowKit
theorem order_any (Wo : World) (a : Option Addr) (n cap : Nat) (ls : List Cl) (h : ls.length = n ∧ LC Wo a ls ∧ sumN ls + n ≤ 1048576 ∧ ∀ s ∈ ls, s.nm.size ≤ maxLen ∧ (Lit.int .i64 s.nn).wf = true) :
    Calls Try.prog 4 #[.slice a n cap] Wo fun e w' => e = .returned (.bool true) ∧ Below Wo.heap.size Wo w' :=
  order_at Wo _ rfl a n cap ls h.1 h.2.1 (by have := h.2.2.1; omega) (by have := h.2.2.1; omega)
end Go.Proofs.Ytcbnmoppnoiggaa
