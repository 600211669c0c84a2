/-
  A list of calls in memory.
-/
import Derived.Test.YtcbnmoppnoiggaaBase
namespace Go.Proofs.Ytcbnmoppnoiggaa
open Go.RowKit
set_option linter.unusedVariables false
set_option linter.unusedSimpArgs false
structure Cl where
  kd : Int
  nm : ByteArray
  cn : Int
  sd : Int
  nn : Int
  d : Sl
def Cl.cells (c : Cl) : Array Value := #[.int .i64 c.kd, .string c.nm, .int .i64 c.cn, .int .i64 c.sd, .int .i64 c.nn, c.d.val]
/-- A list of calls that came in. -/
structure LC (W : World) (a : Option Addr) (ls : List Cl) : Prop where
  bs : ∀ c ∈ ls, Bs W c.d.a c.d.n c.d.cap c.d.zs
  at_ : ls = [] ∨ ∃ bl ol, a = some ⟨bl, ol, none⟩ ∧ ∀ (i : Nat) c, ls[i]? = some c → ∀ (j : Nat) v, c.cells[j]? = some v → W.cell? ⟨bl, ol + i * 6 + j, none⟩ = some v
def sumN (ls : List Cl) : Nat := (ls.map fun c => c.d.n).sum
theorem sumN_take {ls : List Cl} {i : Nat} {c : Cl} (h : ls[i]? = some c) : sumN (ls.take (i + 1)) = sumN (ls.take i) + c.d.n := by
  rw [List.take_add_one, h]
  simp [sumN]
theorem sumN_le (ls : List Cl) : ∀ i, sumN (ls.take i) ≤ sumN ls := fun i => by
  have : sumN ls = sumN (ls.take i) + sumN (ls.drop i) := by
    unfold sumN
    rw [← List.sum_append, ← List.map_append, List.take_append_drop]
  omega
end Go.Proofs.Ytcbnmoppnoiggaa
