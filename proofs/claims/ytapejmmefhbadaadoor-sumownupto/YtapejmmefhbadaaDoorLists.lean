/-
  Lists of slices of bytes.
-/
import Derived.Test.YtapejmmefhbadaaDoorScan
namespace Go.Proofs.YtapejmmefhbadaaDoor
open Go.RowKit
set_option linter.unusedVariables false

/-- A slice of bytes, with what it holds. -/
structure Sl where
  a : Option Addr
  n : Nat
  cap : Nat
  zs : List Int
abbrev Sl.val (s : Sl) : Value := .slice s.a s.n s.cap
/-- A slice of such slices. -/
def LL (w : World) (a : Option Addr) (ss : List Sl) : Prop :=
  (∀ s ∈ ss, Bs w s.a s.n s.cap s.zs) ∧ (ss = [] ∨ ∃ b off, a = some ⟨b, off, none⟩ ∧ ∀ (i : Nat) (s : Sl), ss[i]? = some s → w.cell? ⟨b, off + i, none⟩ = some s.val)

theorem LL.below {w w' : World} {a : Option Addr} {ss : List Sl} (h : LL w a ss) (hb : Below w.heap.size w w') : LL w' a ss := by
  refine ⟨fun s hs => (h.1 s hs).below hb, ?_⟩
  rcases h.2 with h | ⟨b, off, rfl, e⟩
  · exact .inl h
  · refine .inr ⟨b, off, rfl, fun i s hi => ?_⟩
    have := e i s hi
    exact (hb.cell (p := ⟨b, off + i, none⟩) (by have := World.block_lt_of_cell? w _ this; simpa using this)).trans this
/-- What Scan tells, as such a list. -/
def tl (x : Told) : Sl := ⟨some ⟨x.g, 0, none⟩, x.ps.length, x.ps.length, x.ps⟩
theorem LL.scanned {w : World} {base : Nat} {v : Value} {xs : List Told} (h : w.ownsRow base 24 1 v xs.length (xs.map slv)) (hx : ∀ x ∈ xs, Lies base x w) (ho : ∀ x ∈ xs, Octets x.ps ∧ x.ps.length ≤ 131072) :
    ∃ a cp, v = .slice a xs.length cp ∧ LL w a (xs.map tl) := by
  have hall : ∀ s ∈ xs.map tl, Bs w s.a s.n s.cap s.zs := by
    intro s hs
    obtain ⟨x, hxm, rfl⟩ := List.mem_map.1 hs
    have o := ho x hxm
    exact ⟨rfl, Has.of_block (hx x hxm).2, o.1, (fun h => by cases h), Nat.le_refl _, by show x.ps.length ≤ maxLen; unfold maxLen; omega, by show x.ps.length ≤ _; omega⟩
  rcases h.2 with ⟨rfl, h0⟩ | ⟨g, cp, cur, rfl, _⟩
  · have : xs = [] := List.length_eq_zero_iff.1 h0
    subst this
    exact ⟨none, 0, rfl, hall, .inl rfl⟩
  · refine ⟨_, cp, rfl, hall, .inr ⟨g, 0, rfl, fun i s hi => ?_⟩⟩
    have hil : i < xs.length := by have := (List.getElem?_eq_some_iff.1 hi).1; simpa using this
    rw [Nat.zero_add, h.cellAt i (by omega)]
    simp only [List.getElem?_map, Option.map_eq_some_iff] at hi ⊢
    obtain ⟨x, hx1, rfl⟩ := hi
    exact ⟨x, hx1, rfl⟩

end Go.Proofs.YtapejmmefhbadaaDoor
