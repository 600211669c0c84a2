/-
  isNode: whether a node, looked at by itself, may be in a tree; ints: two lists of numbers.
-/
import Derived.Test.YtgododijnogegaaNd
namespace Go.Proofs.Ytgododijnogegaa
open Go.RowKit
set_option linter.unusedVariables false
set_option linter.unusedSimpArgs false
set_option maxRecDepth 100000
/-- what isNode answers -/
def isN (o : Nx) : Bool := if o.kd = 1 then decide (0 ≤ o.ln) && decide (o.n = 0) else if o.kd = 2 ∨ o.kd = 3 then decide (0 ≤ o.ln) && decide (0 < o.n) && decide (o.tx = ByteArray.empty) && !o.quo else false
set_option maxHeartbeats 2000000 in
theorem isNode_any (w : World) (o : Nx) :
    Calls Try.prog 41 #[.agg o.row.toArray] w fun e w' => e = .returned (.bool (isN o)) ∧ Below w.heap.size w w' := by
  obtain ⟨kd, key, tx, quo, ln, a, n, cap, ks⟩ := o
  show Calls Try.prog 41 #[.agg #[.int .i64 kd, .string key, .string tx, .bool quo, .int .i64 ln, .slice a n cap]] w _
  go_enter Try.func41, Try.ntmps41
  by_cases h1 : kd = 1
  · subst h1
    by_cases h2 : 0 ≤ ln
    · have g2 := h2
      go_wp2
      go_ret
      refine ⟨?_, (Below.refl _ _).alloc (Nat.le_refl _) _⟩
      by_cases h3 : n = 0
      · subst h3; simp [isN, g2]
      · have h3' : ((n : Int) == 0) = false := by rw [beq_eq_false_iff_ne]; omega
        simp [isN, g2, h3, h3']
    · have g2 : decide (0 ≤ ln) = false := by simp; omega
      have G := hideL g2
      clear g2
      go_wp2
      go_ret
      exact ⟨by simp [isN, G.out], (Below.refl _ _).alloc (Nat.le_refl _) _⟩
  · by_cases h23 : kd = 2 ∨ kd = 3
    · have g1 := h1
      have g23 := h23
      rcases h23 with h23 | h23
      all_goals
        subst h23
        by_cases h2 : 0 ≤ ln
        · have g2 := h2
          by_cases h3 : 0 < n
          · have g3 := h3
            have h3' : (0 : Int) < n := by omega
            by_cases h4 : tx = ByteArray.empty
            · subst h4
              cases quo
              · go_wp2
                go_ret
                exact ⟨by simp [isN, g2, g3], (Below.refl _ _).alloc (Nat.le_refl _) _⟩
              · go_wp2
                go_ret
                exact ⟨by simp [isN, g2, g3], (Below.refl _ _).alloc (Nat.le_refl _) _⟩
            · have g4 := h4
              have h4' : tx.toList.isEmpty = false := by
                rw [Bool.eq_false_iff]
                intro hh
                have := ba_ne h4
                rw [List.isEmpty_iff.1 hh] at this
                simp [ByteArray.toList_eq] at this
              go_wp2
              go_ret
              exact ⟨by simp [isN, g2, g3, g4], (Below.refl _ _).alloc (Nat.le_refl _) _⟩
          · have g3 := h3
            have h3' : ¬ (0 : Int) < n := by omega
            go_wp2
            go_ret
            exact ⟨by simp [isN, g2, g3], (Below.refl _ _).alloc (Nat.le_refl _) _⟩
        · have g2 : decide (0 ≤ ln) = false := by simp; omega
          have G := hideL g2
          clear g2
          go_wp2
          go_ret
          exact ⟨by simp [isN, G.out], (Below.refl _ _).alloc (Nat.le_refl _) _⟩
    · have g1 := h1
      have h2 : ¬ kd = 2 := fun h => h23 (.inl h)
      have h3 : ¬ kd = 3 := fun h => h23 (.inr h)
      have k2 := h2
      have k3 := h3
      clear h23
      go_wp2
      go_ret
      exact ⟨by simp [isN, g1, k2, k3], (Below.refl _ _).alloc (Nat.le_refl _) _⟩
end Go.Proofs.Ytgododijnogegaa
