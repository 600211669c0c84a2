/-
  subtree: the walker goes through a part.
-/
import Derived.Test.YtgododijnogegaaSub
import Derived.BigQuiet
namespace Go.Proofs.Ytgododijnogegaa
open Go.RowKit
set_option linter.unusedVariables false
set_option linter.unusedSimpArgs false
set_option maxRecDepth 100000
set_option maxHeartbeats 1000000 in
theorem sub_out (w : World) (p : Nat) (a : Option Addr) (n cap : Nat) (l : List Nx) (q dp d : Nat) (h : Wk w p a n cap l q dp) (hd : d ≤ 17) (ho : q = n ∨ d = 17) :
    Calls Try.prog 31 #[.pointer (some ⟨p, 0, none⟩), .int .i64 d] w fun e w' => e = .returned (.bool false) ∧ ∃ m, w' = w.drewN m := by
  obtain ⟨c0, c1, c2⟩ := h.cells
  have hq := h.q
  have hn := h.small
  clear h
  by_cases hqn : q = n
  · subst hqn
    have hd17 : decide ((16 : Int) < 17) = true := by decide
    have hW : Hid (∀ W : World, Calls Try.prog 27 #[.slice a q cap, .int .i64 q] W fun e w' => e = .returned (.bool false) ∧ w' = W) := fun m => (within_any _ a q cap q).mono fun e w' ⟨he, hw⟩ => ⟨by rw [he]; simp, hw⟩
    go_enter Try.func31, Try.ntmps31
    go_wp2_with fail
    go_quiet (exact (hW.out _).mono fun e w' ⟨he, hw⟩ => ⟨he, _, hw⟩)
    go_wp2
    go_ret
    exact ⟨rfl, nq, rfl⟩
  · obtain rfl : d = 17 := ho.resolve_left hqn
    have hd17 : decide ((16 : Int) < 17) = true := by decide
    have hW : Hid (∀ W : World, Calls Try.prog 27 #[.slice a n cap, .int .i64 q] W fun e w' => e = .returned (.bool true) ∧ w' = W) := fun m => (within_any _ a n cap q).mono fun e w' ⟨he, hw⟩ => ⟨by rw [he]; simp; omega, hw⟩
    go_enter Try.func31, Try.ntmps31
    go_wp2_with fail
    go_quiet (exact (hW.out _).mono fun e w' ⟨he, hw⟩ => ⟨he, _, hw⟩)
    go_wp2
    go_ret
    exact ⟨rfl, nq, rfl⟩
end Go.Proofs.Ytgododijnogegaa
