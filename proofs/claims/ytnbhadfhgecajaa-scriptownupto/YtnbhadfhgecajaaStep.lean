/-
  Steps, and the contracts of within, Carries, mayBe.
-/
import Derived.Test.YtnbhadfhgecajaaBase
namespace Go.Proofs.Ytnbhadfhgecajaa
open Go.RowKit
set_option linter.unusedVariables false

/-- A step, its data a slice. -/
structure St where
  op : Int
  x : Int
  y : Int
  d : Sl
abbrev St.cells (s : St) : Array Value := #[.int .i64 s.op, .int .i64 s.x, .int .i64 s.y, s.d.val]
def Fits64 (n : Int) : Prop := -9223372036854775808 ≤ n ∧ n ≤ 9223372036854775807
def carries (op : Int) : Prop := op = 3 ∨ op = 5 ∨ op = 10 ∨ op = 11 ∨ op = 13
instance (op : Int) : Decidable (carries op) := by unfold carries; infer_instance
/-- A step that may be. -/
def MayBe (s : St) : Prop := (0 ≤ s.op ∧ s.op ≤ 15) ∧ (0 ≤ s.x ∧ s.x ≤ 255) ∧ (0 ≤ s.y ∧ s.y ≤ 255) ∧ (if carries s.op then s.d.n ≤ 65535 else s.d.n = 0)
instance (s : St) : Decidable (MayBe s) := by unfold MayBe; infer_instance

set_option maxHeartbeats 400000 in
theorem within_yes (n m : Int) (w : World) (h0 : 0 ≤ n) (h1 : n ≤ m) :
    Calls Try.prog 29 #[.int .i64 n, .int .i64 m] w fun e w' => e = .returned (.bool true) ∧ w' = w := by
  go_enter Try.func29, Try.ntmps29
  go_wp2
  go_ret
  exact ⟨rfl, rfl⟩
set_option maxHeartbeats 400000 in
theorem within_no (n m : Int) (w : World) (h : ¬ (0 ≤ n ∧ n ≤ m)) :
    Calls Try.prog 29 #[.int .i64 n, .int .i64 m] w fun e w' => e = .returned (.bool false) ∧ w' = w := by
  by_cases h0 : 0 ≤ n
  · have h1 : ¬ n ≤ m := fun h1 => h ⟨h0, h1⟩
    clear h
    go_enter Try.func29, Try.ntmps29
    go_wp2
    go_ret
    exact ⟨rfl, rfl⟩
  · clear h
    go_enter Try.func29, Try.ntmps29
    go_wp2
    go_ret
    exact ⟨rfl, rfl⟩
set_option maxHeartbeats 400000 in
theorem carries_yes (n : Int) (w : World) (h : carries n) :
    Calls Try.prog 16 #[.int .i64 n] w fun e w' => e = .returned (.bool true) ∧ w' = w := by
  rcases h with rfl | rfl | rfl | rfl | rfl
  all_goals
    go_enter Try.func16, Try.ntmps16
    go_wp2
    go_ret
    exact ⟨rfl, rfl⟩
set_option maxHeartbeats 400000 in
theorem carries_no (n : Int) (w : World) (h : ¬ carries n) :
    Calls Try.prog 16 #[.int .i64 n] w fun e w' => e = .returned (.bool false) ∧ w' = w := by
  simp only [carries, not_or] at h
  obtain ⟨h1, h2, h3, h4, h5⟩ := h
  go_enter Try.func16, Try.ntmps16
  go_wp2
  go_ret
  exact ⟨rfl, rfl⟩
set_option maxHeartbeats 400000 in
theorem rcarries_yes (n : Int) (w : World) (h : carries n) :
    Calls Try.prog 17 #[.int .i64 n] w fun e w' => e = .returned (.bool true) ∧ w' = w := by
  rcases h with rfl | rfl | rfl | rfl | rfl
  all_goals
    go_enter Try.func17, Try.ntmps17
    go_wp2
    go_ret
    exact ⟨rfl, rfl⟩
set_option maxHeartbeats 400000 in
theorem rcarries_no (n : Int) (w : World) (h : ¬ carries n) :
    Calls Try.prog 17 #[.int .i64 n] w fun e w' => e = .returned (.bool false) ∧ w' = w := by
  simp only [carries, not_or] at h
  obtain ⟨h1, h2, h3, h4, h5⟩ := h
  go_enter Try.func17, Try.ntmps17
  go_wp2
  go_ret
  exact ⟨by simp [h1, h2, h3, h4, h5], rfl⟩
theorem ret_bool {p q : Bool} (h : p = q) : Ending.returned (.bool p) = .returned (.bool q) := by rw [h]

set_option maxHeartbeats 1000000 in
theorem maybe_yes (s : St) (w : World) (h : MayBe s) (hn : s.d.n ≤ 140737488355328) :
    Calls Try.prog 28 #[.agg s.cells] w fun e w' => e = .returned (.bool true) ∧ Below w.heap.size w w' := by
  obtain ⟨op, x, y, a, n, cap, zs⟩ := s
  obtain ⟨⟨h0, h1⟩, ⟨h2, h3⟩, ⟨h4, h5⟩, h6⟩ := h
  dsimp only at h0 h1 h2 h3 h4 h5 h6 hn
  have B : Hid (Below w.heap.size w (w.alloc (.cells #[.int .i64 op, .int .i64 x, .int .i64 y, .slice a n cap] 32))) := (Below.refl _ _).alloc (Nat.le_refl _) _
  go_enter Try.func28, Try.ntmps28
  go_wp2_with fail
  refine (within_yes op 15 _ h0 h1).mono ?_
  rintro e w1 ⟨rfl, hw1⟩
  subst hw1
  go_wp2_with fail
  refine (within_yes x 255 _ h2 h3).mono ?_
  rintro e w1 ⟨rfl, hw1⟩
  subst hw1
  go_wp2_with fail
  refine (within_yes y 255 _ h4 h5).mono ?_
  rintro e w1 ⟨rfl, hw1⟩
  subst hw1
  go_wp2_with fail
  by_cases hc : carries op
  · rw [if_pos hc] at h6
    refine (carries_yes op _ hc).mono ?_
    rintro e w1 ⟨rfl, hw1⟩
    subst hw1
    clear hc
    go_wp2
    go_ret
    exact ⟨ret_bool (decide_eq_true (by omega)), B.out⟩
  · rw [if_neg hc] at h6
    refine (carries_no op _ hc).mono ?_
    rintro e w1 ⟨rfl, hw1⟩
    subst hw1 h6
    clear hc
    go_wp2
    go_ret
    exact ⟨rfl, B.out⟩

set_option maxHeartbeats 1000000 in
theorem maybe_no (s : St) (w : World) (h : ¬ MayBe s) (hn : s.d.n ≤ 140737488355328) :
    Calls Try.prog 28 #[.agg s.cells] w fun e w' => e = .returned (.bool false) ∧ Below w.heap.size w w' := by
  obtain ⟨op, x, y, a, n, cap, zs⟩ := s
  unfold MayBe at h
  dsimp only at h hn
  have B : Hid (Below w.heap.size w (w.alloc (.cells #[.int .i64 op, .int .i64 x, .int .i64 y, .slice a n cap] 32))) := (Below.refl _ _).alloc (Nat.le_refl _) _
  by_cases ho : 0 ≤ op ∧ op ≤ 15
  · by_cases hx : 0 ≤ x ∧ x ≤ 255
    · by_cases hy : 0 ≤ y ∧ y ≤ 255
      · have h6 : ¬ (if carries op then n ≤ 65535 else n = 0) := fun h6 => h ⟨ho, hx, hy, h6⟩
        clear h
        go_enter Try.func28, Try.ntmps28
        go_wp2_with fail
        refine (within_yes op 15 _ ho.1 ho.2).mono ?_
        rintro e w1 ⟨rfl, hw1⟩
        subst hw1
        go_wp2_with fail
        refine (within_yes x 255 _ hx.1 hx.2).mono ?_
        rintro e w1 ⟨rfl, hw1⟩
        subst hw1
        go_wp2_with fail
        refine (within_yes y 255 _ hy.1 hy.2).mono ?_
        rintro e w1 ⟨rfl, hw1⟩
        subst hw1
        go_wp2_with fail
        by_cases hc : carries op
        · rw [if_pos hc] at h6
          refine (carries_yes op _ hc).mono ?_
          rintro e w1 ⟨rfl, hw1⟩
          subst hw1
          clear hc
          go_wp2
          go_ret
          exact ⟨ret_bool (decide_eq_false (by omega)), B.out⟩
        · rw [if_neg hc] at h6
          refine (carries_no op _ hc).mono ?_
          rintro e w1 ⟨rfl, hw1⟩
          subst hw1
          clear hc
          go_wp2
          go_ret
          exact ⟨ret_bool (beq_eq_false_iff_ne.2 (by omega)), B.out⟩
      · clear h
        go_enter Try.func28, Try.ntmps28
        go_wp2_with fail
        refine (within_yes op 15 _ ho.1 ho.2).mono ?_
        rintro e w1 ⟨rfl, hw1⟩
        subst hw1
        go_wp2_with fail
        refine (within_yes x 255 _ hx.1 hx.2).mono ?_
        rintro e w1 ⟨rfl, hw1⟩
        subst hw1
        go_wp2_with fail
        refine (within_no y 255 _ hy).mono ?_
        rintro e w1 ⟨rfl, hw1⟩
        subst hw1
        go_wp2
        go_ret
        exact ⟨rfl, B.out⟩
    · clear h
      go_enter Try.func28, Try.ntmps28
      go_wp2_with fail
      refine (within_yes op 15 _ ho.1 ho.2).mono ?_
      rintro e w1 ⟨rfl, hw1⟩
      subst hw1
      go_wp2_with fail
      refine (within_no x 255 _ hx).mono ?_
      rintro e w1 ⟨rfl, hw1⟩
      subst hw1
      go_wp2
      go_ret
      exact ⟨rfl, B.out⟩
  · clear h
    go_enter Try.func28, Try.ntmps28
    go_wp2_with fail
    refine (within_no op 15 _ ho).mono ?_
    rintro e w1 ⟨rfl, hw1⟩
    subst hw1
    go_wp2
    go_ret
    exact ⟨rfl, B.out⟩
end Go.Proofs.Ytnbhadfhgecajaa
