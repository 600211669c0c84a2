/- DrawNumbers' walk. -/
import Derived.Test.YtfolfeaednmcoaaNum
namespace Go.Proofs.Ytfolfeaednmcoaa
open Go.RowKit Ieee
set_option linter.unusedVariables false
set_option linter.unusedSimpArgs false
theorem below_any (W n : Int) (w : World) (h0 : 0 ≤ W) (h1 : W < 18446744073709551616) (hn2 : n ≤ 9223372036854775807) : ∃ k e : Int,
   (Calls Try.prog 9 #[.int .u64 W, .int .i64 n] w fun x w' => x = .returned (.tuple #[.int .i64 k, .int .i64 e]) ∧ w' = w) ∧ (Calls Try.prog 10 #[.int .u64 W, .int .i64 n] w fun x w' => x = .returned (.tuple #[.int .i64 k, .int .i64 e]) ∧ w' = w) := by
  by_cases h : 1 ≤ n
  · exact ⟨_, _, below_ok W n w h0 h1 h hn2, rbelow_ok W n w h0 h1 h hn2⟩
  · exact ⟨_, _, below_no W n w (by omega), rbelow_no W n w (by omega)⟩
theorem numbers_any (m : Nat) (n : Int) (w : World) (h1 : m < 18446744073709551616) (hn2 : n ≤ 9223372036854775807) : Calls Try.prog 3 #[.int .u64 m, .int .i64 n] w fun x w' => x = .returned (.bool true) ∧ Below w.heap.size w w' := by
  obtain ⟨k, e, hA, hB⟩ := below_any m n w (by omega) (by omega) hn2
  go_enter Try.func3, Try.ntmps3
  go_wp2_with fail
  refine hA.mono ?_
  rintro x w1 ⟨rfl, rfl⟩
  go_wp2_with fail
  refine hB.mono ?_
  rintro x w1 ⟨rfl, rfl⟩
  go_wp2_with fail
  refine (unit_any m w1 h1).mono ?_
  obtain ⟨u, hu⟩ : ∃ u, unit (m / 2048) = u := ⟨_, rfl⟩
  have hr := runit_any m w1 h1
  rw [hu] at hr ⊢
  clear hu hA hB
  rintro x w2 ⟨rfl, rfl⟩
  go_wp2_with fail
  refine hr.mono ?_
  rintro x w3 ⟨rfl, rfl⟩
  go_wp2_with fail
  refine (alike_same u w3).mono ?_
  rintro x w4 ⟨rfl, q, rfl⟩
  go_wp2_with fail
  go_ret
  exact ⟨rfl, below_drewN (Below.refl _ _) q⟩
theorem numbers_walk (a n : Int) (w : World) (h : 0 ≤ a ∧ a ≤ 18446744073709551615) (hn : -9223372036854775808 ≤ n ∧ n ≤ 9223372036854775807) : Calls Try.prog 3 #[.int .u64 a, .int .i64 n] w fun x w' => x = .returned (.bool true) ∧ Below w.heap.size w w' := by
  obtain ⟨m, rfl⟩ := Int.eq_ofNat_of_zero_le h.1
  exact numbers_any m n w (by omega) hn.2
end Go.Proofs.Ytfolfeaednmcoaa
