/- Below, Unit, alike. -/
import Derived.Test.YtfolfeaednmcoabBase
import Derived.Test.YtfolfeaednmcoabFlt3
import Derived.Deep.QuietTactic
import Derived.BigQuiet
import Derived.Deep.RegionHeld3
import Derived.Deep.RegionLaw
import Derived.Deep.DeepCutAuto
namespace Go.Proofs.Ytfolfeaednmcoab
open Go.RowKit Ieee
set_option linter.unusedVariables false
set_option linter.unusedSimpArgs false

theorem below_ok (W n : Int) (w : World) (h0 : 0 ≤ W) (h1 : W < 18446744073709551616) (hn : 1 ≤ n) (hn2 : n ≤ 9223372036854775807) : Calls Try.prog 7 #[.int .u64 W, .int .i64 n] w fun e w' => e = .returned (.tuple #[.int .i64 (W % n), .int .i64 0]) ∧ w' = w := by
  have a1 : 0 ≤ W % n := Int.emod_nonneg _ (by omega)
  have a2 : W % n < n := Int.emod_lt_of_pos _ (by omega)
  go_enter Try.func7, Try.ntmps7
  go_wp2
  go_ret2
  exact ⟨rfl, rfl⟩
theorem below_no (W n : Int) (w : World) (hn : n < 1) : Calls Try.prog 7 #[.int .u64 W, .int .i64 n] w fun e w' => e = .returned (.tuple #[.int .i64 0, .int .i64 2]) ∧ w' = w := by
  go_enter Try.func7, Try.ntmps7
  go_wp2
  go_ret2
  exact ⟨rfl, rfl⟩
theorem unit_any (m : Nat) (w : World) (h1 : m < 18446744073709551616) : Calls Try.prog 10 #[.int .u64 m] w fun e w' => e = .returned (.float .f64 (unit (m / 2048))) ∧ w' = w := by
  have hq : (binOp .quo 28 (.float .f64 (floatOfInt .f64 ((m : Int) / 2048))) (.float .f64 4845873199050653696)).run Try.prog w = .ok (.float .f64 (unit (m / 2048))) w :=
    run_float_arith w .quo 28 .f64 _ _ _ (by
      have := unit_quo (m := m / 2048) (by omega)
      exact this)
  go_enter Try.func10, Try.ntmps10
  go_wp2
  go_ret
  exact ⟨rfl, rfl⟩
theorem bits_run (x : Nat) (w : World) : (callFunc 18 #[.float .f64 x]).run Try.prog w = .ok (.value (.int .u64 x)) w := by
  rw [run_callFunc_extern (e := Extern.MathFloatBits.float64bits) Try.func18 (by kernel_rfl) (by kernel_rfl) (by kernel_rfl) (by kernel_rfl)]
  rfl
theorem alike_same (x : Nat) (w : World) : Calls Try.prog 14 #[.float .f64 x, .float .f64 x] w fun e w' => e = .returned (.bool true) ∧ ∃ q, w' = w.drewN q := by
  have hb := bits_run x
  go_enter Try.func14, Try.ntmps14
  go_wp2
  go_ret
  exact ⟨rfl, 0, by simp [World.drewN]⟩
end Go.Proofs.Ytfolfeaednmcoab
