/-
  The reals of M and k.
-/
import Derived.Test.YthfmepnlbaifcaaFlt3
namespace Go.Proofs.Ythfmepnlbaifcaa
open Ieee
set_option linter.unusedVariables false
abbrev TEN : Nat := 4621819117588971520
/-- 10^k as it is made: step by step -/
def fpow : Nat → Nat
  | 0 => ONE
  | k + 1 => (floatBits .mul .f64 (fpow k) TEN).getD 0
theorem fpow_step : ∀ k, k < 22 → floatBits .mul .f64 (fpow k) TEN = some (fpow (k + 1)) := by decide +kernel
theorem fpow_rg : ∀ k, k < 23 → rg (fpow k) < INF ∧ 0 < rg (fpow k) ∧ ng (fpow k) = false := by decide +kernel
theorem fpow_read {k : Nat} (h : k ≤ 22) : ∃ n j, double.read (fpow k) = .number false n j ∧ n ≠ 0 := by
  obtain ⟨h1, h2, h3⟩ := fpow_rg k (by omega)
  obtain ⟨m, p, hr, hp, hv⟩ := read_fin _ h1
  refine ⟨m, p, by rw [hr, h3], ?_⟩
  rintro rfl
  have := V_pos h2
  omega
theorem ofInt_read (m : Nat) : (∃ n j, double.read (floatOfInt .f64 (m : Int)) = .number false n j) ∨ double.read (floatOfInt .f64 (m : Int)) = .infinity false := by
  rw [ofInt_R]
  have hle := R_le (m * pw 1074)
  generalize R (m * pw 1074) = r at *
  obtain ⟨h1, h2⟩ := rg_lt hle
  rcases Nat.lt_or_ge r INF with h | h
  · obtain ⟨m, p, hr, _⟩ := read_fin r (by omega)
    exact .inl ⟨m, p, by rw [hr, h2]⟩
  · right
    rw [read_infy r (by omega), h2]
/-- the real of M and k -/
def scF (m : Nat) (k : Int) : Nat := if k < 0 then (floatBits .quo .f64 (floatOfInt .f64 (m : Int)) (fpow k.natAbs)).getD 0 else (floatBits .mul .f64 (floatOfInt .f64 (m : Int)) (fpow k.natAbs)).getD 0
theorem scF_mul (m : Nat) {k : Nat} (h : k ≤ 22) : floatBits .mul .f64 (floatOfInt .f64 (m : Int)) (fpow k) = some (scF m k) := by
  have : ∃ r, floatBits .mul .f64 (floatOfInt .f64 (m : Int)) (fpow k) = some r := by
    obtain ⟨n, j, hr, hn⟩ := fpow_read h
    show ∃ r, double.mul _ _ = some r
    unfold Format.mul
    rw [hr]
    rcases ofInt_read m with ⟨a, b, e⟩ | e
    · rw [e]; exact ⟨_, rfl⟩
    · rw [e]; simp [Datum.product, hn]
  obtain ⟨r, hr⟩ := this
  rw [hr, scF, if_neg (by omega), show ((k : Int)).natAbs = k by omega, hr]
  rfl
theorem scF_quo (m : Nat) {k : Nat} (h : k ≤ 22) (h0 : 0 < k) : floatBits .quo .f64 (floatOfInt .f64 (m : Int)) (fpow k) = some (scF m (-(k : Int))) := by
  have : ∃ r, floatBits .quo .f64 (floatOfInt .f64 (m : Int)) (fpow k) = some r := by
    obtain ⟨n, j, hr, hn⟩ := fpow_read h
    show ∃ r, double.div _ _ = some r
    unfold Format.div
    rw [hr]
    rcases ofInt_read m with ⟨a, b, e⟩ | e
    · rw [e]; simp [Datum.quotient, hn]
    · rw [e]; exact ⟨_, rfl⟩
  obtain ⟨r, hr⟩ := this
  rw [hr, scF, if_pos (by omega), show (-(k : Int)).natAbs = k by omega, hr]
  rfl

end Go.Proofs.Ythfmepnlbaifcaa
