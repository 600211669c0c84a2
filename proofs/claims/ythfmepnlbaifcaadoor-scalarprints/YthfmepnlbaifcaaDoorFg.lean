/-
  What is unscaled again is near M.
-/
import Derived.Test.YthfmepnlbaifcaaDoorFf
namespace Go.Proofs.YthfmepnlbaifcaaDoor
open Ieee
set_option linter.unusedVariables false
theorem un_downA {M j : Nat} (h1 : 1 ≤ M) (h2 : M < 1000000000000000) (hj : j ≤ 22) (hj0 : 0 < j) : ∃ N N', double.mul (scF M (-(j : Int))) (fpow j) = some (R N') ∧ N' = V (scF M (-(j : Int))) * 10 ^ j ∧ 2 ^ 53 * (N * 10 ^ j) ≤ (2 ^ 53 + 1) * (M * pw 1074) ∧ (2 ^ 53 - 1) * (M * pw 1074) ≤ 2 ^ 53 * (N * 10 ^ j) ∧ 2 ^ 53 * V (scF M (-(j : Int))) ≤ (2 ^ 53 + 1) * N ∧ (2 ^ 53 - 1) * N ≤ 2 ^ 53 * V (scF M (-(j : Int))) := by
  obtain ⟨vf, vb⟩ := scF_fin (k := -(j : Int)) h1 h2 (by omega) (by omega)
  have bv : pw 900 ≤ V (scF M (-(j : Int))) := Nat.le_trans (pw_mono (by decide)) vb
  obtain ⟨_, _, N, a1, a2, a3, a4⟩ := down_near (M := M) h1 h2 hj hj0
  obtain ⟨b1, b2⟩ := fpow_v hj
  have T := (ten_le hj).1
  obtain ⟨N', hm, hN⟩ := mul_near vf b1 bv (by rw [b2]; exact Nat.le_trans (pw_mono (by decide)) (pw_le_mul T))
  have hN2 : N' = V (scF M (-(j : Int))) * 10 ^ j := by
    rw [b2, ← Nat.mul_assoc] at hN
    exact Nat.eq_of_mul_eq_mul_right (pw_pos 1074) hN
  exact ⟨N, N', hm, hN2, a1, a2, a3, a4⟩
theorem chain_a {c d n v X : Nat} (h1 : c * n ≤ d * v) (h2 : c * v ≤ d * X) : c * (c * n) ≤ d * (d * X) := by
  refine Nat.le_trans (Nat.mul_le_mul_left c h1) ?_
  rw [Nat.mul_left_comm]
  exact Nat.mul_le_mul_left d h2
theorem un_down {M j : Nat} (h1 : 1 ≤ M) (h2 : M < 1000000000000000) (hj : j ≤ 22) (hj0 : 0 < j) : ∃ N, unW (scF M (-(j : Int))) (-(j : Int)) = R N ∧ 2 ^ 53 * (2 ^ 53 * N) ≤ (2 ^ 53 + 1) * ((2 ^ 53 + 1) * (M * pw 1074)) ∧ (2 ^ 53 - 1) * ((2 ^ 53 - 1) * (M * pw 1074)) ≤ 2 ^ 53 * (2 ^ 53 * N) := by
  obtain ⟨N, N', hm, hN2, a1, a2, a3, a4⟩ := un_downA h1 h2 hj hj0
  have x3 := times (T := 10 ^ j) a3
  have x4 := times (T := 10 ^ j) a4
  rw [← hN2] at x3 x4
  refine ⟨N', ?_, chain_a x3 a1, chain_a a2 x4⟩
  unfold unW
  rw [if_pos (by omega), show (-(j : Int)).natAbs = j by omega]
  have hm' : floatBits .mul .f64 (scF M (-(j : Int))) (fpow j) = some (R N') := hm
  rw [hm', Option.getD_some]
theorem un_upA {M j : Nat} (h1 : 1 ≤ M) (h2 : M < 1000000000000000) (hj : j ≤ 22) : ∃ N', double.div (scF M (j : Int)) (fpow j) = some (R N') ∧ 2 ^ 53 * (N' * (10 ^ j * pw 1074)) ≤ (2 ^ 53 + 1) * (V (scF M (j : Int)) * pw 1074) ∧ (2 ^ 53 - 1) * (V (scF M (j : Int)) * pw 1074) ≤ 2 ^ 53 * (N' * (10 ^ j * pw 1074)) := by
  obtain ⟨vf, vb⟩ := scF_fin (k := (j : Int)) h1 h2 (by omega) (by omega)
  have bv : pw 900 ≤ V (scF M (j : Int)) := Nat.le_trans (pw_mono (by decide)) vb
  obtain ⟨b1, b2⟩ := fpow_v hj
  obtain ⟨T, T2⟩ := ten_le hj
  obtain ⟨N', hm, hN1, hN2⟩ := div_near vf b1 bv (by rw [b2]; exact Nat.le_trans (pw_mono (by decide)) (pw_le_mul T)) (by rw [b2]; exact Nat.lt_of_lt_of_le (pw_mul_lt (c := 75) (by omega)) (pw_mono (by decide)))
  rw [b2] at hN1 hN2
  exact ⟨N', hm, hN1, hN2⟩
theorem un_up {M j : Nat} (h1 : 1 ≤ M) (h2 : M < 1000000000000000) (hj : j ≤ 22) : ∃ N, unW (scF M (j : Int)) (j : Int) = R N ∧ 2 ^ 53 * (2 ^ 53 * N) ≤ (2 ^ 53 + 1) * ((2 ^ 53 + 1) * (M * pw 1074)) ∧ (2 ^ 53 - 1) * ((2 ^ 53 - 1) * (M * pw 1074)) ≤ 2 ^ 53 * (2 ^ 53 * N) := by
  obtain ⟨N', hm, hN1, hN2⟩ := un_upA h1 h2 hj
  obtain ⟨_, a1, a2⟩ := up_near (M := M) h1 h2 hj
  have hP : 0 < 10 ^ j * pw 1074 := Nat.mul_pos (ten_le hj).1 (pw_pos 1074)
  have x1 := times (T := pw 1074) a1
  have x2 := times (T := pw 1074) a2
  rw [swap3] at x1 x2
  refine ⟨N', ?_, cancel2 hP (chain_a hN1 x1), cancel2 hP (chain_a x2 hN2)⟩
  unfold unW
  rw [if_neg (by omega), show ((j : Int)).natAbs = j by omega]
  have hm' : floatBits .quo .f64 (scF M (j : Int)) (fpow j) = some (R N') := hm
  rw [hm', Option.getD_some]
theorem un_near {M : Nat} {k : Int} (h1 : 1 ≤ M) (h2 : M < 1000000000000000) (k1 : -22 ≤ k) (k2 : k ≤ 22) : unW (scF M k) k < INF ∧ 2 * V (unW (scF M k) k) < 2 * (M * pw 1074) + pw 1074 ∧ 2 * (M * pw 1074) < 2 * V (unW (scF M k) k) + pw 1074 := by
  have hX : M * pw 1074 < 1000000000000000 * pw 1074 := Nat.mul_lt_mul_of_pos_right h2 (pw_pos 1074)
  have hXg : pw 1074 ≤ M * pw 1074 := pw_le_mul h1
  have hXl : M * pw 1074 < pw 1124 := pw_mul_lt (a := 1074) (c := 50) (by omega)
  by_cases hk : k < 0
  · obtain ⟨j, rfl, hj, hj0⟩ : ∃ j : Nat, k = -(j : Int) ∧ j ≤ 22 ∧ 0 < j := ⟨k.natAbs, by omega, by omega, by omega⟩
    obtain ⟨N, e, y1, y2⟩ := un_down h1 h2 hj hj0
    rw [e]
    exact un_end hX hXg hXl y1 y2
  · obtain ⟨j, rfl, hj⟩ : ∃ j : Nat, k = (j : Int) ∧ j ≤ 22 := ⟨k.natAbs, by omega, by omega⟩
    obtain ⟨N, e, y1, y2⟩ := un_up h1 h2 hj
    rw [e]
    exact un_end hX hXg hXl y1 y2
end Go.Proofs.YthfmepnlbaifcaaDoor
