/-
  Values rise with M; what is unscaled again is near M.
-/
import Derived.Test.YthfmepnlbaifcaaDoorFe
namespace Go.Proofs.YthfmepnlbaifcaaDoor
open Ieee
set_option linter.unusedVariables false
theorem rise_up {V1 V2 X X' P : Nat} (hP : 0 < P) (h1 : 2 ^ 53 * V1 ≤ (2 ^ 53 + 1) * X) (h2 : (2 ^ 53 - 1) * X' ≤ 2 ^ 53 * V2) (h3 : X + P ≤ X') (h4 : X < 1000000000000000 * P) : V1 < V2 := by omega
theorem rise_down {a1 a2 n1 n2 X X' U : Nat} (hU : 0 < U) (h1 : 2 ^ 53 * a1 ≤ (2 ^ 53 + 1) * n1) (h2 : 2 ^ 53 * n1 ≤ (2 ^ 53 + 1) * X) (h3 : (2 ^ 53 - 1) * X' ≤ 2 ^ 53 * n2) (h4 : (2 ^ 53 - 1) * n2 ≤ 2 ^ 53 * a2) (h5 : X + U ≤ X') (h6 : X < 1000000000000000 * U) : a1 < a2 := by omega
theorem fin3 {X U N Y : Nat} (hU : 0 < U) (h1 : 2 ^ 53 * (2 ^ 53 * N) ≤ (2 ^ 53 + 1) * ((2 ^ 53 + 1) * X)) (h2 : (2 ^ 53 - 1) * ((2 ^ 53 - 1) * X) ≤ 2 ^ 53 * (2 ^ 53 * N)) (h3 : 2 ^ 53 * Y ≤ (2 ^ 53 + 1) * N) (h4 : (2 ^ 53 - 1) * N ≤ 2 ^ 53 * Y) (h5 : X < 1000000000000000 * U) : 2 * Y < 2 * X + U ∧ 2 * X < 2 * Y + U := by omega
theorem scF_rise {M M' : Nat} {k : Int} (h1 : 1 ≤ M) (hlt : M < M') (h2 : M' < 1000000000000000) (k1 : -22 ≤ k) (k2 : k ≤ 22) : V (scF M k) < V (scF M' k) := by
  by_cases hk : k < 0
  · obtain ⟨j, rfl, hj, hj0⟩ : ∃ j : Nat, k = -(j : Int) ∧ j ≤ 22 ∧ 0 < j := ⟨k.natAbs, by omega, by omega, by omega⟩
    obtain ⟨_, _, N1, a1, _, a3, _⟩ := down_near (M := M) (by omega) (by omega) hj hj0
    obtain ⟨_, _, N2, _, b2, _, b4⟩ := down_near (M := M') (by omega) h2 hj hj0
    have T := (ten_le hj).1
    have x1 : 2 ^ 53 * (V (scF M (-(j : Int))) * 10 ^ j) ≤ (2 ^ 53 + 1) * (N1 * 10 ^ j) := by
      have := Nat.mul_le_mul_right (10 ^ j) a3
      rwa [Nat.mul_assoc (2 ^ 53), Nat.mul_assoc (2 ^ 53 + 1)] at this
    have x4 : (2 ^ 53 - 1) * (N2 * 10 ^ j) ≤ 2 ^ 53 * (V (scF M' (-(j : Int))) * 10 ^ j) := by
      have := Nat.mul_le_mul_right (10 ^ j) b4
      rwa [Nat.mul_assoc (2 ^ 53), Nat.mul_assoc (2 ^ 53 - 1)] at this
    have := rise_down (pw_pos 1074) x1 a1 b2 x4 (by
      have := Nat.mul_le_mul_right (pw 1074) (show M + 1 ≤ M' from hlt)
      rwa [Nat.add_mul, Nat.one_mul] at this) (Nat.mul_lt_mul_of_pos_right (by omega) (pw_pos 1074))
    exact Nat.lt_of_mul_lt_mul_right this
  · obtain ⟨j, rfl, hj⟩ : ∃ j : Nat, k = (j : Int) ∧ j ≤ 22 := ⟨k.natAbs, by omega, by omega⟩
    obtain ⟨_, a1, _⟩ := up_near (M := M) (by omega) (by omega) hj
    obtain ⟨_, _, b2⟩ := up_near (M := M') (by omega) h2 hj
    have hP : 0 < 10 ^ j * pw 1074 := Nat.mul_pos (ten_le hj).1 (pw_pos 1074)
    exact rise_up hP a1 b2 (by
      have := Nat.mul_le_mul_right (10 ^ j * pw 1074) (show M + 1 ≤ M' from hlt)
      rwa [Nat.add_mul, Nat.one_mul] at this) (Nat.mul_lt_mul_of_pos_right (by omega) hP)
theorem scF_fin {M : Nat} {k : Int} (h1 : 1 ≤ M) (h2 : M < 1000000000000000) (k1 : -22 ≤ k) (k2 : k ≤ 22) : scF M k < INF ∧ pw 970 ≤ V (scF M k) := by
  by_cases hk : k < 0
  · obtain ⟨j, rfl, hj, hj0⟩ : ∃ j : Nat, k = -(j : Int) ∧ j ≤ 22 ∧ 0 < j := ⟨k.natAbs, by omega, by omega, by omega⟩
    obtain ⟨a, b, _⟩ := down_near (M := M) (by omega) (by omega) hj hj0
    exact ⟨a, b⟩
  · obtain ⟨j, rfl, hj⟩ : ∃ j : Nat, k = (j : Int) ∧ j ≤ 22 := ⟨k.natAbs, by omega, by omega⟩
    obtain ⟨a, _, c⟩ := up_near (M := M) (by omega) (by omega) hj
    refine ⟨a, ?_⟩
    have t := (ten_le hj).1
    have d1 : pw 1074 ≤ M * (10 ^ j * pw 1074) := by rw [← Nat.mul_assoc]; exact pw_le_mul (Nat.mul_pos h1 t)
    have d2 : pw 1074 = 2 * pw 1073 := pw_two 1073
    have d3 : pw 970 ≤ pw 1073 := pw_mono (by decide)
    have d4 := pw_pos 1073
    generalize M * (10 ^ j * pw 1074) = X at *
    generalize pw 1073 = Z at *
    generalize V (scF M (j : Int)) = Y at *
    omega
/-- about how often x has 10^k -/
def unW (x : Nat) (k : Int) : Nat := if k < 0 then (floatBits .mul .f64 x (fpow k.natAbs)).getD 0 else (floatBits .quo .f64 x (fpow k.natAbs)).getD 0
theorem two_up {n X v : Nat} (h1 : 2 ^ 53 * n ≤ (2 ^ 53 + 1) * v) (h2 : 2 ^ 53 * v ≤ (2 ^ 53 + 1) * X) : 2 ^ 53 * (2 ^ 53 * n) ≤ (2 ^ 53 + 1) * ((2 ^ 53 + 1) * X) := by omega
theorem two_down {n X v : Nat} (h1 : (2 ^ 53 - 1) * v ≤ 2 ^ 53 * n) (h2 : (2 ^ 53 - 1) * X ≤ 2 ^ 53 * v) : (2 ^ 53 - 1) * ((2 ^ 53 - 1) * X) ≤ 2 ^ 53 * (2 ^ 53 * n) := by omega
theorem cancel2 {c d N P X : Nat} (hP : 0 < P) (h : c * (c * (N * P)) ≤ d * (d * (X * P))) : c * (c * N) ≤ d * (d * X) := by
  refine Nat.le_of_mul_le_mul_right ?_ hP
  rw [Nat.mul_assoc c, Nat.mul_assoc c, Nat.mul_assoc d, Nat.mul_assoc d]
  exact h
theorem within {N X U Z L : Nat} (h1 : 2 ^ 53 * (2 ^ 53 * N) ≤ (2 ^ 53 + 1) * ((2 ^ 53 + 1) * X)) (h2 : (2 ^ 53 - 1) * ((2 ^ 53 - 1) * X) ≤ 2 ^ 53 * (2 ^ 53 * N)) (hU : U = 2 * Z) (hX : U ≤ X) (hL : X < L) (hZ : 0 < Z) : Z ≤ N ∧ N < 2 * L := by omega
theorem times {c d V N T : Nat} (h : c * V ≤ d * N) : c * (V * T) ≤ d * (N * T) := by
  have := Nat.mul_le_mul_right T h
  rwa [Nat.mul_assoc c, Nat.mul_assoc d] at this
theorem swap3 (M T U : Nat) : M * (T * U) * U = M * U * (T * U) := by
  rw [Nat.mul_assoc, Nat.mul_assoc M U, Nat.mul_comm U]
theorem un_end {N X : Nat} (hX : X < 1000000000000000 * pw 1074) (hXg : pw 1074 ≤ X) (hXl : X < pw 1124) (y1 : 2 ^ 53 * (2 ^ 53 * N) ≤ (2 ^ 53 + 1) * ((2 ^ 53 + 1) * X)) (y2 : (2 ^ 53 - 1) * ((2 ^ 53 - 1) * X) ≤ 2 ^ 53 * (2 ^ 53 * N)) :
    R N < INF ∧ 2 * V (R N) < 2 * X + pw 1074 ∧ 2 * X < 2 * V (R N) + pw 1074 := by
  obtain ⟨w1, w2⟩ := within y1 y2 (pw_two 1073) hXg hXl (pw_pos 1073)
  rw [← pw_two 1124] at w2
  have hr := R_err N (p52_le (Nat.le_trans (pw_mono (by decide)) w1)) (log2_big w2 (by decide) (by have := pw_pos 1073; omega))
  exact ⟨hr.1, fin3 (pw_pos 1074) y1 y2 hr.2.1 hr.2.2 hX⟩
end Go.Proofs.YthfmepnlbaifcaaDoor
