/-
  How far a product and a quotient of reals are from what they stand for.
-/
import Derived.Test.YthfmepnlbaifcaaDoorMv
namespace Go.Proofs.YthfmepnlbaifcaaDoor
open Ieee
set_option linter.unusedVariables false
theorem cut_err (n d : Nat) (hd : d ≤ n.log2 + 2) : 2 * (Toward.even.cut false n d * 2 ^ d) ≤ 2 * n + 2 ^ d ∧ 2 * n ≤ 2 * (Toward.even.cut false n d * 2 ^ d) + 2 ^ d := by
  unfold Toward.cut
  rw [Nat.min_eq_left hd, Nat.one_shiftLeft]
  have hg : 0 < 2 ^ d := Nat.two_pow_pos d
  generalize 2 ^ d = g at *
  have h1 := Nat.div_add_mod n g
  have h2 := Nat.mod_lt n hg
  dsimp only
  rw [Nat.mul_comm] at h1
  by_cases a1 : g < 2 * (n % g)
  · rw [decide_eq_true a1, Bool.true_or, Bool.toNat_true, Nat.add_mul, Nat.one_mul]
    generalize n / g * g = q at *
    omega
  · rw [decide_eq_false a1, Bool.false_or]
    by_cases a2 : (g == 2 * (n % g) && n / g % 2 == 1) = true
    · rw [a2, Bool.toNat_true, Nat.add_mul, Nat.one_mul]
      rw [Bool.and_eq_true, beq_iff_eq] at a2
      generalize n / g * g = q at *
      omega
    · rw [Bool.not_eq_true] at a2
      rw [a2, Bool.toNat_false, Nat.add_zero]
      generalize n / g * g = q at *
      omega
theorem V_mk (c d : Nat) (h1 : 2 ^ 52 ≤ c) (h2 : c ≤ 2 ^ 53) : V (d * 2 ^ 52 + c) = c * 2 ^ d := by
  unfold V
  rcases Nat.lt_or_eq_of_le h2 with h | h
  · have e1 : (d * 2 ^ 52 + c) % 2 ^ 52 = c - 2 ^ 52 := by omega
    have e2 : (d * 2 ^ 52 + c) / 2 ^ 52 = d + 1 := by omega
    rw [if_neg (by omega), e1, e2, show 2 ^ 52 + (c - 2 ^ 52) = c by omega]
    rfl
  · subst h
    have e1 : (d * 2 ^ 52 + 2 ^ 53) % 2 ^ 52 = 0 := by omega
    have e2 : (d * 2 ^ 52 + 2 ^ 53) / 2 ^ 52 = d + 2 := by omega
    rw [if_neg (by omega), e1, e2, Nat.add_zero, show d + 2 - 1 = d + 1 by omega, Nat.pow_succ 2 d, show (2 : Nat) ^ 53 = 2 ^ 52 * 2 by decide, Nat.mul_comm (2 ^ d) 2, Nat.mul_assoc]
/-- what is rounded is near -/
theorem R_err (N : Nat) (h1 : 2 ^ 52 ≤ N) (h2 : N.log2 ≤ 2000) : R N < INF ∧ 2 ^ 53 * V (R N) ≤ (2 ^ 53 + 1) * N ∧ (2 ^ 53 - 1) * N ≤ 2 ^ 53 * V (R N) := by
  have h0 : N ≠ 0 := by omega
  have hl : 52 ≤ N.log2 := (Nat.le_log2 h0).2 h1
  have a1 := Nat.log2_self_le h0
  have a2 : N < 2 ^ (N.log2 + 1) := Nat.lt_log2_self
  obtain ⟨d, hd⟩ : ∃ d, N.log2 - 52 = d := ⟨_, rfl⟩
  have hd2 : N.log2 = d + 52 := by omega
  have hc := cut_err N d (by omega)
  rw [hd2, Nat.pow_add] at a1
  rw [hd2, show d + 52 + 1 = d + 53 by omega, Nat.pow_add] at a2
  unfold R
  rw [hd]
  generalize Toward.even.cut false N d = c at *
  have hp : 0 < 2 ^ d := Nat.two_pow_pos d
  have hc1 : 2 ^ 52 ≤ c := by
    apply Classical.byContradiction
    intro h
    have : c + 1 ≤ 2 ^ 52 := by omega
    have := Nat.mul_le_mul_right (2 ^ d) this
    rw [Nat.add_mul, Nat.one_mul, Nat.mul_comm (2 ^ 52)] at this
    generalize c * 2 ^ d = x at *
    generalize 2 ^ d = g at *
    omega
  have hc2 : c ≤ 2 ^ 53 := by
    apply Classical.byContradiction
    intro h
    have : 2 ^ 53 + 1 ≤ c := by omega
    have := Nat.mul_le_mul_right (2 ^ d) this
    rw [Nat.add_mul, Nat.one_mul, Nat.mul_comm (2 ^ 53)] at this
    generalize c * 2 ^ d = x at *
    generalize 2 ^ d = g at *
    omega
  have hm : d * 2 ^ 52 + c < INF := by simp only [INF]; omega
  rw [Nat.min_eq_left (Nat.le_of_lt hm), V_mk c d hc1 hc2]
  refine ⟨hm, ?_, ?_⟩
  · generalize c * 2 ^ d = x at *
    rw [Nat.mul_comm (2 ^ d)] at a1
    generalize 2 ^ d = g at *
    omega
  · generalize c * 2 ^ d = x at *
    rw [Nat.mul_comm (2 ^ d)] at a1
    generalize 2 ^ d = g at *
    omega
theorem pw_lt {a b : Nat} (h : a < b) : pw a < pw b := by rw [← pw_def, ← pw_def]; exact Nat.pow_lt_pow_right (by decide) h
theorem log2_le {N k : Nat} (h : N < 2 ^ k) (h0 : N ≠ 0) : N.log2 < k := (Nat.log2_lt h0).2 h
theorem read_big {x : Nat} (hx : x < INF) (hb : pw 900 ≤ V x) : ∃ m p, double.read x = .number false m p ∧ -230 ≤ p ∧ m < 2 ^ 53 ∧ m ≠ 0 ∧ m * pw (p + 1074).toNat = V x ∧ (V x < pw 1300 → p < 226) := by
  have hr := rg_lt (Nat.le_of_lt hx)
  obtain ⟨m, p, hd, hp, hm, hv⟩ := read_fin' x (by rw [hr.1]; exact hx)
  rw [hr.1] at hv
  rw [hr.2] at hd
  have hm0 : m ≠ 0 := by
    rintro rfl
    rw [Nat.zero_mul] at hv
    have := pw_pos 900
    omega
  refine ⟨m, p, hd, ?_, hm, hm0, hv, fun hu => ?_⟩
  case refine_2 =>
    apply Classical.byContradiction
    intro h
    have h1 : pw 1300 ≤ pw (p + 1074).toNat := pw_mono (by omega)
    have h2 : 1 * pw (p + 1074).toNat ≤ m * pw (p + 1074).toNat := Nat.mul_le_mul_right _ (by omega)
    omega
  apply Classical.byContradiction
  intro h
  have h1 : pw (p + 1074).toNat ≤ pw 844 := pw_mono (by omega)
  have h2 : m * pw (p + 1074).toNat ≤ 2 ^ 53 * pw 844 := Nat.mul_le_mul (Nat.le_of_lt hm) h1
  have h3 : 2 ^ 53 * pw 844 < pw 900 := by
    rw [p53, pw_add]
    exact pw_lt (by decide)
  omega
/-- a product is rounded once -/
theorem mul_near {x y : Nat} (hx : x < INF) (hy : y < INF) (bx : pw 900 ≤ V x) (by_ : pw 900 ≤ V y) : ∃ N, double.mul x y = some (R N) ∧ N * pw 1074 = V x * V y := by
  obtain ⟨m, i, hd, hi, hm, hm0, hv, _⟩ := read_big hx bx
  obtain ⟨n, j, hd2, hj, hn, hn0, hv2, hj2⟩ := read_big hy by_
  refine ⟨m * n * pw (i + j + 1074).toNat, ?_, ?_⟩
  · unfold Format.mul
    rw [hd, hd2]
    show some (double.nearest false (m * n) (i + j)) = _
    rw [near_pw _ _ _ (by omega), word_false]
  · rw [← hv, ← hv2, Nat.mul_assoc, pw_add, show (i + j + 1074).toNat + 1074 = (i + 1074).toNat + (j + 1074).toNat by omega, ← pw_add]
    simp only [Nat.mul_assoc, Nat.mul_left_comm]
/-- a quotient is rounded once, and told nearly -/
theorem div_near {x y : Nat} (hx : x < INF) (hy : y < INF) (bx : pw 900 ≤ V x) (by_ : pw 900 ≤ V y) (hyu : V y < pw 1300) : ∃ N, double.div x y = some (R N) ∧ 2 ^ 53 * (N * V y) ≤ (2 ^ 53 + 1) * (V x * pw 1074) ∧ (2 ^ 53 - 1) * (V x * pw 1074) ≤ 2 ^ 53 * (N * V y) := by
  obtain ⟨m, i, hd, hi, hm, hm0, hv, _⟩ := read_big hx bx
  obtain ⟨n, j, hd2, hj, hn, hn0, hv2, hj2⟩ := read_big hy by_
  have lm := log2_le hm hm0
  have ln := log2_le hn hn0
  unfold Format.div
  rw [hd, hd2]
  have hf : double.fractionBits + 2 = 54 := rfl
  rw [hf]
  unfold Datum.quotient
  dsimp only
  rw [if_neg hn0]
  obtain ⟨k, hk⟩ : ∃ k, 54 + n.log2 - m.log2 = k := ⟨_, rfl⟩
  rw [hk]
  have hdl : n * 2 ^ 53 ≤ m <<< k := by
    rw [Nat.shiftLeft_eq]
    have a1 := Nat.log2_self_le hm0
    have a2 : n < 2 ^ (n.log2 + 1) := Nat.lt_log2_self
    calc n * 2 ^ 53 ≤ 2 ^ (n.log2 + 1) * 2 ^ 53 := Nat.mul_le_mul_right _ (Nat.le_of_lt a2)
      _ = 2 ^ (n.log2 + 54) := by rw [← Nat.pow_add]
      _ = 2 ^ (m.log2 + k) := by rw [show n.log2 + 54 = m.log2 + k by omega]
      _ = 2 ^ m.log2 * 2 ^ k := Nat.pow_add _ _ _
      _ ≤ m * 2 ^ k := Nat.mul_le_mul_right _ a1
  have hj3 := hj2 hyu
  have hD : ∃ D, m <<< k = D := ⟨_, rfl⟩
  obtain ⟨D, hD⟩ := hD
  rw [hD] at hdl ⊢
  have e1 := Nat.div_add_mod D n
  have e2 := Nat.mod_lt D (Nat.pos_of_ne_zero hn0)
  obtain ⟨g, hg⟩ : ∃ g, 2 * (D / n) + (D % n != 0).toNat = g := ⟨_, rfl⟩
  rw [hg]
  have b1 : g * n ≤ 2 * D + n ∧ 2 * D ≤ g * n + n := by
    rw [← hg, Nat.add_mul, Nat.mul_assoc, Nat.mul_comm (D / n) n]
    by_cases hr : D % n = 0
    · have : (D % n != 0) = false := by rw [bne_eq_false_iff_eq]; exact hr
      rw [this, Bool.toNat_false, Nat.zero_mul]
      generalize n * (D / n) = q at *
      omega
    · have : (D % n != 0) = true := by rw [bne_iff_ne]; exact hr
      rw [this, Bool.toNat_true, Nat.one_mul]
      generalize n * (D / n) = q at *
      omega
  have b2 : 2 ^ 53 * (g * n) ≤ (2 ^ 53 + 1) * (2 * D) ∧ (2 ^ 53 - 1) * (2 * D) ≤ 2 ^ 53 * (g * n) := by
    generalize g * n = z at *
    omega
  obtain ⟨t, ht⟩ : ∃ t : Int, i - j - (k : Int) - 1 = t := ⟨_, rfl⟩
  refine ⟨g * pw (t + 1074).toNat, ?_, ?_⟩
  · show some (double.nearest false g (i - j - (k : Int) - 1)) = _
    rw [ht, near_pw _ _ _ (by omega), word_false]
  · have s1 : g * pw (t + 1074).toNat * V y = g * n * (pw (t + 1074).toNat * pw (j + 1074).toNat) := by
      rw [← hv2]; simp only [Nat.mul_assoc, Nat.mul_left_comm]
    have s2 : V x * pw 1074 = 2 * D * (pw (t + 1074).toNat * pw (j + 1074).toNat) := by
      rw [← hv, ← hD, Nat.shiftLeft_eq, pw_def, Nat.mul_assoc m, pw_add, pw_add]
      have : 2 * (m * pw k) * pw ((t + 1074).toNat + (j + 1074).toNat) = m * (pw 1 * (pw k * pw ((t + 1074).toNat + (j + 1074).toNat))) := by
        rw [← pw_def 1, Nat.pow_one]; simp only [Nat.mul_assoc, Nat.mul_left_comm]
      rw [this, pw_add, pw_add, show 1 + (k + ((t + 1074).toNat + (j + 1074).toNat)) = (i + 1074).toNat + 1074 by omega]
    rw [s1, s2]
    generalize pw (t + 1074).toNat * pw (j + 1074).toNat = S at *
    constructor
    · have h := Nat.mul_le_mul_right S b2.1
      rwa [Nat.mul_assoc (2 ^ 53) (g * n) S, Nat.mul_assoc (2 ^ 53 + 1) (2 * D) S] at h
    · have h := Nat.mul_le_mul_right S b2.2
      rwa [Nat.mul_assoc (2 ^ 53) (g * n) S, Nat.mul_assoc (2 ^ 53 - 1) (2 * D) S] at h
/-- the powers of ten are what they stand for -/
theorem shl (a k : Nat) : a <<< k = a * pw k := by rw [Nat.shiftLeft_eq, pw_def]
theorem fpow_V : ∀ k, k < 23 → fpow k < INF ∧ V (fpow k) = (10 ^ k) <<< 1074 := by decide +kernel
theorem fpow_v {k : Nat} (h : k ≤ 22) : fpow k < INF ∧ V (fpow k) = 10 ^ k * pw 1074 := by
  have := fpow_V k (by omega)
  rw [shl] at this
  exact this
theorem ten_le {k : Nat} (h : k ≤ 22) : 1 ≤ 10 ^ k ∧ 10 ^ k ≤ 2 ^ 74 := by
  refine ⟨Nat.one_le_pow _ _ (by decide), Nat.le_trans (Nat.pow_le_pow_right (by decide) h) (by decide)⟩
theorem ofInt_v {M : Nat} (h : M < 1000000000000000) : floatOfInt .f64 (M : Int) < INF ∧ V (floatOfInt .f64 (M : Int)) = M * pw 1074 := by
  rw [ofInt_R]
  exact (ex_pw 1074 M (by omega) (by decide)).R
theorem log2_big {N a : Nat} (h : N < pw a) (ha : a ≤ 2000) (h0 : N ≠ 0) : N.log2 ≤ 2000 := by
  rw [← pw_def] at h
  have := log2_le h h0
  omega
theorem pw_two (a : Nat) : pw (a + 1) = 2 * pw a := by rw [← pw_def, ← pw_def, Nat.pow_succ, Nat.mul_comm]
theorem pw_mul_lt {a b c : Nat} (hb : b < 2 ^ c) : b * pw a < pw (a + c) := by
  rw [← pw_add, Nat.mul_comm, ← pw_def c]
  exact Nat.mul_lt_mul_of_pos_left hb (pw_pos a)
theorem pw_le_mul {a b : Nat} (hb : 1 ≤ b) : pw a ≤ b * pw a := by
  have := Nat.mul_le_mul_right (pw a) hb
  rwa [Nat.one_mul] at this
theorem p52_le {N : Nat} (h : pw 900 ≤ N) : 2 ^ 52 ≤ N := by
  have : pw 52 ≤ pw 900 := pw_mono (by decide)
  rw [pw_def]
  omega
/-- k not below 0: the value of M with k is near -/
theorem up_near {M k : Nat} (h1 : 1 ≤ M) (h2 : M < 1000000000000000) (hk : k ≤ 22) : scF M k < INF ∧ 2 ^ 53 * V (scF M k) ≤ (2 ^ 53 + 1) * (M * (10 ^ k * pw 1074)) ∧ (2 ^ 53 - 1) * (M * (10 ^ k * pw 1074)) ≤ 2 ^ 53 * V (scF M k) := by
  obtain ⟨a1, a2⟩ := ofInt_v h2
  obtain ⟨b1, b2⟩ := fpow_v hk
  obtain ⟨t1, t2⟩ := ten_le hk
  obtain ⟨N, hm, hN⟩ := mul_near a1 b1 (by rw [a2]; exact Nat.le_trans (pw_mono (by decide)) (pw_le_mul h1)) (by rw [b2]; exact Nat.le_trans (pw_mono (by decide)) (pw_le_mul t1))
  have hs := scF_mul M hk
  have hs' : double.mul (floatOfInt .f64 (M : Int)) (fpow k) = some (scF M k) := hs
  rw [hm] at hs'
  have e := Option.some.inj hs'
  rw [a2, b2] at hN
  have hN2 : N = M * (10 ^ k * pw 1074) := by
    have : N * pw 1074 = M * (10 ^ k * pw 1074) * pw 1074 := by rw [hN]; simp only [Nat.mul_assoc, Nat.mul_left_comm]
    exact Nat.eq_of_mul_eq_mul_right (pw_pos 1074) this
  rw [← e]
  have hb : M * 10 ^ k < 2 ^ 124 := by
    calc M * 10 ^ k ≤ 2 ^ 50 * 2 ^ 74 - 1 := by
          have : M * 10 ^ k ≤ 1000000000000000 * 2 ^ 74 := Nat.mul_le_mul (Nat.le_of_lt h2) t2
          omega
      _ < 2 ^ 124 := by decide
  have hge : pw 1074 ≤ N := by rw [hN2, ← Nat.mul_assoc]; exact pw_le_mul (Nat.mul_pos h1 t1)
  have hlt : N < pw 1198 := by rw [hN2, ← Nat.mul_assoc]; exact pw_mul_lt hb
  have := R_err N (p52_le (Nat.le_trans (pw_mono (by decide)) hge)) (log2_big hlt (by decide) (by have := pw_pos 1074; omega))
  rwa [← hN2]
/-- k below 0 -/
theorem down_near {M j : Nat} (h1 : 1 ≤ M) (h2 : M < 1000000000000000) (hj : j ≤ 22) (hj0 : 0 < j) : scF M (-(j : Int)) < INF ∧ pw 970 ≤ V (scF M (-(j : Int))) ∧ ∃ N, 2 ^ 53 * (N * 10 ^ j) ≤ (2 ^ 53 + 1) * (M * pw 1074) ∧ (2 ^ 53 - 1) * (M * pw 1074) ≤ 2 ^ 53 * (N * 10 ^ j) ∧ 2 ^ 53 * V (scF M (-(j : Int))) ≤ (2 ^ 53 + 1) * N ∧ (2 ^ 53 - 1) * N ≤ 2 ^ 53 * V (scF M (-(j : Int))) := by
  obtain ⟨a1, a2⟩ := ofInt_v h2
  obtain ⟨b1, b2⟩ := fpow_v hj
  obtain ⟨t1, t2⟩ := ten_le hj
  obtain ⟨N, hm, hN1, hN2⟩ := div_near a1 b1 (by rw [a2]; exact Nat.le_trans (pw_mono (by decide)) (pw_le_mul h1)) (by rw [b2]; exact Nat.le_trans (pw_mono (by decide)) (pw_le_mul t1)) (by rw [b2]; exact Nat.lt_of_lt_of_le (pw_mul_lt (c := 75) (by omega)) (pw_mono (by decide)))
  have hs' : double.div (floatOfInt .f64 (M : Int)) (fpow j) = some (scF M (-(j : Int))) := scF_quo M hj hj0
  rw [hm] at hs'
  have e := Option.some.inj hs'
  rw [a2, b2] at hN1 hN2
  have c1 : 2 ^ 53 * (N * 10 ^ j) ≤ (2 ^ 53 + 1) * (M * pw 1074) := by
    have : 2 ^ 53 * (N * 10 ^ j) * pw 1074 ≤ (2 ^ 53 + 1) * (M * pw 1074) * pw 1074 := by
      rw [Nat.mul_assoc (2 ^ 53), Nat.mul_assoc (2 ^ 53 + 1), Nat.mul_assoc N]; exact hN1
    exact Nat.le_of_mul_le_mul_right this (pw_pos 1074)
  have c2 : (2 ^ 53 - 1) * (M * pw 1074) ≤ 2 ^ 53 * (N * 10 ^ j) := by
    have : (2 ^ 53 - 1) * (M * pw 1074) * pw 1074 ≤ 2 ^ 53 * (N * 10 ^ j) * pw 1074 := by
      rw [Nat.mul_assoc (2 ^ 53), Nat.mul_assoc (2 ^ 53 - 1), Nat.mul_assoc N]; exact hN2
    exact Nat.le_of_mul_le_mul_right this (pw_pos 1074)
  have d1 : pw 1074 = 2 * pw 1073 := pw_two 1073
  have d2 : pw 999 = 2 * pw 998 := pw_two 998
  have d3 : pw 1074 ≤ M * pw 1074 := pw_le_mul h1
  have hge : pw 999 ≤ N := by
    apply Classical.byContradiction
    intro h
    have g1 : N * 10 ^ j ≤ pw 999 * 2 ^ 74 := Nat.mul_le_mul (by omega) t2
    rw [pw_def 74, pw_add] at g1
    have g2 : 1 * N ≤ N * 10 ^ j := by rw [Nat.mul_comm N]; exact Nat.mul_le_mul_right _ t1
    have g3 : pw 1073 = pw (999 + 74) := rfl
    have g4 := pw_pos 1073
    generalize N * 10 ^ j = X at *
    generalize M * pw 1074 = Y at *
    generalize pw 1073 = Z at *
    generalize pw 1074 = Z2 at *
    omega
  have hlt : N < pw 1126 := by
    have g2 : 1 * N ≤ N * 10 ^ j := by rw [Nat.mul_comm N]; exact Nat.mul_le_mul_right _ t1
    have g3 : M * pw 1074 < pw (1074 + 50) := pw_mul_lt (by omega)
    have g4 : pw 1126 = 2 * pw 1125 := pw_two 1125
    have g5 : pw 1125 = 2 * pw 1124 := pw_two 1124
    have g6 : pw (1074 + 50) = pw 1124 := rfl
    rw [g6] at g3
    generalize N * 10 ^ j = X at *
    generalize M * pw 1074 = Y at *
    generalize pw 1124 = Z at *
    omega
  have hr := R_err N (p52_le (Nat.le_trans (pw_mono (by decide)) hge)) (log2_big hlt (by decide) (by have := pw_pos 999; omega))
  rw [← e]
  refine ⟨hr.1, ?_, N, c1, c2, hr.2.1, hr.2.2⟩
  have d4 : pw 970 ≤ pw 998 := pw_mono (by decide)
  have d5 := pw_pos 998
  have hr2 := hr.2.2
  generalize V (R N) = X at *
  generalize pw 998 = Z at *
  generalize pw 999 = Z2 at *
  omega
end Go.Proofs.YthfmepnlbaifcaaDoor
