/-
  What is rounded to a whole number.
-/
import Derived.Test.YthfmepnlbaifcaaDoorFg
import Derived.Test.YthfmepnlbaifcaaDoorRo
namespace Go.Proofs.YthfmepnlbaifcaaDoor
open Ieee
set_option linter.unusedVariables false
theorem mid_div {e A g f h y : Nat} (hg : 0 < g) (hA : A * g = 2 ^ 52) (hy : y = e * 2 ^ 52 + f) : (y + h) / g * g = e * 2 ^ 52 + (f + h) / g * g := by
  have : y + h = (f + h) + g * (e * A) := by
    rw [hy, ← hA, ← Nat.mul_assoc, Nat.mul_comm (e * A) g]
    omega
  rw [this, Nat.add_mul_div_left _ _ hg, Nat.add_mul, Nat.mul_assoc e, hA, Nat.add_comm]
/-- the whole number q that a word is rounded to -/
structure Rnd (y q : Nat) : Prop where
  word : rndW y = R (q * pw 1074)
  val : V (rndW y) = q * pw 1074
  fin : rndW y < INF
  le : 2 * (q * pw 1074) ≤ 2 * V y + pw 1074
  lt : 2 * V y < 2 * (q * pw 1074) + pw 1074
theorem rnd_mid {y : Nat} (hy : y < INF) (h1 : 1023 ≤ y / 2 ^ 52) (h2 : y / 2 ^ 52 < 1075) : ∃ q, Rnd y q := by
  obtain ⟨s, hs, hs2⟩ : ∃ s, y / 2 ^ 52 - 1023 = s ∧ s < 52 := ⟨_, rfl, by omega⟩
  have he : y / 2 ^ 52 = 1023 + s := by omega
  have hyy : y = (1023 + s) * 2 ^ 52 + y % 2 ^ 52 := by omega
  have hf : y % 2 ^ 52 < 2 ^ 52 := Nat.mod_lt _ (by decide)
  have hw : rndW y = (y + 2 ^ (51 - s)) / 2 ^ (52 - s) * 2 ^ (52 - s) := by
    unfold rndW
    rw [if_neg (by omega), if_neg (by omega), if_pos h2, hs]
  have hV : V y = (2 ^ 52 + y % 2 ^ 52) * pw (1022 + s) := by
    unfold V
    rw [if_neg (by omega), he, show 1023 + s - 1 = 1022 + s by omega, pw_def (1022 + s)]
  have hA : 2 ^ s * 2 ^ (52 - s) = 2 ^ 52 := by rw [← Nat.pow_add, show s + (52 - s) = 52 by omega]
  have hh : 2 ^ (52 - s) = 2 * 2 ^ (51 - s) := by rw [show 52 - s = (51 - s) + 1 by omega, Nat.pow_succ, Nat.mul_comm]
  have hg : 0 < 2 ^ (52 - s) := Nat.two_pow_pos _
  have hU : 2 ^ (52 - s) * pw (1022 + s) = pw 1074 := by rw [pw_def, pw_add, show 52 - s + (1022 + s) = 1074 by omega]
  have hP := pw_pos (1022 + s)
  rw [mid_div hg hA hyy] at hw
  generalize y % 2 ^ 52 = f at *
  have d1 := Nat.div_add_mod (f + 2 ^ (51 - s)) (2 ^ (52 - s))
  have d2 := Nat.mod_lt (f + 2 ^ (51 - s)) hg
  rw [Nat.mul_comm] at d1
  have hle : 2 ^ (51 - s) ≤ 2 ^ 51 := Nat.pow_le_pow_right (by decide) (by omega)
  have hcq : (f + 2 ^ (51 - s)) / 2 ^ (52 - s) * 2 ^ (52 - s) ≤ 2 ^ 52 := by
    have k1 : (f + 2 ^ (51 - s)) / 2 ^ (52 - s) ≤ 2 ^ s := by
      have : f + 2 ^ (51 - s) < (2 ^ s + 1) * 2 ^ (52 - s) := by
        rw [Nat.add_mul, hA, Nat.one_mul]
        generalize 2 ^ (51 - s) = h at *
        omega
      have := (Nat.div_lt_iff_lt_mul hg).2 this
      omega
    have := Nat.mul_le_mul_right (2 ^ (52 - s)) k1
    rwa [hA] at this
  obtain ⟨q, hq⟩ : ∃ q, 2 ^ s + (f + 2 ^ (51 - s)) / 2 ^ (52 - s) = q := ⟨_, rfl⟩
  have hqg : q * 2 ^ (52 - s) = 2 ^ 52 + (f + 2 ^ (51 - s)) / 2 ^ (52 - s) * 2 ^ (52 - s) := by rw [← hq, Nat.add_mul, hA]
  have hVr : V (rndW y) = q * pw 1074 := by
    rw [hw, show (1023 + s) * 2 ^ 52 + (f + 2 ^ (51 - s)) / 2 ^ (52 - s) * 2 ^ (52 - s) = (1022 + s) * 2 ^ 52 + q * 2 ^ (52 - s) by rw [hqg]; omega, V_mk _ _ (by rw [hqg]; omega) (by rw [hqg]; omega), pw_def (1022 + s), Nat.mul_assoc, hU]
  have hfin : rndW y < INF := by
    rw [hw]; simp only [INF]; omega
  refine ⟨q, ?_, hVr, hfin, ?_, ?_⟩
  · rw [← hVr, R_V _ hfin]
  · have : 2 * (q * 2 ^ (52 - s)) ≤ 2 * (2 ^ 52 + f) + 2 ^ (52 - s) := by
      rw [hqg]
      generalize (f + 2 ^ (51 - s)) / 2 ^ (52 - s) * 2 ^ (52 - s) = c at *
      generalize 2 ^ (51 - s) = h at *
      omega
    have := Nat.mul_le_mul_right (pw (1022 + s)) this
    rw [Nat.add_mul, hU, Nat.mul_assoc, Nat.mul_assoc q, hU, Nat.mul_assoc, ← hV] at this
    exact this
  · have : 2 * (2 ^ 52 + f) < 2 * (q * 2 ^ (52 - s)) + 2 ^ (52 - s) := by
      rw [hqg]
      generalize (f + 2 ^ (51 - s)) / 2 ^ (52 - s) * 2 ^ (52 - s) = c at *
      generalize 2 ^ (51 - s) = h at *
      omega
    have := Nat.mul_lt_mul_of_pos_right this hP
    rw [Nat.add_mul, hU, Nat.mul_assoc 2 (q * 2 ^ (52 - s)), Nat.mul_assoc q, hU, Nat.mul_assoc, ← hV] at this
    exact this
theorem V_low {y e : Nat} (he : y / 2 ^ 52 = e) (h1 : 1 ≤ e) : V y = (2 ^ 52 + y % 2 ^ 52) * pw (e - 1) := by
  unfold V
  rw [if_neg (by omega), he, pw_def (e - 1)]
theorem one_R : ONE = R (1 * pw 1074) := by
  have h : V ONE = 1 <<< 1074 := by decide +kernel
  rw [shl] at h
  rw [← h, R_V _ (by decide)]
theorem rnd_one {y : Nat} (h : y / 2 ^ 52 = 1022) : Rnd y 1 := by
  have hw : rndW y = ONE := by unfold rndW; rw [if_neg (by omega), if_pos (by omega)]
  have hV := V_low h (by omega)
  have hf : y % 2 ^ 52 < 2 ^ 52 := Nat.mod_lt _ (by decide)
  have hU : pw 1074 = 2 ^ 53 * pw 1021 := by rw [p53, pw_add]
  have hv1 : V ONE = 1 <<< 1074 := by decide +kernel
  rw [shl] at hv1
  have hp := pw_pos 1021
  refine ⟨by rw [hw, one_R], by rw [hw, hv1], by rw [hw]; decide, ?_, ?_⟩
  · have := Nat.mul_le_mul_right (pw 1021) (show 2 ^ 52 ≤ 2 ^ 52 + y % 2 ^ 52 by omega)
    rw [show 1022 - 1 = 1021 by decide] at hV
    rw [← hV] at this
    rw [hU, Nat.one_mul]
    generalize V y = v at *
    generalize pw 1021 = Z at *
    omega
  · have := Nat.mul_le_mul_right (pw 1021) (show 2 ^ 52 + y % 2 ^ 52 ≤ 2 ^ 53 by omega)
    rw [show 1022 - 1 = 1021 by decide] at hV
    rw [← hV] at this
    rw [hU, Nat.one_mul]
    generalize V y = v at *
    generalize pw 1021 = Z at *
    omega
theorem rnd_low {y : Nat} (h : y / 2 ^ 52 < 1022) : Rnd y 0 := by
  have hw : rndW y = 0 := by unfold rndW; rw [if_pos h]
  have hU : pw 1074 = 2 ^ 54 * pw 1020 := by rw [pw_def 54, pw_add]
  have hp := pw_pos 1020
  have hv : 2 * V y < pw 1074 := by
    by_cases h0 : y < 2 ^ 52
    · unfold V
      rw [if_pos h0]
      have : pw 54 ≤ pw 1074 := pw_mono (by decide)
      rw [← pw_def 54] at this
      omega
    · have hV := V_low (y := y) rfl (by omega)
      have hf : y % 2 ^ 52 < 2 ^ 52 := Nat.mod_lt _ (by decide)
      have m1 : pw (y / 2 ^ 52 - 1) ≤ pw 1020 := pw_mono (by omega)
      have := Nat.mul_le_mul (show 2 ^ 52 + y % 2 ^ 52 ≤ 2 ^ 53 - 1 by omega) m1
      rw [← hV] at this
      rw [hU]
      generalize V y = v at *
      generalize pw 1020 = Z at *
      omega
  refine ⟨by rw [hw, Nat.zero_mul, R_zero], by rw [hw, V_zero, Nat.zero_mul], by rw [hw]; decide, ?_, ?_⟩
  · rw [Nat.zero_mul]; omega
  · rw [Nat.zero_mul]; omega
theorem rnd_big {y : Nat} (h : 1075 ≤ y / 2 ^ 52) : rndW y = y ∧ 2 ^ 52 * pw 1074 ≤ V y := by
  refine ⟨?_, ?_⟩
  · unfold rndW
    rw [if_neg (by omega), if_neg (by omega), if_neg (by omega)]
  · have hV := V_low (y := y) rfl (by omega)
    rw [hV]
    exact Nat.mul_le_mul (by omega) (pw_mono (by omega))
theorem rnd_spec (y : Nat) (hy : y < INF) : (∃ q, Rnd y q) ∨ (rndW y = y ∧ 2 ^ 52 * pw 1074 ≤ V y) := by
  by_cases h1 : y / 2 ^ 52 < 1022
  · exact .inl ⟨0, rnd_low h1⟩
  · by_cases h2 : y / 2 ^ 52 < 1023
    · exact .inl ⟨1, rnd_one (by omega)⟩
    · by_cases h3 : y / 2 ^ 52 < 1075
      · exact .inl (rnd_mid hy (by omega) h3)
      · exact .inr (rnd_big (by omega))
/-- what is near M is rounded to M -/
theorem rnd_near {y M : Nat} (hy : y < INF) (h2 : M < 1000000000000000) (a : 2 * V y < 2 * (M * pw 1074) + pw 1074) (b : 2 * (M * pw 1074) < 2 * V y + pw 1074) : rndW y = floatOfInt .f64 (M : Int) := by
  have hU := pw_pos 1074
  rcases rnd_spec y hy with ⟨q, h⟩ | ⟨_, h⟩
  · have h1 := h.le
    have h3 := h.lt
    have : q = M := by
      have c1 : q < M + 1 := by
        apply Nat.lt_of_mul_lt_mul_right (a := pw 1074)
        rw [Nat.add_mul, Nat.one_mul]
        omega
      have c2 : M < q + 1 := by
        apply Nat.lt_of_mul_lt_mul_right (a := pw 1074)
        rw [Nat.add_mul, Nat.one_mul]
        omega
      omega
    rw [h.word, this, ofInt_R]
  · have : M * pw 1074 ≤ 1000000000000000 * pw 1074 := Nat.mul_le_mul_right _ (Nat.le_of_lt h2)
    generalize M * pw 1074 = X at *
    generalize pw 1074 = U at *
    omega
abbrev TG : Nat := 4831355200913801216
theorem tg_v : rg TG = TG ∧ TG < INF ∧ V TG = 1000000000000000 * pw 1074 := by
  have h : V TG = 1000000000000000 <<< 1074 := by decide +kernel
  rw [shl] at h
  exact ⟨by decide, by decide, h⟩
theorem order_pos {x y : Nat} (hx : x < INF) (hy : y < INF) : double.order x y = some (compare (V x : Int) (V y : Int)) := by
  have h1 := rg_lt (Nat.le_of_lt hx)
  have h2 := rg_lt (Nat.le_of_lt hy)
  rw [order_fin x y (by rw [h1.1]; exact hx) (by rw [h2.1]; exact hy), sv_lt (Nat.le_of_lt hx), sv_lt (Nat.le_of_lt hy)]
/-- what is rounded is a whole number below 10^15, or not below 10^15 -/
theorem rnd_int {y : Nat} (hy : y ≤ INF) : (∃ q : Nat, q < 1000000000000000 ∧ rndW y = floatOfInt .f64 (q : Int)) ∨ (double.order (rndW y) TG == some .lt) = false := by
  have ht := tg_v
  rcases Nat.lt_or_eq_of_le hy with hy | hy
  · rcases rnd_spec y hy with ⟨q, h⟩ | ⟨e, h⟩
    · by_cases hq : q < 1000000000000000
      · exact .inl ⟨q, hq, by rw [h.word, ofInt_R]⟩
      · right
        rw [order_pos h.fin ht.2.1, h.val, ht.2.2]
        have := Nat.mul_le_mul_right (pw 1074) (show 1000000000000000 ≤ q by omega)
        generalize q * pw 1074 = a at *
        generalize 1000000000000000 * pw 1074 = b at *
        show (compare (a : Int) (b : Int) == .lt) = false
        rw [cmp_lt, decide_eq_false_iff_not]
        omega
    · right
      rw [e, order_pos hy ht.2.1, ht.2.2]
      show (compare (V y : Int) _ == .lt) = false
      rw [cmp_lt, decide_eq_false_iff_not]
      generalize V y = a at *
      generalize pw 1074 = b at *
      omega
  · right
    have e : rndW y = INF := by rw [hy]; decide
    rw [e]
    decide
end Go.Proofs.YthfmepnlbaifcaaDoor
