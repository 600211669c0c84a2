/-
  A quotient's rounding hangs on the quotient alone.
-/
import Derived.Test.YthfmepnlbaifcaaDoorFg
namespace Go.Proofs.YthfmepnlbaifcaaDoor
open Ieee
set_option linter.unusedVariables false
theorem R_shift (n e : Nat) (h : 52 ≤ n.log2) (h0 : n ≠ 0) : R (n * pw e) = min ((n.log2 + e - 52) * 2 ^ 52 + Toward.even.cut false n (n.log2 - 52)) INF := by
  unfold R
  rw [← pw_def e, log2_mul_pow n e h0]
  have := cut_scale false n (n.log2 - 52) e h0
  rw [show n.log2 - 52 + e = n.log2 + e - 52 by omega] at this
  rw [this]
theorem log2_four {Y r : Nat} (hY : 1 ≤ Y) (hr : r < 4) : (4 * Y + r).log2 = Y.log2 + 2 := by
  have h0 : Y ≠ 0 := by omega
  have a1 := Nat.log2_self_le h0
  have a2 : Y < 2 ^ (Y.log2 + 1) := Nat.lt_log2_self
  have h4 : 4 * Y + r ≠ 0 := by omega
  apply Nat.le_antisymm
  · have : (4 * Y + r).log2 < Y.log2 + 3 := by
      rw [Nat.log2_lt h4, show Y.log2 + 3 = (Y.log2 + 1) + 2 by omega, Nat.pow_add]
      generalize 2 ^ (Y.log2 + 1) = g at *
      omega
    omega
  · rw [Nat.le_log2 h4, Nat.pow_add]
    generalize 2 ^ Y.log2 = g at *
    omega
theorem cut_four (Y d : Nat) (hd : 3 ≤ d) (hd2 : d ≤ Y.log2 + 4) (hY : 1 ≤ Y) (r : Nat) (h1 : 1 ≤ r) (h2 : r ≤ 3) : Toward.even.cut false (4 * Y + r) d = Toward.even.cut false (4 * Y + 2) d := by
  obtain ⟨c, rfl⟩ : ∃ c, d = c + 3 := ⟨d - 3, by omega⟩
  unfold Toward.cut
  rw [log2_four hY (by omega), log2_four hY (by omega), Nat.min_eq_left (by omega), Nat.one_shiftLeft, Nat.pow_add]
  have hg : 0 < 2 ^ c := Nat.two_pow_pos c
  generalize 2 ^ c = h at *
  dsimp only
  have q1 : ∀ r, r < 4 → (4 * Y + r) / (h * 2 ^ 3) = Y / (h * 2) ∧ (4 * Y + r) % (h * 2 ^ 3) = 4 * (Y % (h * 2)) + r := by
    intro r hr
    have e := Nat.div_add_mod Y (h * 2)
    have m := Nat.mod_lt Y (show 0 < h * 2 by omega)
    have hh : 4 * Y + r = (4 * (Y % (h * 2)) + r) + (h * 2 ^ 3) * (Y / (h * 2)) := by
      have : h * 2 ^ 3 * (Y / (h * 2)) = 4 * (h * 2 * (Y / (h * 2))) := by
        rw [← Nat.mul_assoc, show h * 2 ^ 3 = 4 * (h * 2) by omega]
      rw [this]
      generalize h * 2 * (Y / (h * 2)) = z at *
      omega
    have hl : 4 * (Y % (h * 2)) + r < h * 2 ^ 3 := by omega
    constructor
    · rw [hh, Nat.add_mul_div_left _ _ (by omega), Nat.div_eq_of_lt hl, Nat.zero_add]
    · rw [hh, Nat.add_mul_mod_self_left, Nat.mod_eq_of_lt hl]
  rw [(q1 r (by omega)).1, (q1 r (by omega)).2, (q1 2 (by omega)).1, (q1 2 (by omega)).2]
  generalize Y % (h * 2) = z at *
  have b1 : decide (h * 2 ^ 3 < 2 * (4 * z + r)) = decide (h * 2 ^ 3 < 2 * (4 * z + 2)) := by rw [decide_eq_decide]; omega
  have b2 : (h * 2 ^ 3 == 2 * (4 * z + r)) = false := by rw [beq_eq_false_iff_ne]; omega
  have b3 : (h * 2 ^ 3 == 2 * (4 * z + 2)) = false := by rw [beq_eq_false_iff_ne]; omega
  rw [b1, b2, b3]
theorem R_four (Y e r : Nat) (hY : 2 ^ 53 ≤ Y) (h1 : 1 ≤ r) (h2 : r ≤ 3) : R ((4 * Y + r) * pw e) = R ((4 * Y + 2) * pw e) := by
  have hl : 53 ≤ Y.log2 := (Nat.le_log2 (by omega)).2 hY
  have l1 := log2_four (Y := Y) (r := r) (by omega) (by omega)
  have l2 := log2_four (Y := Y) (r := 2) (by omega) (by omega)
  rw [R_shift _ _ (by omega) (by omega), R_shift _ _ (by omega) (by omega), l1, l2, cut_four Y (Y.log2 + 2 - 52) (by omega) (by omega) (by omega) r h1 h2]
/-- a quotient told to so many places, and whether anything is left over -/
noncomputable def NE (A B e : Nat) : Nat := (2 * (A / (B * pw (e + 1))) + (A % (B * pw (e + 1)) != 0).toNat) * pw e
theorem NE_step (A B e : Nat) (hB : 0 < B) (hq : 2 ^ 53 ≤ A / (B * pw (e + 2))) : R (NE A B e) = R (NE A B (e + 1)) := by
  unfold NE
  have hp : B * pw (e + 2) = B * pw (e + 1) * 2 := by rw [pw_two (e + 1), Nat.mul_comm 2, Nat.mul_assoc]
  rw [show e + 1 + 1 = e + 2 by omega]
  rw [hp] at hq ⊢
  have hC : 0 < B * pw (e + 1) := Nat.mul_pos hB (pw_pos _)
  generalize B * pw (e + 1) = C at *
  have d1 : A / (C * 2) = A / C / 2 := (Nat.div_div_eq_div_mul A C 2).symm
  have d2 : A % (C * 2) = A % C + C * (A / C % 2) := Nat.mod_mul
  rw [d1] at hq ⊢
  rw [pw_two e]
  have hX := Nat.div_add_mod (A / C) 2
  generalize hY : A / C / 2 = Y at *
  have hc : A / C % 2 < 2 := Nat.mod_lt _ (by decide)
  rw [d2]
  generalize hcc : A / C % 2 = c at *
  have eX : A / C = 2 * Y + c := by omega
  rw [eX]
  have hmul : ∀ z, z * (2 * pw e) = 2 * z * pw e := fun z => by rw [← Nat.mul_assoc, Nat.mul_comm z 2]
  rw [hmul]
  rcases Nat.eq_zero_or_pos (A % C) with hz | hz
  · have s1 : (A % C != 0) = false := by rw [bne_eq_false_iff_eq]; exact hz
    rw [s1, hz, Nat.zero_add, Bool.toNat_false, Nat.add_zero]
    rcases (show c = 0 ∨ c = 1 by omega) with rfl | rfl
    · rw [Nat.mul_zero, show ((0 : Nat) != 0) = false by decide, Bool.toNat_false]
      all_goals (congr 2 <;> omega)
    · have s2 : (C * 1 != 0) = true := by rw [bne_iff_ne]; omega
      rw [s2, Bool.toNat_true]
      all_goals (congr 2 <;> omega)
  · have s1 : (A % C != 0) = true := by rw [bne_iff_ne]; omega
    have s2 : (A % C + C * c != 0) = true := by rw [bne_iff_ne]; omega
    rw [s1, s2, Bool.toNat_true]
    have r1 := R_four Y e (2 * c + 1) hq (by omega) (by omega)
    rw [show 2 * (2 * Y + c) + 1 = 4 * Y + (2 * c + 1) by omega, r1, show 2 * (2 * Y + 1) = 4 * Y + 2 by omega]
theorem NE_any (A B : Nat) (hB : 0 < B) : ∀ (n e : Nat), 2 ^ 53 ≤ A / (B * pw (e + n + 1)) → R (NE A B e) = R (NE A B (e + n))
  | 0, e, _ => rfl
  | n + 1, e, h => by
    have hle : A / (B * pw (e + (n + 1) + 1)) ≤ A / (B * pw (e + n + 1)) := Nat.div_le_div_left (Nat.mul_le_mul_left _ (pw_mono (by omega))) (Nat.mul_pos hB (pw_pos _))
    rw [NE_any A B hB n e (Nat.le_trans h hle)]
    exact NE_step A B (e + n) hB h
/-- a quotient is its exact value, told so and rounded -/
theorem div_ne {x y : Nat} (hx : x < INF) (hy : y < INF) (bx : pw 900 ≤ V x) (by_ : pw 900 ≤ V y) (hyu : V y < pw 1300) : ∃ e, double.div x y = some (R (NE (V x * pw 1074) (V y) e)) ∧ 2 ^ 53 ≤ V x * pw 1074 / (V y * pw (e + 1)) := by
  obtain ⟨m, i, hd, hi, hm, hm0, hv, _⟩ := read_big hx bx
  obtain ⟨n, j, hd2, hj, hn, hn0, hv2, hj2⟩ := read_big hy by_
  have lm := log2_le hm hm0
  have ln := log2_le hn hn0
  unfold Format.div
  rw [hd, hd2]
  have hf : double.fractionBits + 2 = 54 := rfl
  rw [hf]
  unfold Datum.quotient
  dsimp only
  rw [if_neg hn0]
  obtain ⟨k, hk⟩ : ∃ k, 54 + n.log2 - m.log2 = k := ⟨_, rfl⟩
  rw [hk]
  have hdl : n * 2 ^ 53 ≤ m <<< k := by
    rw [Nat.shiftLeft_eq]
    have a1 := Nat.log2_self_le hm0
    have a2 : n < 2 ^ (n.log2 + 1) := Nat.lt_log2_self
    calc n * 2 ^ 53 ≤ 2 ^ (n.log2 + 1) * 2 ^ 53 := Nat.mul_le_mul_right _ (Nat.le_of_lt a2)
      _ = 2 ^ (n.log2 + 54) := by rw [← Nat.pow_add]
      _ = 2 ^ (m.log2 + k) := by rw [show n.log2 + 54 = m.log2 + k by omega]
      _ = 2 ^ m.log2 * 2 ^ k := Nat.pow_add _ _ _
      _ ≤ m * 2 ^ k := Nat.mul_le_mul_right _ a1
  have hj3 := hj2 hyu
  obtain ⟨D, hD⟩ : ∃ D, m <<< k = D := ⟨_, rfl⟩
  rw [hD] at hdl ⊢
  obtain ⟨t, ht⟩ : ∃ t : Int, i - j - (k : Int) - 1 = t := ⟨_, rfl⟩
  obtain ⟨e, he⟩ : ∃ e, (t + 1074).toNat = e := ⟨_, rfl⟩
  obtain ⟨S, hS⟩ : ∃ S, pw (e + 1) * pw (j + 1074).toNat = S := ⟨_, rfl⟩
  have hSp : 0 < S := by rw [← hS]; exact Nat.mul_pos (pw_pos _) (pw_pos _)
  have s1 : V y * pw (e + 1) = n * S := by rw [← hv2, Nat.mul_assoc, Nat.mul_comm (pw (j + 1074).toNat), hS]
  have s2 : V x * pw 1074 = D * S := by
    rw [← hv, ← hD, ← hS, shl, Nat.mul_assoc m, Nat.mul_assoc m, pw_add, pw_add, pw_add]
    congr 2
    omega
  have q1 : V x * pw 1074 / (V y * pw (e + 1)) = D / n := by rw [s1, s2, Nat.mul_div_mul_right _ _ hSp]
  have q2 : (V x * pw 1074 % (V y * pw (e + 1)) != 0) = (D % n != 0) := by
    rw [s1, s2, Nat.mul_mod_mul_right, Bool.eq_iff_iff, bne_iff_ne, bne_iff_ne]
    constructor
    · intro h h0; exact h (by rw [h0, Nat.zero_mul])
    · intro h h0
      rcases Nat.mul_eq_zero.1 h0 with h1 | h1
      · exact h h1
      · omega
  refine ⟨e, ?_, ?_⟩
  · show some (double.nearest false (2 * (D / n) + (D % n != 0).toNat) (i - j - (k : Int) - 1)) = _
    rw [ht, near_pw _ _ _ (by omega), word_false, he]
    unfold NE
    rw [q1, q2]
  · rw [q1, Nat.le_div_iff_mul_le (Nat.pos_of_ne_zero hn0), Nat.mul_comm]
    exact hdl
theorem NE_ten (A B e : Nat) : NE (10 * A) (10 * B) e = NE A B e := by
  unfold NE
  have h1 : 10 * A / (10 * B * pw (e + 1)) = A / (B * pw (e + 1)) := by rw [Nat.mul_assoc, Nat.mul_div_mul_left _ _ (by decide)]
  have h2 : (10 * A % (10 * B * pw (e + 1)) != 0) = (A % (B * pw (e + 1)) != 0) := by
    rw [Nat.mul_assoc, Nat.mul_mod_mul_left, Bool.eq_iff_iff, bne_iff_ne, bne_iff_ne]
    omega
  rw [h1, h2]
theorem NE_both {A B e e' : Nat} (hB : 0 < B) (h : 2 ^ 53 ≤ A / (B * pw (e + 1))) (h' : 2 ^ 53 ≤ A / (B * pw (e' + 1))) : R (NE A B e) = R (NE A B e') := by
  rcases Nat.le_total e e' with hl | hl
  · have := NE_any A B hB (e' - e) e (by rw [show e + (e' - e) + 1 = e' + 1 by omega]; exact h')
    rwa [show e + (e' - e) = e' by omega] at this
  · have := NE_any A B hB (e - e') e' (by rw [show e' + (e - e') + 1 = e + 1 by omega]; exact h)
    rw [show e' + (e - e') = e by omega] at this
    exact this.symm
theorem up_exact {M k : Nat} (h1 : 1 ≤ M) (h2 : M < 1000000000000000) (hk : k ≤ 22) : scF M (k : Int) = R (M * (10 ^ k * pw 1074)) := by
  obtain ⟨a1, a2⟩ := ofInt_v h2
  obtain ⟨b1, b2⟩ := fpow_v hk
  obtain ⟨t1, t2⟩ := ten_le hk
  obtain ⟨N, hm, hN⟩ := mul_near a1 b1 (by rw [a2]; exact Nat.le_trans (pw_mono (by decide)) (pw_le_mul h1)) (by rw [b2]; exact Nat.le_trans (pw_mono (by decide)) (pw_le_mul t1))
  have hs' : double.mul (floatOfInt .f64 (M : Int)) (fpow k) = some (scF M k) := scF_mul M hk
  rw [hm] at hs'
  rw [a2, b2] at hN
  have hN2 : N = M * (10 ^ k * pw 1074) := by
    have : N * pw 1074 = M * (10 ^ k * pw 1074) * pw 1074 := by rw [hN]; simp only [Nat.mul_assoc, Nat.mul_left_comm]
    exact Nat.eq_of_mul_eq_mul_right (pw_pos 1074) this
  rw [← Option.some.inj hs', hN2]
/-- a nought of M is a power more -/
theorem ten_more {b : Nat} {k : Int} (h1 : 1 ≤ b) (h2 : 10 * b < 1000000000000000) (k1 : -22 ≤ k) (k2 : k < 22) : scF (10 * b) k = scF b (k + 1) := by
  by_cases hk : k < 0
  · obtain ⟨j, rfl, hj, hj0⟩ : ∃ j : Nat, k = -(j : Int) ∧ j ≤ 22 ∧ 0 < j := ⟨k.natAbs, by omega, by omega, by omega⟩
    obtain ⟨a1, a2⟩ := ofInt_v h2
    obtain ⟨b1, b2⟩ := fpow_v hj
    obtain ⟨t1, t2⟩ := ten_le hj
    have hyl : V (fpow j) < pw 1300 := by rw [b2]; exact Nat.lt_of_lt_of_le (pw_mul_lt (c := 75) (by omega)) (pw_mono (by decide))
    obtain ⟨e, hd, hq⟩ := div_ne a1 b1 (by rw [a2]; exact Nat.le_trans (pw_mono (by decide)) (pw_le_mul (by omega))) (by rw [b2]; exact Nat.le_trans (pw_mono (by decide)) (pw_le_mul t1)) hyl
    have hs' : double.div (floatOfInt .f64 ((10 * b : Nat) : Int)) (fpow j) = some (scF (10 * b) (-(j : Int))) := scF_quo (10 * b) hj hj0
    rw [hd] at hs'
    have e1 := Option.some.inj hs'
    have vx : V (floatOfInt .f64 ((10 * b : Nat) : Int)) * pw 1074 = 10 * (b * pw 1074 * pw 1074) := by rw [a2]; simp only [Nat.mul_assoc]
    have hten : 10 ^ j = 10 * 10 ^ (j - 1) := by rw [show j = (j - 1) + 1 by omega, Nat.pow_succ, Nat.mul_comm]; rfl
    have vy : V (fpow j) = 10 * (10 ^ (j - 1) * pw 1074) := by rw [b2, hten, Nat.mul_assoc]
    rw [vx, vy] at hq e1
    rw [NE_ten] at e1
    have hq1 : 2 ^ 53 ≤ b * pw 1074 * pw 1074 / (10 ^ (j - 1) * pw 1074 * pw (e + 1)) := by
      rwa [Nat.mul_assoc 10, Nat.mul_div_mul_left _ _ (by decide)] at hq
    have hB : 0 < 10 ^ (j - 1) * pw 1074 := Nat.mul_pos (Nat.one_le_pow _ _ (by decide)) (pw_pos _)
    rw [← e1]
    by_cases hj1 : j = 1
    · subst hj1
      rw [show (-((1 : Nat) : Int) + 1) = ((0 : Nat) : Int) by decide]
      have hz : scF b ((0 : Nat) : Int) = R (b * pw 1074) := by
        obtain ⟨c1, c2⟩ := ofInt_v (M := b) (by omega)
        obtain ⟨d1, d2⟩ := fpow_v (k := 0) (by decide)
        obtain ⟨N, hm, hN⟩ := mul_near c1 d1 (by rw [c2]; exact Nat.le_trans (pw_mono (by decide)) (pw_le_mul h1)) (by rw [d2]; exact Nat.le_trans (pw_mono (by decide)) (pw_le_mul (by decide)))
        have hs2 : double.mul (floatOfInt .f64 (b : Int)) (fpow 0) = some (scF b ((0 : Nat) : Int)) := scF_mul b (by decide)
        rw [hm] at hs2
        rw [← Option.some.inj hs2]
        rw [c2, d2, Nat.pow_zero, Nat.one_mul] at hN
        rw [Nat.eq_of_mul_eq_mul_right (pw_pos 1074) hN]
      rw [hz]
      have hn := NE_any (b * pw 1074 * pw 1074) (10 ^ (1 - 1) * pw 1074) hB e 0 (by rw [Nat.zero_add]; exact hq1)
      rw [Nat.zero_add] at hn
      rw [← hn]
      have e0 : NE (b * pw 1074 * pw 1074) (10 ^ (1 - 1) * pw 1074) 0 = b * pw 1074 := by
        unfold NE
        have p0 : pw 0 = 1 := by rw [← pw_def]
        have hu : pw 1074 = 2 * pw 1073 := pw_two 1073
        have ex : b * pw 1074 * pw 1074 = (b * pw 1073) * (10 ^ (1 - 1) * pw 1074 * pw (0 + 1)) := by
          rw [show (10 : Nat) ^ (1 - 1) = 1 by decide, Nat.one_mul, pw_two 0, p0, Nat.mul_one]
          conv => lhs; arg 1; rw [hu]
          simp only [Nat.mul_assoc, Nat.mul_left_comm, Nat.mul_comm]
        have hc : 0 < 10 ^ (1 - 1) * pw 1074 * pw (0 + 1) := Nat.mul_pos hB (pw_pos _)
        rw [ex, Nat.mul_div_cancel _ hc, Nat.mul_mod_left, show ((0 : Nat) != 0) = false by decide, Bool.toNat_false, Nat.add_zero, p0, Nat.mul_one, hu]
        simp only [Nat.mul_left_comm]
      rw [e0]
    · obtain ⟨c1, c2⟩ := ofInt_v (M := b) (by omega)
      obtain ⟨d1, d2⟩ := fpow_v (k := j - 1) (by omega)
      obtain ⟨u1, u2⟩ := ten_le (k := j - 1) (by omega)
      have hyl2 : V (fpow (j - 1)) < pw 1300 := by rw [d2]; exact Nat.lt_of_lt_of_le (pw_mul_lt (c := 75) (by omega)) (pw_mono (by decide))
      obtain ⟨e', hd', hq'⟩ := div_ne c1 d1 (by rw [c2]; exact Nat.le_trans (pw_mono (by decide)) (pw_le_mul h1)) (by rw [d2]; exact Nat.le_trans (pw_mono (by decide)) (pw_le_mul u1)) hyl2
      have hs2 : double.div (floatOfInt .f64 (b : Int)) (fpow (j - 1)) = some (scF b (-((j - 1 : Nat) : Int))) := scF_quo b (by omega) (by omega)
      rw [hd'] at hs2
      have e2 := Option.some.inj hs2
      rw [c2, d2] at hq' e2
      rw [show (-(j : Int) + 1) = -((j - 1 : Nat) : Int) by omega, ← e2]
      exact NE_both hB hq1 hq'
  · obtain ⟨j, rfl, hj⟩ : ∃ j : Nat, k = (j : Int) ∧ j ≤ 21 := ⟨k.natAbs, by omega, by omega⟩
    rw [up_exact (by omega) h2 (by omega), show ((j : Int) + 1) = ((j + 1 : Nat) : Int) by omega, up_exact h1 (by omega) (by omega), Nat.pow_succ, Nat.mul_comm 10 b, Nat.mul_assoc b, Nat.mul_comm (10 ^ j) 10, Nat.mul_assoc 10]
end Go.Proofs.YthfmepnlbaifcaaDoor
