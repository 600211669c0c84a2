/- Reals: the real of a word, whole numbers as reals, halves. -/
import Derived.Test.YtidpglbokpgpbaaFlt2
namespace Go.Proofs.Ytidpglbokpgpbaa
open Ieee
set_option linter.unusedVariables false
set_option linter.unusedSimpArgs false

theorem pw_is : ∃ f : Nat → Nat, ∀ k, 2 ^ k = f k := ⟨fun k => 2 ^ k, fun _ => rfl⟩
/-- powers of two, shut -/
noncomputable def pw : Nat → Nat := Classical.choose pw_is
theorem pw_def (k : Nat) : 2 ^ k = pw k := Classical.choose_spec pw_is k
theorem pw_add (a b : Nat) : pw a * pw b = pw (a + b) := by rw [← pw_def, ← pw_def, ← pw_def, Nat.pow_add]
theorem pw_pos (a : Nat) : 0 < pw a := by rw [← pw_def]; exact Nat.two_pow_pos a
theorem pw_mono {a b : Nat} (h : a ≤ b) : pw a ≤ pw b := by rw [← pw_def, ← pw_def]; exact Nat.pow_le_pow_right (by decide) h
theorem ex_pw (j a : Nat) (ha : a < 2 ^ 53) (hj : j ≤ 2000) : Ex (a * pw j) := by rw [← pw_def]; exact ex_pow j a ha hj
theorem near_pw (neg : Bool) (m : Nat) (p : Int) (hp : -1074 ≤ p) : double.nearest neg m p = double.word neg (R (m * pw (p + 1074).toNat)) := by rw [← pw_def]; exact nearest_R neg m p hp
theorem p53 : 2 ^ 53 = pw 53 := pw_def 53
theorem unit_is : ∃ f : Nat → Nat, ∀ m, f m = R (m * pw 1021) := ⟨_, fun _ => rfl⟩
/-- m of 2^-53 -/
noncomputable def unit : Nat → Nat := Classical.choose unit_is
theorem unit_R (m : Nat) : unit m = R (m * pw 1021) := Classical.choose_spec unit_is m
/-- 2^-k -/
def half (k : Nat) : Nat := (1023 - k) * 2 ^ 52
abbrev W53 : Nat := 4845873199050653696
abbrev TWO : Nat := 4611686018427387904

theorem unit_ex {m : Nat} (h : m < 2 ^ 53) : unit m < INF ∧ V (unit m) = m * pw 1021 := by rw [unit_R]; exact (ex_pw 1021 m h (by decide)).R
theorem ofInt_R (m : Nat) : floatOfInt .f64 (m : Int) = R (m * pw 1074) := by
  unfold floatOfInt FloatKind.nearest FloatKind.encode
  show double.nearest _ _ _ = _
  rw [near_pw _ _ _ (by decide)]
  have e : decide ((m : Int) < 0) = false := by simp
  have e2 : (0 + 1074 : Int).toNat = 1074 := by decide
  rw [e, word_false, e2]
  rw [Int.natAbs_natCast]
theorem read_fin' (b : Nat) (h : rg b < INF) : ∃ m p, double.read b = .number (ng b) m p ∧ -1074 ≤ p ∧ m < 2 ^ 53 ∧ m * pw (p + 1074).toNat = V (rg b) := by
  unfold Format.read
  rw [sign_d, binade_d, inf_d, least_d]
  dsimp only
  change ∃ m p, (if rg b < 2 ^ 52 then _ else _) = _ ∧ _
  unfold V
  by_cases hb : rg b < 2 ^ 52
  · rw [if_pos hb, if_pos hb]
    exact ⟨rg b, -1074, rfl, by omega, by omega, by rw [show (-1074 + 1074 : Int).toNat = 0 by decide, ← pw_def 0]; exact Nat.mul_one _⟩
  · rw [if_neg hb, if_neg hb]
    change ∃ m p, (if rg b < INF then _ else _) = _ ∧ _
    rw [if_pos h]
    refine ⟨_, _, rfl, by omega, ?_, ?_⟩
    · have : b % 2 ^ 63 % 2 ^ 52 < 2 ^ 52 := Nat.mod_lt _ (by decide)
      omega
    · have e : (-1074 + ((b % 2 ^ 63 / 2 ^ 52 - 1 : Nat) : Int) + 1074).toNat = rg b / 2 ^ 52 - 1 := by unfold rg; omega
      rw [e, ← pw_def]
      rfl
theorem read_W53 : double.read W53 = .number false (2 ^ 52) 1 := by decide
theorem div_unit {m : Nat} (h : m < 2 ^ 53) : double.div (R (m * pw 1074)) W53 = some (unit m) := by
  obtain ⟨hx, hV⟩ := (ex_pw 1074 m h (by decide)).R
  generalize R (m * pw 1074) = x at *
  have hr := rg_lt (Nat.le_of_lt hx)
  obtain ⟨n, p, hd, hp, hn, hv⟩ := read_fin' x (by rw [hr.1]; exact hx)
  rw [hr.1, hV] at hv
  rw [hr.2] at hd
  unfold Format.div
  rw [hd, read_W53]
  have hf : double.fractionBits + 2 = 54 := rfl
  rw [hf]
  unfold Datum.quotient
  dsimp only
  rw [if_neg (by decide)]
  have hl : (2 ^ 52 : Nat).log2 = 52 := by decide
  rw [hl]
  have hn2 : n.log2 ≤ 52 := by
    by_cases h0 : n = 0
    · subst h0; simp
    · have := (Nat.log2_lt h0 (k := 53)).2 hn; omega
  generalize hk : 54 + 52 - n.log2 = k
  have hk1 : 54 ≤ k ∧ k ≤ 106 := by omega
  have e1 : n <<< k = (n * pw (k - 52)) * 2 ^ 52 := by
    rw [Nat.shiftLeft_eq, Nat.mul_assoc, pw_def, pw_def, pw_add, show k - 52 + 52 = k by omega]
  rw [e1, Nat.mul_div_cancel _ (by decide), Nat.mul_mod_left]
  show some (double.nearest false (2 * (n * pw (k - 52)) + 0) (p - 1 - k - 1)) = _
  rw [Nat.add_zero]
  by_cases h0 : n = 0
  · subst h0
    have hm : m = 0 := by
      rw [Nat.zero_mul] at hv
      rcases Nat.mul_eq_zero.1 hv.symm with h | h
      · exact h
      · exact absurd h (Nat.pos_iff_ne_zero.1 (pw_pos _))
    rw [hm]
    unfold Format.nearest
    rw [unit_R, Nat.zero_mul, Nat.zero_mul, R_zero, if_pos (by simp), word_false]
  · have hp2 : -52 ≤ p := by
      apply Int.not_lt.1
      intro hlt
      have hm : 1 ≤ m := by
        apply Nat.pos_of_ne_zero
        intro hm0
        rw [hm0, Nat.zero_mul] at hv
        rcases Nat.mul_eq_zero.1 hv with h | h
        · exact h0 h
        · exact absurd h (Nat.pos_iff_ne_zero.1 (pw_pos _))
      rw [p53] at hn
      have a1 : n * pw (p + 1074).toNat < pw 53 * pw 1021 :=
        Nat.lt_of_lt_of_le (Nat.mul_lt_mul_of_pos_right hn (pw_pos _)) (Nat.mul_le_mul_left _ (pw_mono (by omega)))
      have a2 : pw 53 * pw 1021 ≤ m * pw 1074 := by
        rw [pw_add]; exact Nat.le_mul_of_pos_left _ hm
      rw [hv] at a1
      exact absurd a1 (Nat.not_lt.2 a2)
    rw [near_pw _ _ _ (by omega), word_false]
    rw [unit_R]
    have e4 : 2 * (n * pw (k - 52)) * pw (p - 1 - k - 1 + 1074).toNat = m * pw 1021 := by
      apply Nat.eq_of_mul_eq_mul_right (pw_pos 53)
      have e2 : m * pw 1021 * pw 53 = m * pw 1074 := by rw [Nat.mul_assoc, pw_add]
      rw [e2, ← hv]
      have e3 : 2 * (n * pw (k - 52)) * pw (p - 1 - k - 1 + 1074).toNat * pw 53 = n * (pw 1 * pw (k - 52) * pw (p - 1 - k - 1 + 1074).toNat * pw 53) := by
        rw [← pw_def 1, Nat.pow_one]
        generalize pw (k - 52) = A
        generalize pw (p - 1 - k - 1 + 1074).toNat = B
        generalize pw 53 = C
        rw [Nat.mul_left_comm 2 n A, Nat.mul_assoc n, Nat.mul_assoc n]
      rw [e3, pw_add, pw_add, pw_add]
      have e5 : 1 + (k - 52) + (p - 1 - (k : Int) - 1 + 1074).toNat + 53 = (p + 1074).toNat := by omega
      rw [e5]
    rw [e4]
theorem mul_W53 {x : Nat} (hx : x < INF) : double.mul x W53 = some (R (V x * pw 53)) := by
  have hr := rg_lt (Nat.le_of_lt hx)
  obtain ⟨n, p, hd, hp, hn, hv⟩ := read_fin' x (by rw [hr.1]; exact hx)
  rw [hr.1] at hv
  rw [hr.2] at hd
  unfold Format.mul
  rw [hd, read_W53]
  show some (double.nearest false (n * 2 ^ 52) (p + 1)) = _
  rw [near_pw _ _ _ (by omega), word_false, ← hv, Nat.mul_assoc, Nat.mul_assoc, pw_def, pw_add, pw_add]
  have e : 52 + (p + 1 + 1074).toNat = (p + 1074).toNat + 53 := by omega
  rw [e]
theorem half_lt {k : Nat} (hk : k ≤ 1000) : half k < INF ∧ V (half k) = pw (1074 - k) := by
  unfold half
  refine ⟨by simp only [INF]; omega, ?_⟩
  unfold V
  rw [if_neg (by omega), Nat.mul_mod_left, Nat.mul_div_cancel _ (by decide), Nat.add_zero, pw_def, pw_def, pw_add]
  have e : 52 + (1023 - k - 1) = 1074 - k := by omega
  rw [e]
theorem half_div : ∀ k, k < 64 → double.div (half k) TWO = some (half (k + 1)) := by decide +kernel
theorem add_pos {x y : Nat} (hx : x < INF) (hy : y < INF) : double.add x y = some (R (V x + V y)) := by
  have hr := rg_lt (Nat.le_of_lt hy)
  rw [add_S1 hx ⟨by rw [hr.1]; exact hy, .inl hr.2⟩, hr.1]
theorem unit_add {m j : Nat} (hm : m < 2 ^ 53) (hj : j ≤ 52) : double.add (unit m) (half (53 - j)) = some (unit (m + 2 ^ j)) := by
  obtain ⟨h1, h2⟩ := unit_ex hm
  obtain ⟨h3, h4⟩ := half_lt (k := 53 - j) (by omega)
  rw [add_pos h1 h3, h2, h4]
  rw [unit_R]
  rw [Nat.add_mul, pw_def, pw_add]
  have e : j + 1021 = 1074 - (53 - j) := by omega
  rw [e]
theorem unit_zero : unit 0 = 0 := by rw [unit_R, Nat.zero_mul, R_zero]
theorem sv_unit {m : Nat} (h : m < 2 ^ 53) : sv (unit m) = ((m * pw 1021 : Nat) : Int) := by
  obtain ⟨h1, h2⟩ := unit_ex h
  rw [sv_lt (Nat.le_of_lt h1), h2]
theorem rg_unit {m : Nat} (h : m < 2 ^ 53) : rg (unit m) = unit m ∧ rg (unit m) < INF := by
  obtain ⟨h1, h2⟩ := unit_ex h
  rw [(rg_lt (Nat.le_of_lt h1)).1]; exact ⟨rfl, h1⟩
theorem one_half : ONE = half 0 := by decide
theorem sv_one : sv ONE = ((pw 53 * pw 1021 : Nat) : Int) := by
  rw [sv_lt (by decide), one_half, (half_lt (k := 0) (by decide)).2, pw_add]
theorem mul_lt_int {a b c : Nat} (hc : 0 < c) : ((a * c : Nat) : Int) < ((b * c : Nat) : Int) ↔ a < b := by
  rw [Int.ofNat_lt]; exact Nat.mul_lt_mul_right hc
theorem mul_eq_int {a b c : Nat} (hc : 0 < c) : ((a * c : Nat) : Int) = ((b * c : Nat) : Int) ↔ a = b := by
  rw [Int.ofNat_inj]; exact ⟨fun h => Nat.eq_of_mul_eq_mul_right hc h, fun h => by rw [h]⟩
theorem order_unit {m n : Nat} (hm : m < 2 ^ 53) (hn : n < 2 ^ 53) : double.order (unit m) (unit n) = some (compare (m : Int) (n : Int)) := by
  rw [order_fin _ _ (rg_unit hm).2 (rg_unit hn).2, sv_unit hm, sv_unit hn, Int.natCast_mul, Int.natCast_mul, compare_mul _ _ _ (pw_pos _)]
theorem order_unit_one {m : Nat} (hm : m < 2 ^ 53) : double.order (unit m) ONE = some .lt := by
  rw [order_fin _ _ (rg_unit hm).2 (by decide), sv_unit hm, sv_one]
  exact congrArg some (Int.compare_eq_lt.2 ((mul_lt_int (pw_pos 1021)).2 (p53 ▸ hm)))
theorem order_unit_zero {m : Nat} (hm : m < 2 ^ 53) : double.order (unit m) 0 = some (compare (m : Int) 0) := by
  have := order_unit hm (n := 0) (by decide)
  rw [unit_zero] at this; exact this
theorem order_one_unit {m : Nat} (hm : m < 2 ^ 53) : double.order ONE (unit m) = some .gt := by
  rw [order_fin _ _ (by decide) (rg_unit hm).2, sv_unit hm, sv_one]
  exact congrArg some (Int.compare_eq_gt.2 ((mul_lt_int (pw_pos 1021)).2 (p53 ▸ hm)))
theorem unit_mul {m : Nat} (hm : m < 2 ^ 53) : double.mul (unit m) W53 = some (floatOfInt .f64 (m : Int)) := by
  obtain ⟨h1, h2⟩ := unit_ex hm
  rw [mul_W53 h1, h2, ofInt_R, Nat.mul_assoc, pw_add]
theorem unit_quo {m : Nat} (hm : m < 2 ^ 53) : double.div (floatOfInt .f64 (m : Int)) W53 = some (unit m) := by
  rw [ofInt_R, div_unit hm]
theorem order_self {x : Nat} (hx : rg x < INF) : double.order x x = some .eq := by
  rw [order_fin x x hx hx]; exact congrArg some (Int.compare_eq_eq.2 rfl)
theorem ofInt_fin {m : Nat} (hm : m < 2 ^ 53) : rg (floatOfInt .f64 (m : Int)) < INF := by
  rw [ofInt_R]
  obtain ⟨hx, hV⟩ := (ex_pw 1074 m hm (by decide)).R
  rw [(rg_lt (Nat.le_of_lt hx)).1]; exact hx
end Go.Proofs.Ytidpglbokpgpbaa
