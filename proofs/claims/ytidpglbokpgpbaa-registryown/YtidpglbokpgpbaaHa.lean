/- Reals: rounding keeps the order; a real smoothed lies between. -/
import Derived.Test.YtidpglbokpgpbaaFlt3
namespace Go.Proofs.Ytidpglbokpgpbaa
open Ieee
set_option linter.unusedVariables false
set_option linter.unusedSimpArgs false
theorem cut_err (n d : Nat) (hd : d ≤ n.log2 + 2) : 2 * (Toward.even.cut false n d * 2 ^ d) ≤ 2 * n + 2 ^ d ∧ 2 * n ≤ 2 * (Toward.even.cut false n d * 2 ^ d) + 2 ^ d := by
  unfold Toward.cut
  rw [Nat.min_eq_left hd, Nat.one_shiftLeft]
  have hg : 0 < 2 ^ d := Nat.two_pow_pos d
  generalize 2 ^ d = g at *
  have h1 := Nat.div_add_mod n g
  have h2 := Nat.mod_lt n hg
  dsimp only
  rw [Nat.mul_comm] at h1
  by_cases a1 : g < 2 * (n % g)
  · rw [decide_eq_true a1, Bool.true_or, Bool.toNat_true, Nat.add_mul, Nat.one_mul]
    generalize n / g * g = q at *
    omega
  · rw [decide_eq_false a1, Bool.false_or]
    by_cases a2 : (g == 2 * (n % g) && n / g % 2 == 1) = true
    · rw [a2, Bool.toNat_true, Nat.add_mul, Nat.one_mul]
      rw [Bool.and_eq_true, beq_iff_eq] at a2
      generalize n / g * g = q at *
      omega
    · rw [Bool.not_eq_true] at a2
      rw [a2, Bool.toNat_false, Nat.add_zero]
      generalize n / g * g = q at *
      omega
theorem V_mk (c d : Nat) (h1 : 2 ^ 52 ≤ c) (h2 : c ≤ 2 ^ 53) : V (d * 2 ^ 52 + c) = c * 2 ^ d := by
  unfold V
  rcases Nat.lt_or_eq_of_le h2 with h | h
  · have e1 : (d * 2 ^ 52 + c) % 2 ^ 52 = c - 2 ^ 52 := by omega
    have e2 : (d * 2 ^ 52 + c) / 2 ^ 52 = d + 1 := by omega
    rw [if_neg (by omega), e1, e2, show 2 ^ 52 + (c - 2 ^ 52) = c by omega]
    rfl
  · subst h
    have e1 : (d * 2 ^ 52 + 2 ^ 53) % 2 ^ 52 = 0 := by omega
    have e2 : (d * 2 ^ 52 + 2 ^ 53) / 2 ^ 52 = d + 2 := by omega
    rw [if_neg (by omega), e1, e2, Nat.add_zero, show d + 2 - 1 = d + 1 by omega, Nat.pow_succ 2 d, show (2 : Nat) ^ 53 = 2 ^ 52 * 2 by decide, Nat.mul_comm (2 ^ d) 2, Nat.mul_assoc]
/-- the digits that are left -/
theorem cut_bounds (N : Nat) (h1 : 2 ^ 52 ≤ N) : 2 ^ 52 ≤ Toward.even.cut false N (N.log2 - 52) ∧ Toward.even.cut false N (N.log2 - 52) ≤ 2 ^ 53 := by
  have h0 : N ≠ 0 := by omega
  have hl : 52 ≤ N.log2 := (Nat.le_log2 h0).2 h1
  have a1 := Nat.log2_self_le h0
  have a2 : N < 2 ^ (N.log2 + 1) := Nat.lt_log2_self
  obtain ⟨d, hd⟩ : ∃ d, N.log2 - 52 = d := ⟨_, rfl⟩
  have hd2 : N.log2 = d + 52 := by omega
  have hc := cut_err N d (by omega)
  rw [hd2, Nat.pow_add] at a1
  rw [hd2, show d + 52 + 1 = d + 53 by omega, Nat.pow_add] at a2
  rw [hd]
  generalize Toward.even.cut false N d = c at *
  have hp : 0 < 2 ^ d := Nat.two_pow_pos d
  constructor
  · apply Classical.byContradiction
    intro h
    have : c + 1 ≤ 2 ^ 52 := by omega
    have := Nat.mul_le_mul_right (2 ^ d) this
    rw [Nat.add_mul, Nat.one_mul, Nat.mul_comm (2 ^ 52)] at this
    generalize c * 2 ^ d = x at *
    generalize 2 ^ d = g at *
    omega
  · apply Classical.byContradiction
    intro h
    have : 2 ^ 53 + 1 ≤ c := by omega
    have := Nat.mul_le_mul_right (2 ^ d) this
    rw [Nat.add_mul, Nat.one_mul, Nat.mul_comm (2 ^ 53)] at this
    generalize c * 2 ^ d = x at *
    generalize 2 ^ d = g at *
    omega
theorem cut_mono {n m d : Nat} (h : n ≤ m) (hn : d ≤ n.log2 + 2) (hm : d ≤ m.log2 + 2) : Toward.even.cut false n d ≤ Toward.even.cut false m d := by
  unfold Toward.cut
  rw [Nat.min_eq_left hn, Nat.min_eq_left hm, Nat.one_shiftLeft]
  have hg : 0 < 2 ^ d := Nat.two_pow_pos d
  generalize 2 ^ d = g at *
  dsimp only
  have h1 := Nat.div_add_mod n g
  have h2 := Nat.mod_lt n hg
  have h3 := Nat.div_add_mod m g
  have h4 := Nat.mod_lt m hg
  have h5 : n / g ≤ m / g := Nat.div_le_div_right h
  have hb : ∀ b : Bool, b.toNat ≤ 1 := fun b => by cases b <;> decide
  rcases Nat.lt_or_eq_of_le h5 with h6 | h6
  · have := hb (decide (g < 2 * (n % g)) || g == 2 * (n % g) && n / g % 2 == 1)
    omega
  · rw [h6] at h1 ⊢
    have h7 : n % g ≤ m % g := by generalize g * (m / g) = q at *; omega
    apply Nat.add_le_add_left
    generalize (m / g % 2 == 1) = k
    by_cases b1 : g < 2 * (n % g)
    · rw [decide_eq_true b1, decide_eq_true (p := g < 2 * (m % g)) (by omega)]; simp
    · rw [decide_eq_false b1, Bool.false_or]
      by_cases b2 : g = 2 * (n % g)
      · by_cases b3 : g < 2 * (m % g)
        · rw [decide_eq_true b3, Bool.true_or]; exact hb _
        · have b4 : m % g = n % g := by omega
          rw [b4, decide_eq_false b1, Bool.false_or]; exact Nat.le_refl _
      · have : (g == 2 * (n % g)) = false := by simpa using b2
        rw [this]; simp
/-- rounding keeps the order -/
theorem R_mono {N M : Nat} (h : N ≤ M) : R N ≤ R M := by
  unfold R
  have key : (N.log2 - 52) * 2 ^ 52 + Toward.even.cut false N (N.log2 - 52) ≤ (M.log2 - 52) * 2 ^ 52 + Toward.even.cut false M (M.log2 - 52) := by
    by_cases hM : M < 2 ^ 52
    · have z1 : N.log2 - 52 = 0 := by
        by_cases h0 : N = 0
        · subst h0; simp
        · have := (Nat.log2_lt h0 (k := 52)).2 (by omega); omega
      have z2 : M.log2 - 52 = 0 := by
        by_cases h0 : M = 0
        · subst h0; simp
        · have := (Nat.log2_lt h0 (k := 52)).2 (by omega); omega
      rw [z1, z2, cut_zero, cut_zero]; omega
    · have bM := cut_bounds M (by omega)
      by_cases hN : N < 2 ^ 52
      · have z1 : N.log2 - 52 = 0 := by
          by_cases h0 : N = 0
          · subst h0; simp
          · have := (Nat.log2_lt h0 (k := 52)).2 (by omega); omega
        rw [z1, cut_zero]; omega
      · have bN := cut_bounds N (by omega)
        have hl : N.log2 ≤ M.log2 := by
          rw [Nat.le_log2 (by omega)]
          exact Nat.le_trans (Nat.log2_self_le (by omega)) h
        rcases Nat.lt_or_eq_of_le hl with hl | hl
        · have h52 : 52 ≤ N.log2 := (Nat.le_log2 (by omega)).2 (by omega)
          omega
        · rw [← hl] at bM ⊢
          exact Nat.add_le_add_left (cut_mono h (by omega) (by omega)) _
  omega
theorem V_lt {r s : Nat} (hr : r < INF) (hs : s < INF) : V r < V s ↔ r < s := by
  constructor
  · intro h
    apply Classical.byContradiction
    intro h2
    rcases Nat.lt_or_eq_of_le (Nat.not_lt.1 h2) with h3 | h3
    · have := R_mono (Nat.le_of_lt h)
      rw [R_V r hr, R_V s hs] at this
      omega
    · subst h3; omega
  · intro h
    apply Classical.byContradiction
    intro h2
    have := R_mono (Nat.not_lt.1 h2)
    rw [R_V r hr, R_V s hs] at this
    omega
theorem V_le' {r s : Nat} (hr : r < INF) (hs : s < INF) : V r ≤ V s ↔ r ≤ s := by
  rw [← Nat.not_lt, V_lt hs hr, Nat.not_lt]
theorem R_small {N : Nat} (h : N < 2 ^ 53) : R N < INF ∧ V (R N) = N := by
  have := ex_pow 0 N h (by decide)
  rw [Nat.pow_zero, Nat.mul_one] at this
  exact this.R
/-- what lies below so many units is rounded no further than to them -/
theorem R_top {N k : Nat} (h : N ≤ 2 ^ k) (hk : k ≤ 2000) : R N < INF ∧ V (R N) ≤ 2 ^ k := by
  have e := (ex_pow k 1 (by decide) hk).R
  rw [Nat.one_mul] at e
  have := R_mono h
  exact ⟨by omega, by have h1 := (V_le' (r := R N) (s := R (2 ^ k)) (by omega) e.1).2 this; omega⟩
/-- the opposite of a word -/
theorem read_flip {y : Nat} (h : y < INF) : double.read (y + 2 ^ 63) = (double.read y).opposite := by
  simp only [INF] at h
  unfold Format.read
  rw [sign_d, binade_d, inf_d, least_d]
  dsimp only
  have e1 : (y + 2 ^ 63) / 2 ^ 63 % 2 = 1 := by omega
  have e2 : (y + 2 ^ 63) % 2 ^ 63 = y := by omega
  have e3 : y / 2 ^ 63 % 2 = 0 := by omega
  have e4 : y % 2 ^ 63 = y := by omega
  rw [e1, e2, e3, e4]
  split
  · rfl
  · first | rfl | (rw [if_pos (by simp only [INF]; omega), if_pos (by simp only [INF]; omega)]; rfl)
theorem sub_pos {x y : Nat} (hx : x < INF) (hy : y < INF) : double.sub x y = some (double.word (decide ((V x : Int) - V y < 0)) (R ((V x : Int) - V y).natAbs)) := by
  have e : double.sub x y = double.add x (y + 2 ^ 63) := by
    unfold Format.sub Format.add; rw [read_flip hy]
  have r1 := rg_lt (Nat.le_of_lt hx)
  have r2 : rg (y + 2 ^ 63) = y ∧ ng (y + 2 ^ 63) = true := by
    simp only [INF] at hy
    unfold rg ng
    exact ⟨by omega, by rw [show (y + 2 ^ 63) / 2 ^ 63 % 2 = 1 by omega]; rfl⟩
  rw [e, add_fin x (y + 2 ^ 63) (by rw [r1.1]; exact hx) (by rw [r2.1]; exact hy)]
  have s1 : sv (y + 2 ^ 63) = -(V y : Int) := by unfold sv; rw [r2.2, r2.1]; rfl
  rw [s1, sv_lt (Nat.le_of_lt hx), r1.2, Bool.false_and]
  have e2 : (V x : Int) + -(V y : Int) = V x - V y := rfl
  rw [e2]
  by_cases h0 : (V x : Int) - V y = 0
  · rw [if_pos h0, h0]; rfl
  · rw [if_neg h0]
theorem cut_scale' (neg : Bool) (n d k : Nat) (hn : n ≠ 0) : Toward.even.cut neg (n * 2 ^ k) (d + k) = Toward.even.cut neg n d := cut_scale neg n d k hn
/-- a number may be told with more digits -/
theorem near_scale (neg : Bool) (m j : Nat) (p : Int) : double.nearest neg (m * 2 ^ j) p = double.nearest neg m (p + j) := by
  unfold Format.nearest
  by_cases hm : m = 0
  · subst hm; simp
  · have hm2 : m * 2 ^ j ≠ 0 := Nat.mul_ne_zero hm (Nat.pos_iff_ne_zero.1 (Nat.two_pow_pos j))
    rw [if_neg hm, if_neg hm2]
    dsimp only
    rw [log2_mul_pow m j hm]
    have e0 : p + ((m.log2 + j : Nat) : Int) - (double.fractionBits : Int) = p + (j : Int) + (m.log2 : Int) - (double.fractionBits : Int) := by omega
    rw [e0]
    generalize max (p + (j : Int) + (m.log2 : Int) - (double.fractionBits : Int)) double.leastPlace = L
    congr 3
    rw [Nat.shiftLeft_eq, Nat.shiftLeft_eq]
    by_cases h1 : L ≤ p
    · rw [show (L - p).toNat = 0 by omega, show (L - (p + (j : Int))).toNat = 0 by omega, cut_zero, cut_zero, Nat.mul_assoc, ← Nat.pow_add]
      congr 2; omega
    · by_cases h2 : L ≤ p + j
      · rw [show (L - (p + (j : Int))).toNat = 0 by omega, cut_zero, show (p - L).toNat = 0 by omega, Nat.pow_zero, Nat.mul_one]
        have e : m * 2 ^ j = (m * 2 ^ (p + j - L).toNat) * 2 ^ (L - p).toNat := by
          rw [Nat.mul_assoc, ← Nat.pow_add]; congr 2; omega
        rw [e, cut_exact]
      · rw [show (p - L).toNat = 0 by omega, show (p + (j : Int) - L).toNat = 0 by omega, Nat.pow_zero, Nat.mul_one, Nat.mul_one]
        have e : (L - p).toNat = (L - (p + (j : Int))).toNat + j := by omega
        rw [e, cut_scale neg m _ j hm]
abbrev FOUR : Nat := 4616189618054758400
theorem read_four : double.read FOUR = .number false (2 ^ 52) (-50) := by decide
theorem ex_pow2 : ∀ (j a : Nat), a < 2 ^ 53 → j ≤ 2044 → Ex (a * 2 ^ j)
  | 0, a, ha, _ => by
    rw [Nat.pow_zero, Nat.mul_one]
    by_cases h : a < 2 ^ 52
    · exact ⟨a, by simp only [INF]; omega, by unfold V; rw [if_pos h]⟩
    · refine ⟨a, by simp only [INF]; omega, ?_⟩
      unfold V; rw [if_neg h]
      have : a / 2 ^ 52 = 1 := by omega
      rw [this]; omega
  | j + 1, a, ha, hj => by
    by_cases h : a < 2 ^ 52
    · have := ex_pow2 j (2 * a) (by omega) (by omega)
      rw [Nat.pow_succ, Nat.mul_comm (2 ^ j) 2, ← Nat.mul_assoc, Nat.mul_comm a 2]
      exact this
    · refine ⟨(j + 1) * 2 ^ 52 + a, by simp only [INF]; omega, ?_⟩
      unfold V
      rw [if_neg (by omega)]
      have e1 : ((j + 1) * 2 ^ 52 + a) / 2 ^ 52 = j + 2 := by omega
      have e2 : ((j + 1) * 2 ^ 52 + a) % 2 ^ 52 = a - 2 ^ 52 := by omega
      rw [e1, e2]
      have e3 : 2 ^ 52 + (a - 2 ^ 52) = a := by omega
      rw [e3]
      congr 2
theorem ex_pw2 (j a : Nat) (ha : a < 2 ^ 53) (hj : j ≤ 2044) : Ex (a * pw j) := by rw [← pw_def]; exact ex_pow2 j a ha hj
/-- what is rounded is at most twice as much -/
theorem R_two {N : Nat} (h1 : 2 ^ 52 ≤ N) (h2 : R N < INF) : V (R N) ≤ 2 * N := by
  have h0 : N ≠ 0 := by omega
  have hl : 52 ≤ N.log2 := (Nat.le_log2 h0).2 h1
  have a1 := Nat.log2_self_le h0
  have b := cut_bounds N h1
  have hc := cut_err N (N.log2 - 52) (by omega)
  have hp : 2 ^ (N.log2 - 52) ≤ N := Nat.le_trans (Nat.pow_le_pow_right (by decide) (by omega)) a1
  have e : R N = (N.log2 - 52) * 2 ^ 52 + Toward.even.cut false N (N.log2 - 52) := by
    have : R N = min ((N.log2 - 52) * 2 ^ 52 + Toward.even.cut false N (N.log2 - 52)) INF := rfl
    omega
  rw [e, V_mk _ _ b.1 b.2]
  generalize Toward.even.cut false N (N.log2 - 52) * 2 ^ (N.log2 - 52) = x at *
  generalize 2 ^ (N.log2 - 52) = g at *
  omega
theorem read_fin2 (b : Nat) (h : rg b < INF) : ∃ m p, double.read b = .number (ng b) m p ∧ -1074 ≤ p ∧ p ≤ 971 ∧ m < 2 ^ 53 ∧ m * pw (p + 1074).toNat = V (rg b) := by
  unfold Format.read
  rw [sign_d, binade_d, inf_d, least_d]
  dsimp only
  change ∃ m p, (if rg b < 2 ^ 52 then _ else _) = _ ∧ _
  unfold V
  by_cases hb : rg b < 2 ^ 52
  · rw [if_pos hb, if_pos hb]
    exact ⟨rg b, -1074, rfl, by omega, by omega, by omega, by rw [show (-1074 + 1074 : Int).toNat = 0 by decide, ← pw_def 0]; exact Nat.mul_one _⟩
  · rw [if_neg hb, if_neg hb]
    change ∃ m p, (if rg b < INF then _ else _) = _ ∧ _
    rw [if_pos h]
    refine ⟨_, _, rfl, by omega, ?_, ?_, ?_⟩
    · have e : rg b = b % 2 ^ 63 := rfl
      rw [← e]
      simp only [INF] at h
      omega
    · have : b % 2 ^ 63 % 2 ^ 52 < 2 ^ 52 := Nat.mod_lt _ (by decide)
      omega
    · have e : (-1074 + ((b % 2 ^ 63 / 2 ^ 52 - 1 : Nat) : Int) + 1074).toNat = rg b / 2 ^ 52 - 1 := by unfold rg; omega
      rw [e, ← pw_def]
      rfl
/-- a quarter of a word -/
theorem div_four (x : Nat) (hx : rg x < INF) : ∃ r, double.div x FOUR = some (double.word (ng x) r) ∧ r < INF ∧ (2 * V r ≤ V (rg x) ∨ V (rg x) < 2 ^ 53 ∧ V r ≤ V (rg x)) := by
  obtain ⟨n, p, hd, hp, hpt, hn, hv⟩ := read_fin2 x hx
  unfold Format.div
  rw [hd, read_four]
  have hf : double.fractionBits + 2 = 54 := rfl
  rw [hf]
  unfold Datum.quotient
  dsimp only
  rw [if_neg (by decide)]
  have hl : (2 ^ 52 : Nat).log2 = 52 := by decide
  rw [hl]
  have hn2 : n.log2 ≤ 52 := by
    by_cases h0 : n = 0
    · subst h0; simp
    · have := (Nat.log2_lt h0 (k := 53)).2 hn; omega
  generalize hk : 54 + 52 - n.log2 = k
  have hk1 : 54 ≤ k ∧ k ≤ 106 := by omega
  have e1 : n <<< k = (n * 2 ^ (k - 52)) * 2 ^ 52 := by
    rw [Nat.shiftLeft_eq, Nat.mul_assoc, ← Nat.pow_add, show k - 52 + 52 = k by omega]
  rw [e1, Nat.mul_div_cancel _ (by decide), Nat.mul_mod_left]
  show ∃ r, some (double.nearest (ng x != false) (2 * (n * 2 ^ (k - 52)) + 0) (p - -50 - k - 1)) = _ ∧ _
  rw [Nat.add_zero, show (ng x != false) = ng x by cases ng x <;> rfl]
  have e2 : 2 * (n * 2 ^ (k - 52)) = n * 2 ^ (k - 51) := by
    rw [show k - 51 = k - 52 + 1 by omega, Nat.pow_succ, Nat.mul_comm 2, Nat.mul_assoc]
  rw [e2, near_scale]
  have e3 : p - -50 - (k : Int) - 1 + ((k - 51 : Nat) : Int) = p - 2 := by omega
  rw [e3]
  by_cases hp2 : -1072 ≤ p
  · rw [near_pw _ _ _ (by omega)]
    obtain ⟨h1, h2⟩ : R (n * pw (p - 2 + 1074).toNat) < INF ∧ 4 * V (R (n * pw (p - 2 + 1074).toNat)) ≤ V (rg x) := by
      have hq : n * pw (p + 1074).toNat = 4 * (n * pw (p - 2 + 1074).toNat) := by
        rw [show (p + 1074).toNat = 2 + (p - 2 + 1074).toNat by omega, ← pw_add, ← pw_def 2]
        generalize pw (p - 2 + 1074).toNat = A
        rw [Nat.mul_left_comm]
      rw [hv] at hq
      by_cases h0 : n = 0
      · rw [h0, Nat.zero_mul, R_zero, V_zero]; exact ⟨by decide, by omega⟩
      · have hb : (p - 2 + 1074).toNat ≤ 2044 := by clear hv hq e2; omega
        have := (ex_pw2 (p - 2 + 1074).toNat n hn hb).R
        rw [this.2]
        exact ⟨this.1, by omega⟩
    exact ⟨_, rfl, h1, .inl (by omega)⟩
  · -- p is -1074 or -1073
    by_cases h0 : n = 0
    · subst h0
      refine ⟨0, by unfold Format.nearest; simp, by decide, .inr ?_⟩
      rw [Nat.zero_mul] at hv
      rw [← hv, V_zero]; exact ⟨by decide, Nat.le_refl _⟩
    · unfold Format.nearest
      rw [if_neg h0]
      dsimp only
      rw [least_d, binade_d, inf_d]
      have hf2 : (double.fractionBits : Int) = 52 := rfl
      rw [hf2]
      have e4 : max (p - 2 + (n.log2 : Int) - 52) (-1074) = -1074 := by omega
      rw [e4]
      have e5 : ((-1074 : Int) - -1074).toNat = 0 := by decide
      have e6 : (p - 2 - (-1074 : Int)).toNat = 0 := by omega
      rw [e5, e6, Nat.zero_mul, Nat.zero_add, Nat.shiftLeft_zero]
      generalize hdd : ((-1074 : Int) - (p - 2)).toNat = d
      have hd12 : d = 1 ∧ p = -1073 ∨ d = 2 ∧ p = -1074 := by omega
      have hc := cut_err n d (by omega)
      rw [cut_neg (ng x) false]
      generalize Toward.even.cut false n d = c at *
      have hcn : c < 2 ^ 53 := by rcases hd12 with ⟨rfl, _⟩ | ⟨rfl, _⟩ <;> omega
      have hVc : V c = c := by
        have := (R_small hcn).2
        unfold V
        split
        · rfl
        · rename_i h; rw [show c / 2 ^ 52 = 1 by omega]; omega
      refine ⟨c, by rw [Nat.min_eq_left (by simp only [INF]; omega)], by simp only [INF]; omega, ?_⟩
      rw [hVc, ← hv]
      rcases hd12 with ⟨rfl, rfl⟩ | ⟨rfl, rfl⟩
      · left
        rw [show (-1073 + 1074 : Int).toNat = 1 by decide, ← pw_def 1]; omega
      · by_cases h1 : 2 ≤ n
        · left
          rw [show (-1074 + 1074 : Int).toNat = 0 by decide, ← pw_def 0]; omega
        · right
          rw [show (-1074 + 1074 : Int).toNat = 0 by decide, ← pw_def 0]; omega
theorem rg_word (g : Bool) {r : Nat} (h : r ≤ INF) : rg (double.word g r) = r ∧ ng (double.word g r) = g := by
  simp only [INF] at h
  cases g
  · rw [word_false]; exact rg_lt h
  · have e : double.word true r = r + 2 ^ 63 := by
      show 1 * double.signWeight + r = _
      rw [sign_d]; omega
    rw [e]; unfold rg ng
    exact ⟨by omega, by rw [show (r + 2 ^ 63) / 2 ^ 63 % 2 = 1 by omega]; rfl⟩
/-- the time smoothed -/
def SM (s t : Nat) : Nat := (((double.sub t s).bind (fun d => double.div d FOUR)).bind (fun q => double.add s q)).getD 0
theorem sm_spec {s t : Nat} (hs : s < INF) (ht : t < INF) : ∃ d q, double.sub t s = some d ∧ double.div d FOUR = some q ∧ double.add s q = some (SM s t) ∧ SM s t < INF ∧ (s ≤ t → s ≤ SM s t ∧ SM s t ≤ t) ∧ (t ≤ s → t ≤ SM s t ∧ SM s t ≤ s) := by
  have e1 := sub_pos ht hs
  obtain ⟨D, hD⟩ : ∃ D, ((V t : Int) - V s).natAbs = D := ⟨_, rfl⟩
  obtain ⟨g, hg⟩ : ∃ g, decide ((V t : Int) - V s < 0) = g := ⟨_, rfl⟩
  rw [hD, hg] at e1
  have hDm : R D < INF := by
    have hle : D ≤ V t ∨ D ≤ V s := by omega
    rcases hle with h | h
    · have := R_mono h; rw [R_V t ht] at this; omega
    · have := R_mono h; rw [R_V s hs] at this; omega
  have hw := rg_word g (Nat.le_of_lt hDm)
  obtain ⟨r, e2, hr, hq⟩ := div_four (double.word g (R D)) (by rw [hw.1]; exact hDm)
  rw [hw.1] at hq
  rw [hw.2] at e2
  have hwr := rg_word g (Nat.le_of_lt hr)
  -- the quarter is at most the difference
  have hrD : V r ≤ D := by
    by_cases h53 : D < 2 ^ 53
    · have := (R_small h53).2
      rw [this] at hq; omega
    · rcases hq with hq | hq
      · have := R_two (N := D) (by omega) hDm; omega
      · have h1 := R_mono (Nat.not_lt.1 h53)
        have h2 := (ex_pow 53 1 (by decide) (by decide)).R
        rw [Nat.one_mul] at h2
        have := (V_le' h2.1 hDm).2 h1
        omega
  obtain ⟨X, hX⟩ : ∃ X : Int, (if g then -(V r : Int) else V r) = X := ⟨_, rfl⟩
  have e3 := add_fin s (double.word g r) (by rw [(rg_lt (Nat.le_of_lt hs)).1]; exact hs) (by rw [hwr.1]; exact hr)
  have hsv : sv (double.word g r) = X := by unfold sv; rw [hwr.1, hwr.2]; exact hX
  rw [sv_lt (Nat.le_of_lt hs), (rg_lt (Nat.le_of_lt hs)).2, Bool.false_and, hsv] at e3
  have hge : (V s ≤ V t → (V s : Int) ≤ V s + X ∧ (V s : Int) + X ≤ V t) ∧ (V t ≤ V s → (V t : Int) ≤ V s + X ∧ (V s : Int) + X ≤ V s) := by
    subst hg
    by_cases h : (V t : Int) - V s < 0
    · rw [decide_eq_true h, if_pos rfl] at hX; omega
    · rw [decide_eq_false h] at hX; simp at hX; omega
  have hge0 : 0 ≤ (V s : Int) + X := by omega
  have e4 : double.add s (double.word g r) = some (R ((V s : Int) + X).natAbs) := by
    rw [e3]
    by_cases h0 : (V s : Int) + X = 0
    · rw [if_pos h0, h0]; rfl
    · rw [if_neg h0, show decide ((V s : Int) + X < 0) = false by rw [decide_eq_false]; omega, word_false]
  have eS : SM s t = R ((V s : Int) + X).natAbs := by
    unfold SM
    rw [e1, Option.bind_some, e2, Option.bind_some, e4, Option.getD_some]
  have m1 : s ≤ t → s ≤ SM s t ∧ SM s t ≤ t := by
    intro h
    have hv := hge.1 ((V_le' hs ht).2 h)
    have a1 : V s ≤ ((V s : Int) + X).natAbs := by omega
    have a2 : ((V s : Int) + X).natAbs ≤ V t := by omega
    have b1 := R_mono a1; have b2 := R_mono a2
    rw [R_V s hs] at b1; rw [R_V t ht] at b2
    rw [eS]; exact ⟨b1, b2⟩
  have m2 : t ≤ s → t ≤ SM s t ∧ SM s t ≤ s := by
    intro h
    have hv := hge.2 ((V_le' ht hs).2 h)
    have a1 : V t ≤ ((V s : Int) + X).natAbs := by omega
    have a2 : ((V s : Int) + X).natAbs ≤ V s := by omega
    have b1 := R_mono a1; have b2 := R_mono a2
    rw [R_V t ht] at b1; rw [R_V s hs] at b2
    rw [eS]; exact ⟨b1, b2⟩
  exact ⟨_, _, e1, e2, by rw [e4, eS], by omega, m1, m2⟩
end Go.Proofs.Ytidpglbokpgpbaa
