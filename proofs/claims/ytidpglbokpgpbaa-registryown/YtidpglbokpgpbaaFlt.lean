/- Reals as rungs: what IEEE's words stand for, in units of the least one; sums that are exact. -/
import Derived.Laws.FloatArith
namespace Go.Proofs.Ytidpglbokpgpbaa
open Ieee

/-- the rung of infinity -/
abbrev INF : Nat := 9218868437227405312
/-- the word of -0 -/
abbrev MZ : Nat := 9223372036854775808
/-- the word of 1 -/
abbrev ONE : Nat := 4607182418800017408

/-- what a rung stands for, in units of 2^-1074 -/
def V (r : Nat) : Nat := if r < 2 ^ 52 then r else (2 ^ 52 + r % 2 ^ 52) * 2 ^ (r / 2 ^ 52 - 1)

theorem binade_d : double.binade = 2 ^ 52 := rfl
theorem inf_d : double.infRung = INF := by decide
theorem sign_d : double.signWeight = 2 ^ 63 := rfl
theorem least_d : double.leastPlace = -1074 := by decide

theorem log2_mul_pow (m k : Nat) (hm : m ≠ 0) : (m * 2 ^ k).log2 = m.log2 + k := by
  have hp : 0 < 2 ^ k := Nat.two_pow_pos k
  have h0 : m * 2 ^ k ≠ 0 := Nat.mul_ne_zero hm (Nat.pos_iff_ne_zero.1 hp)
  apply Nat.le_antisymm
  · apply Nat.le_of_lt_succ
    rw [Nat.log2_lt h0, Nat.succ_eq_add_one, Nat.add_right_comm, Nat.pow_add]
    exact Nat.mul_lt_mul_of_pos_right Nat.lt_log2_self hp
  · rw [Nat.le_log2 h0, Nat.pow_add]
    exact Nat.mul_le_mul_right _ (Nat.log2_self_le hm)

theorem cut_zero (neg : Bool) (n : Nat) : Toward.even.cut neg n 0 = n := by
  simp only [Toward.cut, Nat.zero_min, Nat.shiftLeft_zero, Nat.div_one, Nat.mod_one, Nat.mul_zero]
  simp

theorem cut_scale (neg : Bool) (n d k : Nat) (hn : n ≠ 0) : Toward.even.cut neg (n * 2 ^ k) (d + k) = Toward.even.cut neg n d := by
  have hk : 0 < 2 ^ k := Nat.two_pow_pos k
  unfold Toward.cut
  rw [log2_mul_pow n k hn]
  have e : min (d + k) (n.log2 + k + 2) = min d (n.log2 + 2) + k := by omega
  rw [e]
  simp only [Nat.one_shiftLeft, Nat.pow_add]
  generalize 2 ^ min d (n.log2 + 2) = g
  rw [Nat.mul_div_mul_right _ _ hk, Nat.mul_mod_mul_right]
  have a1 : decide (g * 2 ^ k < 2 * (n % g * 2 ^ k)) = decide (g < 2 * (n % g)) := by
    rw [← Nat.mul_assoc]; exact decide_eq_decide.2 (Nat.mul_lt_mul_right hk)
  have a2 : (g * 2 ^ k == 2 * (n % g * 2 ^ k)) = (g == 2 * (n % g)) := by
    rw [← Nat.mul_assoc, Bool.eq_iff_iff, beq_iff_eq, beq_iff_eq]
    exact ⟨fun h => Nat.eq_of_mul_eq_mul_right hk h, fun h => congrArg (· * 2 ^ k) h⟩
  simp only [a1, a2]

theorem cut_exact (neg : Bool) (a d : Nat) : Toward.even.cut neg (a * 2 ^ d) d = a := by
  by_cases ha : a = 0
  · subst ha
    unfold Toward.cut
    simp
  · have := cut_scale neg a 0 d ha
    rw [Nat.zero_add] at this
    rw [this, cut_zero]

/-- the rung nearest to so many units -/
def R (N : Nat) : Nat := min ((N.log2 - 52) * 2 ^ 52 + Toward.even.cut false N (N.log2 - 52)) INF

theorem R_zero : R 0 = 0 := by
  unfold R
  have : (0 : Nat).log2 - 52 = 0 := by simp
  rw [this, cut_zero]; rfl

theorem R_le (N : Nat) : R N ≤ INF := Nat.min_le_right _ _

theorem cut_neg (a b : Bool) (n d : Nat) : Toward.even.cut a n d = Toward.even.cut b n d := rfl

theorem nearest_R (neg : Bool) (m : Nat) (p : Int) (hp : -1074 ≤ p) : double.nearest neg m p = double.word neg (R (m * 2 ^ (p + 1074).toNat)) := by
  unfold Format.nearest
  by_cases hm : m = 0
  · simp only [hm, if_true, Nat.zero_mul, R_zero]
  · rw [if_neg hm]
    dsimp only
    rw [least_d, binade_d, inf_d]
    have hl := log2_mul_pow m (p + 1074).toNat hm
    unfold R
    rw [hl]
    have hf : (double.fractionBits : Int) = 52 := rfl
    rw [hf]
    generalize hk : (p + 1074).toNat = k at *
    have hkp : p = (k : Int) - 1074 := by omega
    generalize hg : m.log2 = g at *
    have hL : max (p + (g : Int) - 52) (-1074) = ((g + k - 52 : Nat) : Int) - 1074 := by omega
    rw [hL]
    generalize hl' : g + k - 52 = L at *
    have e1 : ((L : Int) - 1074 - -1074).toNat = L := by omega
    rw [e1]
    congr 3
    rw [Nat.shiftLeft_eq]
    by_cases hc : L ≤ k
    · have e2 : (p - ((L : Int) - 1074)).toNat = k - L := by omega
      have e3 : ((L : Int) - 1074 - p).toNat = 0 := by omega
      rw [e2, e3, cut_zero]
      have e4 : m * 2 ^ k = (m * 2 ^ (k - L)) * 2 ^ L := by
        rw [Nat.mul_assoc, ← Nat.pow_add]; congr 2; omega
      rw [e4, cut_exact]
    · have e2 : (p - ((L : Int) - 1074)).toNat = 0 := by omega
      have e3 : ((L : Int) - 1074 - p).toNat = L - k := by omega
      rw [e2, e3, Nat.pow_zero, Nat.mul_one]
      have e4 : L = (L - k) + k := by omega
      conv => rhs; rw [e4]
      rw [cut_scale false m (L - k) k hm]
      exact cut_neg _ _ _ _

theorem R_V (r : Nat) (h : r < INF) : R (V r) = r := by
  unfold V
  split
  · rename_i h1
    by_cases h0 : r = 0
    · subst h0; exact R_zero
    · unfold R
      have : r.log2 < 52 := (Nat.log2_lt h0).2 h1
      have e : r.log2 - 52 = 0 := by omega
      rw [e, cut_zero]
      simp only [INF] at *
      omega
  · rename_i h1
    have hq : 1 ≤ r / 2 ^ 52 := by omega
    have ht : r % 2 ^ 52 < 2 ^ 52 := Nat.mod_lt _ (by decide)
    have hr : 2 ^ 52 * (r / 2 ^ 52) + r % 2 ^ 52 = r := Nat.div_add_mod r (2 ^ 52)
    generalize r / 2 ^ 52 = q at *
    generalize r % 2 ^ 52 = t at *
    unfold R
    have hne : 2 ^ 52 + t ≠ 0 := by omega
    have hl : (2 ^ 52 + t).log2 = 52 := by
      apply Nat.le_antisymm
      · apply Nat.le_of_lt_succ; rw [Nat.log2_lt hne]; omega
      · rw [Nat.le_log2 hne]; omega
    rw [log2_mul_pow _ _ hne, hl]
    have e : 52 + (q - 1) - 52 = q - 1 := by omega
    rw [e, cut_exact]
    simp only [INF] at *
    omega

/-- so many units are a word's -/
def Ex (N : Nat) : Prop := ∃ r, r < INF ∧ V r = N

theorem Ex.R {N : Nat} (h : Ex N) : R N < INF ∧ V (R N) = N := by
  obtain ⟨r, h1, h2⟩ := h
  rw [← h2, R_V r h1]; exact ⟨h1, rfl⟩

theorem ex_pow : ∀ (j a : Nat), a < 2 ^ 53 → j ≤ 2000 → Ex (a * 2 ^ j)
  | 0, a, ha, _ => by
    rw [Nat.pow_zero, Nat.mul_one]
    by_cases h : a < 2 ^ 52
    · exact ⟨a, by simp only [INF]; omega, by unfold V; rw [if_pos h]⟩
    · refine ⟨a, by simp only [INF]; omega, ?_⟩
      unfold V; rw [if_neg h]
      have : a / 2 ^ 52 = 1 := by omega
      rw [this]; omega
  | j + 1, a, ha, hj => by
    by_cases h : a < 2 ^ 52
    · have := ex_pow j (2 * a) (by omega) (by omega)
      rw [Nat.pow_succ, Nat.mul_comm (2 ^ j) 2, ← Nat.mul_assoc, Nat.mul_comm a 2]
      exact this
    · refine ⟨(j + 1) * 2 ^ 52 + a, by simp only [INF]; omega, ?_⟩
      unfold V
      rw [if_neg (by omega)]
      have e1 : ((j + 1) * 2 ^ 52 + a) / 2 ^ 52 = j + 2 := by omega
      have e2 : ((j + 1) * 2 ^ 52 + a) % 2 ^ 52 = a - 2 ^ 52 := by omega
      rw [e1, e2]
      have e3 : 2 ^ 52 + (a - 2 ^ 52) = a := by omega
      rw [e3]
      congr 2

theorem V_inj {r s : Nat} (hr : r < INF) (hs : s < INF) (h : V r = V s) : r = s := by
  rw [← R_V r hr, h, R_V s hs]

/-- what a word that is finite and not below nought reads as -/
theorem read_pos (r : Nat) (h : r < INF) : ∃ m p, double.read r = .number false m p ∧ -1074 ≤ p ∧ m * 2 ^ (p + 1074).toNat = V r := by
  unfold Format.read
  rw [sign_d, binade_d, inf_d, least_d]
  have h1 : r / 2 ^ 63 % 2 = 0 := by simp only [INF] at h; omega
  have h2 : r % 2 ^ 63 = r := by simp only [INF] at h; omega
  dsimp only
  rw [h1, h2]
  unfold V
  by_cases hb : r < 2 ^ 52
  · rw [if_pos hb, if_pos hb]
    exact ⟨r, -1074, rfl, by omega, by simp⟩
  · rw [if_neg hb, if_neg hb, if_pos h]
    refine ⟨_, _, rfl, by omega, ?_⟩
    congr 2
    omega

theorem read_inf : double.read INF = .infinity false := by decide
theorem read_mz : double.read MZ = .number true 0 (-1074) := by decide

end Go.Proofs.Ytidpglbokpgpbaa
