/- Reals: order, sums, differences of words, by what they stand for. -/
import Derived.Test.YtidpglbokpgpbaaFlt
namespace Go.Proofs.Ytidpglbokpgpbaa
open Ieee
set_option linter.unusedVariables false
set_option linter.unusedSimpArgs false

def rg (b : Nat) : Nat := b % 2 ^ 63
def ng (b : Nat) : Bool := b / 2 ^ 63 % 2 == 1
/-- what a word stands for, with its sign, in units of 2^-1074 -/
def sv (b : Nat) : Int := if ng b then -(V (rg b) : Int) else (V (rg b) : Int)

theorem V_zero : V 0 = 0 := by unfold V; simp
theorem V_pos {r : Nat} (h : 0 < r) : 0 < V r := by
  unfold V
  split
  · exact h
  · exact Nat.mul_pos (by omega) (Nat.two_pow_pos _)

theorem read_fin (b : Nat) (h : rg b < INF) : ∃ m p, double.read b = .number (ng b) m p ∧ -1074 ≤ p ∧ m * 2 ^ (p + 1074).toNat = V (rg b) := by
  unfold Format.read
  rw [sign_d, binade_d, inf_d, least_d]
  dsimp only
  change ∃ m p, (if rg b < 2 ^ 52 then _ else _) = _ ∧ _
  unfold V
  by_cases hb : rg b < 2 ^ 52
  · rw [if_pos hb, if_pos hb]
    exact ⟨rg b, -1074, rfl, by omega, by simp⟩
  · rw [if_neg hb, if_neg hb]
    change ∃ m p, (if rg b < INF then _ else _) = _ ∧ _
    rw [if_pos h]
    refine ⟨_, _, rfl, by omega, ?_⟩
    unfold rg
    congr 2
    omega
theorem read_infy (b : Nat) (h : rg b = INF) : double.read b = .infinity (ng b) := by
  unfold Format.read
  rw [sign_d, binade_d, inf_d, least_d]
  dsimp only
  change (if rg b < 2 ^ 52 then _ else if rg b < INF then _ else if rg b = INF then _ else _) = _
  rw [h, if_neg (by decide), if_neg (by decide), if_pos rfl]; rfl
theorem read_nan (b : Nat) (h : INF < rg b) : ∃ s f, double.read b = .nan s f := by
  unfold Format.read
  rw [sign_d, binade_d, inf_d, least_d]
  dsimp only
  change ∃ s f, (if rg b < 2 ^ 52 then _ else if rg b < INF then _ else if rg b = INF then _ else _) = _
  rw [if_neg (by simp only [INF] at h; omega), if_neg (by omega), if_neg (by omega)]
  exact ⟨_, _, rfl⟩

theorem rg_lt {r : Nat} (h : r ≤ INF) : rg r = r ∧ ng r = false := by
  simp only [INF] at h
  refine ⟨Nat.mod_eq_of_lt (by omega), ?_⟩
  unfold ng
  rw [Nat.div_eq_of_lt (by omega)]
  rfl
theorem sv_lt {r : Nat} (h : r ≤ INF) : sv r = V r := by
  unfold sv; rw [(rg_lt h).1, (rg_lt h).2]; simp

theorem signed_mul (s : Bool) (m : Nat) (p base : Int) (hb : base ≤ p) (h0 : -1074 ≤ base) : signed s m (p - base).toNat * ((2 ^ (base + 1074).toNat : Nat) : Int) = if s then -((m * 2 ^ (p + 1074).toNat : Nat) : Int) else ((m * 2 ^ (p + 1074).toNat : Nat) : Int) := by
  have e : m * 2 ^ (p + 1074).toNat = (m <<< (p - base).toNat) * 2 ^ (base + 1074).toNat := by
    rw [Nat.shiftLeft_eq, Nat.mul_assoc, ← Nat.pow_add]
    congr 2; omega
  rw [e]
  unfold signed
  cases s
  · simp only [Bool.false_eq_true, if_false]; rw [Int.natCast_mul]
  · simp only [if_true]; rw [Int.neg_mul, Int.natCast_mul]

theorem compare_mul (x y : Int) (c : Nat) (hc : 0 < c) : compare (x * (c : Int)) (y * (c : Int)) = compare x y := by
  have hc' : (0 : Int) < c := by omega
  rcases Int.lt_trichotomy x y with h | h | h
  · rw [Int.compare_eq_lt.2 h, Int.compare_eq_lt.2 (Int.mul_lt_mul_of_pos_right h hc')]
  · rw [h]; rw [Int.compare_eq_eq.2 rfl, Int.compare_eq_eq.2 rfl]
  · rw [Int.compare_eq_gt.2 h, Int.compare_eq_gt.2 (Int.mul_lt_mul_of_pos_right h hc')]

/-- finite words are held against each other by what they stand for -/
theorem order_fin (x y : Nat) (hx : rg x < INF) (hy : rg y < INF) : double.order x y = some (compare (sv x) (sv y)) := by
  obtain ⟨m, p, hr, hp, hm⟩ := read_fin x hx
  obtain ⟨n, q, hs, hq, hn⟩ := read_fin y hy
  unfold Format.order
  rw [hr, hs]
  unfold Datum.order
  dsimp only
  have h1 := signed_mul (ng x) m p (min p q) (Int.min_le_left _ _) (by omega)
  have h2 := signed_mul (ng y) n q (min p q) (Int.min_le_right _ _) (by omega)
  rw [hm] at h1
  rw [hn] at h2
  have h3 := compare_mul (signed (ng x) m (p - min p q).toNat) (signed (ng y) n (q - min p q).toNat) (2 ^ (min p q + 1074).toNat) (Nat.two_pow_pos _)
  rw [← h3, h1, h2]
  rfl

theorem order_nan (x y : Nat) (h : INF < rg x ∨ INF < rg y) : double.order x y = none := by
  unfold Format.order
  rcases h with h | h
  · obtain ⟨s, f, hr⟩ := read_nan x h
    rw [hr]; rfl
  · obtain ⟨s, f, hr⟩ := read_nan y h
    rw [hr]
    cases double.read x <;> rfl

theorem order_inf (x y : Nat) (hx : rg x = INF) (hy : rg y < INF) : double.order x y = some (if ng x then .lt else .gt) := by
  obtain ⟨n, q, hs, hq, hn⟩ := read_fin y hy
  unfold Format.order
  rw [read_infy x hx, hs]; rfl

/-- the sum of finite words -/
theorem add_fin (x y : Nat) (hx : rg x < INF) (hy : rg y < INF) : double.add x y = some (double.word (if sv x + sv y = 0 then ng x && ng y else decide (sv x + sv y < 0)) (R (sv x + sv y).natAbs)) := by
  obtain ⟨m, p, hr, hp, hm⟩ := read_fin x hx
  obtain ⟨n, q, hs, hq, hn⟩ := read_fin y hy
  unfold Format.add
  rw [hr, hs]
  unfold Datum.sum
  dsimp only [Option.map]
  have h1 := signed_mul (ng x) m p (min p q) (Int.min_le_left _ _) (by omega)
  have h2 := signed_mul (ng y) n q (min p q) (Int.min_le_right _ _) (by omega)
  rw [hm] at h1
  rw [hn] at h2
  generalize signed (ng x) m (p - min p q).toNat = A at *
  generalize signed (ng y) n (q - min p q).toNat = B at *
  have h3 : (A + B) * ((2 ^ (min p q + 1074).toNat : Nat) : Int) = sv x + sv y := by
    rw [Int.add_mul, h1, h2]; rfl
  unfold Format.write
  show some (double.nearest _ _ _) = _
  rw [nearest_R _ _ _ (by omega)]
  have hc : 0 < 2 ^ (min p q + 1074).toNat := Nat.two_pow_pos _
  generalize 2 ^ (min p q + 1074).toNat = c at *
  rw [← h3]
  have hc' : (0 : Int) < c := by omega
  have e1 : (A + B) * (c : Int) = 0 ↔ A + B = 0 := by
    constructor
    · intro h; rcases Int.mul_eq_zero.1 h with h | h
      · exact h
      · omega
    · intro h; rw [h, Int.zero_mul]
  have e2 : (A + B) * (c : Int) < 0 ↔ A + B < 0 := by
    constructor
    · intro h
      apply Int.lt_of_not_ge
      intro h'
      have := Int.mul_nonneg h' (Int.le_of_lt hc')
      omega
    · intro h; exact Int.mul_neg_of_neg_of_pos h hc'
  have e3 : ((A + B) * (c : Int)).natAbs = (A + B).natAbs * c := by rw [Int.natAbs_mul]; rfl
  rw [e3]
  simp only [e1, e2]

theorem word_false (r : Nat) : double.word false r = r := rfl

theorem sub_self (x : Nat) (hx : rg x < INF) : double.sub x x = some 0 := by
  obtain ⟨m, p, hr, hp, hm⟩ := read_fin x hx
  unfold Format.sub
  rw [hr]
  unfold Datum.opposite Datum.sum
  dsimp only [Option.map]
  have h : signed (ng x) m (p - min p p).toNat + signed (!ng x) m (p - min p p).toNat = 0 := by
    unfold signed; cases ng x <;> simp <;> omega
  rw [h]
  simp only [if_true, Int.natAbs_zero, Format.write, Format.nearest]
  cases ng x <;> rfl
theorem sub_none (x : Nat) (hx : INF ≤ rg x) : double.sub x x = none := by
  unfold Format.sub
  rcases Nat.lt_or_eq_of_le hx with h | h
  · obtain ⟨s, f, hr⟩ := read_nan x h
    rw [hr]; rfl
  · rw [read_infy x h.symm]
    unfold Datum.opposite Datum.sum
    cases ng x <;> rfl

/-- a weight that may be -/
def mb (b : Nat) : Prop := rg b < INF ∧ (ng b = false ∨ rg b = 0)
instance (b : Nat) : Decidable (mb b) := inferInstanceAs (Decidable (_ ∧ _))

theorem sv_mb {b : Nat} (h : mb b) : sv b = V (rg b) := by
  unfold sv
  rcases h.2 with h | h
  · rw [h]; simp
  · rw [h, V_zero]; simp

/-- the sum goes on -/
def S (s b : Nat) : Nat := if s < INF then R (V s + V (rg b)) else INF
theorem S_le (s b : Nat) : S s b ≤ INF := by unfold S; split; exact R_le _; exact Nat.le_refl _
theorem add_inf {b : Nat} (hb : rg b < INF) : double.add INF b = some INF := by
  obtain ⟨n, q, hs', hq, hn⟩ := read_fin b hb
  unfold Format.add
  rw [hs']
  generalize hI : double.read INF = d
  rw [read_inf] at hI
  rw [← hI]
  have e : double.word false double.infRung = INF := by rw [inf_d, word_false]
  exact congrArg some e
theorem add_S1 {s b : Nat} (h : s < INF) (hb : mb b) : double.add s b = some (R (V s + V (rg b))) := by
  have hs := Nat.le_of_lt h
  rw [add_fin s b (by rw [(rg_lt hs).1]; exact h) hb.1, sv_lt hs, sv_mb hb]
  have e : ((V s : Int) + (V (rg b) : Int)).natAbs = V s + V (rg b) := by omega
  rw [e, (rg_lt hs).2]
  have e2 : decide ((V s : Int) + (V (rg b) : Int) < 0) = false := by simp; omega
  rw [e2, Bool.false_and, ite_self, word_false]
theorem add_S {s b : Nat} (hs : s ≤ INF) (hb : mb b) : double.add s b = some (S s b) := by
  by_cases h : s < INF
  · rw [add_S1 h hb]; unfold S; rw [if_pos h]
  · have e : s = INF := by omega
    unfold S; rw [if_neg h, e, add_inf hb.1]

theorem R_pos {N : Nat} (h : 0 < N) : 0 < R N := by
  unfold R
  by_cases h1 : N.log2 - 52 = 0
  · rw [h1, cut_zero]; simp only [INF]; omega
  · simp only [INF]
    omega

theorem S_pos {s b : Nat} (hs : s ≤ INF) : 0 < S s b ↔ 0 < s ∨ 0 < rg b := by
  unfold S
  split
  · constructor
    · intro h
      by_cases h1 : 0 < s
      · exact .inl h1
      · by_cases h2 : 0 < rg b
        · exact .inr h2
        · have a1 : s = 0 := by omega
          have a2 : rg b = 0 := by omega
          rw [a1, a2, V_zero, R_zero] at h
          omega
    · rintro (h | h)
      · exact R_pos (by have := V_pos h; omega)
      · exact R_pos (by have := V_pos h; omega)
  · rename_i h
    simp only [INF] at *
    omega
theorem S_keep {s b : Nat} (hs : s < INF) (hb : rg b = 0) : S s b = s := by
  unfold S
  rw [if_pos hs, hb, V_zero, Nat.add_zero, R_V s hs]

theorem cmp_gt (x y : Int) : (compare x y == .gt) = decide (y < x) := by
  rw [Bool.eq_iff_iff, beq_iff_eq, decide_eq_true_iff]; exact Int.compare_eq_gt
theorem cmp_lt (x y : Int) : (compare x y == .lt) = decide (x < y) := by
  rw [Bool.eq_iff_iff, beq_iff_eq, decide_eq_true_iff]; exact Int.compare_eq_lt
theorem cmp_eq (x y : Int) : (compare x y == .eq) = decide (x = y) := by
  rw [Bool.eq_iff_iff, beq_iff_eq, decide_eq_true_iff]; exact Int.compare_eq_eq

abbrev MAX : Nat := 9218868437227405311
theorem rg_max : rg MAX = MAX := by decide
theorem V_le {r : Nat} (h : r < INF) : V r ≤ V MAX := by
  have hM : V MAX = (2 ^ 52 + MAX % 2 ^ 52) * 2 ^ (MAX / 2 ^ 52 - 1) := by unfold V; rw [if_neg (by decide)]
  rw [hM]
  have e1 : MAX % 2 ^ 52 = 2 ^ 52 - 1 := by decide
  unfold V
  split
  · rename_i h1
    have h2 : 2 ^ 52 * 1 ≤ (2 ^ 52 + MAX % 2 ^ 52) * 2 ^ (MAX / 2 ^ 52 - 1) := Nat.mul_le_mul (by rw [e1]; decide) (Nat.two_pow_pos _)
    generalize (2 ^ 52 + MAX % 2 ^ 52) * 2 ^ (MAX / 2 ^ 52 - 1) = K at *
    omega
  · have h1 : r % 2 ^ 52 < 2 ^ 52 := Nat.mod_lt _ (by decide)
    have h2 : r / 2 ^ 52 - 1 ≤ MAX / 2 ^ 52 - 1 := by simp only [INF, MAX] at *; omega
    exact Nat.mul_le_mul (by rw [e1]; omega) (Nat.pow_le_pow_right (by decide) h2)

theorem sv_le {b : Nat} (h : rg b < INF) : sv b ≤ sv MAX := by
  rw [sv_lt (r := MAX) (by decide)]
  have h1 := V_le h
  generalize V MAX = K at *
  unfold sv
  split <;> omega

theorem sv_zero : sv 0 = 0 := by rw [sv_lt (by decide), V_zero]; rfl
theorem sv_ng {b : Nat} : sv b < 0 ↔ ng b = true ∧ 0 < rg b := by
  unfold sv
  constructor
  · intro h
    split at h
    · rename_i h1
      refine ⟨h1, ?_⟩
      apply Nat.pos_of_ne_zero
      intro h2
      rw [h2, V_zero] at h
      simp at h
    · omega
  · rintro ⟨h1, h2⟩
    rw [if_pos h1]
    have := V_pos h2
    omega
theorem sv_pos {b : Nat} (h : mb b) : 0 < sv b ↔ 0 < rg b := by
  rw [sv_mb h]
  constructor
  · intro h1
    apply Nat.pos_of_ne_zero
    intro h2
    rw [h2, V_zero] at h1
    simp at h1
  · intro h1; have := V_pos h1; omega

/-- what mayBe asks -/
theorem ge_zero (b : Nat) : (double.order b 0 == some .gt || double.order b 0 == some .eq) = decide (rg b < INF ∧ (ng b = false ∨ rg b = 0) ∨ rg b = INF ∧ ng b = false) := by
  rcases Nat.lt_trichotomy (rg b) INF with h | h | h
  · rw [order_fin b 0 h (by decide), sv_zero]
    change (compare (sv b) 0 == .gt || compare (sv b) 0 == .eq) = _
    rw [cmp_gt, cmp_eq, Bool.eq_iff_iff]
    simp only [Bool.or_eq_true, decide_eq_true_iff]
    have h1 := @sv_ng b
    constructor
    · intro h2
      refine .inl ⟨h, ?_⟩
      by_cases h3 : ng b = false
      · exact .inl h3
      · by_cases h4 : rg b = 0
        · exact .inr h4
        · have := h1.2 ⟨by simpa using h3, by omega⟩
          omega
    · rintro (⟨_, h2⟩ | ⟨h2, _⟩)
      · have : ¬ sv b < 0 := by
          rw [h1]; rintro ⟨h3, h4⟩
          rcases h2 with h2 | h2
          · rw [h2] at h3; cases h3
          · omega
        omega
      · omega
  · rw [order_inf b 0 h (by decide)]
    rw [Bool.eq_iff_iff]
    simp only [h, Bool.or_eq_true, decide_eq_true_iff]
    cases ng b <;> simp
  · rw [order_nan b 0 (.inl h), Bool.eq_iff_iff]
    simp
    exact ⟨fun h1 => absurd h1 (by simp only [INF] at *; omega), fun h1 => absurd h1 (by simp only [INF] at *; omega)⟩
theorem le_max (b : Nat) : (double.order b MAX == some .lt || double.order b MAX == some .eq) = decide (rg b < INF ∨ rg b = INF ∧ ng b = true) := by
  rcases Nat.lt_trichotomy (rg b) INF with h | h | h
  · rw [order_fin b MAX h (by decide)]
    change (compare (sv b) (sv MAX) == .lt || compare (sv b) (sv MAX) == .eq) = _
    rw [cmp_lt, cmp_eq, Bool.eq_iff_iff]
    simp only [Bool.or_eq_true, decide_eq_true_iff]
    have h1 := sv_le h
    generalize sv MAX = K at *
    constructor
    · intro; exact .inl h
    · intro; omega
  · rw [order_inf b MAX h (by decide)]
    rw [Bool.eq_iff_iff]
    simp only [h, Bool.or_eq_true, decide_eq_true_iff]
    cases ng b <;> simp
  · rw [order_nan b MAX (.inl h), Bool.eq_iff_iff]
    simp
    exact ⟨by simp only [INF] at *; omega, fun h1 => absurd h1 (by simp only [INF] at *; omega)⟩
theorem may_iff (b : Nat) : ((double.order b 0 == some .gt || double.order b 0 == some .eq) && (double.order b MAX == some .lt || double.order b MAX == some .eq)) = decide (mb b) := by
  rw [ge_zero, le_max, Bool.eq_iff_iff]
  simp only [Bool.and_eq_true, decide_eq_true_iff]
  unfold mb
  generalize rg b = r
  cases ng b <;> simp <;> omega

theorem gt_zero {b : Nat} (h : mb b) : (double.order b 0 == some .gt) = decide (0 < rg b) := by
  rw [order_fin b 0 h.1 (by decide), sv_zero]
  change (compare (sv b) 0 == .gt) = _
  rw [cmp_gt, Bool.eq_iff_iff]
  simp only [decide_eq_true_iff]
  exact sv_pos h

end Go.Proofs.Ytidpglbokpgpbaa
