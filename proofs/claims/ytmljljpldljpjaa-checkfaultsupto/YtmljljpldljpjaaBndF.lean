import Derived.Laws.FloatArith
import Derived.Test.YtmljljpldljpjaaBndI
/- Reals as rungs: what IEEE's words stand for, in units of the least one; sums that are exact. -/
namespace Go.Proofs.Ytmljljpldljpjaa.Fl
open Ieee

/-- the rung of infinity -/
abbrev INF : Nat := 9218868437227405312
/-- the word of -0 -/
abbrev MZ : Nat := 9223372036854775808
/-- the word of 1 -/
abbrev ONE : Nat := 4607182418800017408

/-- what a rung stands for, in units of 2^-1074 -/
def V (r : Nat) : Nat := if r < 2 ^ 52 then r else (2 ^ 52 + r % 2 ^ 52) * 2 ^ (r / 2 ^ 52 - 1)

theorem binade_d : double.binade = 2 ^ 52 := rfl
theorem inf_d : double.infRung = INF := by decide
theorem sign_d : double.signWeight = 2 ^ 63 := rfl
theorem least_d : double.leastPlace = -1074 := by decide

theorem log2_mul_pow (m k : Nat) (hm : m ≠ 0) : (m * 2 ^ k).log2 = m.log2 + k := by
  have hp : 0 < 2 ^ k := Nat.two_pow_pos k
  have h0 : m * 2 ^ k ≠ 0 := Nat.mul_ne_zero hm (Nat.pos_iff_ne_zero.1 hp)
  apply Nat.le_antisymm
  · apply Nat.le_of_lt_succ
    rw [Nat.log2_lt h0, Nat.succ_eq_add_one, Nat.add_right_comm, Nat.pow_add]
    exact Nat.mul_lt_mul_of_pos_right Nat.lt_log2_self hp
  · rw [Nat.le_log2 h0, Nat.pow_add]
    exact Nat.mul_le_mul_right _ (Nat.log2_self_le hm)

theorem cut_zero (neg : Bool) (n : Nat) : Toward.even.cut neg n 0 = n := by
  simp only [Toward.cut, Nat.zero_min, Nat.shiftLeft_zero, Nat.div_one, Nat.mod_one, Nat.mul_zero]
  simp

theorem cut_scale (neg : Bool) (n d k : Nat) (hn : n ≠ 0) : Toward.even.cut neg (n * 2 ^ k) (d + k) = Toward.even.cut neg n d := by
  have hk : 0 < 2 ^ k := Nat.two_pow_pos k
  unfold Toward.cut
  rw [log2_mul_pow n k hn]
  have e : min (d + k) (n.log2 + k + 2) = min d (n.log2 + 2) + k := by omega
  rw [e]
  simp only [Nat.one_shiftLeft, Nat.pow_add]
  generalize 2 ^ min d (n.log2 + 2) = g
  rw [Nat.mul_div_mul_right _ _ hk, Nat.mul_mod_mul_right]
  have a1 : decide (g * 2 ^ k < 2 * (n % g * 2 ^ k)) = decide (g < 2 * (n % g)) := by
    rw [← Nat.mul_assoc]; exact decide_eq_decide.2 (Nat.mul_lt_mul_right hk)
  have a2 : (g * 2 ^ k == 2 * (n % g * 2 ^ k)) = (g == 2 * (n % g)) := by
    rw [← Nat.mul_assoc, Bool.eq_iff_iff, beq_iff_eq, beq_iff_eq]
    exact ⟨fun h => Nat.eq_of_mul_eq_mul_right hk h, fun h => congrArg (· * 2 ^ k) h⟩
  simp only [a1, a2]

theorem cut_exact (neg : Bool) (a d : Nat) : Toward.even.cut neg (a * 2 ^ d) d = a := by
  by_cases ha : a = 0
  · subst ha
    unfold Toward.cut
    simp
  · have := cut_scale neg a 0 d ha
    rw [Nat.zero_add] at this
    rw [this, cut_zero]

/-- the rung nearest to so many units -/
def R (N : Nat) : Nat := min ((N.log2 - 52) * 2 ^ 52 + Toward.even.cut false N (N.log2 - 52)) INF

theorem R_zero : R 0 = 0 := by
  unfold R
  have : (0 : Nat).log2 - 52 = 0 := by simp
  rw [this, cut_zero]; rfl

theorem R_le (N : Nat) : R N ≤ INF := Nat.min_le_right _ _

theorem cut_neg (a b : Bool) (n d : Nat) : Toward.even.cut a n d = Toward.even.cut b n d := rfl

theorem nearest_R (neg : Bool) (m : Nat) (p : Int) (hp : -1074 ≤ p) : double.nearest neg m p = double.word neg (R (m * 2 ^ (p + 1074).toNat)) := by
  unfold Format.nearest
  by_cases hm : m = 0
  · simp only [hm, if_true, Nat.zero_mul, R_zero]
  · rw [if_neg hm]
    dsimp only
    rw [least_d, binade_d, inf_d]
    have hl := log2_mul_pow m (p + 1074).toNat hm
    unfold R
    rw [hl]
    have hf : (double.fractionBits : Int) = 52 := rfl
    rw [hf]
    generalize hk : (p + 1074).toNat = k at *
    have hkp : p = (k : Int) - 1074 := by omega
    generalize hg : m.log2 = g at *
    have hL : max (p + (g : Int) - 52) (-1074) = ((g + k - 52 : Nat) : Int) - 1074 := by omega
    rw [hL]
    generalize hl' : g + k - 52 = L at *
    have e1 : ((L : Int) - 1074 - -1074).toNat = L := by omega
    rw [e1]
    congr 3
    rw [Nat.shiftLeft_eq]
    by_cases hc : L ≤ k
    · have e2 : (p - ((L : Int) - 1074)).toNat = k - L := by omega
      have e3 : ((L : Int) - 1074 - p).toNat = 0 := by omega
      rw [e2, e3, cut_zero]
      have e4 : m * 2 ^ k = (m * 2 ^ (k - L)) * 2 ^ L := by
        rw [Nat.mul_assoc, ← Nat.pow_add]; congr 2; omega
      rw [e4, cut_exact]
    · have e2 : (p - ((L : Int) - 1074)).toNat = 0 := by omega
      have e3 : ((L : Int) - 1074 - p).toNat = L - k := by omega
      rw [e2, e3, Nat.pow_zero, Nat.mul_one]
      have e4 : L = (L - k) + k := by omega
      conv => rhs; rw [e4]
      rw [cut_scale false m (L - k) k hm]
      exact cut_neg _ _ _ _

theorem R_V (r : Nat) (h : r < INF) : R (V r) = r := by
  unfold V
  split
  · rename_i h1
    by_cases h0 : r = 0
    · subst h0; exact R_zero
    · unfold R
      have : r.log2 < 52 := (Nat.log2_lt h0).2 h1
      have e : r.log2 - 52 = 0 := by omega
      rw [e, cut_zero]
      simp only [INF] at *
      omega
  · rename_i h1
    have hq : 1 ≤ r / 2 ^ 52 := by omega
    have ht : r % 2 ^ 52 < 2 ^ 52 := Nat.mod_lt _ (by decide)
    have hr : 2 ^ 52 * (r / 2 ^ 52) + r % 2 ^ 52 = r := Nat.div_add_mod r (2 ^ 52)
    generalize r / 2 ^ 52 = q at *
    generalize r % 2 ^ 52 = t at *
    unfold R
    have hne : 2 ^ 52 + t ≠ 0 := by omega
    have hl : (2 ^ 52 + t).log2 = 52 := by
      apply Nat.le_antisymm
      · apply Nat.le_of_lt_succ; rw [Nat.log2_lt hne]; omega
      · rw [Nat.le_log2 hne]; omega
    rw [log2_mul_pow _ _ hne, hl]
    have e : 52 + (q - 1) - 52 = q - 1 := by omega
    rw [e, cut_exact]
    simp only [INF] at *
    omega

/-- so many units are a word's -/
def Ex (N : Nat) : Prop := ∃ r, r < INF ∧ V r = N

theorem Ex.R {N : Nat} (h : Ex N) : R N < INF ∧ V (R N) = N := by
  obtain ⟨r, h1, h2⟩ := h
  rw [← h2, R_V r h1]; exact ⟨h1, rfl⟩

theorem ex_pow : ∀ (j a : Nat), a < 2 ^ 53 → j ≤ 2000 → Ex (a * 2 ^ j)
  | 0, a, ha, _ => by
    rw [Nat.pow_zero, Nat.mul_one]
    by_cases h : a < 2 ^ 52
    · exact ⟨a, by simp only [INF]; omega, by unfold V; rw [if_pos h]⟩
    · refine ⟨a, by simp only [INF]; omega, ?_⟩
      unfold V; rw [if_neg h]
      have : a / 2 ^ 52 = 1 := by omega
      rw [this]; omega
  | j + 1, a, ha, hj => by
    by_cases h : a < 2 ^ 52
    · have := ex_pow j (2 * a) (by omega) (by omega)
      rw [Nat.pow_succ, Nat.mul_comm (2 ^ j) 2, ← Nat.mul_assoc, Nat.mul_comm a 2]
      exact this
    · refine ⟨(j + 1) * 2 ^ 52 + a, by simp only [INF]; omega, ?_⟩
      unfold V
      rw [if_neg (by omega)]
      have e1 : ((j + 1) * 2 ^ 52 + a) / 2 ^ 52 = j + 2 := by omega
      have e2 : ((j + 1) * 2 ^ 52 + a) % 2 ^ 52 = a - 2 ^ 52 := by omega
      rw [e1, e2]
      have e3 : 2 ^ 52 + (a - 2 ^ 52) = a := by omega
      rw [e3]
      congr 2

theorem V_inj {r s : Nat} (hr : r < INF) (hs : s < INF) (h : V r = V s) : r = s := by
  rw [← R_V r hr, h, R_V s hs]

/-- what a word that is finite and not below nought reads as -/
theorem read_pos (r : Nat) (h : r < INF) : ∃ m p, double.read r = .number false m p ∧ -1074 ≤ p ∧ m * 2 ^ (p + 1074).toNat = V r := by
  unfold Format.read
  rw [sign_d, binade_d, inf_d, least_d]
  have h1 : r / 2 ^ 63 % 2 = 0 := by simp only [INF] at h; omega
  have h2 : r % 2 ^ 63 = r := by simp only [INF] at h; omega
  dsimp only
  rw [h1, h2]
  unfold V
  by_cases hb : r < 2 ^ 52
  · rw [if_pos hb, if_pos hb]
    exact ⟨r, -1074, rfl, by omega, by simp⟩
  · rw [if_neg hb, if_neg hb, if_pos h]
    refine ⟨_, _, rfl, by omega, ?_⟩
    congr 2
    omega

theorem read_inf : double.read INF = .infinity false := by decide
theorem read_mz : double.read MZ = .number true 0 (-1074) := by decide

end Go.Proofs.Ytmljljpldljpjaa.Fl

/- Reals: order, sums, differences of words, by what they stand for. -/
namespace Go.Proofs.Ytmljljpldljpjaa.Fl
open Ieee
set_option linter.unusedVariables false
set_option linter.unusedSimpArgs false

def rg (b : Nat) : Nat := b % 2 ^ 63
def ng (b : Nat) : Bool := b / 2 ^ 63 % 2 == 1
/-- what a word stands for, with its sign, in units of 2^-1074 -/
def sv (b : Nat) : Int := if ng b then -(V (rg b) : Int) else (V (rg b) : Int)

theorem V_zero : V 0 = 0 := by unfold V; simp
theorem V_pos {r : Nat} (h : 0 < r) : 0 < V r := by
  unfold V
  split
  · exact h
  · exact Nat.mul_pos (by omega) (Nat.two_pow_pos _)

theorem read_fin (b : Nat) (h : rg b < INF) : ∃ m p, double.read b = .number (ng b) m p ∧ -1074 ≤ p ∧ m * 2 ^ (p + 1074).toNat = V (rg b) := by
  unfold Format.read
  rw [sign_d, binade_d, inf_d, least_d]
  dsimp only
  change ∃ m p, (if rg b < 2 ^ 52 then _ else _) = _ ∧ _
  unfold V
  by_cases hb : rg b < 2 ^ 52
  · rw [if_pos hb, if_pos hb]
    exact ⟨rg b, -1074, rfl, by omega, by simp⟩
  · rw [if_neg hb, if_neg hb]
    change ∃ m p, (if rg b < INF then _ else _) = _ ∧ _
    rw [if_pos h]
    refine ⟨_, _, rfl, by omega, ?_⟩
    unfold rg
    congr 2
    omega
theorem read_infy (b : Nat) (h : rg b = INF) : double.read b = .infinity (ng b) := by
  unfold Format.read
  rw [sign_d, binade_d, inf_d, least_d]
  dsimp only
  change (if rg b < 2 ^ 52 then _ else if rg b < INF then _ else if rg b = INF then _ else _) = _
  rw [h, if_neg (by decide), if_neg (by decide), if_pos rfl]; rfl
theorem read_nan (b : Nat) (h : INF < rg b) : ∃ s f, double.read b = .nan s f := by
  unfold Format.read
  rw [sign_d, binade_d, inf_d, least_d]
  dsimp only
  change ∃ s f, (if rg b < 2 ^ 52 then _ else if rg b < INF then _ else if rg b = INF then _ else _) = _
  rw [if_neg (by simp only [INF] at h; omega), if_neg (by omega), if_neg (by omega)]
  exact ⟨_, _, rfl⟩

theorem rg_lt {r : Nat} (h : r ≤ INF) : rg r = r ∧ ng r = false := by
  simp only [INF] at h
  refine ⟨Nat.mod_eq_of_lt (by omega), ?_⟩
  unfold ng
  rw [Nat.div_eq_of_lt (by omega)]
  rfl
theorem sv_lt {r : Nat} (h : r ≤ INF) : sv r = V r := by
  unfold sv; rw [(rg_lt h).1, (rg_lt h).2]; simp

theorem signed_mul (s : Bool) (m : Nat) (p base : Int) (hb : base ≤ p) (h0 : -1074 ≤ base) : signed s m (p - base).toNat * ((2 ^ (base + 1074).toNat : Nat) : Int) = if s then -((m * 2 ^ (p + 1074).toNat : Nat) : Int) else ((m * 2 ^ (p + 1074).toNat : Nat) : Int) := by
  have e : m * 2 ^ (p + 1074).toNat = (m <<< (p - base).toNat) * 2 ^ (base + 1074).toNat := by
    rw [Nat.shiftLeft_eq, Nat.mul_assoc, ← Nat.pow_add]
    congr 2; omega
  rw [e]
  unfold signed
  cases s
  · simp only [Bool.false_eq_true, if_false]; rw [Int.natCast_mul]
  · simp only [if_true]; rw [Int.neg_mul, Int.natCast_mul]

theorem compare_mul (x y : Int) (c : Nat) (hc : 0 < c) : compare (x * (c : Int)) (y * (c : Int)) = compare x y := by
  have hc' : (0 : Int) < c := by omega
  rcases Int.lt_trichotomy x y with h | h | h
  · rw [Int.compare_eq_lt.2 h, Int.compare_eq_lt.2 (Int.mul_lt_mul_of_pos_right h hc')]
  · rw [h]; rw [Int.compare_eq_eq.2 rfl, Int.compare_eq_eq.2 rfl]
  · rw [Int.compare_eq_gt.2 h, Int.compare_eq_gt.2 (Int.mul_lt_mul_of_pos_right h hc')]

/-- finite words are held against each other by what they stand for -/
theorem order_fin (x y : Nat) (hx : rg x < INF) (hy : rg y < INF) : double.order x y = some (compare (sv x) (sv y)) := by
  obtain ⟨m, p, hr, hp, hm⟩ := read_fin x hx
  obtain ⟨n, q, hs, hq, hn⟩ := read_fin y hy
  unfold Format.order
  rw [hr, hs]
  unfold Datum.order
  dsimp only
  have h1 := signed_mul (ng x) m p (min p q) (Int.min_le_left _ _) (by omega)
  have h2 := signed_mul (ng y) n q (min p q) (Int.min_le_right _ _) (by omega)
  rw [hm] at h1
  rw [hn] at h2
  have h3 := compare_mul (signed (ng x) m (p - min p q).toNat) (signed (ng y) n (q - min p q).toNat) (2 ^ (min p q + 1074).toNat) (Nat.two_pow_pos _)
  rw [← h3, h1, h2]
  rfl

theorem order_nan (x y : Nat) (h : INF < rg x ∨ INF < rg y) : double.order x y = none := by
  unfold Format.order
  rcases h with h | h
  · obtain ⟨s, f, hr⟩ := read_nan x h
    rw [hr]; rfl
  · obtain ⟨s, f, hr⟩ := read_nan y h
    rw [hr]
    cases double.read x <;> rfl

theorem order_inf (x y : Nat) (hx : rg x = INF) (hy : rg y < INF) : double.order x y = some (if ng x then .lt else .gt) := by
  obtain ⟨n, q, hs, hq, hn⟩ := read_fin y hy
  unfold Format.order
  rw [read_infy x hx, hs]; rfl

/-- the sum of finite words -/
theorem add_fin (x y : Nat) (hx : rg x < INF) (hy : rg y < INF) : double.add x y = some (double.word (if sv x + sv y = 0 then ng x && ng y else decide (sv x + sv y < 0)) (R (sv x + sv y).natAbs)) := by
  obtain ⟨m, p, hr, hp, hm⟩ := read_fin x hx
  obtain ⟨n, q, hs, hq, hn⟩ := read_fin y hy
  unfold Format.add
  rw [hr, hs]
  unfold Datum.sum
  dsimp only [Option.map]
  have h1 := signed_mul (ng x) m p (min p q) (Int.min_le_left _ _) (by omega)
  have h2 := signed_mul (ng y) n q (min p q) (Int.min_le_right _ _) (by omega)
  rw [hm] at h1
  rw [hn] at h2
  generalize signed (ng x) m (p - min p q).toNat = A at *
  generalize signed (ng y) n (q - min p q).toNat = B at *
  have h3 : (A + B) * ((2 ^ (min p q + 1074).toNat : Nat) : Int) = sv x + sv y := by
    rw [Int.add_mul, h1, h2]; rfl
  unfold Format.write
  show some (double.nearest _ _ _) = _
  rw [nearest_R _ _ _ (by omega)]
  have hc : 0 < 2 ^ (min p q + 1074).toNat := Nat.two_pow_pos _
  generalize 2 ^ (min p q + 1074).toNat = c at *
  rw [← h3]
  have hc' : (0 : Int) < c := by omega
  have e1 : (A + B) * (c : Int) = 0 ↔ A + B = 0 := by
    constructor
    · intro h; rcases Int.mul_eq_zero.1 h with h | h
      · exact h
      · omega
    · intro h; rw [h, Int.zero_mul]
  have e2 : (A + B) * (c : Int) < 0 ↔ A + B < 0 := by
    constructor
    · intro h
      apply Int.lt_of_not_ge
      intro h'
      have := Int.mul_nonneg h' (Int.le_of_lt hc')
      omega
    · intro h; exact Int.mul_neg_of_neg_of_pos h hc'
  have e3 : ((A + B) * (c : Int)).natAbs = (A + B).natAbs * c := by rw [Int.natAbs_mul]; rfl
  rw [e3]
  simp only [e1, e2]

theorem word_false (r : Nat) : double.word false r = r := rfl

theorem sub_self (x : Nat) (hx : rg x < INF) : double.sub x x = some 0 := by
  obtain ⟨m, p, hr, hp, hm⟩ := read_fin x hx
  unfold Format.sub
  rw [hr]
  unfold Datum.opposite Datum.sum
  dsimp only [Option.map]
  have h : signed (ng x) m (p - min p p).toNat + signed (!ng x) m (p - min p p).toNat = 0 := by
    unfold signed; cases ng x <;> simp <;> omega
  rw [h]
  simp only [if_true, Int.natAbs_zero, Format.write, Format.nearest]
  cases ng x <;> rfl
theorem sub_none (x : Nat) (hx : INF ≤ rg x) : double.sub x x = none := by
  unfold Format.sub
  rcases Nat.lt_or_eq_of_le hx with h | h
  · obtain ⟨s, f, hr⟩ := read_nan x h
    rw [hr]; rfl
  · rw [read_infy x h.symm]
    unfold Datum.opposite Datum.sum
    cases ng x <;> rfl

/-- a weight that may be -/
def mb (b : Nat) : Prop := rg b < INF ∧ (ng b = false ∨ rg b = 0)
instance (b : Nat) : Decidable (mb b) := inferInstanceAs (Decidable (_ ∧ _))

theorem sv_mb {b : Nat} (h : mb b) : sv b = V (rg b) := by
  unfold sv
  rcases h.2 with h | h
  · rw [h]; simp
  · rw [h, V_zero]; simp

/-- the sum goes on -/
def S (s b : Nat) : Nat := if s < INF then R (V s + V (rg b)) else INF
theorem S_le (s b : Nat) : S s b ≤ INF := by unfold S; split; exact R_le _; exact Nat.le_refl _
theorem add_inf {b : Nat} (hb : rg b < INF) : double.add INF b = some INF := by
  obtain ⟨n, q, hs', hq, hn⟩ := read_fin b hb
  unfold Format.add
  rw [hs']
  generalize hI : double.read INF = d
  rw [read_inf] at hI
  rw [← hI]
  have e : double.word false double.infRung = INF := by rw [inf_d, word_false]
  exact congrArg some e
theorem add_S1 {s b : Nat} (h : s < INF) (hb : mb b) : double.add s b = some (R (V s + V (rg b))) := by
  have hs := Nat.le_of_lt h
  rw [add_fin s b (by rw [(rg_lt hs).1]; exact h) hb.1, sv_lt hs, sv_mb hb]
  have e : ((V s : Int) + (V (rg b) : Int)).natAbs = V s + V (rg b) := by omega
  rw [e, (rg_lt hs).2]
  have e2 : decide ((V s : Int) + (V (rg b) : Int) < 0) = false := by simp; omega
  rw [e2, Bool.false_and, ite_self, word_false]
theorem add_S {s b : Nat} (hs : s ≤ INF) (hb : mb b) : double.add s b = some (S s b) := by
  by_cases h : s < INF
  · rw [add_S1 h hb]; unfold S; rw [if_pos h]
  · have e : s = INF := by omega
    unfold S; rw [if_neg h, e, add_inf hb.1]

theorem R_pos {N : Nat} (h : 0 < N) : 0 < R N := by
  unfold R
  by_cases h1 : N.log2 - 52 = 0
  · rw [h1, cut_zero]; simp only [INF]; omega
  · simp only [INF]
    omega

theorem S_pos {s b : Nat} (hs : s ≤ INF) : 0 < S s b ↔ 0 < s ∨ 0 < rg b := by
  unfold S
  split
  · constructor
    · intro h
      by_cases h1 : 0 < s
      · exact .inl h1
      · by_cases h2 : 0 < rg b
        · exact .inr h2
        · have a1 : s = 0 := by omega
          have a2 : rg b = 0 := by omega
          rw [a1, a2, V_zero, R_zero] at h
          omega
    · rintro (h | h)
      · exact R_pos (by have := V_pos h; omega)
      · exact R_pos (by have := V_pos h; omega)
  · rename_i h
    simp only [INF] at *
    omega
theorem S_keep {s b : Nat} (hs : s < INF) (hb : rg b = 0) : S s b = s := by
  unfold S
  rw [if_pos hs, hb, V_zero, Nat.add_zero, R_V s hs]

theorem cmp_gt (x y : Int) : (compare x y == .gt) = decide (y < x) := by
  rw [Bool.eq_iff_iff, beq_iff_eq, decide_eq_true_iff]; exact Int.compare_eq_gt
theorem cmp_lt (x y : Int) : (compare x y == .lt) = decide (x < y) := by
  rw [Bool.eq_iff_iff, beq_iff_eq, decide_eq_true_iff]; exact Int.compare_eq_lt
theorem cmp_eq (x y : Int) : (compare x y == .eq) = decide (x = y) := by
  rw [Bool.eq_iff_iff, beq_iff_eq, decide_eq_true_iff]; exact Int.compare_eq_eq

abbrev MAX : Nat := 9218868437227405311
theorem rg_max : rg MAX = MAX := by decide
theorem V_le {r : Nat} (h : r < INF) : V r ≤ V MAX := by
  have hM : V MAX = (2 ^ 52 + MAX % 2 ^ 52) * 2 ^ (MAX / 2 ^ 52 - 1) := by unfold V; rw [if_neg (by decide)]
  rw [hM]
  have e1 : MAX % 2 ^ 52 = 2 ^ 52 - 1 := by decide
  unfold V
  split
  · rename_i h1
    have h2 : 2 ^ 52 * 1 ≤ (2 ^ 52 + MAX % 2 ^ 52) * 2 ^ (MAX / 2 ^ 52 - 1) := Nat.mul_le_mul (by rw [e1]; decide) (Nat.two_pow_pos _)
    generalize (2 ^ 52 + MAX % 2 ^ 52) * 2 ^ (MAX / 2 ^ 52 - 1) = K at *
    omega
  · have h1 : r % 2 ^ 52 < 2 ^ 52 := Nat.mod_lt _ (by decide)
    have h2 : r / 2 ^ 52 - 1 ≤ MAX / 2 ^ 52 - 1 := by simp only [INF, MAX] at *; omega
    exact Nat.mul_le_mul (by rw [e1]; omega) (Nat.pow_le_pow_right (by decide) h2)

theorem sv_le {b : Nat} (h : rg b < INF) : sv b ≤ sv MAX := by
  rw [sv_lt (r := MAX) (by decide)]
  have h1 := V_le h
  generalize V MAX = K at *
  unfold sv
  split <;> omega

theorem sv_zero : sv 0 = 0 := by rw [sv_lt (by decide), V_zero]; rfl
theorem sv_ng {b : Nat} : sv b < 0 ↔ ng b = true ∧ 0 < rg b := by
  unfold sv
  constructor
  · intro h
    split at h
    · rename_i h1
      refine ⟨h1, ?_⟩
      apply Nat.pos_of_ne_zero
      intro h2
      rw [h2, V_zero] at h
      simp at h
    · omega
  · rintro ⟨h1, h2⟩
    rw [if_pos h1]
    have := V_pos h2
    omega
theorem sv_pos {b : Nat} (h : mb b) : 0 < sv b ↔ 0 < rg b := by
  rw [sv_mb h]
  constructor
  · intro h1
    apply Nat.pos_of_ne_zero
    intro h2
    rw [h2, V_zero] at h1
    simp at h1
  · intro h1; have := V_pos h1; omega

/-- what mayBe asks -/
theorem ge_zero (b : Nat) : (double.order b 0 == some .gt || double.order b 0 == some .eq) = decide (rg b < INF ∧ (ng b = false ∨ rg b = 0) ∨ rg b = INF ∧ ng b = false) := by
  rcases Nat.lt_trichotomy (rg b) INF with h | h | h
  · rw [order_fin b 0 h (by decide), sv_zero]
    change (compare (sv b) 0 == .gt || compare (sv b) 0 == .eq) = _
    rw [cmp_gt, cmp_eq, Bool.eq_iff_iff]
    simp only [Bool.or_eq_true, decide_eq_true_iff]
    have h1 := @sv_ng b
    constructor
    · intro h2
      refine .inl ⟨h, ?_⟩
      by_cases h3 : ng b = false
      · exact .inl h3
      · by_cases h4 : rg b = 0
        · exact .inr h4
        · have := h1.2 ⟨by simpa using h3, by omega⟩
          omega
    · rintro (⟨_, h2⟩ | ⟨h2, _⟩)
      · have : ¬ sv b < 0 := by
          rw [h1]; rintro ⟨h3, h4⟩
          rcases h2 with h2 | h2
          · rw [h2] at h3; cases h3
          · omega
        omega
      · omega
  · rw [order_inf b 0 h (by decide)]
    rw [Bool.eq_iff_iff]
    simp only [h, Bool.or_eq_true, decide_eq_true_iff]
    cases ng b <;> simp
  · rw [order_nan b 0 (.inl h), Bool.eq_iff_iff]
    simp
    exact ⟨fun h1 => absurd h1 (by simp only [INF] at *; omega), fun h1 => absurd h1 (by simp only [INF] at *; omega)⟩
theorem le_max (b : Nat) : (double.order b MAX == some .lt || double.order b MAX == some .eq) = decide (rg b < INF ∨ rg b = INF ∧ ng b = true) := by
  rcases Nat.lt_trichotomy (rg b) INF with h | h | h
  · rw [order_fin b MAX h (by decide)]
    change (compare (sv b) (sv MAX) == .lt || compare (sv b) (sv MAX) == .eq) = _
    rw [cmp_lt, cmp_eq, Bool.eq_iff_iff]
    simp only [Bool.or_eq_true, decide_eq_true_iff]
    have h1 := sv_le h
    generalize sv MAX = K at *
    constructor
    · intro; exact .inl h
    · intro; omega
  · rw [order_inf b MAX h (by decide)]
    rw [Bool.eq_iff_iff]
    simp only [h, Bool.or_eq_true, decide_eq_true_iff]
    cases ng b <;> simp
  · rw [order_nan b MAX (.inl h), Bool.eq_iff_iff]
    simp
    exact ⟨by simp only [INF] at *; omega, fun h1 => absurd h1 (by simp only [INF] at *; omega)⟩
theorem may_iff (b : Nat) : ((double.order b 0 == some .gt || double.order b 0 == some .eq) && (double.order b MAX == some .lt || double.order b MAX == some .eq)) = decide (mb b) := by
  rw [ge_zero, le_max, Bool.eq_iff_iff]
  simp only [Bool.and_eq_true, decide_eq_true_iff]
  unfold mb
  generalize rg b = r
  cases ng b <;> simp <;> omega

theorem gt_zero {b : Nat} (h : mb b) : (double.order b 0 == some .gt) = decide (0 < rg b) := by
  rw [order_fin b 0 h.1 (by decide), sv_zero]
  change (compare (sv b) 0 == .gt) = _
  rw [cmp_gt, Bool.eq_iff_iff]
  simp only [decide_eq_true_iff]
  exact sv_pos h

end Go.Proofs.Ytmljljpldljpjaa.Fl

/-
  isWeighed, misweighed.
-/
namespace Go.Proofs.Ytmljljpldljpjaa
open Go.RowKit
set_option linter.unusedVariables false
set_option linter.unusedSimpArgs false
set_option maxRecDepth 100000
def fge (x y : Nat) : Bool := FloatKind.f64.format.order x y == some .gt || FloatKind.f64.format.order x y == some .eq
def fle (x y : Nat) : Bool := FloatKind.f64.format.order x y == some .lt || FloatKind.f64.format.order x y == some .eq
def okW (b : Nat) : Bool := fge b 0 && fle b 4636737291354636288
theorem okW_mb {b : Nat} (h : okW b = true) : Fl.mb b := by
  unfold okW at h
  rw [Bool.and_eq_true] at h
  obtain ⟨h1, h2⟩ := h
  have h1' := h1
  unfold fge at h1'
  have h3 := (Fl.ge_zero b).symm.trans h1'
  rcases of_decide_eq_true h3 with h4 | ⟨h4, h5⟩
  · exact h4
  · exfalso
    have h6 := Fl.order_inf b 4636737291354636288 h4 (by decide)
    rw [h5] at h6
    unfold fle at h2
    rw [show FloatKind.f64.format.order b 4636737291354636288 = some .gt from h6] at h2
    cases h2
def sumF (l : List Tg) : Nat := (l.map Tg.wt).foldl Fl.S 0
theorem sumF_snoc (l : List Tg) (t : Tg) : sumF (l ++ [t]) = Fl.S (sumF l) t.wt := by simp [sumF]
theorem sumF_le (l : List Tg) : sumF l ≤ Fl.INF := by
  have : ∀ (l : List Nat) (s : Nat), s ≤ Fl.INF → l.foldl Fl.S s ≤ Fl.INF := by
    intro l
    induction l with
    | nil => intro s h; exact h
    | cons a l ih => intro s h; exact ih _ (Fl.S_le _ _)
  exact this _ 0 (by decide)
/-- the weights may be, and so may their sum -/
def wgB (l : List Tg) : Bool := l.all (fun t => okW t.wt) && (fge (sumF l) 4636737291287527424 && fle (sumF l) 4636737291421745152)
theorem wgB_no {l : List Tg} {i : Nat} {t : Tg} (h : l[i]? = some t) (h2 : okW t.wt = false) : wgB l = false := by
  unfold wgB
  have : l.all (fun t => okW t.wt) = false := by
    rw [List.all_eq_false]
    exact ⟨t, List.mem_of_getElem? h, by simp [h2]⟩
  rw [this]; rfl
theorem wgB_all {l : List Tg} (h : ∀ (j : Nat) (t : Tg), l[j]? = some t → okW t.wt = true) : wgB l = (fge (sumF l) 4636737291287527424 && fle (sumF l) 4636737291421745152) := by
  unfold wgB
  have : l.all (fun t => okW t.wt) = true := by
    rw [List.all_eq_true]
    intro t ht
    obtain ⟨j, hj⟩ := List.getElem?_of_mem ht
    exact h j t hj
  rw [this]; rfl
set_option maxHeartbeats 16000000 in
theorem isWeighed_any (w : World) (a : Option Addr) (n c : Nat) (l : List Tg) (hn : l.length = n) (hs : n ≤ 1048576) (hc : Cel w a 3 (l.map Tg.row)) :
    Calls Try.prog 69 #[.slice a n c] w fun e w' => e = .returned (.bool (wgB l)) ∧ Gr w w' := by
  have HN := hideL hn
  have HC := hideL hc
  obtain ⟨R, hR⟩ : ∃ R, wgB l = R := ⟨_, rfl⟩
  have HR := hideL hR
  rw [hR]
  clear hn hc hR
  go_enter Try.func69, Try.ntmps69
  go_wp2_with fail
  go_loopw [3, 8] (fun v t wr => ∃ (j T : Nat), v = .float .f64 T ∧ t = .int .i64 j ∧ j ≤ n ∧ Gr w wr ∧ Hid (T = sumF (l.take j)) ∧ Hid (∀ (i : Nat) (y : Tg), i < j → l[i]? = some y → okW y.wt = true)) (fun _ t _ => n - (intOf t).toNat)
  case atStart => exact ⟨0, 0, rfl, rfl, by omega, Gr.refl _, rfl, fun i y h => by omega⟩
  case round =>
    obtain ⟨j, T, rfl, rfl, hj, hgr, HT, HF⟩ := hrel
    have HG := hideL hgr
    clear hgr
    have j0 : (0 : Int) ≤ j := by omega
    by_cases h3 : j < n
    · have h3' : (j : Int) < n := by omega
      rcases hkt : l[j]? with _ | t
      · have := List.getElem?_eq_none_iff.1 hkt; have := HN.out; omega
      obtain ⟨g, off, rfl, c0, c1, c2⟩ := (HC.out.below HG.out.below).tcells hkt
      have HKT := hideL hkt
      clear hkt
      have st := st_float
      obtain ⟨b1, hb1⟩ : ∃ b, (FloatKind.f64.format.order t.wt 0 == some .gt || FloatKind.f64.format.order t.wt 0 == some .eq) = b := ⟨_, rfl⟩
      obtain ⟨b2, hb2⟩ : ∃ b, (FloatKind.f64.format.order t.wt 4636737291354636288 == some .lt || FloatKind.f64.format.order t.wt 4636737291354636288 == some .eq) = b := ⟨_, rfl⟩
      have HOK : Hid (okW t.wt = (b1 && b2)) := by unfold Hid okW fge fle; rw [hb1, hb2]
      cases b1
      · have HE : Hid (R = false) := by unfold Hid; rw [← HR.out]; exact wgB_no HKT.out (by rw [HOK.out]; rfl)
        go_wp2
        go_ret
        exact ⟨by rw [HE.out]; rfl, HG.out.trans (Gr.alloc _ _)⟩
      · cases b2
        · have HE : Hid (R = false) := by unfold Hid; rw [← HR.out]; exact wgB_no HKT.out (by rw [HOK.out]; rfl)
          go_wp2
          go_ret
          exact ⟨by rw [HE.out]; rfl, HG.out.trans (Gr.alloc _ _)⟩
        · have HO : Hid (okW t.wt = true) := HOK.out
          have hadd : ∀ W : World, (binOp .add 55 (.float .f64 T) (.float .f64 t.wt)).run Try.prog W = .ok (.float .f64 (Fl.S T t.wt)) W := fun W => run_float_arith W .add 55 .f64 _ _ _ (Fl.add_S (by rw [HT.out]; exact sumF_le _) (okW_mb HO.out))
          have HTN : Hid (Fl.S T t.wt = sumF (l.take (j + 1))) := by unfold Hid; rw [take_snoc HKT.out, sumF_snoc, HT.out]
          generalize Fl.S T t.wt = T2 at hadd HTN
          go_wp2_with fail
          go_roundw
          case rel => exact ⟨j + 1, T2, rfl, by go_num, by omega, HG.out.trans (Gr.alloc _ _), HTN.out, fun i y hi hy => by
            by_cases hij : i < j
            · exact HF.out i y hij hy
            · obtain rfl : i = j := by omega
              rw [HKT.out] at hy; cases hy; exact HO.out⟩
          case measure => simp [intOf]; omega
    · have h3' : ¬ (j : Int) < n := by omega
      have HW : Hid (R = (fge T 4636737291287527424 && fle T 4636737291421745152)) := by
        unfold Hid
        rw [← HR.out, HT.out, List.take_of_length_le (by have := HN.out; omega)]
        exact wgB_all (fun i y hy => HF.out i y (by have := (List.getElem?_eq_some_iff.1 hy).1; have := HN.out; omega) hy)
      unfold fge fle at HW
      cases hb1 : (FloatKind.f64.format.order T 4636737291287527424 == some .gt || FloatKind.f64.format.order T 4636737291287527424 == some .eq)
      · rw [hb1] at HW
        go_wp2
        go_ret
        exact ⟨by rw [HW.out]; rfl, HG.out⟩
      · rw [hb1] at HW
        cases hb2 : (FloatKind.f64.format.order T 4636737291421745152 == some .lt || FloatKind.f64.format.order T 4636737291421745152 == some .eq)
        · rw [hb2] at HW
          go_wp2
          go_ret
          exact ⟨by rw [HW.out]; rfl, HG.out⟩
        · rw [hb2] at HW
          go_wp2
          go_ret
          exact ⟨by rw [HW.out]; rfl, HG.out⟩
end Go.Proofs.Ytmljljpldljpjaa

/-
  misweighed.
-/
namespace Go.Proofs.Ytmljljpldljpjaa
open Go.RowKit
set_option linter.unusedVariables false
set_option linter.unusedSimpArgs false
set_option maxRecDepth 100000
/-- a split whose weights may not be -/
def misF (r : Rs) : Option Nat := if r.kd = 2 ∧ wgB r.tgs = false then some 0 else none
set_option maxHeartbeats 16000000 in
theorem misweighed_any (w : World) (a : Option Addr) (n c : Nat) (os : List Rx) (hL : Lr w a os) (hn : os.length = n) (hs : n ≤ 4194304) :
    Calls Try.prog 50 #[.slice a n c] w fun e w' => FaE w (faV (lookF (fun _ r => misF r) (os.map Rx.toRs)) 142) e w' := by
  have HL := hideL hL
  have HN := hideL hn
  clear hL hn
  obtain ⟨A, hA⟩ : ∃ A, lookF (fun _ r => misF r) (os.map Rx.toRs) = A := ⟨_, rfl⟩
  have HST : Hid (∀ (i k : Nat) (r : Rs), (∀ (j : Nat) (x : Rs), j < i → (os.map Rx.toRs)[j]? = some x → misF x = none) → (os.map Rx.toRs)[i]? = some r → misF r = some k → A = some (i, k)) := fun i k r h1 h2 h3 => by rw [← hA]; exact lookF_stop h1 h2 h3
  have HAL : Hid ((∀ (j : Nat) (x : Rs), (os.map Rx.toRs)[j]? = some x → misF x = none) → A = none) := fun h => by rw [← hA]; exact lookF_none h
  rw [hA]
  clear hA
  obtain ⟨w1, hw1⟩ : ∃ X, w.alloc f0 = X := ⟨_, rfl⟩
  have HB1 : Hid (Below w.heap.size w w1) := by rw [← hw1]; exact (Gr.alloc _ _).below
  have HX1 : Hid (w1.heap[w.heap.size]? = some f0) := by rw [← hw1]; exact heap_alloc_new w _
  unfold f0 at hw1
  obtain ⟨B, hB⟩ : ∃ B, w.heap.size = B := ⟨_, rfl⟩
  rw [hB] at HX1
  go_enter Try.func50, Try.ntmps50
  go_wp2_with fail
  go_loopw [7] (fun t wr => ∃ (i : Nat), t = .int .i64 i ∧ i ≤ n ∧ Gr w1 wr ∧ Hid (∀ (j : Nat) (x : Rs), j < i → (os.map Rx.toRs)[j]? = some x → misF x = none)) (fun t _ => n - (intOf t).toNat)
  case atStart => exact ⟨0, rfl, by omega, Gr.refl _, fun j y hj => by omega⟩
  case round =>
    obtain ⟨i, rfl, hi, hgr, HF⟩ := hrel
    have HG := hideL hgr
    clear hgr
    have HB := hideL (HB1.out.trans (HG.out.below.mono HB1.out.size))
    have i0 : (0 : Int) ≤ i := by omega
    by_cases h3 : i < n
    · have h3' : (i : Int) < n := by omega
      rcases hki : os[i]? with _ | o
      · have := List.getElem?_eq_none_iff.1 hki; have := HN.out; omega
      have HKI : Hid ((os.map Rx.toRs)[i]? = some o.toRs) := by unfold Hid; simp [hki]
      have HRO := hideL (HL.out.each o (List.mem_of_getElem? hki))
      obtain ⟨g, off, rfl, d0, d1, d2, d3, d4, d5, d6, d7⟩ := (HL.out.row.below HB.out).cells hki
      clear hki
      obtain ⟨w3, hw3⟩ : ∃ X, wr.alloc (boxO o) = X := ⟨_, rfl⟩
      have HG3 : Hid (Gr wr w3) := by rw [← hw3]; exact Gr.alloc _ _
      have HX3 : Hid (w3.heap[wr.heap.size]? = some (boxO o)) := by rw [← hw3]; exact heap_alloc_new wr _
      have HB3 := hideL (HB.out.trans (HG3.out.below.mono HB.out.size))
      unfold boxO at hw3
      obtain ⟨e0, e1, e2, e3, e4, e5, e6, e7⟩ := box8 HX3.out
      have HGOOD : Hid (misF o.toRs = none → ∀ (j : Nat) (x : Rs), j < i + 1 → (os.map Rx.toRs)[j]? = some x → misF x = none) := fun h j x hj hx => by
        by_cases hji : j < i
        · exact HF.out j x hji hx
        · obtain rfl : j = i := by omega
          rw [HKI.out] at hx; cases hx; exact h
      by_cases hk2 : o.kd = 2
      · have hk2' : (o.kd == 2) = true := by simp [hk2]
        have HK2 := hideL hk2
        have HCA := hideL (isWeighed_any w3 o.ta o.tgs.length o.tc o.tgs rfl HRO.out.lt ((HRO.out.below HB3.out).ts))
        have HMY : Hid (wgB o.tgs = false → misF o.toRs = some 0) := fun h => by unfold misF; rw [if_pos ⟨HK2.out, h⟩]
        have HMN : Hid (wgB o.tgs = true → misF o.toRs = none) := fun h => by unfold misF; rw [if_neg (fun h' => by rw [h] at h'; cases h'.2)]
        generalize wgB o.tgs = bw at HCA HMY HMN
        clear hk2
        go_wp2_with fail
        refine HCA.out.mono ?_
        rintro e w4 ⟨rfl, hg4⟩
        have HG4 := hideL ((HG.out.trans HG3.out).trans hg4)
        clear hg4 HCA d0 d1 d2 d3 d4 d5 d6 d7 e0 e1 e2 e3 e4 e5 e6 e7
        cases bw
        · have HR : Hid (A = some (i, 0)) := HST.out i 0 o.toRs HF.out HKI.out (HMY.out rfl)
          have HB4 := hideL (HB1.out.trans (HG4.out.below.mono HB1.out.size))
          have HX4 := hideL (HG4.out.below.cells HX1.out)
          obtain ⟨⟨f0, f1, f2⟩, ⟨g0, g1, g2⟩, ⟨k0, k1, k2⟩, hbut, -⟩ := set3 HX4.out (.int .i64 i) (.int .i64 0) (.int .i64 142)
          have HBT := hideL hbut
          clear hbut
          go_wp2
          refine bodyPost_ret (v := .agg #[.int .i64 i, .int .i64 0, .int .i64 142]) (by simp [results, Try.results50, go_sem, k0, k1, k2]) rfl ⟨by rw [HR.out]; rfl, ?_⟩
          exact HB4.out.trans (HBT.out.below HB4.out.size (by omega))
        · have HR := hideL (HGOOD.out (HMN.out rfl))
          go_wp2_with fail
          go_roundw
          case rel => exact ⟨i + 1, by go_num, by omega, HG4.out, HR.out⟩
          case measure => simp [intOf]; omega
      · have hk2' : (o.kd == 2) = false := by simpa using hk2
        have HR := hideL (HGOOD.out (by unfold misF; rw [if_neg (fun h => hk2 h.1)]))
        clear hk2
        go_wp2_with fail
        go_roundw
        case rel => exact ⟨i + 1, by go_num, by omega, HG.out.trans HG3.out, HR.out⟩
        case measure => simp [intOf]; omega
    · have h3' : ¬ (i : Int) < n := by omega
      have HR : Hid (A = none) := HAL.out (fun j y hy => HF.out j y (by have := (List.getElem?_eq_some_iff.1 hy).1; have := HN.out; simp only [List.length_map] at *; omega) hy)
      have HX4 := hideL (HG.out.below.cells HX1.out)
      obtain ⟨⟨f0, f1, f2⟩, ⟨g0, g1, g2⟩, ⟨k0, k1, k2⟩, hbut, -⟩ := set3 HX4.out (.int .i64 0) (.int .i64 0) (.int .i64 0)
      have HBT := hideL hbut
      clear hbut
      go_wp2
      refine bodyPost_ret (v := .agg #[.int .i64 0, .int .i64 0, .int .i64 0]) (by simp [results, Try.results50, go_sem, k0, k1, k2]) rfl ⟨by rw [HR.out]; rfl, ?_⟩
      exact HB.out.trans (HBT.out.below HB.out.size (by omega))
end Go.Proofs.Ytmljljpldljpjaa
