/-
  Values: the numbers that digits spell, the reals of M and k, what a plain text says.
-/
import Derived.Test.YthfmepnlbaifcaaDoorMd
import Derived.Test.YthfmepnlbaifcaaDoorFlt3
namespace Go.Proofs.YthfmepnlbaifcaaDoor
open Ieee
set_option linter.unusedVariables false
abbrev TEN : Nat := 4621819117588971520
/-- 10^k as it is made: step by step -/
def fpow : Nat → Nat
  | 0 => ONE
  | k + 1 => (floatBits .mul .f64 (fpow k) TEN).getD 0
theorem fpow_step : ∀ k, k < 22 → floatBits .mul .f64 (fpow k) TEN = some (fpow (k + 1)) := by decide +kernel
theorem fpow_rg : ∀ k, k < 23 → rg (fpow k) < INF ∧ 0 < rg (fpow k) ∧ ng (fpow k) = false := by decide +kernel
theorem fpow_read {k : Nat} (h : k ≤ 22) : ∃ n j, double.read (fpow k) = .number false n j ∧ n ≠ 0 := by
  obtain ⟨h1, h2, h3⟩ := fpow_rg k (by omega)
  obtain ⟨m, p, hr, hp, hv⟩ := read_fin _ h1
  refine ⟨m, p, by rw [hr, h3], ?_⟩
  rintro rfl
  have := V_pos h2
  omega
theorem ofInt_read (m : Nat) : (∃ n j, double.read (floatOfInt .f64 (m : Int)) = .number false n j) ∨ double.read (floatOfInt .f64 (m : Int)) = .infinity false := by
  rw [ofInt_R]
  have hle := R_le (m * pw 1074)
  generalize R (m * pw 1074) = r at *
  obtain ⟨h1, h2⟩ := rg_lt hle
  rcases Nat.lt_or_ge r INF with h | h
  · obtain ⟨m, p, hr, _⟩ := read_fin r (by omega)
    exact .inl ⟨m, p, by rw [hr, h2]⟩
  · right
    rw [read_infy r (by omega), h2]
/-- the real of M and k -/
def scF (m : Nat) (k : Int) : Nat := if k < 0 then (floatBits .quo .f64 (floatOfInt .f64 (m : Int)) (fpow k.natAbs)).getD 0 else (floatBits .mul .f64 (floatOfInt .f64 (m : Int)) (fpow k.natAbs)).getD 0
theorem scF_mul (m : Nat) {k : Nat} (h : k ≤ 22) : floatBits .mul .f64 (floatOfInt .f64 (m : Int)) (fpow k) = some (scF m k) := by
  have : ∃ r, floatBits .mul .f64 (floatOfInt .f64 (m : Int)) (fpow k) = some r := by
    obtain ⟨n, j, hr, hn⟩ := fpow_read h
    show ∃ r, double.mul _ _ = some r
    unfold Format.mul
    rw [hr]
    rcases ofInt_read m with ⟨a, b, e⟩ | e
    · rw [e]; exact ⟨_, rfl⟩
    · rw [e]; simp [Datum.product, hn]
  obtain ⟨r, hr⟩ := this
  rw [hr, scF, if_neg (by omega), show ((k : Int)).natAbs = k by omega, hr]
  rfl
theorem scF_quo (m : Nat) {k : Nat} (h : k ≤ 22) (h0 : 0 < k) : floatBits .quo .f64 (floatOfInt .f64 (m : Int)) (fpow k) = some (scF m (-(k : Int))) := by
  have : ∃ r, floatBits .quo .f64 (floatOfInt .f64 (m : Int)) (fpow k) = some r := by
    obtain ⟨n, j, hr, hn⟩ := fpow_read h
    show ∃ r, double.div _ _ = some r
    unfold Format.div
    rw [hr]
    rcases ofInt_read m with ⟨a, b, e⟩ | e
    · rw [e]; simp [Datum.quotient, hn]
    · rw [e]; exact ⟨_, rfl⟩
  obtain ⟨r, hr⟩ := this
  rw [hr, scF, if_pos (by omega), show (-(k : Int)).natAbs = k by omega, hr]
  rfl

/-- the digits' value, by the library's parser -/
theorem parse_dgs (M : Nat) (hM : M < 18446744073709551616) : ∀ (l : List UInt8) (acc : Nat), (∀ c ∈ l, dg c = true) → acc ≤ M → Lib.parseUintM M acc l = if valF acc l ≤ M then .ok (valF acc l) else .range
  | [], acc, h, ha => by
    rw [Lib.parseUintM, if_pos (show valF acc [] ≤ M from ha)]
    rfl
  | c :: r, acc, h, ha => by
    have hc := h c (by simp)
    have hc' : 48 ≤ c.toNat ∧ c.toNat ≤ 57 := of_decide_eq_true hc
    have hv : valF acc (c :: r) = valF (10 * acc + (c.toNat - 48)) r := rfl
    have hle := valF_le r (10 * acc + (c.toNat - 48))
    rw [Lib.parseUintM, if_pos hc', hv]
    by_cases h1 : 1844674407370955162 ≤ acc
    · rw [if_pos h1, if_neg (by omega)]
    · rw [if_neg h1]
      by_cases h2 : M < acc * 10 + (c.toNat - 48)
      · rw [if_pos h2, if_neg (by omega)]
      · rw [if_neg h2, parse_dgs M hM r _ (fun x hx => h x (by simp [hx])) (by omega), Nat.mul_comm acc 10]
theorem parseU {l : List UInt8} (h : dgs l = true) : Lib.parseUintB 64 l = if val l ≤ 18446744073709551615 then .ok (val l) else .range := by
  obtain ⟨h1, h2⟩ := dgs_iff.1 h
  rw [Lib.parseUintB, if_neg h2, show (2 : Nat) ^ 64 - 1 = 18446744073709551615 by decide, parse_dgs _ (by decide) l 0 h1 (by omega)]
  rfl
theorem hasM_cons {l : List UInt8} (h : hasM l = true) : l = 45 :: unM l := by
  unfold hasM at h
  have h := of_decide_eq_true h
  unfold unM
  rw [if_pos h]
  cases l with
  | nil => simp at h
  | cons c l => simp at h; subst h; rfl
theorem hasM_not {l : List UInt8} (h : hasM l = false) : l.head? ≠ some 45 ∧ unM l = l := by
  unfold hasM at h
  have h := of_decide_eq_false h
  exact ⟨h, by rw [unM, if_neg h]⟩
/-- an int's value, if it is in range -/
def intV (n : Nm) : Option Int := if n.minus = true then (if val n.whole ≤ 9223372036854775808 then some (-(val n.whole : Int)) else none) else (if val n.whole ≤ 9223372036854775807 then some (val n.whole : Int) else none)
theorem parseI {l : List UInt8} {n : Nm} (h : ShI l n) : Lib.parseIntB 64 l = match intV n with | some i => .ok i | none => .range := by
  obtain ⟨m, a, b, p⟩ := n
  obtain ⟨h1, h2, h3, h4, h5, h6⟩ := h
  simp only at h1 h2 h3 h4
  subst h1 h2
  have hd : dgs (unM l) = true := by
    unfold whl at h5
    rw [Bool.and_eq_true] at h5
    exact h5.1
  unfold intV
  simp only
  cases hm : hasM l with
  | true =>
    have hl := hasM_cons hm
    generalize unM l = r at *
    subst hl
    simp only [Lib.parseIntB]
    rw [if_pos (by decide), parseU hd]
    simp only [if_true]
    split
    · rename_i e
      split at e <;> cases e
    · rename_i e
      split at e
      · cases e
      · rename_i hh
        rw [if_neg (by omega)]
    · rename_i u e
      split at e
      · cases e
        rename_i hh
        by_cases h7 : val r ≤ 9223372036854775808
        · rw [if_neg (by simp), if_neg (by simp; omega), if_pos h7]
          simp
        · rw [if_neg (by simp), if_pos (by simp; omega), if_neg h7]
      · cases e
  | false =>
    obtain ⟨g1, g2⟩ := hasM_not hm
    rw [g2] at hd ⊢
    cases l with
    | nil => simp [dgs] at hd
    | cons c r =>
      have hc : dg c = true := (dgs_iff.1 hd).1 c (by simp)
      have hc' : 48 ≤ c.toNat ∧ c.toNat ≤ 57 := of_decide_eq_true hc
      simp only [Lib.parseIntB]
      rw [if_neg (by omega), parseU hd]
      have e45 : ¬ c.toNat = 45 := by omega
      simp only [Bool.false_eq_true, if_false, e45, not_false_eq_true, true_and, false_and]
      split
      · rename_i e
        split at e <;> cases e
      · rename_i e
        split at e
        · cases e
        · rw [if_neg (by omega)]
      · rename_i u e
        split at e
        · cases e
          by_cases h7 : val (c :: r) ≤ 9223372036854775807
          · rw [if_neg (by omega), if_pos h7]
          · rw [if_pos (by omega), if_neg h7]
        · cases e
theorem decFrom_dgs : ∀ (l : List UInt8) (acc : Nat), (∀ c ∈ l, dg c = true) → Lib.decFrom acc l = some (valF acc l)
  | [], acc, h => rfl
  | c :: r, acc, h => by
    have hc := h c (by simp)
    have hc' : 48 ≤ c.toNat ∧ c.toNat ≤ 57 := of_decide_eq_true hc
    have : Lib.digitVal c = some (c.toNat - 48) := by rw [Lib.digitVal, if_pos hc']
    rw [Lib.decFrom, this]
    simp only
    rw [decFrom_dgs r _ (fun x hx => h x (by simp [hx])), Nat.mul_comm acc 10]
    rfl
theorem atoi_P {p : List UInt8} (h : isP p = true) : Lib.atoi p = some (powV p) ∧ p.length ≤ 18 := by
  unfold isP at h
  rw [Bool.and_eq_true, decide_eq_true_eq] at h
  obtain ⟨h1, h2⟩ := h
  obtain ⟨h3, h4⟩ := dgs_iff.1 h1
  have hn : Lib.decNat (unM p) = some (val (unM p)) := by
    rw [Lib.decNat, if_neg (by simpa using h4), decFrom_dgs _ _ h3]
    rfl
  unfold powV
  cases hm : hasM p with
  | true =>
    have hl := hasM_cons hm
    generalize unM p = r at *
    subst hl
    refine ⟨?_, by simp; omega⟩
    rw [Lib.atoi, if_pos (by decide), hn]
    rfl
  | false =>
    obtain ⟨g1, g2⟩ := hasM_not hm
    rw [g2] at hn h2 h3 h4 ⊢
    refine ⟨?_, by omega⟩
    cases p with
    | nil => exact absurd rfl h4
    | cons c r =>
      have hc : dg c = true := h3 c (by simp)
      have hc' : 48 ≤ c.toNat ∧ c.toNat ≤ 57 := of_decide_eq_true hc
      have c1 : (c == 45) = false := by
        rw [beq_eq_false_iff_ne]; rintro rfl; simp at hc'
      have c2 : (c == 43) = false := by
        rw [beq_eq_false_iff_ne]; rintro rfl; simp at hc'
      rw [Lib.atoi, c1, c2, if_neg (by decide), if_neg (by decide), hn]
      rfl
theorem powV_bd {p : List UInt8} (h : isP p = true) : -99 ≤ powV p ∧ powV p ≤ 99 := by
  unfold isP at h
  rw [Bool.and_eq_true, decide_eq_true_eq] at h
  obtain ⟨h1, h2⟩ := h
  obtain ⟨h3, h4⟩ := dgs_iff.1 h1
  have : val (unM p) ≤ 99 := by
    generalize unM p = q at *
    match q, h2, h3 with
    | [], _, _ => exact absurd rfl h4
    | [c], _, h3 =>
      have hc' : 48 ≤ c.toNat ∧ c.toNat ≤ 57 := of_decide_eq_true (h3 c (by simp))
      show 10 * 0 + (c.toNat - 48) ≤ 99
      omega
    | [c, d], _, h3 =>
      have hc' : 48 ≤ c.toNat ∧ c.toNat ≤ 57 := of_decide_eq_true (h3 c (by simp))
      have hd' : 48 ≤ d.toNat ∧ d.toNat ≤ 57 := of_decide_eq_true (h3 d (by simp))
      show 10 * (10 * 0 + (c.toNat - 48)) + (d.toNat - 48) ≤ 99
      omega
  unfold powV
  split <;> omega
/-- a real's value, if M and k may be -/
def realV (n : Nm) : Option Nat := if val (n.whole ++ n.rest) < 1000000000000000 ∧ -22 ≤ n.power - n.rest.length ∧ n.power - n.rest.length ≤ 22 then some (if n.minus = true then Op.negFloat .f64 (scF (val (n.whole ++ n.rest)) (n.power - n.rest.length)) else scF (val (n.whole ++ n.rest)) (n.power - n.rest.length)) else none
/-- what a scalar says -/
inductive Sc where
  | null
  | bool (b : Bool)
  | int (i : Int)
  | real (x : Nat)
  | text
def numS (n : Nm) : Sc := if n.rest = [] then (match intV n with | some i => .int i | none => .text) else (match realV n with | some x => .real x | none => .text)
end Go.Proofs.YthfmepnlbaifcaaDoor
