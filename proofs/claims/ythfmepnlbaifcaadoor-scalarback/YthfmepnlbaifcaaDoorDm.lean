/-
  What is printed, without the program: digits, the text of M and k, and that both are read as what they were.
-/
import Derived.Test.YthfmepnlbaifcaaDoorFq
import Derived.Lib.ItoaMem
namespace Go.Proofs.YthfmepnlbaifcaaDoor
open Ieee
set_option linter.unusedVariables false
set_option linter.unusedSimpArgs false
theorem dg_of (d : Nat) (h : d < 10) : dg (UInt8.ofNat (48 + d)) = true ∧ (UInt8.ofNat (48 + d)).toNat - 48 = d := by
  have : ∀ d : Fin 10, dg (UInt8.ofNat (48 + d.val)) = true ∧ (UInt8.ofNat (48 + d.val)).toNat - 48 = d.val := by decide
  exact this ⟨d, h⟩
theorem dd_one {u : Nat} (h : u < 10) : Lib.decDigits u = [UInt8.ofNat (48 + u)] := by rw [Lib.decDigits, dif_pos h]
theorem dd_more {u : Nat} (h : ¬ u < 10) : Lib.decDigits u = Lib.decDigits (u / 10) ++ [UInt8.ofNat (48 + u % 10)] := by rw [Lib.decDigits, dif_neg h]
theorem dd_dg (u : Nat) : ∀ c ∈ Lib.decDigits u, dg c = true := by
  induction u using Nat.strongRecOn with
  | ind u ih =>
    by_cases h : u < 10
    · rw [dd_one h]
      intro c hc
      rw [List.mem_singleton] at hc
      rw [hc]
      exact (dg_of u h).1
    · rw [dd_more h]
      intro c hc
      rw [List.mem_append, List.mem_singleton] at hc
      rcases hc with hc | hc
      · exact ih (u / 10) (by omega) c hc
      · rw [hc]; exact (dg_of _ (by omega)).1
theorem dd_ne (u : Nat) : Lib.decDigits u ≠ [] := by
  intro h
  have := Lib.decDigits_length u
  rw [h] at this
  have := Lib.nDigits_pos u
  simp at *
  omega
theorem dd_val (u : Nat) : val (Lib.decDigits u) = u := by
  induction u using Nat.strongRecOn with
  | ind u ih =>
    by_cases h : u < 10
    · rw [dd_one h]
      show 10 * 0 + ((UInt8.ofNat (48 + u)).toNat - 48) = u
      rw [(dg_of u h).2]
      omega
    · rw [dd_more h, val, valF_append]
      have := ih (u / 10) (by omega)
      unfold val at this
      rw [this]
      show 10 * (u / 10) + ((UInt8.ofNat (48 + u % 10)).toNat - 48) = u
      rw [(dg_of (u % 10) (by omega)).2]
      omega
theorem dd_head (u : Nat) (hu : 1 ≤ u) : (Lib.decDigits u).head? ≠ some 48 := by
  induction u using Nat.strongRecOn with
  | ind u ih =>
    by_cases h : u < 10
    · rw [dd_one h]
      have : ∀ d : Fin 10, 1 ≤ d.val → ([UInt8.ofNat (48 + d.val)] : List UInt8).head? ≠ some 48 := by decide
      exact this ⟨u, h⟩ hu
    · rw [dd_more h]
      have h1 := dd_ne (u / 10)
      have h2 := ih (u / 10) (by omega) (by omega)
      revert h1 h2
      cases Lib.decDigits (u / 10) with
      | nil => intro h; exact absurd rfl h
      | cons c r => intro _ h; simpa using h
theorem dd_low (u : Nat) (hu : 1 ≤ u) : 10 ^ ((Lib.decDigits u).length - 1) ≤ u := by
  induction u using Nat.strongRecOn with
  | ind u ih =>
    by_cases h : u < 10
    · rw [dd_one h]; exact hu
    · rw [dd_more h]
      have h2 := ih (u / 10) (by omega) (by omega)
      have h1 := List.length_pos_iff.2 (dd_ne (u / 10))
      rw [List.length_append, List.length_singleton, Nat.add_sub_cancel]
      obtain ⟨j, hj⟩ : ∃ j, (Lib.decDigits (u / 10)).length = j + 1 := ⟨_, (Nat.succ_pred_eq_of_pos h1).symm⟩
      rw [hj] at h2 ⊢
      rw [Nat.add_sub_cancel] at h2
      rw [Nat.pow_succ]
      omega
theorem dd_high (u : Nat) : u < 10 ^ (Lib.decDigits u).length := by
  rw [Lib.decDigits_length]; exact Lib.lt_pow_nDigits u
theorem dd_len {u j : Nat} (h : u < 10 ^ j) (hj : 1 ≤ j) : (Lib.decDigits u).length ≤ j := by
  rcases Nat.eq_zero_or_pos u with hz | hz
  · subst hz; rw [dd_one (by decide)]; exact hj
  · have := dd_low u hz
    have h2 : 10 ^ ((Lib.decDigits u).length - 1) < 10 ^ j := Nat.lt_of_le_of_lt this h
    have := (Nat.pow_lt_pow_iff_right (by decide : 1 < 10)).1 h2
    omega
theorem dd_dgs (u : Nat) : dgs (Lib.decDigits u) = true := dgs_iff.2 ⟨dd_dg u, dd_ne u⟩
theorem dd_whl (u : Nat) : whl (Lib.decDigits u) = true := by
  unfold whl
  rw [dd_dgs, Bool.true_and, Bool.or_eq_true, decide_eq_true_eq, decide_eq_true_eq]
  rcases Nat.eq_zero_or_pos u with hz | hz
  · right; subst hz; rw [dd_one (by decide)]; rfl
  · exact .inl (dd_head u hz)
/-- the text of M and k -/
def decT (m : Nat) (k : Int) : List UInt8 :=
  if k < 0 then
    (List.replicate (1 - k - (Lib.decDigits m).length).toNat 48 ++ Lib.decDigits m).take ((1 - k - (Lib.decDigits m).length).toNat + (Lib.decDigits m).length - k.natAbs) ++ 46 :: (List.replicate (1 - k - (Lib.decDigits m).length).toNat 48 ++ Lib.decDigits m).drop ((1 - k - (Lib.decDigits m).length).toNat + (Lib.decDigits m).length - k.natAbs)
  else if (Lib.decDigits m).length + k + 1 ≤ 15 then Lib.decDigits m ++ (List.replicate k.natAbs 48 ++ [46, 48])
  else if (Lib.decDigits m).length = 1 then Lib.decDigits m ++ ([46, 48, 101] ++ Lib.decDigits k.natAbs)
  else (Lib.decDigits m).take 1 ++ 46 :: ((Lib.decDigits m).drop 1 ++ 101 :: Lib.decDigits (k.natAbs + (Lib.decDigits m).length - 1))
/-- a real's text without its sign -/
def Bd (b w r : List UInt8) (p : Int) : Prop := whl w = true ∧ dgs r = true ∧ ((b = w ++ 46 :: r ∧ p = 0) ∨ ∃ q, b = w ++ 46 :: (r ++ 101 :: q) ∧ isP q = true ∧ p = powV q)
theorem hasM_dg {b : List UInt8} {c : UInt8} (h : b.head? = some c) (hc : dg c = true) : hasM b = false ∧ unM b = b := by
  have h1 : b.head? ≠ some 45 := by
    rw [h]
    rintro e
    have : c = 45 := Option.some.inj e
    subst this
    revert hc
    decide
  exact ⟨by unfold hasM; exact decide_eq_false h1, by unfold unM; rw [if_neg h1]⟩
theorem Bd.head {b w r : List UInt8} {p : Int} (h : Bd b w r p) : ∃ c, b.head? = some c ∧ dg c = true := by
  obtain ⟨h1, h2, h3⟩ := h
  have hd := whl_dg h1
  unfold whl at h1
  rw [Bool.and_eq_true, dgs_iff] at h1
  cases w with
  | nil => exact absurd rfl h1.1.2
  | cons c w =>
    refine ⟨c, ?_, hd c (by simp)⟩
    rcases h3 with ⟨rfl, _⟩ | ⟨q, rfl, _⟩ <;> rfl
theorem Bd.shape {b w r : List UInt8} {p : Int} (h : Bd b w r p) : ShR b ⟨false, w, r, p⟩ ∧ ShR (45 :: b) ⟨true, w, r, p⟩ := by
  obtain ⟨c, hc, hd⟩ := h.head
  obtain ⟨e1, e2⟩ := hasM_dg hc hd
  obtain ⟨h1, h2, h3⟩ := h
  constructor
  · refine ⟨e1.symm, h1, h2, ?_⟩
    rw [e2]
    exact h3
  · refine ⟨rfl, h1, h2, ?_⟩
    exact h3
theorem val_zeros (z : Nat) (d : List UInt8) : val (List.replicate z 48 ++ d) = val d := by
  unfold val
  rw [valF_append]
  have : valF 0 (List.replicate z 48) = 0 := by
    induction z with
    | zero => rfl
    | succ z ih => rw [List.replicate_succ]; exact ih
  rw [this]
theorem val_tens (d : List UInt8) (k : Nat) : val (d ++ List.replicate k 48) = val d * 10 ^ k := by
  unfold val
  rw [valF_append]
  generalize valF 0 d = n
  induction k generalizing n with
  | zero => rw [List.replicate_zero, Nat.pow_zero, Nat.mul_one]; rfl
  | succ k ih =>
    rw [List.replicate_succ]
    show valF (10 * n + 0) _ = _
    rw [ih, Nat.pow_succ]
    rw [Nat.add_zero, Nat.mul_comm 10 n, Nat.mul_assoc, Nat.mul_comm 10]
theorem sc_tens {m : Nat} (hm : 1 ≤ m) : ∀ (j : Nat) (k : Int), m * 10 ^ j < 1000000000000000 → -22 ≤ k → k + j ≤ 22 → scF (m * 10 ^ j) k = scF m (k + j)
  | 0, k, _, _, _ => by simp
  | j + 1, k, h, k1, k2 => by
    have e : m * 10 ^ (j + 1) = 10 * (m * 10 ^ j) := by rw [Nat.pow_succ, ← Nat.mul_assoc, Nat.mul_comm]
    rw [e] at h ⊢
    have h0 : 1 ≤ m * 10 ^ j := Nat.mul_pos hm (Nat.pow_pos (by decide))
    rw [ten_more h0 h k1 (by omega), sc_tens hm j (k + 1) (by omega) (by omega) (by omega)]
    congr 1
    omega
theorem isP_dd {j : Nat} (h : j < 100) : isP (Lib.decDigits j) = true ∧ powV (Lib.decDigits j) = j := by
  have h1 := dd_ne j
  have h2 := dd_dg j
  obtain ⟨c, hc, hd⟩ : ∃ c, (Lib.decDigits j).head? = some c ∧ dg c = true := by
    revert h1 h2
    cases Lib.decDigits j with
    | nil => intro h; exact absurd rfl h
    | cons c r => intro _ h; exact ⟨c, rfl, h c (by simp)⟩
  obtain ⟨e1, e2⟩ := hasM_dg hc hd
  constructor
  · unfold isP
    rw [e2, dd_dgs, Bool.true_and, decide_eq_true_eq]
    exact dd_len (j := 2) (by omega) (by decide)
  · unfold powV
    rw [e1, e2, dd_val, if_neg (by decide)]
theorem whl_one {w : List UInt8} (h : ∀ c ∈ w, dg c = true) (h1 : w.length = 1) : whl w = true := by
  unfold whl
  rw [Bool.and_eq_true, dgs_iff, Bool.or_eq_true, decide_eq_true_eq, decide_eq_true_eq]
  exact ⟨⟨h, by rintro rfl; cases h1⟩, .inr h1⟩
theorem decT_body {m : Nat} {k : Int} (hm : 1 ≤ m) (hm2 : m < 1000000000000000) (k1 : -22 ≤ k) (k2 : k ≤ 22) :
    ∃ w r p, Bd (decT m k) w r p ∧ val (w ++ r) < 1000000000000000 ∧ -22 ≤ p - (r.length : Int) ∧ p - (r.length : Int) ≤ 22 ∧ scF (val (w ++ r)) (p - (r.length : Int)) = scF m k := by
  have hv := dd_val m
  have hlo := dd_low m hm
  have hhi := dd_high m
  have hne := List.length_pos_iff.2 (dd_ne m)
  have hhd := dd_head m hm
  have hdg := dd_dg m
  have hw := dd_whl m
  have hl15 : (Lib.decDigits m).length ≤ 15 := dd_len (j := 15) (by omega) (by decide)
  unfold decT
  generalize Lib.decDigits m = d at *
  by_cases hk : k < 0
  · rw [if_pos hk]
    obtain ⟨z, hz⟩ : ∃ z, (1 - k - (d.length : Int)).toNat = z := ⟨_, rfl⟩
    rw [hz]
    have hD : ∀ c ∈ List.replicate z 48 ++ d, dg c = true := by
      intro c hc
      rw [List.mem_append] at hc
      rcases hc with hc | hc
      · rw [(List.mem_replicate.1 hc).2]; decide
      · exact hdg c hc
    have hL : (List.replicate z 48 ++ d).length = z + d.length := by simp
    have hV : val (List.replicate z 48 ++ d) = m := by rw [val_zeros, hv]
    obtain ⟨pt, hpt⟩ : ∃ pt, z + d.length - k.natAbs = pt := ⟨_, rfl⟩
    rw [hpt]
    have hr : ((List.replicate z 48 ++ d).drop pt).length = k.natAbs := by rw [List.length_drop, hL]; omega
    refine ⟨(List.replicate z 48 ++ d).take pt, (List.replicate z 48 ++ d).drop pt, 0, ⟨?_, ?_, .inl ⟨rfl, rfl⟩⟩, ?_, ?_, ?_, ?_⟩
    · rcases Nat.eq_zero_or_pos z with h0 | h0
      · subst h0
        rw [List.replicate_zero, List.nil_append]
        unfold whl
        rw [Bool.and_eq_true, dgs_iff, Bool.or_eq_true, decide_eq_true_eq, decide_eq_true_eq]
        have hp : 0 < pt := by omega
        refine ⟨⟨fun c hc => hdg c (List.mem_of_mem_take hc), ?_⟩, .inl ?_⟩
        · intro e
          have := congrArg List.length e
          rw [List.length_take, List.length_nil] at this
          omega
        · rw [List.head?_take, if_neg (by omega)]
          exact hhd
      · refine whl_one (fun c hc => hD c (List.mem_of_mem_take hc)) ?_
        rw [List.length_take, hL]
        omega
    · refine dgs_iff.2 ⟨fun c hc => hD c (List.mem_of_mem_drop hc), ?_⟩
      intro e
      rw [e] at hr
      simp at hr
      omega
    · rw [List.take_append_drop, hV]; exact hm2
    · rw [hr]; omega
    · rw [hr]; omega
    · rw [List.take_append_drop, hV, hr]
      congr 1
      omega
  · rw [if_neg hk]
    obtain ⟨j, rfl⟩ : ∃ j : Nat, k = j := ⟨k.toNat, by omega⟩
    rw [Int.natAbs_natCast]
    by_cases h15 : (d.length : Int) + (j : Int) + 1 ≤ 15
    · rw [if_pos h15]
      have hb : m * 10 ^ (j + 1) < 1000000000000000 := by
        have h1 : m * 10 ^ (j + 1) < 10 ^ d.length * 10 ^ (j + 1) := Nat.mul_lt_mul_of_pos_right hhi (Nat.pow_pos (by decide))
        rw [← Nat.pow_add] at h1
        exact Nat.lt_of_lt_of_le h1 (Nat.le_trans (Nat.pow_le_pow_right (by decide) (show d.length + (j + 1) ≤ 15 by omega)) (by decide))
      have hV : val ((d ++ List.replicate j 48) ++ [48]) = m * 10 ^ (j + 1) := by
        have := val_tens d (j + 1)
        rw [List.replicate_succ', hv] at this
        rw [← this, List.append_assoc]
      refine ⟨d ++ List.replicate j 48, [48], 0, ⟨?_, by decide, .inl ⟨by simp, rfl⟩⟩, ?_, by simp, by simp, ?_⟩
      · unfold whl
        rw [Bool.and_eq_true, dgs_iff, Bool.or_eq_true, decide_eq_true_eq, decide_eq_true_eq]
        refine ⟨⟨fun c hc => ?_, ?_⟩, .inl ?_⟩
        · rw [List.mem_append] at hc
          rcases hc with hc | hc
          · exact hdg c hc
          · rw [(List.mem_replicate.1 hc).2]; decide
        · intro e
          rw [List.append_eq_nil_iff] at e
          rw [e.1] at hne
          simp at hne
        · cases d with
          | nil => simp at hne
          | cons c r => simpa using hhd
      · rw [hV]; exact hb
      · rw [hV, show ((0 : Int) - (([48] : List UInt8).length : Int)) = -1 from rfl, sc_tens hm (j + 1) (-1) hb (by omega) (by omega)]
        congr 1
        omega
    · rw [if_neg h15]
      by_cases h1 : d.length = 1
      · rw [if_pos h1]
        obtain ⟨p1, p2⟩ := isP_dd (j := j) (by omega)
        have hV : val (d ++ [48]) = m * 10 ^ 1 := by
          have := val_tens d 1
          rw [hv] at this
          exact this
        rw [h1] at hhi
        refine ⟨d, [48], j, ⟨hw, by decide, .inr ⟨Lib.decDigits j, by simp, p1, p2.symm⟩⟩, ?_, by simp; omega, by simp; omega, ?_⟩
        · rw [hV]; omega
        · rw [hV, sc_tens hm 1 _ (by omega) (by simp; omega) (by simp; omega)]
          congr 1
          simp
      · rw [if_neg h1]
        obtain ⟨p1, p2⟩ := isP_dd (j := j + d.length - 1) (by omega)
        have hr : (d.drop 1).length = d.length - 1 := by simp
        refine ⟨d.take 1, d.drop 1, ((j + d.length - 1 : Nat) : Int), ⟨whl_one (fun c hc => hdg c (List.mem_of_mem_take hc)) (by rw [List.length_take]; omega), ?_, .inr ⟨_, rfl, p1, p2.symm⟩⟩, ?_, ?_, ?_, ?_⟩
        · refine dgs_iff.2 ⟨fun c hc => hdg c (List.mem_of_mem_drop hc), ?_⟩
          intro e
          rw [e] at hr
          simp at hr
          omega
        · rw [List.take_append_drop, hv]; exact hm2
        · rw [hr]; omega
        · rw [hr]; omega
        · rw [List.take_append_drop, hv, hr]
          congr 1
          omega
theorem whole_iff {m : Nat} {j : Nat} (hm : 1 ≤ m) : m * 10 ^ (j + 1) < 1000000000000000 ↔ (Lib.decDigits m).length + j + 1 ≤ 15 := by
  have hlo := dd_low m hm
  have hhi := dd_high m
  have hne := List.length_pos_iff.2 (dd_ne m)
  generalize (Lib.decDigits m).length = n at *
  constructor
  · intro h
    refine Classical.byContradiction fun hc => ?_
    have h1 : 10 ^ (n - 1) * 10 ^ (j + 1) ≤ m * 10 ^ (j + 1) := Nat.mul_le_mul_right _ hlo
    rw [← Nat.pow_add] at h1
    have h2 : 10 ^ 15 ≤ 10 ^ (n - 1 + (j + 1)) := Nat.pow_le_pow_right (by decide) (by omega)
    omega
  · intro h
    have h1 : m * 10 ^ (j + 1) < 10 ^ n * 10 ^ (j + 1) := Nat.mul_lt_mul_of_pos_right hhi (Nat.pow_pos (by decide))
    rw [← Nat.pow_add] at h1
    exact Nat.lt_of_lt_of_le h1 (Nat.le_trans (Nat.pow_le_pow_right (by decide) (show n + (j + 1) ≤ 15 by omega)) (by decide))
end Go.Proofs.YthfmepnlbaifcaaDoor
