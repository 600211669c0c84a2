/- DrawShares' walk. -/
import Derived.Test.YtfolfeaednmcoaaPlaces
namespace Go.Proofs.Ytfolfeaednmcoaa
open Go.RowKit Ieee
set_option linter.unusedVariables false
set_option linter.unusedSimpArgs false
theorem pw_mul2 {K : Nat} (hK : K ≤ 53) : 2 ^ K * 2 ^ (53 - K) = 2 ^ 53 := by rw [← Nat.pow_add, show K + (53 - K) = 53 by omega]
theorem share_tot {K : Nat} (hK : K ≤ 10) : ∀ i, i ≤ 2 ^ K → tot (List.replicate i (half K)) = R (i * 2 ^ (53 - K) * pw 1021)
  | 0, _ => by rw [Nat.zero_mul, Nat.zero_mul, R_zero]; rfl
  | i + 1, h => by
    have ih := share_tot hK i (by omega)
    have hm : i * 2 ^ (53 - K) < 2 ^ 53 := by
      rw [← pw_mul2 (K := K) (by omega)]; exact Nat.mul_lt_mul_of_pos_right (by omega) (Nat.two_pow_pos _)
    obtain ⟨u1, u2⟩ := unit_ex hm
    rw [unit_R] at u1 u2
    obtain ⟨h1, h2⟩ := half_lt (k := K) (by omega)
    have e : tot (List.replicate (i + 1) (half K)) = S (tot (List.replicate i (half K))) (half K) := by
      unfold tot
      rw [List.replicate_succ', List.foldl_append]; rfl
    rw [e, ih]
    unfold S
    rw [if_pos u1, u2, (rg_lt (Nat.le_of_lt h1)).1, h2, Nat.add_mul, Nat.add_mul, Nat.one_mul, pw_def (53 - K), pw_add, show 53 - K + 1021 = 1074 - K by omega]
theorem R_one : R (2 ^ 53 * pw 1021) = ONE := by
  have h := (half_lt (k := 0) (by decide)).2
  rw [p53, pw_add, ← h, R_V _ (half_lt (k := 0) (by decide)).1]; decide
theorem share_good {K : Nat} (hK : K ≤ 10) : Good (List.replicate (2 ^ K) (half K)) := by
  have ht := share_tot hK (2 ^ K) (Nat.le_refl _)
  rw [pw_mul2 (by omega), R_one] at ht
  refine ⟨fun j hj => ?_, by rw [ht]; decide, by rw [ht]; decide⟩
  obtain ⟨h1, h2⟩ := half_lt (k := K) (by omega)
  have hr := rg_lt (Nat.le_of_lt h1)
  have e : (List.replicate (2 ^ K) (half K)).getD j 0 = half K := by
    rw [List.length_replicate] at hj
    simp [List.getD, hj]
  rw [e]
  exact ⟨by rw [hr.1]; exact h1, .inl hr.2⟩
theorem share_sv {K i : Nat} (hK : K ≤ 10) (hi : i < 2 ^ K) {L : List Nat} (hS : Sums (List.replicate (2 ^ K) (half K)) L) : L.getD i 0 < INF ∧ sv (L.getD i 0) = (((i + 1) * 2 ^ (53 - K) * pw 1021 : Nat) : Int) := by
  have hG := share_good hK
  have hfin := sums_fin hG hS i (by simpa using hi)
  obtain ⟨l, h1, h2, h3⟩ := hS
  refine ⟨hfin, ?_⟩
  rw [sv_lt (Nat.le_of_lt hfin), h3 i (by simpa using hi)]
  have hl := last_lt hG h1
  rw [List.length_replicate] at hl h1
  obtain ⟨g1, g2⟩ := half_lt (k := K) (by omega)
  have hll : l = 2 ^ K - 1 := by
    rcases h1 with ⟨_, h, _⟩ | ⟨_, _, h, _⟩
    · have := h l hl.1; have := hl.2; omega
    · apply Nat.le_antisymm (by omega)
      apply Nat.le_of_not_lt
      intro hlt
      have := h (2 ^ K - 1) hlt (by omega)
      have e : (List.replicate (2 ^ K) (half K)).getD (2 ^ K - 1) 0 = half K := by
        have : 0 < 2 ^ K := Nat.two_pow_pos _
        have hj : 2 ^ K - 1 < 2 ^ K := by omega
        simp only [List.getD, List.getElem?_replicate, if_pos hj]; rfl
      rw [e, (rg_lt (Nat.le_of_lt g1)).1] at this
      have h4 := V_zero
      rw [this] at g2
      have := pw_pos (1074 - K)
      omega
  congr 1
  unfold cumAt
  split
  · rename_i hlt
    have e : (List.replicate (2 ^ K) (half K)).take (i + 1) = List.replicate (i + 1) (half K) := by rw [List.take_replicate]; congr 1; omega
    rw [e, share_tot hK (i + 1) (by omega)]
    have hm : (i + 1) * 2 ^ (53 - K) < 2 ^ 53 := by
      rw [← pw_mul2 (K := K) (by omega)]; exact Nat.mul_lt_mul_of_pos_right (by omega) (Nat.two_pow_pos _)
    have := unit_ex hm
    rw [unit_R] at this
    exact this.2
  · rename_i hlt
    have e : i + 1 = 2 ^ K := by omega
    rw [e, pw_mul2 (by omega), one_half, (half_lt (k := 0) (by decide)).2, p53, pw_add]
theorem share_place {K m k : Nat} (hK : K ≤ 10) (hm : m < 2 ^ 53) {L : List Nat} (hS : Sums (List.replicate (2 ^ K) (half K)) L) (hP : PlaceIs L (unit m) k) : k = m / 2 ^ (53 - K) := by
  have hL : L.length = 2 ^ K := by obtain ⟨_, _, h, _⟩ := hS; simpa using h
  obtain ⟨p1, p2, p3⟩ := hP
  have up' : ∀ i, i < 2 ^ K → (up (unit m) (L.getD i 0) = true ↔ m < (i + 1) * 2 ^ (53 - K)) := fun i hi => by
    obtain ⟨h1, h2⟩ := share_sv hK hi hS
    rw [up_fin h1 hm, h2, sv_unit hm, decide_eq_true_iff, mul_lt_int (pw_pos 1021)]
  have hp : 0 < 2 ^ (53 - K) := Nat.two_pow_pos _
  have a1 := (up' k (by omega)).1 p2
  apply Nat.le_antisymm
  · cases k with
    | zero => exact Nat.zero_le _
    | succ k =>
      have a2 := p3 k (Nat.lt_succ_self k)
      have a3 : ¬ m < (k + 1) * 2 ^ (53 - K) := fun h => by rw [(up' k (by omega)).2 h] at a2; cases a2
      exact (Nat.le_div_iff_mul_le hp).2 (Nat.le_of_not_lt a3)
  · exact Nat.le_of_lt_succ ((Nat.div_lt_iff_lt_mul hp).2 a1)
theorem share_want {K p : Nat} (hK : K ≤ 10) : p / 2048 / 2 ^ (53 - K) = p / 2 ^ (64 - K) := by
  rw [Nat.div_div_eq_div_mul, show 2048 = 2 ^ 11 by rfl, ← Nat.pow_add]
  congr 2; omega
end Go.Proofs.Ytfolfeaednmcoaa
