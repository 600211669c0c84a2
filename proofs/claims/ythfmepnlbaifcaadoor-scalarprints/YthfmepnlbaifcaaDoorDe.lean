/-
  The program's Decimal.
-/
import Derived.Test.YthfmepnlbaifcaaDoorFh
namespace Go.Proofs.YthfmepnlbaifcaaDoor
open Go.RowKit Ieee
set_option linter.unusedVariables false
set_option linter.unusedSimpArgs false
theorem nearest_le (m : Nat) (p : Int) : double.nearest false m p ≤ INF := by
  unfold Format.nearest
  dsimp only
  split
  · rw [word_false]; exact Nat.zero_le _
  · rw [word_false, inf_d]; exact Nat.min_le_right _ _
theorem un_some {x : Nat} (hx : x < INF) {k : Nat} (hk : k ≤ 22) : (∃ r, floatBits .mul .f64 x (fpow k) = some r ∧ r ≤ INF) ∧ (∃ r, floatBits .quo .f64 x (fpow k) = some r ∧ r ≤ INF) := by
  obtain ⟨n, j, hr, hn⟩ := fpow_read hk
  have h1 := rg_lt (Nat.le_of_lt hx)
  obtain ⟨m, p, hd, _, _⟩ := read_fin x (by rw [h1.1]; exact hx)
  rw [h1.2] at hd
  constructor
  · refine ⟨double.nearest false (m * n) (p + j), ?_, nearest_le _ _⟩
    show double.mul _ _ = _
    unfold Format.mul
    rw [hr, hd]
    rfl
  · show ∃ r, double.div _ _ = some r ∧ _
    unfold Format.div
    rw [hr, hd]
    simp only [Datum.quotient]
    rw [if_neg hn]
    exact ⟨_, rfl, nearest_le _ _⟩
theorem unscaled_any (x : Nat) (k : Int) (w : World) (hx : x < INF) (h1 : -22 ≤ k) (h2 : k ≤ 22) :
    Calls Tryd.prog 36 #[.float .f64 x, .int .i64 k] w fun e w' => e = .returned (.float .f64 (unW x k)) ∧ w' = w := by
  by_cases hk : k < 0
  · obtain ⟨j, hj, hj1, hj2⟩ : ∃ j : Nat, k = -(j : Int) ∧ j ≤ 22 ∧ 0 < j := ⟨k.natAbs, by omega, by omega, by omega⟩
    obtain ⟨⟨r, hq, _⟩, _⟩ := un_some hx hj1
    have hu : unW x k = r := by rw [unW, if_pos hk, show k.natAbs = j by omega, hq, Option.getD_some]
    have hp := pow_any j w hj1
    obtain ⟨p, hpp⟩ : ∃ x, fpow j = x := ⟨_, rfl⟩
    rw [hpp] at hq hp
    have rQ : (binOp .mul 23 (.float .f64 x) (.float .f64 p)).run Tryd.prog w = .ok (.float .f64 r) w := run_float_arith w .mul 23 .f64 _ _ _ hq
    rw [hu]
    rw [show (j : Int) = -k by omega] at hp
    clear hq hu hpp hj hx
    go_enter Tryd.func36, Tryd.ntmps36
    go_wp2_with (go_at_call 53; refine hp.mono ?_; rintro e w' ⟨rfl, rfl⟩)
    go_ret
    exact ⟨rfl, rfl⟩
  · obtain ⟨j, hj, hj1⟩ : ∃ j : Nat, k = (j : Int) ∧ j ≤ 22 := ⟨k.natAbs, by omega, by omega⟩
    obtain ⟨_, ⟨r, hq, _⟩⟩ := un_some hx hj1
    have hu : unW x k = r := by rw [unW, if_neg hk, show k.natAbs = j by omega, hq, Option.getD_some]
    have hp := pow_any j w hj1
    obtain ⟨p, hpp⟩ : ∃ x, fpow j = x := ⟨_, rfl⟩
    rw [hpp] at hq hp
    have rQ : (binOp .quo 23 (.float .f64 x) (.float .f64 p)).run Tryd.prog w = .ok (.float .f64 r) w := run_float_arith w .quo 23 .f64 _ _ _ hq
    rw [hu]
    subst hj
    clear hq hu hpp hx
    go_enter Tryd.func36, Tryd.ntmps36
    go_wp2_with (go_at_call 53; refine hp.mono ?_; rintro e w' ⟨rfl, rfl⟩)
    go_ret
    exact ⟨rfl, rfl⟩
theorem unW_le {x : Nat} {k : Int} (hx : x < INF) (h1 : -22 ≤ k) (h2 : k ≤ 22) : unW x k ≤ INF := by
  obtain ⟨⟨r, hr, hl⟩, ⟨r2, hr2, hl2⟩⟩ := un_some hx (k := k.natAbs) (by omega)
  unfold unW
  split
  · rw [hr]; exact hl
  · rw [hr2]; exact hl2
/-- M has, with k, the value x -/
def Hit (x : Nat) (k : Int) (M : Nat) : Prop := 1 ≤ M ∧ M < 1000000000000000 ∧ scF M k = x
theorem Hit.one {x : Nat} {k : Int} {M M' : Nat} (k1 : -22 ≤ k) (k2 : k ≤ 22) (h : Hit x k M) (h' : Hit x k M') : M = M' := by
  rcases Nat.lt_trichotomy M M' with hl | hl | hl
  · have := scF_rise h.1 hl h'.2.1 k1 k2
    rw [h.2.2, h'.2.2] at this
    omega
  · exact hl
  · have := scF_rise h'.1 hl h.2.1 k1 k2
    rw [h.2.2, h'.2.2] at this
    omega
/-- what both answer: the greatest k that has an M, and that M -/
def DecA (x : Nat) (e : Ending) : Prop :=
  (∃ (k : Int) (M : Nat), -22 ≤ k ∧ k ≤ 22 ∧ Hit x k M ∧ (∀ k' M', k < k' → k' ≤ 22 → ¬ Hit x k' M') ∧ e = .returned (.tuple #[.int .u64 M, .int .i64 k, .int .i64 0])) ∨
  ((∀ k' M', -22 ≤ k' → k' ≤ 22 → ¬ Hit x k' M') ∧ e = .returned (.tuple #[.int .u64 0, .int .i64 0, .int .i64 2]))
theorem DecA.one {x : Nat} {e e' : Ending} (h : DecA x e) (h' : DecA x e') : e = e' := by
  rcases h with ⟨k, M, k1, k2, hM, hn, rfl⟩ | ⟨hn, rfl⟩
  · rcases h' with ⟨k', M', k1', k2', hM', hn', rfl⟩ | ⟨hn', rfl⟩
    · have hk : k = k' := by
        rcases Int.lt_trichotomy k k' with hl | hl | hl
        · exact absurd hM' (hn k' M' hl k2')
        · exact hl
        · exact absurd hM (hn' k M hl k2)
      subst hk
      rw [hM.one k1 k2 hM']
    · exact absurd hM (hn' k M k1 k2)
  · rcases h' with ⟨k', M', k1', k2', hM', hn', rfl⟩ | ⟨hn', rfl⟩
    · exact absurd hM' (hn k' M' k1' k2')
    · rfl
end Go.Proofs.YthfmepnlbaifcaaDoor
