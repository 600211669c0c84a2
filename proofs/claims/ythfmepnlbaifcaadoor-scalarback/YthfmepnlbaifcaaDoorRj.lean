/-
  ScalarRises: what holds of its numbers.
-/
import Derived.Test.YthfmepnlbaifcaaDoorKj
import Derived.Test.YthfmepnlbaifcaaDoorFq
namespace Go.Proofs.YthfmepnlbaifcaaDoor
open Go.RowKit Ieee
set_option linter.unusedVariables false
set_option linter.unusedSimpArgs false
theorem lt_word {a x : Nat} (ha : a < INF) (hx : x < INF) : (double.order a x == some .lt) = decide (V a < V x) := by
  rw [order_pos ha hx]
  show (compare _ _ == .lt) = _
  rw [cmp_lt, decide_eq_decide]
  omega
theorem sc_fin {m : Nat} {k : Int} (h : m < 1000000000000000) (k1 : -22 ≤ k) (k2 : k ≤ 22) : scF m k < INF := by
  rcases Nat.eq_zero_or_pos m with hz | hz
  · rw [hz, sc_zero k1 k2]; decide
  · exact (scF_fin hz h k1 k2).1
theorem sc_lt {a b : Nat} {k : Int} (hab : a < b) (hb : b < 1000000000000000) (k1 : -22 ≤ k) (k2 : k ≤ 22) : (FloatKind.f64.format.order (scF a k) (scF b k) == some .lt) = true := by
  refine (lt_word (sc_fin (by omega) k1 k2) (sc_fin hb k1 k2)).trans ?_
  rw [decide_eq_true_eq]
  rcases Nat.eq_zero_or_pos a with hz | hz
  · rw [hz, sc_zero k1 k2, V_zero]
    have := (scF_fin (M := b) (by omega) hb k1 k2).2
    have := pw_pos 970
    omega
  · exact scF_rise hz hab hb k1 k2
theorem ten_same {a : Nat} {k : Int} (ha : a < 1000000000000000) (h10 : a % 10 = 0) (k1 : -22 ≤ k) (k2 : k < 22) : scF (a / 10) (k + 1) = scF a k := by
  rcases Nat.eq_zero_or_pos a with hz | hz
  · rw [hz, sc_zero k1 (by omega)]
    exact sc_zero (by omega) (by omega)
  · have e : a = 10 * (a / 10) := by omega
    have := ten_more (b := a / 10) (k := k) (by omega) (by omega) k1 k2
    rw [← e] at this
    exact this.symm
theorem small_same {a k : Nat} (ha : a < 1000000000000000) (hk : k ≤ 3) : floatOfInt .f64 ((a * 10 ^ k : Nat) : Int) = scF a (k : Int) := by
  rw [ofInt_R]
  rcases Nat.eq_zero_or_pos a with hz | hz
  · rw [hz, Nat.zero_mul, Nat.zero_mul, R_zero, sc_zero (by omega) (by omega)]
  · rw [up_exact hz ha (by omega), Nat.mul_assoc]
/-- of a value above nought: its M and k -/
theorem dec_at (a : Nat) (k : Int) (h1 : 1 ≤ a) (h2 : a < 1000000000000000) (k1 : -22 ≤ k) (k2 : k ≤ 22) (w : World) :
    ∃ (M : Nat) (p : Int), M < 1000000000000000 ∧ -22 ≤ p ∧ p ≤ 22 ∧ k ≤ p ∧ scF M p = scF a k ∧ (M % 10 ≠ 0 ∨ p = 22) ∧ (Calls Tryd.prog 19 #[.float .f64 (scF a k)] w fun e w' => e = .returned (.tuple #[.int .u64 M, .int .i64 p, .int .i64 0]) ∧ w' = w) := by
  have hh : Hit (scF a k) k a := ⟨h1, h2, rfl⟩
  obtain ⟨x0, xf⟩ := hit_pos k1 k2 hh
  have hd := dec_yes (x := scF a k) w x0 xf
  by_cases hex : ∃ (p : Int) (M : Nat), -22 ≤ p ∧ p ≤ 22 ∧ Hit (scF a k) p M ∧ (∀ k' M', p < k' → k' ≤ 22 → ¬ Hit (scF a k) k' M')
  · obtain ⟨p, M, p1, p2, hM, hno⟩ := hex
    refine ⟨M, p, hM.2.1, p1, p2, ?_, hM.2.2, ?_, ?_⟩
    · apply Classical.byContradiction
      intro h
      exact hno k a (by omega) k2 hh
    · apply Classical.byContradiction
      intro h
      have hm : M % 10 = 0 := Classical.byContradiction fun e => h (.inl e)
      have hp : p ≠ 22 := fun e => h (.inr e)
      have h1' := hM.1
      refine hno (p + 1) (M / 10) (by omega) (by omega) ⟨by omega, by have := hM.2.1; omega, ?_⟩
      rw [ten_same hM.2.1 hm p1 (by omega)]
      exact hM.2.2
    · refine hd.mono ?_
      rintro e w' ⟨he, rfl⟩
      exact ⟨he.one (.inl ⟨p, M, p1, p2, hM, hno, rfl⟩), rfl⟩
  · exfalso
    have key : ∀ n : Nat, ∀ (q : Int) (M : Nat), (22 - q).toNat = n → -22 ≤ q → q ≤ 22 → Hit (scF a k) q M → False := by
      intro n
      induction n using Nat.strongRecOn with
      | _ n ih =>
        intro q M hn q1 q2 hM
        refine hex ⟨q, M, q1, q2, hM, fun k' M' a1 a2 hM' => ih (22 - k').toNat (by omega) k' M' rfl (by omega) a2 hM'⟩
    exact key _ k a rfl k1 k2 hh
theorem bits_any (N : Nat) (w : World) (h1 : N < 2 ^ 64) : Calls Tryd.prog 18 #[.int .u64 N] w fun e w' => (∃ L : Int, e = .returned (.int .i64 L)) ∧ w' = w := by
  go_enter Tryd.func18, Tryd.ntmps18
  go_wp2
  go_loop [0, 3] (fun t s => ∃ n c : Nat, t = .int .u64 n ∧ s = .int .i64 c ∧ c ≤ 64 ∧ n < 2 ^ (64 - c)) (fun t _ => (intOf t).toNat)
  case atStart => exact ⟨N, 0, rfl, rfl, by omega, h1⟩
  case round =>
    obtain ⟨n, c, rfl, rfl, hc, hn⟩ := hrel
    have HN := hide2 hn
    have hn64 : (n : Int) < 18446744073709551616 := by
      have : 2 ^ (64 - c) ≤ 2 ^ 64 := Nat.pow_le_pow_right (by decide) (by omega)
      omega
    clear hn h1
    obtain ⟨z, hz⟩ : ∃ z : Int, (n : Int) = z := ⟨_, rfl⟩
    rw [hz] at hn64 ⊢
    have z0 : 0 ≤ z := by omega
    have HZ := hide2 hz
    clear hz
    have c0 : (0 : Int) ≤ c := by omega
    have c64 : (c : Int) ≤ 64 := by omega
    by_cases hp : 0 < z
    · go_wp2
      go_round
      case rel =>
        have hz := HZ.out
        have hn := HN.out
        have hc1 : c < 64 := by
          apply Classical.byContradiction
          intro h
          have : 64 - c = 0 := by omega
          rw [this] at hn
          omega
        refine ⟨n / 2, c + 1, by congr 1; omega, by go_num, by omega, ?_⟩
        rw [show 64 - c = (64 - (c + 1)) + 1 by omega, Nat.pow_succ] at hn
        generalize 2 ^ (64 - (c + 1)) = g at *
        omega
      case measure => simp [intOf]; omega
    · go_wp2
      go_ret
      exact ⟨⟨_, rfl⟩, rfl⟩
end Go.Proofs.YthfmepnlbaifcaaDoor
