/-
  Powers of ten; the value of M with k.
-/
import Derived.Test.YthfmepnlbaifcaaBase
import Derived.Test.YthfmepnlbaifcaaMw
import Derived.Deep.QuietTactic
import Derived.BigQuiet
import Derived.Deep.RegionHeld3
import Derived.Deep.RegionLaw
import Derived.Deep.DeepCutAuto
namespace Go.Proofs.Ythfmepnlbaifcaa
open Go.RowKit
set_option linter.unusedVariables false
set_option linter.unusedSimpArgs false
theorem hide2 {p : Prop} (h : p) : Hid p := h
theorem ret_bool {a b : Bool} (h : a = b) : Ending.returned (.bool a) = .returned (.bool b) := by rw [h]
theorem ret_int {k : IntKind} {a b : Int} (h : a = b) : Ending.returned (.int k a) = .returned (.int k b) := by rw [h]
theorem mul_run {x r : Nat} (h : floatBits .mul .f64 x TEN = some r) (w : World) : (binOp .mul 23 (.float .f64 x) (.float .f64 4621819117588971520)).run Try.prog w = .ok (.float .f64 r) w := run_float_arith w .mul 23 .f64 _ _ _ h
theorem pow_any (k : Nat) (w : World) (hk : k ≤ 22) :
    Calls Try.prog 12 #[.int .i64 k] w fun e w' => e = .returned (.float .f64 (fpow k)) ∧ w' = w := by
  go_enter Try.func12, Try.ntmps12
  go_wp2
  go_loop [3, 5] (fun p t => ∃ i : Nat, i ≤ k ∧ t = .int .i64 i ∧ p = .float .f64 (fpow i)) (fun _ t => k - (intOf t).toNat)
  case atStart => exact ⟨0, by omega, rfl, rfl⟩
  case round =>
    obtain ⟨i, hi, rfl, rfl⟩ := hrel
    by_cases hlt : i < k
    · have k0 : (i : Int) < k := by omega
      have hm := mul_run (fpow_step i (by omega))
      obtain ⟨x, hx⟩ : ∃ x, fpow i = x := ⟨_, rfl⟩
      obtain ⟨y, hy⟩ : ∃ x, fpow (i + 1) = x := ⟨_, rfl⟩
      rw [hx, hy] at hm
      rw [hx]
      have HY := hide2 hy
      clear hx hy
      have rM := hm w
      clear hm
      go_wp2
      go_round
      case rel => exact ⟨i + 1, by omega, by go_num, by rw [HY.out]⟩
      case measure => simp [intOf]; omega
    · obtain rfl : i = k := by omega
      obtain ⟨x, hx⟩ : ∃ x, fpow i = x := ⟨_, rfl⟩
      rw [hx]
      have HX := hide2 hx
      clear hx
      go_wp2
      go_ret
      refine ⟨?_, rfl⟩
      rw [HX.out]
      rfl
/-- the answer of Scaled -/
def scE (m : Nat) (k : Int) : Ending := if m < 1000000000000000 ∧ -22 ≤ k ∧ k ≤ 22 then .returned (.tuple #[.float .f64 (scF m k), .int .i64 0]) else .returned (.tuple #[.float .f64 0, .int .i64 2])
theorem scaled_any (m : Nat) (k : Int) (w : World) (h1 : -22 ≤ k) (h2 : k ≤ 22) :
    Calls Try.prog 8 #[.float .f64 (floatOfInt .f64 (m : Int)), .int .i64 k] w fun e w' => e = .returned (.float .f64 (scF m k)) ∧ w' = w := by
  obtain ⟨x, hx⟩ : ∃ x, floatOfInt .f64 (m : Int) = x := ⟨_, rfl⟩
  obtain ⟨r, hr⟩ : ∃ x, scF m k = x := ⟨_, rfl⟩
  by_cases hk : k < 0
  · obtain ⟨j, hj, hj1, hj2⟩ : ∃ j : Nat, k = -(j : Int) ∧ j ≤ 22 ∧ 0 < j := ⟨k.natAbs, by omega, by omega, by omega⟩
    have hq := scF_quo m hj1 hj2
    rw [← hj, hr, hx] at hq
    have hp := pow_any j w hj1
    obtain ⟨p, hpp⟩ : ∃ x, fpow j = x := ⟨_, rfl⟩
    rw [hpp] at hq hp
    have rQ : (binOp .quo 23 (.float .f64 x) (.float .f64 p)).run Try.prog w = .ok (.float .f64 r) w := run_float_arith w .quo 23 .f64 _ _ _ hq
    rw [hx, hr]
    rw [show (j : Int) = -k by omega] at hp
    clear hq hr hx hpp hj
    go_enter Try.func8, Try.ntmps8
    go_wp2_with (go_at_call 12; refine hp.mono ?_; rintro e w' ⟨rfl, rfl⟩)
    go_ret
    exact ⟨rfl, rfl⟩
  · obtain ⟨j, hj, hj1⟩ : ∃ j : Nat, k = (j : Int) ∧ j ≤ 22 := ⟨k.natAbs, by omega, by omega⟩
    have hq := scF_mul m hj1
    rw [← hj, hr, hx] at hq
    have hp := pow_any j w hj1
    obtain ⟨p, hpp⟩ : ∃ x, fpow j = x := ⟨_, rfl⟩
    rw [hpp] at hq hp
    have rQ : (binOp .mul 23 (.float .f64 x) (.float .f64 p)).run Try.prog w = .ok (.float .f64 r) w := run_float_arith w .mul 23 .f64 _ _ _ hq
    rw [hx, hr]
    subst hj
    clear hq hr hx hpp
    go_enter Try.func8, Try.ntmps8
    go_wp2_with (go_at_call 12; refine hp.mono ?_; rintro e w' ⟨rfl, rfl⟩)
    go_ret
    exact ⟨rfl, rfl⟩
theorem Scaled_any (m : Nat) (k : Int) (w : World) (hm : m < 18446744073709551616) :
    Calls Try.prog 4 #[.int .u64 m, .int .i64 k] w fun e w' => e = scE m k ∧ w' = w := by
  by_cases h : m < 1000000000000000 ∧ -22 ≤ k ∧ k ≤ 22
  · rw [scE, if_pos h]
    obtain ⟨h1, h2, h3⟩ := h
    have hs := scaled_any m k w h2 h3
    obtain ⟨r, hr⟩ : ∃ x, scF m k = x := ⟨_, rfl⟩
    rw [hr] at hs ⊢
    have h1' : (m : Int) < 1000000000000000 := by omega
    have h0' : 0 ≤ (m : Int) := by omega
    clear h1 hm hr
    generalize (m : Int) = M at *
    go_enter Try.func4, Try.ntmps4
    go_wp2_with (go_at_call 8; refine hs.mono ?_; rintro e w' ⟨rfl, rfl⟩)
    go_ret2
    exact ⟨rfl, rfl⟩
  · rw [scE, if_neg h]
    have h' : ¬ ((m : Int) < 1000000000000000 ∧ -22 ≤ k ∧ k ≤ 22) := by omega
    have h0' : 0 ≤ (m : Int) := by omega
    clear hm h
    generalize (m : Int) = M at *
    by_cases h1 : M < 1000000000000000
    · by_cases h2 : k < -22
      · clear h'
        go_enter Try.func4, Try.ntmps4
        go_wp2
        go_ret2
        exact ⟨rfl, rfl⟩
      · have h3 : 22 < k := by omega
        clear h'
        go_enter Try.func4, Try.ntmps4
        go_wp2
        go_ret2
        exact ⟨rfl, rfl⟩
    · clear h'
      go_enter Try.func4, Try.ntmps4
      go_wp2
      go_ret2
      exact ⟨rfl, rfl⟩
theorem rScaled_any (m : Nat) (k : Int) (w : World) (hm : m < 18446744073709551616) :
    Calls Try.prog 5 #[.int .u64 m, .int .i64 k] w fun e w' => e = scE m k ∧ w' = w := by
  by_cases h : m < 1000000000000000 ∧ -22 ≤ k ∧ k ≤ 22
  · rw [scE, if_pos h]
    obtain ⟨h1, h2, h3⟩ := h
    obtain ⟨r, hr⟩ : ∃ x, scF m k = x := ⟨_, rfl⟩
    obtain ⟨x, hx⟩ : ∃ x, floatOfInt .f64 (m : Int) = x := ⟨_, rfl⟩
    have h1' : (m : Int) < 1000000000000000 := by omega
    have h0' : 0 ≤ (m : Int) := by omega
    have HQ : Hid (∀ j : Nat, j ≤ 22 → k = -(j : Int) → 0 < j → floatBits .quo .f64 x (fpow j) = some r) := fun j h1 h2 h3 => by
      have := scF_quo m h1 h3
      rwa [← h2, hr, hx] at this
    have HM : Hid (∀ j : Nat, j ≤ 22 → k = (j : Int) → floatBits .mul .f64 x (fpow j) = some r) := fun j h1 h2 => by
      have := scF_mul m h1
      rwa [← h2, hr, hx] at this
    have HX := hide2 hx
    rw [hr]
    clear h1 hm hr hx
    generalize (m : Int) = M at h1' h0' HX ⊢
    have hk1 : ¬ k < -22 := by omega
    have hk2 : ¬ 22 < k := by omega
    go_enter Try.func5, Try.ntmps5
    go_wp2
    go_loop [6, 8] (fun p t => ∃ i : Nat, (i : Int) ≤ max k 0 ∧ t = .int .i64 i ∧ p = .float .f64 (fpow i)) (fun _ t => (max k 0).toNat - (intOf t).toNat)
    case atStart => exact ⟨0, by omega, rfl, rfl⟩
    case round =>
      obtain ⟨i, hi, rfl, rfl⟩ := hrel
      by_cases hlt : (i : Int) < k
      · have hm := mul_run (fpow_step i (by omega))
        obtain ⟨y, hy⟩ : ∃ x, fpow i = x := ⟨_, rfl⟩
        obtain ⟨z, hz⟩ : ∃ x, fpow (i + 1) = x := ⟨_, rfl⟩
        rw [hy, hz] at hm
        rw [hy]
        have HZ := hide2 hz
        clear hy hz
        have rM := hm w
        clear hm
        go_wp2
        go_round
        case rel => exact ⟨i + 1, by omega, by go_num, by rw [HZ.out]⟩
        case measure => simp [intOf]; omega
      · have HI : Hid ((i : Int) = max k 0) := by show _ = _; omega
        obtain ⟨y, hy⟩ : ∃ x, fpow i = x := ⟨_, rfl⟩
        rw [hy]
        have HY := hide2 hy
        clear hy
        go_wp2
        go_loop [7, 9] (fun p t => ∃ j : Nat, (j : Int) ≤ max (-k) 0 ∧ t = .int .i64 (k + j) ∧ p = .float .f64 (fpow j)) (fun _ t => (0 - intOf t).toNat)
        case atStart => exact ⟨0, by omega, by go_num, rfl⟩
        case round =>
          obtain ⟨j, hj, rfl, rfl⟩ := hrel
          by_cases hlt : k + j < 0
          · have hm := mul_run (fpow_step j (by omega))
            obtain ⟨u, hu⟩ : ∃ x, fpow j = x := ⟨_, rfl⟩
            obtain ⟨z, hz⟩ : ∃ x, fpow (j + 1) = x := ⟨_, rfl⟩
            rw [hu, hz] at hm
            rw [hu]
            have HZ := hide2 hz
            clear hu hz
            have rM := hm w
            clear hm
            go_wp2
            go_round
            case rel => exact ⟨j + 1, by omega, by go_num, by rw [HZ.out]⟩
            case measure => simp [intOf]; omega
          · by_cases hk : k < 0
            · have rQ : (binOp .quo 23 (.float .f64 x) (.float .f64 (fpow j))).run Try.prog w = .ok (.float .f64 r) w := run_float_arith w .quo 23 .f64 _ _ _ (HQ.out j (by omega) (by omega) (by omega))
              obtain ⟨u, hu⟩ : ∃ x, fpow j = x := ⟨_, rfl⟩
              rw [hu] at rQ ⊢
              clear hu
              have rC : (convert 22 23 (.int .u64 M)).run Try.prog w = .ok (.float .f64 x) w := by rw [← HX.out]; exact run_convert_int_float w 22 23 .u64 .f64 M (by kernel_rfl) (by kernel_rfl)
              go_wp2
              go_ret2
              exact ⟨rfl, rfl⟩
            · have rM : (binOp .mul 23 (.float .f64 x) (.float .f64 (fpow i))).run Try.prog w = .ok (.float .f64 r) w := run_float_arith w .mul 23 .f64 _ _ _ (HM.out i (by have := HI.out; omega) (by have := HI.out; omega))
              rw [HY.out] at rM
              obtain ⟨u, hu⟩ : ∃ x, fpow j = x := ⟨_, rfl⟩
              rw [hu]
              clear hu
              have rC : (convert 22 23 (.int .u64 M)).run Try.prog w = .ok (.float .f64 x) w := by rw [← HX.out]; exact run_convert_int_float w 22 23 .u64 .f64 M (by kernel_rfl) (by kernel_rfl)
              go_wp2
              go_ret2
              exact ⟨rfl, rfl⟩
  · rw [scE, if_neg h]
    have h' : ¬ ((m : Int) < 1000000000000000 ∧ -22 ≤ k ∧ k ≤ 22) := by omega
    have h0' : 0 ≤ (m : Int) := by omega
    clear hm h
    generalize (m : Int) = M at *
    by_cases h1 : M < 1000000000000000
    · by_cases h2 : k < -22
      · clear h'
        go_enter Try.func5, Try.ntmps5
        go_wp2
        go_ret2
        exact ⟨rfl, rfl⟩
      · have h3 : 22 < k := by omega
        clear h'
        go_enter Try.func5, Try.ntmps5
        go_wp2
        go_ret2
        exact ⟨rfl, rfl⟩
    · clear h'
      go_enter Try.func5, Try.ntmps5
      go_wp2
      go_ret2
      exact ⟨rfl, rfl⟩
end Go.Proofs.Ythfmepnlbaifcaa
