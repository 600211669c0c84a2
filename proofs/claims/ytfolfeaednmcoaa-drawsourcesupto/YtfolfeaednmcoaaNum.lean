/- Below, Unit, alike. -/
import Derived.Test.YtfolfeaednmcoaaBase
import Derived.Test.YtfolfeaednmcoaaFlt3
import Derived.Deep.QuietTactic
import Derived.BigQuiet
import Derived.Deep.RegionHeld3
import Derived.Deep.RegionLaw
import Derived.Deep.DeepCutAuto
namespace Go.Proofs.Ytfolfeaednmcoaa
open Go.RowKit Ieee
set_option linter.unusedVariables false
set_option linter.unusedSimpArgs false

theorem below_ok (W n : Int) (w : World) (h0 : 0 ≤ W) (h1 : W < 18446744073709551616) (hn : 1 ≤ n) (hn2 : n ≤ 9223372036854775807) : Calls Try.prog 9 #[.int .u64 W, .int .i64 n] w fun e w' => e = .returned (.tuple #[.int .i64 (W % n), .int .i64 0]) ∧ w' = w := by
  have a1 : 0 ≤ W % n := Int.emod_nonneg _ (by omega)
  have a2 : W % n < n := Int.emod_lt_of_pos _ (by omega)
  go_enter Try.func9, Try.ntmps9
  go_wp2
  go_ret2
  exact ⟨rfl, rfl⟩
theorem below_no (W n : Int) (w : World) (hn : n < 1) : Calls Try.prog 9 #[.int .u64 W, .int .i64 n] w fun e w' => e = .returned (.tuple #[.int .i64 0, .int .i64 2]) ∧ w' = w := by
  go_enter Try.func9, Try.ntmps9
  go_wp2
  go_ret2
  exact ⟨rfl, rfl⟩
theorem rbelow_no (W n : Int) (w : World) (hn : n < 1) : Calls Try.prog 10 #[.int .u64 W, .int .i64 n] w fun e w' => e = .returned (.tuple #[.int .i64 0, .int .i64 2]) ∧ w' = w := by
  go_enter Try.func10, Try.ntmps10
  go_wp2
  go_ret2
  exact ⟨rfl, rfl⟩
theorem rbelow_ok (W n : Int) (w : World) (h0 : 0 ≤ W) (h1 : W < 18446744073709551616) (hn : 1 ≤ n) (hn2 : n ≤ 9223372036854775807) : Calls Try.prog 10 #[.int .u64 W, .int .i64 n] w fun e w' => e = .returned (.tuple #[.int .i64 (W % n), .int .i64 0]) ∧ w' = w := by
  have a1 : 0 ≤ W % n := Int.emod_nonneg _ (by omega)
  have a2 : W % n < n := Int.emod_lt_of_pos _ (by omega)
  go_enter Try.func10, Try.ntmps10
  go_wp2
  go_ret2
  have b1 : W / n * n ≤ W := Int.ediv_mul_le W (by omega)
  have b2 : 0 ≤ W / n * n := Int.mul_nonneg (Int.ediv_nonneg h0 (by omega)) (by omega)
  have b3 : W - W / n * n = W % n := by have := Int.emod_add_mul_ediv W n; rw [Int.mul_comm n] at this; omega
  have u : ∀ K : Int, 0 ≤ K → K < 18446744073709551616 → IntKind.u64.wrap K = K := fun K h1 h2 => by simp [IntKind.wrap, IntKind.bits, IntKind.signed]; omega
  have e1 := u (W / n * n) b2 (by omega)
  have e2 : wrap64 (IntKind.u64.wrap (W - IntKind.u64.wrap (W / n * n))) = W % n := by rw [e1, b3, u (W % n) a1 (by omega), IntWalk.wrap64_in _ (by omega)]
  refine ⟨?_, rfl⟩
  show Ending.returned (.tuple #[.int .i64 (wrap64 (IntKind.u64.wrap (W - IntKind.u64.wrap (W / n * n)))), .int .i64 0]) = _
  rw [e2]
theorem unit_any (m : Nat) (w : World) (h1 : m < 18446744073709551616) : Calls Try.prog 12 #[.int .u64 m] w fun e w' => e = .returned (.float .f64 (unit (m / 2048))) ∧ w' = w := by
  have hq : (binOp .quo 29 (.float .f64 (floatOfInt .f64 ((m : Int) / 2048))) (.float .f64 4845873199050653696)).run Try.prog w = .ok (.float .f64 (unit (m / 2048))) w :=
    run_float_arith w .quo 29 .f64 _ _ _ (by
      have := unit_quo (m := m / 2048) (by omega)
      exact this)
  go_enter Try.func12, Try.ntmps12
  go_wp2
  go_ret
  exact ⟨rfl, rfl⟩
theorem bits_run (x : Nat) (w : World) : (callFunc 32 #[.float .f64 x]).run Try.prog w = .ok (.value (.int .u64 x)) w := by
  rw [run_callFunc_extern (e := Extern.MathFloatBits.float64bits) Try.func32 (by kernel_rfl) (by kernel_rfl) (by kernel_rfl) (by kernel_rfl)]
  rfl
theorem alike_same (x : Nat) (w : World) : Calls Try.prog 11 #[.float .f64 x, .float .f64 x] w fun e w' => e = .returned (.bool true) ∧ ∃ q, w' = w.drewN q := by
  have hb := bits_run x
  go_enter Try.func11, Try.ntmps11
  go_wp2
  go_ret
  exact ⟨rfl, 0, by simp [World.drewN]⟩
theorem runit_math {m i : Nat} (h1 : m < 18446744073709551616) (h2 : 10 < i) (h3 : i ≤ 63) : m / 2 ^ (i + 1) * 2 ^ (i - 10) < 2 ^ 53 ∧ m / 2 ^ i * 2 ^ (i - 11) = m / 2 ^ (i + 1) * 2 ^ (i - 10) + (if m / 2 ^ i % 2 = 1 then 2 ^ (i - 11) else 0) := by
  have e1 : m / 2 ^ (i + 1) = m / 2 ^ i / 2 := by rw [Nat.pow_succ, Nat.div_div_eq_div_mul]
  have e2 : (2 : Nat) ^ (i - 10) = 2 * 2 ^ (i - 11) := by rw [show i - 10 = (i - 11) + 1 by omega, Nat.pow_succ, Nat.mul_comm]
  constructor
  · have : m / 2 ^ (i + 1) < 2 ^ (63 - i) := by
      rw [Nat.div_lt_iff_lt_mul (Nat.two_pow_pos _), ← Nat.pow_add, show 63 - i + (i + 1) = 64 by omega]; omega
    calc m / 2 ^ (i + 1) * 2 ^ (i - 10) < 2 ^ (63 - i) * 2 ^ (i - 10) := Nat.mul_lt_mul_of_pos_right this (Nat.two_pow_pos _)
      _ = 2 ^ 53 := by rw [← Nat.pow_add, show 63 - i + (i - 10) = 53 by omega]
  · rw [e1, e2]
    generalize m / 2 ^ i = a
    generalize 2 ^ (i - 11) = b
    have e3 : a / 2 * (2 * b) = (a / 2 * 2) * b := (Nat.mul_assoc _ _ _).symm
    rw [e3]
    by_cases h : a % 2 = 1
    · rw [if_pos h]
      have : a = a / 2 * 2 + 1 := by omega
      generalize a / 2 * 2 = c at *
      rw [this, Nat.add_mul, Nat.one_mul]
    · rw [if_neg h]
      have : a = a / 2 * 2 := by omega
      rw [← this, Nat.add_zero]
theorem runit_any (m : Nat) (w : World) (h1 : m < 18446744073709551616) : Calls Try.prog 13 #[.int .u64 m] w fun e w' => e = .returned (.float .f64 (unit (m / 2048))) ∧ w' = w := by
  go_enter Try.func13, Try.ntmps13
  go_wp2
  go_loopw [3, 4, 5] (fun x p t wr => ∃ i : Nat, 10 ≤ i ∧ i ≤ 63 ∧ t = .int .i64 i ∧ x = .float .f64 (unit (m / 2 ^ (i + 1) * 2 ^ (i - 10))) ∧ p = .float .f64 (half (64 - i)) ∧ w = wr) (fun x p t _ => (intOf t).toNat)
  case atStart => exact ⟨63, by omega, by omega, rfl, by rw [Nat.div_eq_of_lt (by omega), Nat.zero_mul, unit_zero], by rw [show half (64 - 63) = 4602678819172646912 by decide], rfl⟩
  case round =>
    obtain ⟨i, hi, hi2, rfl, rfl, rfl, rfl⟩ := hrel
    by_cases hlt : 10 < i
    · have k0 : (10 : Int) < i := by omega
      have k1 : (i : Int) ≤ 63 := by omega
      obtain ⟨hm, hs⟩ := runit_math h1 hlt hi2
      have hA := unit_add hm (j := i - 11) (by omega)
      have hD := half_div (64 - i) (by omega)
      rw [show 53 - (i - 11) = 64 - i by omega] at hA
      obtain ⟨x, hx⟩ : ∃ x, unit (m / 2 ^ (i + 1) * 2 ^ (i - 10)) = x := ⟨_, rfl⟩
      obtain ⟨p, hp⟩ : ∃ x, half (64 - i) = x := ⟨_, rfl⟩
      obtain ⟨x', hx'⟩ : ∃ x, unit (m / 2 ^ (i + 1) * 2 ^ (i - 10) + 2 ^ (i - 11)) = x := ⟨_, rfl⟩
      obtain ⟨p', hp'⟩ : ∃ x, half (64 - i + 1) = x := ⟨_, rfl⟩
      rw [hx, hp, hx'] at hA
      rw [hp, hp'] at hD
      rw [hx, hp]
      have rA : (binOp .add 29 (.float .f64 x) (.float .f64 p)).run Try.prog w = .ok (.float .f64 x') w := run_float_arith w .add 29 .f64 _ _ _ hA
      have rD : (binOp .quo 29 (.float .f64 p) (.float .f64 4611686018427387904)).run Try.prog w = .ok (.float .f64 p') w := run_float_arith w .quo 29 .f64 _ _ _ hD
      have HX : Hid (unit (m / 2 ^ (i + 1) * 2 ^ (i - 10)) = x) := hx
      have HP : Hid (half (64 - i + 1) = p') := hp'
      have HX' : Hid (unit (m / 2 ^ (i + 1) * 2 ^ (i - 10) + 2 ^ (i - 11)) = x') := hx'
      have HS : Hid (m / 2 ^ i * 2 ^ (i - 11) = m / 2 ^ (i + 1) * 2 ^ (i - 10) + (if m / 2 ^ i % 2 = 1 then 2 ^ (i - 11) else 0)) := hs
      clear hx hp hx' hp' hA hD hm hs
      have hb : bits BinOp.and IntKind.u64 ((m : Int) / 2 ^ i) 1 = ((m / 2 ^ i : Nat) : Int) % 2 := by
        have hc : ((m : Int) / 2 ^ i) = ((m / 2 ^ i : Nat) : Int) := by rw [Int.natCast_ediv, Int.natCast_pow]; rfl
        have hle := Nat.div_le_self m (2 ^ i)
        rw [hc]
        generalize m / 2 ^ i = a at *
        rw [and_one_u64 _ (by omega) (by omega)]
      by_cases hbit : m / 2 ^ i % 2 = 1
      · have hb1 : bits BinOp.and IntKind.u64 ((m : Int) / 2 ^ i) 1 = 1 := by rw [hb]; omega
        have HB : Hid (m / 2 ^ i % 2 = 1) := hbit
        clear hb hbit
        go_wp2
        go_roundw
        case rel => exact ⟨i - 1, by omega, by omega, by go_num, by rw [show i - 1 + 1 = i by omega, show i - 1 - 10 = i - 11 by omega, HS.out, if_pos HB.out, HX'.out], by rw [← HP.out, show 64 - (i - 1) = 64 - i + 1 by omega], trivial⟩
        case measure => simp [intOf]; omega
      · have hb1 : bits BinOp.and IntKind.u64 ((m : Int) / 2 ^ i) 1 = 0 := by rw [hb]; omega
        have HB : Hid (¬ m / 2 ^ i % 2 = 1) := hbit
        clear hb hbit
        go_wp2
        go_roundw
        case rel => exact ⟨i - 1, by omega, by omega, by go_num, by rw [show i - 1 + 1 = i by omega, show i - 1 - 10 = i - 11 by omega, HS.out, if_neg HB.out, Nat.add_zero, HX.out], by rw [← HP.out, show 64 - (i - 1) = 64 - i + 1 by omega], trivial⟩
        case measure => simp [intOf]; omega
    · obtain rfl : i = 10 := by omega
      have e : m / 2 ^ (10 + 1) * 2 ^ (10 - 10) = m / 2048 := by simp
      rw [e]
      obtain ⟨x, hx⟩ : ∃ x, unit (m / 2048) = x := ⟨_, rfl⟩
      rw [hx]
      clear e
      go_wp2
      go_ret
      refine ⟨?_, rfl⟩
      rw [hx]
      rfl
end Go.Proofs.Ytfolfeaednmcoaa
