/- DrawUnits' walk. -/
import Derived.Test.YtfolfeaednmcoaaPick
namespace Go.Proofs.Ytfolfeaednmcoaa
open Go.RowKit Ieee
set_option linter.unusedVariables false
set_option linter.unusedSimpArgs false
theorem unit_ge {m : Nat} (h : m < 2 ^ 53) : (double.order (unit m) 0 == some .gt || double.order (unit m) 0 == some .eq) = true := by
  rw [order_unit_zero h]
  change (compare (m : Int) 0 == .gt || compare (m : Int) 0 == .eq) = true
  rw [cmp_gt, cmp_eq]
  simp only [Bool.or_eq_true, decide_eq_true_iff]
  omega
theorem unit_lt {m n : Nat} (hm : m < 2 ^ 53) (hn : n < 2 ^ 53) (h : m < n) : (double.order (unit m) (unit n) == some .lt) = true := by
  rw [order_unit hm hn]
  change (compare (m : Int) (n : Int) == .lt) = true
  rw [cmp_lt]
  simp only [decide_eq_true_iff]
  omega
set_option maxRecDepth 100000 in
theorem units_any (a b : Nat) (n : Int) (w : World) (ha : a < 18446744073709551616) (hb : b < 18446744073709551616) (hn2 : n ≤ 9223372036854775807) : Calls Try.prog 8 #[.int .u64 a, .int .u64 b, .int .i64 n] w fun x w' => x = .returned (.bool true) ∧ Below w.heap.size w w' := by
  have pa : a / 2048 < 2 ^ 53 := by omega
  have pb : b / 2048 < 2 ^ 53 := by omega
  have f1 : (FloatKind.f64.format.order (unit (a / 2048)) 0 == some .gt || FloatKind.f64.format.order (unit (a / 2048)) 0 == some .eq) = true := unit_ge pa
  have f2 : (FloatKind.f64.format.order (unit (a / 2048)) 4607182418800017408 == some .lt) = true := by
    show (double.order _ ONE == some .lt) = true
    rw [order_unit_one pa]; rfl
  have f3 : ∀ W, (binOp .mul 29 (.float .f64 (unit (a / 2048))) (.float .f64 4845873199050653696)).run Try.prog W = .ok (.float .f64 (floatOfInt .f64 ((a : Int) / 2048))) W := fun W => run_float_arith W .mul 29 .f64 _ _ _ (by
    have := unit_mul pa
    exact this)
  have f4 : (FloatKind.f64.format.order (floatOfInt .f64 ((a : Int) / 2048)) (floatOfInt .f64 ((a : Int) / 2048)) != some .eq) = false := by
    have := order_self (ofInt_fin pa)
    show (double.order (floatOfInt .f64 (((a / 2048 : Nat)) : Int)) (floatOfInt .f64 (((a / 2048 : Nat)) : Int)) != some .eq) = false
    rw [this]; rfl
  have f5 : (a : Int) / 2048 < (b : Int) / 2048 → (FloatKind.f64.format.order (unit (a / 2048)) (unit (b / 2048)) == some .lt) = true := fun h => unit_lt pa pb (by omega)
  have f6 : (a : Int) / 2048 = (b : Int) / 2048 → (FloatKind.f64.format.order (unit (a / 2048)) (unit (b / 2048)) != some .eq) = false := fun h => by
    have e : a / 2048 = b / 2048 := by omega
    rw [e]
    show (double.order _ _ != some .eq) = false
    rw [order_self (rg_unit pb).2]; rfl
  have ua := fun W => unit_any a W ha
  have ub := fun W => unit_any b W hb
  obtain ⟨x, hx⟩ : ∃ x, unit (a / 2048) = x := ⟨_, rfl⟩
  obtain ⟨y, hy⟩ : ∃ y, unit (b / 2048) = y := ⟨_, rfl⟩
  rw [hx] at f1 f2 f3 f5 f6 ua
  rw [hy] at f5 f6 ub
  have F5 : Hid ((a : Int) / 2048 < (b : Int) / 2048 → (FloatKind.f64.format.order x y == some .lt) = true) := f5
  have F6 : Hid ((a : Int) / 2048 = (b : Int) / 2048 → (FloatKind.f64.format.order x y != some .eq) = false) := f6
  have UA : Hid (∀ W, Calls Try.prog 12 #[.int .u64 a] W fun e w' => e = .returned (.float .f64 x) ∧ w' = W) := ua
  have UB : Hid (∀ W, Calls Try.prog 12 #[.int .u64 b] W fun e w' => e = .returned (.float .f64 y) ∧ w' = W) := ub
  clear hx hy pa pb f5 f6 ua ub
  go_enter Try.func8, Try.ntmps8
  go_wp2_with fail
  refine (awake_any w).mono ?_
  rintro e w1 ⟨rfl, L1⟩
  have HL : Hid (Below w.heap.size w w1) := L1
  clear L1
  go_wp2_with fail
  refine (UA.out w1).mono ?_
  rintro e w2 ⟨rfl, rfl⟩
  go_wp2_with fail
  refine (UB.out w2).mono ?_
  rintro e w3 ⟨rfl, rfl⟩
  have HT : Hid (((a : Int) / 2048 < (b : Int) / 2048 ∧ (FloatKind.f64.format.order x y == some .lt) = true) ∨ ((b : Int) / 2048 = (a : Int) / 2048 ∧ (FloatKind.f64.format.order x y != some .eq) = false) ∨ (b : Int) / 2048 < (a : Int) / 2048) := by
    rcases Int.lt_trichotomy ((a : Int) / 2048) ((b : Int) / 2048) with h | h | h
    · exact .inl ⟨h, F5.out h⟩
    · exact .inr (.inl ⟨h.symm, F6.out h⟩)
    · exact .inr (.inr h)
  clear F5 F6 UA UB
  rcases HT.out with ⟨g1, g2⟩ | ⟨g1, g2⟩ | g1
  all_goals clear HT
  all_goals
    go_wp2_with fail
    clear f1 f2 f3 f4 g1
    by_cases hn : n < 1
    · refine (below_no a n w3 hn).mono ?_
      rintro e w4 ⟨rfl, rfl⟩
      go_wp2_with fail
      go_ret
      exact ⟨rfl, HL.out⟩
    · refine (below_ok a n w3 (by omega) (by omega) (by omega) hn2).mono ?_
      rintro e w4 ⟨rfl, rfl⟩
      have a1 : 0 ≤ (a : Int) % n := Int.emod_nonneg _ (by omega)
      have a2 : (a : Int) % n < n := Int.emod_lt_of_pos _ (by omega)
      have hn1 : 1 ≤ n := by omega
      by_cases han : (a : Int) < n
      · have hm : (a : Int) % n = a := Int.emod_eq_of_lt (by omega) han
        rw [hm] at a1 a2 ⊢
        clear hm
        go_wp2_with fail
        go_ret
        exact ⟨rfl, HL.out⟩
      · have hk := below_ok ((a : Int) - n) n w4 (by omega) (by omega) (by omega) hn2
        have e1 : ((a : Int) - n) % n = (a : Int) % n := Int.sub_emod_right _ _
        rw [e1] at hk
        have HK : Hid (Calls Try.prog 9 #[.int .u64 ((a : Int) - n), .int .i64 n] w4 fun x w' => x = .returned (.tuple #[.int .i64 ((a : Int) % n), .int .i64 0]) ∧ w' = w4) := hk
        obtain ⟨k, hkk⟩ : ∃ k, (a : Int) % n = k := ⟨_, rfl⟩
        rw [hkk] at a1 a2 HK ⊢
        clear hkk hk e1
        go_wp2_with fail
        refine HK.out.mono ?_
        rintro e w5 ⟨rfl, rfl⟩
        go_wp2_with fail
        go_ret
        exact ⟨rfl, HL.out⟩
theorem units_walk (a b n : Int) (w : World) (h : 0 ≤ a ∧ a ≤ 18446744073709551615) (h2 : 0 ≤ b ∧ b ≤ 18446744073709551615) (hn : -9223372036854775808 ≤ n ∧ n ≤ 9223372036854775807) : Calls Try.prog 8 #[.int .u64 a, .int .u64 b, .int .i64 n] w fun x w' => x = .returned (.bool true) ∧ Below w.heap.size w w' := by
  obtain ⟨m, rfl⟩ := Int.eq_ofNat_of_zero_le h.1
  obtain ⟨k, rfl⟩ := Int.eq_ofNat_of_zero_le h2.1
  exact units_any m k n w (by omega) (by omega) hn.2
end Go.Proofs.Ytfolfeaednmcoaa
