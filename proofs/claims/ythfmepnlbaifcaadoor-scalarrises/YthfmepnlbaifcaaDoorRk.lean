/-
  ScalarRises: its walk.
-/
import Derived.Test.YthfmepnlbaifcaaDoorRj
import Derived.Deep.DeepCutAuto
namespace Go.Proofs.YthfmepnlbaifcaaDoor
open Go.RowKit
set_option linter.unusedVariables false
set_option linter.unusedSimpArgs false
set_option maxRecDepth 100000 in
set_option maxHeartbeats 8000000 in
theorem rises_any (a b : Nat) (A0 B0 K0 A B K : Int) (w : World) (hE : Errs w) (a0 : 0 ≤ A0) (b0 : 0 ≤ B0) (hA : A0 % 1000000000000000 = A) (hB : B0 % 1000000000000000 = B) (hK : K0.tmod 23 = K) (ha : a < 1000000000000000) (hb : b < 1000000000000000) (haA : (a : Int) = A) (hbB : (b : Int) = B) (k1 : -22 ≤ K) (k2 : K ≤ 22) :
    Calls Tryd.prog 6 #[.int .u64 A0, .int .u64 B0, .int .i64 K0] w fun e w' => e = .returned (.bool true) ∧ Below w.heap.size w w' := by
  have HW : Hid (w.heap.size ≤ w.heap.size ∧ Below w.heap.size w w ∧ Errs w) := ⟨Nat.le_refl _, Below.refl _ _, hE⟩
  clear hE
  obtain ⟨x, hx⟩ : ∃ x, scF a K = x := ⟨_, rfl⟩
  obtain ⟨y, hy⟩ : ∃ y, scF b K = y := ⟨_, rfl⟩
  have HX := hide2 hx
  have HY := hide2 hy
  have HA := hide2 (And.intro ha haA)
  have HB := hide2 (And.intro hb hbB)
  have A1 : 0 ≤ A := by omega
  have A2 : A < 1000000000000000 := by omega
  have B1 : 0 ≤ B := by omega
  have B2 : B < 1000000000000000 := by omega
  have hxx : (FloatKind.f64.format.order x x == some .eq) = true := by
    rw [← hx]
    have := eq_word (sc_fin ha k1 k2) (sc_fin ha k1 k2)
    rw [decide_eq_true rfl] at this
    exact this
  have hxn : (FloatKind.f64.format.order x x != some .eq) = false := by rw [bne, hxx]; rfl
  clear hx hy ha hb haA hbB
  go_enter Tryd.func6, Tryd.ntmps6
  go_wp2_with (go_at_call 16; refine (awake_any _ HW.out.2.2).mono ?_; rintro e w1 ⟨rfl, hb⟩; have HW := hide2 (stp HW.out hb); clear hb)
  try simp only [hA, hB, hK]
  refine (Scaled_at A K a HA.out.2 x HX.out ⟨HA.out.1, k1, k2⟩ _).mono ?_
  rintro e w2 ⟨rfl, rfl⟩
  go_wp2_with (fail)
  try simp only [hA, hB, hK]
  refine (Scaled_at B K b HB.out.2 y HY.out ⟨HB.out.1, k1, k2⟩ _).mono ?_
  rintro e w3 ⟨rfl, rfl⟩
  go_upto_region 8 with (fail)
  go_cut [66] (fun s wx => s = .bool false ∧ wx = w3)
  case first =>
    rcases Int.lt_trichotomy A B with h | h | h
    · have fo : (FloatKind.f64.format.order x y == some .lt) = true := by
        rw [← HX.out, ← HY.out]
        exact sc_lt (by have := HA.out.2; have := HB.out.2; omega) HB.out.1 k1 k2
      have h2 : (A == B) = false := by rw [beq_eq_false_iff_ne]; omega
      go_wp2_with (fail)
      go_meet
      case rel => exact ⟨rfl, rfl⟩
    · have hyx : y = x := by
        rw [← HX.out, ← HY.out, show b = a by have := HA.out.2; have := HB.out.2; omega]
      subst h hyx
      have h2 : (A == A) = true := by rw [beq_iff_eq]
      go_wp2_with (fail)
      go_meet
      case rel => exact ⟨rfl, rfl⟩
    · have h1 : ¬ A < B := by omega
      have h2 : (A == B) = false := by rw [beq_eq_false_iff_ne]; omega
      go_wp2_with (fail)
      go_meet
      case rel => exact ⟨rfl, rfl⟩
  case rest =>
    obtain ⟨rfl, hwc⟩ := hcut
    subst hwc
    go_upto_region 10 with (fail)
    go_cut [73] (fun s wx => ∃ c : Bool, s = .bool c ∧ (c = true → A % 10 = 0 ∧ K < 22) ∧ wx = wc)
    case first =>
      by_cases t10 : A % 10 = 0
      · have tb : (A % 10 == 0) = true := by rw [beq_iff_eq]; exact t10
        by_cases tk : K < 22
        · go_wp2_with (fail)
          go_meet
          case rel => exact ⟨true, by first | rfl | simp_all, fun _ => ⟨t10, tk⟩, rfl⟩
        · go_wp2_with (fail)
          go_meet
          case rel => exact ⟨false, by first | rfl | simp_all, fun h => by contradiction, rfl⟩
      · have tb : (A % 10 == 0) = false := by rw [beq_eq_false_iff_ne]; exact t10
        go_wp2_with (fail)
        go_meet
        case rel => exact ⟨false, by first | rfl | simp_all, fun h => by contradiction, rfl⟩
    case rest =>
      obtain ⟨c, rfl, ht, hwc⟩ := hcut
      subst hwc
      go_upto_if 73 with (fail)
      go_cut [] (fun wx => wx = wc)
      case first =>
        cases c
        · go_wp2_with (fail)
          go_meet
          case rel => rfl
        · obtain ⟨t10, tk⟩ := ht rfl
          go_wp2_with (fail)
          refine (Scaled_at (A / 10) (K + 1) (a / 10) (by have := HA.out.2; omega) x (by rw [ten_same HA.out.1 (by have := HA.out.2; omega) k1 tk]; exact HX.out) ⟨by have := HA.out.1; omega, by omega, by omega⟩ _).mono ?_
          rintro e w4 ⟨rfl, rfl⟩
          go_wp2_with (fail)
          go_meet
          case rel => rfl
      case rest =>
        subst hcut
        clear ht
        go_upto_region 14 with (fail)
        go_cut [94] (fun s wx => ∃ c : Bool, s = .bool c ∧ (c = true → 0 ≤ K ∧ K ≤ 3) ∧ wx = wc)
        case first =>
          by_cases ks : 0 ≤ K
          · by_cases ks2 : K ≤ 3
            · go_wp2_with (fail)
              go_meet
              case rel => exact ⟨true, by first | rfl | simp_all, fun _ => ⟨ks, ks2⟩, rfl⟩
            · go_wp2_with (fail)
              go_meet
              case rel => exact ⟨false, by first | rfl | simp_all, fun h => by contradiction, rfl⟩
          · go_wp2_with (fail)
            go_meet
            case rel => exact ⟨false, by first | rfl | simp_all, fun h => by contradiction, rfl⟩
        case rest =>
          obtain ⟨c2, rfl, hs, hwc⟩ := hcut
          subst hwc
          go_upto_if 94 with (fail)
          go_cut [] (fun wx => wx = wc)
          case first =>
            cases c2
            · go_wp2_with (fail)
              go_meet
              case rel => rfl
            · obtain ⟨ks, ks2⟩ := hs rfl
              obtain ⟨j, hj, hj3⟩ : ∃ j : Nat, K = (j : Int) ∧ j ≤ 3 := ⟨K.toNat, by omega, by omega⟩
              have HJ := hide2 (And.intro hj hj3)
              clear hj hj3
              go_wp2_with (fail)
              go_loop [13, 14] (fun n t => ∃ i : Nat, t = .int .i64 i ∧ (i : Int) ≤ K ∧ n = .int .u64 ((a * 10 ^ i : Nat) : Int)) (fun _ t => 4 - (intOf t).toNat)
              case atStart => exact ⟨0, rfl, by omega, by rw [Nat.pow_zero, Nat.mul_one, HA.out.2]⟩
              case round =>
                obtain ⟨i, rfl, hi, rfl⟩ := hrel
                have hp10 : 10 ^ i ≤ 10 ^ 3 := Nat.pow_le_pow_right (by decide) (by omega)
                have hnb : a * 10 ^ i ≤ 1000000000000000 * 1000 := Nat.mul_le_mul (Nat.le_of_lt HA.out.1) hp10
                obtain ⟨n, hn⟩ : ∃ n : Int, ((a * 10 ^ i : Nat) : Int) = n := ⟨_, rfl⟩
                have n0 : 0 ≤ n := by omega
                have n1 : n ≤ 1000000000000000000 := by omega
                rw [hn]
                have HN := hide2 hn
                by_cases hlt : (i : Int) < K
                · clear hn hnb hp10
                  go_wp2_with (fail)
                  go_round
                  case rel => exact ⟨i + 1, by go_num, by omega, by rw [Nat.pow_succ, ← Nat.mul_assoc, Int.natCast_mul, HN.out]; first | rfl | (congr 1; omega)⟩
                  case measure => simp [intOf]; omega
                · have hbt := bits_any (a * 10 ^ i) wc (by omega)
                  have hcv : floatOfInt .f64 n = x := by
                    obtain ⟨hj, hj3⟩ := HJ.out
                    have hij : i = j := by omega
                    rw [← hn, hij, small_same HA.out.1 hj3, ← hj]; exact HX.out
                  have rC : (convert 40 23 (.int .u64 n)).run Tryd.prog wc = .ok (.float .f64 x) wc := by rw [← hcv]; exact run_convert_int_float wc 40 23 .u64 .f64 n (by kernel_rfl) (by kernel_rfl)
                  rw [hn] at hbt
                  clear hn hnb hp10 hcv
                  go_wp2_with (fail)
                  refine hbt.mono ?_
                  rintro e w4 ⟨⟨L, rfl⟩, rfl⟩
                  clear hbt
                  by_cases hL : L ≤ 53
                  · go_wp2_with (fail)
                    go_meet
                    case rel => rfl
                  · go_wp2_with (fail)
                    go_meet
                    case rel => rfl
          case rest =>
            subst hcut
            clear hs
            by_cases hz0 : A = 0
            · have x0 : x = 0 := by
                have hz : a = 0 := by have := HA.out.2; omega
                rw [← HX.out, hz]; exact sc_zero k1 k2
              subst x0
              subst hz0
              go_wp2_with (fail)
              go_ret
              exact ⟨ret_bool hxx, HW.out.2.1⟩
            · have hzb : (A == 0) = false := by rw [beq_eq_false_iff_ne]; exact hz0
              obtain ⟨M, p, m1, p1, p2, kp, hMx, hM10, hdc⟩ := dec_at a K (by have := HA.out.2; omega) HA.out.1 k1 k2 wc
              rw [HX.out] at hMx hdc
              obtain ⟨m, hm⟩ : ∃ m : Int, (M : Int) = m := ⟨_, rfl⟩
              rw [hm] at hdc
              have hsc := Scaled_at m p M hm x hMx ⟨m1, p1, p2⟩ wc
              have m0 : 0 ≤ m := by omega
              have kpb : K ≤ p := kp
              by_cases hm10 : ¬ m % 10 = 0
              · have hmb : (m % 10 != 0) = true := by rw [bne_iff_ne]; exact hm10
                clear hm hM10 hMx m1
                go_wp2_with (first
                  | (go_at_call 19; refine hdc.mono ?_; rintro e w4 ⟨rfl, rfl⟩)
                  | (go_at_call 17; refine hsc.mono ?_; rintro e w4 ⟨rfl, rfl⟩))
                go_ret
                exact ⟨rfl, HW.out.2.1⟩
              · rw [Decidable.not_not] at hm10
                have h22 : p = 22 := by rcases hM10 with h | h <;> omega
                subst h22
                have hmb : (m % 10 != 0) = false := by rw [bne_eq_false_iff_eq]; exact hm10
                clear hm hM10 hMx m1
                go_wp2_with (first
                  | (go_at_call 19; refine hdc.mono ?_; rintro e w4 ⟨rfl, rfl⟩)
                  | (go_at_call 17; refine hsc.mono ?_; rintro e w4 ⟨rfl, rfl⟩))
                go_ret
                exact ⟨rfl, HW.out.2.1⟩

/-- The same for the words as they come: any two numbers without sign and any exponent. -/
theorem rises_int (A0 B0 K0 : Int) (w : World) (hE : Errs w) (a0 : 0 ≤ A0) (b0 : 0 ≤ B0) :
    Calls Tryd.prog 6 #[.int .u64 A0, .int .u64 B0, .int .i64 K0] w fun e w' => e = .returned (.bool true) ∧ Below w.heap.size w w' := by
  have hk : -22 ≤ K0.tmod 23 ∧ K0.tmod 23 ≤ 22 := by
    constructor
    · rcases Int.le_total 0 K0 with h | h
      · have := Int.tmod_nonneg 23 h; omega
      · have := Int.tmod_nonneg 23 (show (0 : Int) ≤ -K0 by omega)
        have h2 := Int.tmod_lt_of_pos (-K0) (show (0 : Int) < 23 by decide)
        rw [Int.neg_tmod] at h2; omega
    · have := Int.tmod_lt_of_pos K0 (show (0 : Int) < 23 by decide); omega
  exact rises_any (A0 % 1000000000000000).toNat (B0 % 1000000000000000).toNat A0 B0 K0 _ _ _ w hE a0 b0 rfl rfl rfl (by omega) (by omega) (by omega) (by omega) hk.1 hk.2
end Go.Proofs.YthfmepnlbaifcaaDoor
