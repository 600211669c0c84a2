/-
  math.Round of what is not below 0.
-/
import Derived.Test.YthfmepnlbaifcaaDoorRr
namespace Go.Proofs.YthfmepnlbaifcaaDoor
open Go.RowKit
set_option linter.unusedVariables false
set_option linter.unusedSimpArgs false
theorem bits_run (x : Nat) (w : World) : (callFunc 54 #[.float .f64 x]).run Tryd.prog w = .ok (.value (.int .u64 x)) w := by
  rw [run_callFunc_extern (e := Extern.MathFloatBits.float64bits) Tryd.func54 (by kernel_rfl) (by kernel_rfl) (by kernel_rfl) (by kernel_rfl)]
  rfl
/-- the whole number nearest to a word that is not below 0, halves away from 0 -/
def rndW (b : Nat) : Nat :=
  if b / 2 ^ 52 < 1022 then 0
  else if b / 2 ^ 52 < 1023 then ONE
  else if b / 2 ^ 52 < 1075 then ((b + 2 ^ (51 - (b / 2 ^ 52 - 1023))) / 2 ^ (52 - (b / 2 ^ 52 - 1023))) * 2 ^ (52 - (b / 2 ^ 52 - 1023))
  else b
theorem wrap_in (n : Nat) (h : n < 18446744073709551616) : IntKind.u64.wrap (n : Int) = (n : Int) := by
  simp [IntKind.wrap, IntKind.bits, IntKind.signed]; omega
theorem half_s : ∀ s, s < 52 → 2251799813685248 / 2 ^ s = 2 ^ (51 - s) := by decide
theorem mask_s : ∀ s, s < 52 → 4503599627370495 / 2 ^ s = 2 ^ (52 - s) - 1 := by decide
theorem and_high (a j : Nat) (ha : a < 2 ^ 64) (hj : j ≤ 52) : a &&& (18446744073709551615 - (2 ^ j - 1)) = a / 2 ^ j * 2 ^ j := by
  have hp : 1 ≤ 2 ^ j := Nat.one_le_two_pow
  have hle : 2 ^ j ≤ 2 ^ 52 := Nat.pow_le_pow_right (by decide) hj
  have e : 18446744073709551615 - (2 ^ j - 1) = (2 ^ (64 - j) - 1) <<< j := by
    rw [Nat.shiftLeft_eq, Nat.sub_mul, ← Nat.pow_add, show 64 - j + j = 64 by omega]
    omega
  rw [e]
  apply Nat.eq_of_testBit_eq
  intro i
  rw [Nat.testBit_and, Nat.testBit_shiftLeft, Nat.testBit_two_pow_sub_one, ← Nat.shiftRight_eq_div_pow, ← Nat.shiftLeft_eq, Nat.testBit_shiftLeft, Nat.testBit_shiftRight]
  by_cases hi : j ≤ i
  · simp [hi]
    intro h
    by_cases h64 : i < 64
    · omega
    · have h1 : a.testBit i = false := Nat.testBit_lt_two_pow (Nat.lt_of_lt_of_le ha (Nat.pow_le_pow_right (by decide) (by omega)))
      rw [h1] at h
      cases h
  · simp [hi]
theorem exp_and (b : Nat) (hb : b ≤ INF) : bits BinOp.and IntKind.u64 ((b : Int) / 4503599627370496) 2047 = ((b / 2 ^ 52 : Nat) : Int) := by
  have e : (b : Int) / 4503599627370496 = ((b / 2 ^ 52 : Nat) : Int) := by omega
  have h := u64_and_nat (b / 2 ^ 52) 2047 (by unfold INF at hb; omega) (by decide)
  rw [e]
  refine Eq.trans h ?_
  rw [show (2047 : Nat) = 2 ^ 11 - 1 by decide, Nat.and_two_pow_sub_one_eq_mod, Nat.mod_eq_of_lt (by unfold INF at hb; omega)]
set_option maxRecDepth 100000 in
theorem round_mid (b : Nat) (B e R : Int) (w : World) (hB : (b : Int) = B) (hb : B ≤ 9218868437227405312) (h0 : 0 ≤ B) (he : e < 1075) (he2 : 1023 ≤ e) (hand : bits BinOp.and IntKind.u64 (B / 4503599627370496) 2047 = e)
    (hR : bits BinOp.andNot IntKind.u64 (IntKind.u64.wrap (B + 2251799813685248 / 2 ^ (e - 1023).toNat)) (4503599627370495 / 2 ^ (e - 1023).toNat) = R) :
    Calls Tryd.prog 35 #[.float .f64 b] w fun e w' => e = .returned (.float .f64 R.toNat) ∧ w' = w := by
  have hbr := bits_run b w
  rw [hB] at hbr
  clear hB
  go_enter Tryd.func35, Tryd.ntmps35
  go_wp2
  rw [from_run]
  go_wp2
  go_ret
  exact ⟨rfl, rfl⟩
set_option maxRecDepth 100000 in
theorem round_big (b : Nat) (B e : Int) (w : World) (hB : (b : Int) = B) (hb : B ≤ 9218868437227405312) (h0 : 0 ≤ B) (he : ¬ e < 1075) (he2 : 1023 ≤ e) (hand : bits BinOp.and IntKind.u64 (B / 4503599627370496) 2047 = e) :
    Calls Tryd.prog 35 #[.float .f64 b] w fun e w' => e = .returned (.float .f64 B.toNat) ∧ w' = w := by
  have hbr := bits_run b w
  rw [hB] at hbr
  clear hB
  go_enter Tryd.func35, Tryd.ntmps35
  go_wp2
  rw [from_run]
  go_wp2
  go_ret
  exact ⟨rfl, rfl⟩
set_option maxRecDepth 100000 in
theorem round_one (b : Nat) (B : Int) (w : World) (hB : (b : Int) = B) (hb : B ≤ 9218868437227405312) (h0 : 0 ≤ B) (hand : bits BinOp.and IntKind.u64 (B / 4503599627370496) 2047 = 1022) (hs : bits BinOp.and IntKind.u64 B 9223372036854775808 = 0) (ho : bits BinOp.or IntKind.u64 0 4607182418800017408 = 4607182418800017408) :
    Calls Tryd.prog 35 #[.float .f64 b] w fun e w' => e = .returned (.float .f64 ONE) ∧ w' = w := by
  have hbr := bits_run b w
  rw [hB] at hbr
  clear hB
  go_enter Tryd.func35, Tryd.ntmps35
  go_wp2
  rw [from_run]
  go_wp2
  go_ret
  exact ⟨rfl, rfl⟩
set_option maxRecDepth 100000 in
theorem round_low (b : Nat) (B e : Int) (w : World) (hB : (b : Int) = B) (hb : B ≤ 9218868437227405312) (h0 : 0 ≤ B) (he : e < 1022) (hand : bits BinOp.and IntKind.u64 (B / 4503599627370496) 2047 = e) (hs : bits BinOp.and IntKind.u64 B 9223372036854775808 = 0) :
    Calls Tryd.prog 35 #[.float .f64 b] w fun e w' => e = .returned (.float .f64 0) ∧ w' = w := by
  have hbr := bits_run b w
  rw [hB] at hbr
  clear hB
  have he2 : ¬ e = 1022 := by omega
  have he3 : e < 1023 := by omega
  go_enter Tryd.func35, Tryd.ntmps35
  go_wp2
  rw [from_run]
  go_wp2
  go_ret
  exact ⟨rfl, rfl⟩
theorem sign_and (b : Nat) (hb : b ≤ INF) : bits BinOp.and IntKind.u64 (b : Int) 9223372036854775808 = 0 := by
  have h := u64_and_nat b 9223372036854775808 (by unfold INF at hb; omega) (by decide)
  refine Eq.trans h ?_
  have : b &&& 9223372036854775808 = 0 := by
    apply Nat.eq_of_testBit_eq
    intro i
    rw [Nat.testBit_and, show (9223372036854775808 : Nat) = 2 ^ 63 by decide, Nat.testBit_two_pow]
    by_cases hi : 63 = i
    · subst hi
      have h1 : b.testBit 63 = false := Nat.testBit_lt_two_pow (by unfold INF at hb; omega)
      rw [h1]; simp
    · simp [hi]
  rw [this]; rfl
theorem round_any (b : Nat) (w : World) (hb : b ≤ INF) :
    Calls Tryd.prog 35 #[.float .f64 b] w fun e w' => e = .returned (.float .f64 (rndW b)) ∧ w' = w := by
  have hand := exp_and b hb
  have hs := sign_and b hb
  have hb2 : (b : Int) ≤ 9218868437227405312 := by unfold INF at hb; omega
  unfold rndW
  by_cases h1 : b / 2 ^ 52 < 1022
  · rw [if_pos h1]
    exact round_low b _ _ w rfl hb2 (by omega) (by omega) hand hs
  · rw [if_neg h1]
    by_cases h2 : b / 2 ^ 52 < 1023
    · rw [if_pos h2]
      have e : b / 2 ^ 52 = 1022 := by omega
      rw [e] at hand
      exact round_one b _ w rfl hb2 (by omega) hand hs (by decide)
    · rw [if_neg h2]
      by_cases h3 : b / 2 ^ 52 < 1075
      · rw [if_pos h3]
        obtain ⟨s, hs1, hs2⟩ : ∃ s, b / 2 ^ 52 - 1023 = s ∧ s < 52 := ⟨_, rfl, by omega⟩
        rw [hs1]
        have hm : (((b / 2 ^ 52 : Nat) : Int) - 1023).toNat = s := by omega
        have p1 : 2 ^ (51 - s) ≤ 2 ^ 51 := Nat.pow_le_pow_right (by decide) (by omega)
        have := round_mid b _ _ _ w rfl hb2 (by omega) (by omega) (by omega) hand rfl
        rw [hm] at this
        have e1 : (2251799813685248 : Int) / 2 ^ s = ((2 ^ (51 - s) : Nat) : Int) := by
          have := congrArg (fun n : Nat => (n : Int)) (half_s s hs2)
          simp only [Int.natCast_ediv] at this
          rw [← this, Int.natCast_pow]
          rfl
        have e2 : (4503599627370495 : Int) / 2 ^ s = ((2 ^ (52 - s) - 1 : Nat) : Int) := by
          have := congrArg (fun n : Nat => (n : Int)) (mask_s s hs2)
          simp only [Int.natCast_ediv] at this
          rw [← this, Int.natCast_pow]
          rfl
        have e3 : IntKind.u64.wrap ((b : Int) + ((2 ^ (51 - s) : Nat) : Int)) = ((b + 2 ^ (51 - s) : Nat) : Int) := by
          rw [← Int.natCast_add]
          exact wrap_in _ (by unfold INF at hb; omega)
        have p2 : 2 ^ (52 - s) ≤ 2 ^ 52 := Nat.pow_le_pow_right (by decide) (by omega)
        have e4 := u64_andNot_nat (b + 2 ^ (51 - s)) (2 ^ (52 - s) - 1) (by unfold INF at hb; omega) (by omega)
        rw [e1, e2, e3, e4, and_high _ _ (by unfold INF at hb; omega) (by omega)] at this
        exact this
      · rw [if_neg h3]
        exact round_big b _ _ w rfl hb2 (by omega) (by omega) (by omega) hand
end Go.Proofs.YthfmepnlbaifcaaDoor
