/-
  Small functions of package scalar: bytes asked, powers of ten.
-/
import Derived.Test.YthfmepnlbaifcaaDoorBase
import Derived.Test.YthfmepnlbaifcaaDoorShf
import Derived.Test.YthfmepnlbaifcaaDoorMv
import Derived.Deep.QuietTactic
import Derived.BigQuiet
import Derived.Deep.RegionHeld3
import Derived.Deep.RegionLaw
import Derived.Deep.DeepCutAuto
namespace Go.Proofs.YthfmepnlbaifcaaDoor
open Go.RowKit
set_option linter.unusedVariables false
set_option linter.unusedSimpArgs false
theorem hide2 {p : Prop} (h : p) : Hid p := h
theorem ret_bool {a b : Bool} (h : a = b) : Ending.returned (.bool a) = .returned (.bool b) := by rw [h]
theorem ret_int {k : IntKind} {a b : Int} (h : a = b) : Ending.returned (.int k a) = .returned (.int k b) := by rw [h]
theorem u8_lo (c : UInt8) : (0 : Int) ≤ (c.toNat : Int) := by omega
theorem u8_hi (c : UInt8) : (c.toNat : Int) ≤ 255 := by have := c.toNat_lt; omega
theorem ix_lt {l : List UInt8} {k : Nat} {c : UInt8} (h : l[k]? = some c) : k < (ByteArray.mk l.toArray).size := (List.getElem?_eq_some_iff.1 h).1
theorem ix_eq {l : List UInt8} {k : Nat} {c : UInt8} (h : l[k]? = some c) : (ByteArray.mk l.toArray)[k]'(ix_lt h) = c := (List.getElem?_eq_some_iff.1 h).2
theorem len_none {l : List UInt8} {k : Nat} (h : l[k]? = none) : l.length ≤ k := List.getElem?_eq_none_iff.1 h
theorem extract_drop (l : List UInt8) (k : Nat) : (ByteArray.mk l.toArray).extract k l.length = ⟨(l.drop k).toArray⟩ := by
  apply ByteArray.ext
  simp [ByteArray.data_extract]
  exact List.take_of_length_le (by simp)
theorem extract_take (l : List UInt8) (k : Nat) : (ByteArray.mk l.toArray).extract 0 k = ⟨(l.take k).toArray⟩ := by
  apply ByteArray.ext
  simp [ByteArray.data_extract]
/-- is that byte there? -/
def atB (l : List UInt8) (k : Nat) (c : Nat) : Bool := match l[k]? with | none => false | some x => decide ((x.toNat : Int) = c)
def dgB (l : List UInt8) (k : Nat) : Bool := match l[k]? with | none => false | some x => dg x
theorem isAt_any (l : List UInt8) (k : Nat) (c : Nat) (w : World) (hs : l.length ≤ 2 ^ 62) (hc : c ≤ 255) (hk : k ≤ 2 ^ 62) :
    Calls Tryd.prog 55 #[.string ⟨l.toArray⟩, .int .i64 k, .int .u8 c] w fun e w' => e = .returned (.bool (atB l k c)) ∧ w' = w := by
  have k0 : (0 : Int) ≤ k := by omega
  rcases ik : l[k]? with _ | x
  · have hl := len_none ik
    have hN : atB l k c = false := by rw [atB, ik]
    rw [hN]
    have hl' : ¬ (k : Int) < l.length := by omega
    go_enter Tryd.func55, Tryd.ntmps55
    go_wp2
    go_ret
    exact ⟨rfl, rfl⟩
  · have ek := ix_eq ik
    have hkl := ix_lt ik
    have hl' : (k : Int) < l.length := by have := (List.getElem?_eq_some_iff.1 ik).1; omega
    have lo := u8_lo x
    have hi := u8_hi x
    have hN : Hid (atB l k c = decide ((x.toNat : Int) = c)) := by show _ = _; rw [atB, ik]
    go_enter Tryd.func55, Tryd.ntmps55
    go_wp2
    go_ret
    refine ⟨ret_bool ?_, rfl⟩
    rw [hN.out]
    rw [Bool.eq_iff_iff]; simp
theorem isDigitAt_any (l : List UInt8) (k : Nat) (w : World) (hs : l.length ≤ 2 ^ 62) (hk : k ≤ 2 ^ 62) :
    Calls Tryd.prog 56 #[.string ⟨l.toArray⟩, .int .i64 k] w fun e w' => e = .returned (.bool (dgB l k)) ∧ w' = w := by
  have k0 : (0 : Int) ≤ k := by omega
  rcases ik : l[k]? with _ | x
  · have hl := len_none ik
    have hN : dgB l k = false := by rw [dgB, ik]
    rw [hN]
    have hl' : ¬ (k : Int) < l.length := by omega
    go_enter Tryd.func56, Tryd.ntmps56
    go_wp2
    go_ret
    exact ⟨rfl, rfl⟩
  · have ek := ix_eq ik
    have hkl := ix_lt ik
    have hl' : (k : Int) < l.length := by have := (List.getElem?_eq_some_iff.1 ik).1; omega
    have lo := u8_lo x
    have hi := u8_hi x
    have hN : Hid (dgB l k = decide (48 ≤ x.toNat ∧ x.toNat ≤ 57)) := by show _ = _; rw [dgB, ik]; rfl
    go_enter Tryd.func56, Tryd.ntmps56
    go_wp2
    all_goals
      go_ret
      refine ⟨ret_bool ?_, rfl⟩
      rw [hN.out]
      first
        | (symm; rw [decide_eq_true_eq]; omega)
        | (symm; rw [decide_eq_false_iff_not]; omega)
        | (rw [Bool.eq_iff_iff]; simp; done) | (rw [Bool.eq_iff_iff]; simp; omega)
theorem clone_any (s : ByteArray) (w : World) (hlim : s.size ≤ 281474976710656) :
    Calls Tryd.prog 22 #[.string s] w fun e w' => e = .returned (.string s) ∧ Below w.heap.size w w' := by
  go_enter Tryd.func22, Tryd.ntmps22
  go_wp2_with (go_at_call 40; refine (Tryd.stringslite_Clone _ _ hlim).mono ?_; rintro e w' ⟨rfl, hb⟩)
  go_ret
  exact ⟨rfl, hb⟩
theorem mul_run {x r : Nat} (h : floatBits .mul .f64 x TEN = some r) (w : World) : (binOp .mul 23 (.float .f64 x) (.float .f64 4621819117588971520)).run Tryd.prog w = .ok (.float .f64 r) w := run_float_arith w .mul 23 .f64 _ _ _ h
theorem pow_any (k : Nat) (w : World) (hk : k ≤ 22) :
    Calls Tryd.prog 53 #[.int .i64 k] w fun e w' => e = .returned (.float .f64 (fpow k)) ∧ w' = w := by
  go_enter Tryd.func53, Tryd.ntmps53
  go_wp2
  go_loop [3, 5] (fun p t => ∃ i : Nat, i ≤ k ∧ t = .int .i64 i ∧ p = .float .f64 (fpow i)) (fun _ t => k - (intOf t).toNat)
  case atStart => exact ⟨0, by omega, rfl, rfl⟩
  case round =>
    obtain ⟨i, hi, rfl, rfl⟩ := hrel
    by_cases hlt : i < k
    · have k0 : (i : Int) < k := by omega
      have hm := mul_run (fpow_step i (by omega))
      obtain ⟨x, hx⟩ : ∃ x, fpow i = x := ⟨_, rfl⟩
      obtain ⟨y, hy⟩ : ∃ x, fpow (i + 1) = x := ⟨_, rfl⟩
      rw [hx, hy] at hm
      rw [hx]
      have HY := hide2 hy
      clear hx hy
      have rM := hm w
      clear hm
      go_wp2
      go_round
      case rel => exact ⟨i + 1, by omega, by go_num, by rw [HY.out]⟩
      case measure => simp [intOf]; omega
    · obtain rfl : i = k := by omega
      obtain ⟨x, hx⟩ : ∃ x, fpow i = x := ⟨_, rfl⟩
      rw [hx]
      have HX := hide2 hx
      clear hx
      go_wp2
      go_ret
      refine ⟨?_, rfl⟩
      rw [HX.out]
      rfl
/-- the answer of Scaled -/
def scE (m : Nat) (k : Int) : Ending := if m < 1000000000000000 ∧ -22 ≤ k ∧ k ≤ 22 then .returned (.tuple #[.float .f64 (scF m k), .int .i64 0]) else .returned (.tuple #[.float .f64 0, .int .i64 2])
theorem scaled_any (m : Nat) (k : Int) (w : World) (h1 : -22 ≤ k) (h2 : k ≤ 22) :
    Calls Tryd.prog 34 #[.float .f64 (floatOfInt .f64 (m : Int)), .int .i64 k] w fun e w' => e = .returned (.float .f64 (scF m k)) ∧ w' = w := by
  obtain ⟨x, hx⟩ : ∃ x, floatOfInt .f64 (m : Int) = x := ⟨_, rfl⟩
  obtain ⟨r, hr⟩ : ∃ x, scF m k = x := ⟨_, rfl⟩
  by_cases hk : k < 0
  · obtain ⟨j, hj, hj1, hj2⟩ : ∃ j : Nat, k = -(j : Int) ∧ j ≤ 22 ∧ 0 < j := ⟨k.natAbs, by omega, by omega, by omega⟩
    have hq := scF_quo m hj1 hj2
    rw [← hj, hr, hx] at hq
    have hp := pow_any j w hj1
    obtain ⟨p, hpp⟩ : ∃ x, fpow j = x := ⟨_, rfl⟩
    rw [hpp] at hq hp
    have rQ : (binOp .quo 23 (.float .f64 x) (.float .f64 p)).run Tryd.prog w = .ok (.float .f64 r) w := run_float_arith w .quo 23 .f64 _ _ _ hq
    rw [hx, hr]
    rw [show (j : Int) = -k by omega] at hp
    clear hq hr hx hpp hj
    go_enter Tryd.func34, Tryd.ntmps34
    go_wp2_with (go_at_call 53; refine hp.mono ?_; rintro e w' ⟨rfl, rfl⟩)
    go_ret
    exact ⟨rfl, rfl⟩
  · obtain ⟨j, hj, hj1⟩ : ∃ j : Nat, k = (j : Int) ∧ j ≤ 22 := ⟨k.natAbs, by omega, by omega⟩
    have hq := scF_mul m hj1
    rw [← hj, hr, hx] at hq
    have hp := pow_any j w hj1
    obtain ⟨p, hpp⟩ : ∃ x, fpow j = x := ⟨_, rfl⟩
    rw [hpp] at hq hp
    have rQ : (binOp .mul 23 (.float .f64 x) (.float .f64 p)).run Tryd.prog w = .ok (.float .f64 r) w := run_float_arith w .mul 23 .f64 _ _ _ hq
    rw [hx, hr]
    subst hj
    clear hq hr hx hpp
    go_enter Tryd.func34, Tryd.ntmps34
    go_wp2_with (go_at_call 53; refine hp.mono ?_; rintro e w' ⟨rfl, rfl⟩)
    go_ret
    exact ⟨rfl, rfl⟩
theorem Scaled_any (m : Nat) (k : Int) (w : World) (hm : m < 18446744073709551616) :
    Calls Tryd.prog 17 #[.int .u64 m, .int .i64 k] w fun e w' => e = scE m k ∧ w' = w := by
  by_cases h : m < 1000000000000000 ∧ -22 ≤ k ∧ k ≤ 22
  · rw [scE, if_pos h]
    obtain ⟨h1, h2, h3⟩ := h
    have hs := scaled_any m k w h2 h3
    obtain ⟨r, hr⟩ : ∃ x, scF m k = x := ⟨_, rfl⟩
    rw [hr] at hs ⊢
    have h1' : (m : Int) < 1000000000000000 := by omega
    have h0' : 0 ≤ (m : Int) := by omega
    clear h1 hm hr
    generalize (m : Int) = M at *
    go_enter Tryd.func17, Tryd.ntmps17
    go_wp2_with (go_at_call 34; refine hs.mono ?_; rintro e w' ⟨rfl, rfl⟩)
    go_ret2
    exact ⟨rfl, rfl⟩
  · rw [scE, if_neg h]
    have h' : ¬ ((m : Int) < 1000000000000000 ∧ -22 ≤ k ∧ k ≤ 22) := by omega
    have h0' : 0 ≤ (m : Int) := by omega
    clear hm h
    generalize (m : Int) = M at *
    by_cases h1 : M < 1000000000000000
    · by_cases h2 : k < -22
      · clear h'
        go_enter Tryd.func17, Tryd.ntmps17
        go_wp2
        go_ret2
        exact ⟨rfl, rfl⟩
      · have h3 : 22 < k := by omega
        clear h'
        go_enter Tryd.func17, Tryd.ntmps17
        go_wp2
        go_ret2
        exact ⟨rfl, rfl⟩
    · clear h'
      go_enter Tryd.func17, Tryd.ntmps17
      go_wp2
      go_ret2
      exact ⟨rfl, rfl⟩
theorem rScaled_any (m : Nat) (k : Int) (w : World) (hm : m < 18446744073709551616) :
    Calls Tryd.prog 47 #[.int .u64 m, .int .i64 k] w fun e w' => e = scE m k ∧ w' = w := by
  by_cases h : m < 1000000000000000 ∧ -22 ≤ k ∧ k ≤ 22
  · rw [scE, if_pos h]
    obtain ⟨h1, h2, h3⟩ := h
    obtain ⟨r, hr⟩ : ∃ x, scF m k = x := ⟨_, rfl⟩
    obtain ⟨x, hx⟩ : ∃ x, floatOfInt .f64 (m : Int) = x := ⟨_, rfl⟩
    have h1' : (m : Int) < 1000000000000000 := by omega
    have h0' : 0 ≤ (m : Int) := by omega
    have HQ : Hid (∀ j : Nat, j ≤ 22 → k = -(j : Int) → 0 < j → floatBits .quo .f64 x (fpow j) = some r) := fun j h1 h2 h3 => by
      have := scF_quo m h1 h3
      rwa [← h2, hr, hx] at this
    have HM : Hid (∀ j : Nat, j ≤ 22 → k = (j : Int) → floatBits .mul .f64 x (fpow j) = some r) := fun j h1 h2 => by
      have := scF_mul m h1
      rwa [← h2, hr, hx] at this
    have HX := hide2 hx
    rw [hr]
    clear h1 hm hr hx
    generalize (m : Int) = M at h1' h0' HX ⊢
    have hk1 : ¬ k < -22 := by omega
    have hk2 : ¬ 22 < k := by omega
    go_enter Tryd.func47, Tryd.ntmps47
    go_wp2
    go_loop [6, 8] (fun p t => ∃ i : Nat, (i : Int) ≤ max k 0 ∧ t = .int .i64 i ∧ p = .float .f64 (fpow i)) (fun _ t => (max k 0).toNat - (intOf t).toNat)
    case atStart => exact ⟨0, by omega, rfl, rfl⟩
    case round =>
      obtain ⟨i, hi, rfl, rfl⟩ := hrel
      by_cases hlt : (i : Int) < k
      · have hm := mul_run (fpow_step i (by omega))
        obtain ⟨y, hy⟩ : ∃ x, fpow i = x := ⟨_, rfl⟩
        obtain ⟨z, hz⟩ : ∃ x, fpow (i + 1) = x := ⟨_, rfl⟩
        rw [hy, hz] at hm
        rw [hy]
        have HZ := hide2 hz
        clear hy hz
        have rM := hm w
        clear hm
        go_wp2
        go_round
        case rel => exact ⟨i + 1, by omega, by go_num, by rw [HZ.out]⟩
        case measure => simp [intOf]; omega
      · have HI : Hid ((i : Int) = max k 0) := by show _ = _; omega
        obtain ⟨y, hy⟩ : ∃ x, fpow i = x := ⟨_, rfl⟩
        rw [hy]
        have HY := hide2 hy
        clear hy
        go_wp2
        go_loop [7, 9] (fun p t => ∃ j : Nat, (j : Int) ≤ max (-k) 0 ∧ t = .int .i64 (k + j) ∧ p = .float .f64 (fpow j)) (fun _ t => (0 - intOf t).toNat)
        case atStart => exact ⟨0, by omega, by go_num, rfl⟩
        case round =>
          obtain ⟨j, hj, rfl, rfl⟩ := hrel
          by_cases hlt : k + j < 0
          · have hm := mul_run (fpow_step j (by omega))
            obtain ⟨u, hu⟩ : ∃ x, fpow j = x := ⟨_, rfl⟩
            obtain ⟨z, hz⟩ : ∃ x, fpow (j + 1) = x := ⟨_, rfl⟩
            rw [hu, hz] at hm
            rw [hu]
            have HZ := hide2 hz
            clear hu hz
            have rM := hm w
            clear hm
            go_wp2
            go_round
            case rel => exact ⟨j + 1, by omega, by go_num, by rw [HZ.out]⟩
            case measure => simp [intOf]; omega
          · by_cases hk : k < 0
            · have rQ : (binOp .quo 23 (.float .f64 x) (.float .f64 (fpow j))).run Tryd.prog w = .ok (.float .f64 r) w := run_float_arith w .quo 23 .f64 _ _ _ (HQ.out j (by omega) (by omega) (by omega))
              obtain ⟨u, hu⟩ : ∃ x, fpow j = x := ⟨_, rfl⟩
              rw [hu] at rQ ⊢
              clear hu
              have rC : (convert 40 23 (.int .u64 M)).run Tryd.prog w = .ok (.float .f64 x) w := by rw [← HX.out]; exact run_convert_int_float w 40 23 .u64 .f64 M (by kernel_rfl) (by kernel_rfl)
              go_wp2
              go_ret2
              exact ⟨rfl, rfl⟩
            · have rM : (binOp .mul 23 (.float .f64 x) (.float .f64 (fpow i))).run Tryd.prog w = .ok (.float .f64 r) w := run_float_arith w .mul 23 .f64 _ _ _ (HM.out i (by have := HI.out; omega) (by have := HI.out; omega))
              rw [HY.out] at rM
              obtain ⟨u, hu⟩ : ∃ x, fpow j = x := ⟨_, rfl⟩
              rw [hu]
              clear hu
              have rC : (convert 40 23 (.int .u64 M)).run Tryd.prog w = .ok (.float .f64 x) w := by rw [← HX.out]; exact run_convert_int_float w 40 23 .u64 .f64 M (by kernel_rfl) (by kernel_rfl)
              go_wp2
              go_ret2
              exact ⟨rfl, rfl⟩
  · rw [scE, if_neg h]
    have h' : ¬ ((m : Int) < 1000000000000000 ∧ -22 ≤ k ∧ k ≤ 22) := by omega
    have h0' : 0 ≤ (m : Int) := by omega
    clear hm h
    generalize (m : Int) = M at *
    by_cases h1 : M < 1000000000000000
    · by_cases h2 : k < -22
      · clear h'
        go_enter Tryd.func47, Tryd.ntmps47
        go_wp2
        go_ret2
        exact ⟨rfl, rfl⟩
      · have h3 : 22 < k := by omega
        clear h'
        go_enter Tryd.func47, Tryd.ntmps47
        go_wp2
        go_ret2
        exact ⟨rfl, rfl⟩
    · clear h'
      go_enter Tryd.func47, Tryd.ntmps47
      go_wp2
      go_ret2
      exact ⟨rfl, rfl⟩
end Go.Proofs.YthfmepnlbaifcaaDoor
