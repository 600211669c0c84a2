/-
  The document's integer and decimal.
-/
import Derived.Test.YthfmepnlbaifcaaDoorSb
namespace Go.Proofs.YthfmepnlbaifcaaDoor
open Go.RowKit
set_option linter.unusedVariables false
set_option linter.unusedSimpArgs false
def intD (l : List UInt8) : Option Int := match intP l with
  | some n => intV n
  | none => none
def decD (l : List UInt8) : Option Nat := match decP l with
  | some n => realV n
  | none => none
def intE : Option Int → Ending
  | some i => .returned (.tuple #[.int .i64 i, .bool true])
  | none => .returned (.tuple #[.int .i64 0, .bool false])
def decE : Option Nat → Ending
  | some x => .returned (.tuple #[.float .f64 x, .bool true])
  | none => .returned (.tuple #[.float .f64 0, .bool false])
theorem numE_ok {l : List UInt8} {lim : Nat} (h : val l ≤ lim) : numE l lim = .returned (.tuple #[.int .u64 (val l), .bool true]) := by rw [numE, if_pos h]
theorem numE_no {l : List UInt8} {lim : Nat} (h : ¬ val l ≤ lim) : numE l lim = .returned (.tuple #[.int .u64 0, .bool false]) := by rw [numE, if_neg h]
theorem whl_dgs {l : List UInt8} (h : whl l = true) : dgs l = true := by
  unfold whl at h
  rw [Bool.and_eq_true] at h
  exact h.1
theorem valF_mono : ∀ (l : List UInt8) (a b : Nat), a ≤ b → valF a l ≤ valF b l
  | [], a, b, h => h
  | c :: r, a, b, h => by
    have := valF_mono r (10 * a + (c.toNat - 48)) (10 * b + (c.toNat - 48)) (by omega)
    exact this
/-- digits without a nought ahead, no nought: above 0 -/
theorem val_pos {l : List UInt8} (h : whl l = true) (h0 : l ≠ [48]) : 0 < val l := by
  have hd := dgs_iff.1 (whl_dgs h)
  cases l with
  | nil => exact absurd rfl hd.2
  | cons c r =>
    have hc : 48 ≤ c.toNat ∧ c.toNat ≤ 57 := of_decide_eq_true (hd.1 c (by simp))
    have hv : val (c :: r) = valF (10 * 0 + (c.toNat - 48)) r := rfl
    by_cases h48 : c = 48
    · subst h48
      unfold whl at h
      rw [Bool.and_eq_true] at h
      have h := h.2
      simp at h
      exact absurd (by rw [h]) h0
    · have : c.toNat ≠ 48 := by
        intro e
        exact h48 (by rw [← UInt8.toNat_inj, e]; rfl)
      have := valF_le r (10 * 0 + (c.toNat - 48))
      omega
theorem str_ne {a b : List UInt8} (h : a ≠ b) : (ByteArray.mk a.toArray) ≠ ⟨b.toArray⟩ := by
  intro e
  injection e with e
  injection e with e
  exact h e
theorem integer_no (l : List UInt8) (w : World) (hs : l.length ≤ 2 ^ 47) (h : intP l = none) :
    Calls Tryd.prog 25 #[.string ⟨l.toArray⟩] w fun e w' => e = .returned (.tuple #[.int .i64 0, .bool false]) ∧ w' = w := by
  have hm := minus_any l w (by omega)
  have hul : (unM l).length ≤ 2 ^ 62 := by unfold unM; split <;> simp <;> omega
  have hw := whole_any (unM l) w hul
  unfold intP at h
  split at h
  · cases h
  · rename_i hc
    clear h
    generalize hu : unM l = u at *
    generalize hb : hasM l = b at *
    clear hu hb
    cases hW : whl u with
    | false =>
      rw [hW] at hw
      clear hW hc
      go_enter Tryd.func25, Tryd.ntmps25
      go_wp2_with (first
        | (go_at_call 42; refine hm.mono ?_; rintro e w' ⟨rfl, rfl⟩)
        | (go_at_call 43; refine hw.mono ?_; rintro e w' ⟨rfl, rfl⟩))
      go_ret2
      exact ⟨rfl, rfl⟩
    | true =>
      have hc2 : b = true ∧ u = [48] := Classical.byContradiction fun e => hc ⟨hW, e⟩
      obtain ⟨rfl, rfl⟩ := hc2
      rw [hW] at hw
      clear hW hc
      go_enter Tryd.func25, Tryd.ntmps25
      go_wp2_with (first
        | (go_at_call 42; refine hm.mono ?_; rintro e w' ⟨rfl, rfl⟩)
        | (go_at_call 43; refine hw.mono ?_; rintro e w' ⟨rfl, rfl⟩))
      go_ret2
      exact ⟨rfl, rfl⟩
theorem integer_any (l : List UInt8) (w : World) (hs : l.length ≤ 2 ^ 47) :
    Calls Tryd.prog 25 #[.string ⟨l.toArray⟩] w fun e w' => e = intE (intD l) ∧ w' = w := by
  rcases hp : intP l with _ | n
  · rw [intD, hp]
    exact integer_no l w hs hp
  · rw [intD, hp]
    have hsh := intP_shape hp
    obtain ⟨m, a, b, p⟩ := n
    obtain ⟨h1, h2, h3, h4, h5, h6⟩ := hsh
    simp only at h1 h2 h3 h4
    subst h1 h2
    have hm := minus_any l w (by omega)
    have hul : (unM l).length ≤ 2 ^ 62 := by unfold unM; split <;> simp <;> omega
    have hw := whole_any (unM l) w hul
    rw [h5] at hw
    have hdg := (dgs_iff.1 (whl_dgs h5)).1
    clear hp h3 h4
    show Calls Tryd.prog 25 #[.string ⟨l.toArray⟩] w fun e w' => e = intE (if hasM l = true then (if val (unM l) ≤ 9223372036854775808 then some (-(val (unM l) : Int)) else none) else (if val (unM l) ≤ 9223372036854775807 then some (val (unM l) : Int) else none)) ∧ w' = w
    generalize unM l = u at *
    generalize hasM l = b at *
    cases b with
    | true =>
      have hn := number_any u 9223372036854775808 w hul hdg (by decide) (by decide)
      have hu48 : u ≠ [48] := fun e => h6 ⟨rfl, e⟩
      have hpos := val_pos h5 hu48
      have hbe : (u == [48]) = false := by rw [beq_eq_false_iff_ne]; exact hu48
      rw [if_pos rfl]
      clear h6 hdg h5 hu48
      by_cases hv : val u ≤ 9223372036854775808
      · rw [numE_ok hv] at hn
        rw [if_pos hv, intE]
        have v1 : 1 ≤ (val u : Int) := by omega
        have v2 : (val u : Int) ≤ 9223372036854775808 := by omega
        clear hpos hv
        generalize (val u : Int) = V at *
        go_enter Tryd.func25, Tryd.ntmps25
        go_wp2_with (first
          | (go_at_call 42; refine hm.mono ?_; rintro e w' ⟨rfl, rfl⟩)
          | (go_at_call 43; refine hw.mono ?_; rintro e w' ⟨rfl, rfl⟩)
          | (go_at_call 44; refine hn.mono ?_; rintro e w' ⟨rfl, rfl⟩))
        go_ret2
        refine ⟨?_, rfl⟩
        have e1 : -V = -(V - 1) - 1 := by omega
        have e2 : true = decide (0 < V) := by symm; rw [decide_eq_true_eq]; omega
        rw [e1, e2]
        rfl
      · rw [numE_no hv] at hn
        rw [if_neg hv, intE]
        clear hpos hv
        go_enter Tryd.func25, Tryd.ntmps25
        go_wp2_with (first
          | (go_at_call 42; refine hm.mono ?_; rintro e w' ⟨rfl, rfl⟩)
          | (go_at_call 43; refine hw.mono ?_; rintro e w' ⟨rfl, rfl⟩)
          | (go_at_call 44; refine hn.mono ?_; rintro e w' ⟨rfl, rfl⟩))
        go_ret2
        refine ⟨?_, rfl⟩
        have e0 : (wrap64 (wrap64 (-wrap64 (IntKind.u64.wrap (-1))) - 1)) = 0 := by decide +kernel
        show Ending.returned (.tuple #[.int .i64 (wrap64 (wrap64 (-wrap64 (IntKind.u64.wrap (-1))) - 1)), .bool false]) = _
        rw [e0]
    | false =>
      have hn := number_any u 9223372036854775807 w hul hdg (by decide) (by decide)
      rw [if_neg (by decide)]
      clear h6 hdg h5
      by_cases hv : val u ≤ 9223372036854775807
      · rw [numE_ok hv] at hn
        rw [if_pos hv, intE]
        have v1 : 0 ≤ (val u : Int) := by omega
        have v2 : (val u : Int) ≤ 9223372036854775807 := by omega
        clear hv
        generalize (val u : Int) = V at *
        go_enter Tryd.func25, Tryd.ntmps25
        go_wp2_with (first
          | (go_at_call 42; refine hm.mono ?_; rintro e w' ⟨rfl, rfl⟩)
          | (go_at_call 43; refine hw.mono ?_; rintro e w' ⟨rfl, rfl⟩)
          | (go_at_call 44; refine hn.mono ?_; rintro e w' ⟨rfl, rfl⟩))
        go_ret2
        exact ⟨rfl, rfl⟩
      · rw [numE_no hv] at hn
        rw [if_neg hv, intE]
        clear hv
        go_enter Tryd.func25, Tryd.ntmps25
        go_wp2_with (first
          | (go_at_call 42; refine hm.mono ?_; rintro e w' ⟨rfl, rfl⟩)
          | (go_at_call 43; refine hw.mono ?_; rintro e w' ⟨rfl, rfl⟩)
          | (go_at_call 44; refine hn.mono ?_; rintro e w' ⟨rfl, rfl⟩))
        go_ret2
        exact ⟨rfl, rfl⟩
end Go.Proofs.YthfmepnlbaifcaaDoor
