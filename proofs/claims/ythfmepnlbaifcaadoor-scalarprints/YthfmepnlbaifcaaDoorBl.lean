/-
  The document's below and Same of one real.
-/
import Derived.Test.YthfmepnlbaifcaaDoorPr
namespace Go.Proofs.YthfmepnlbaifcaaDoor
open Go.RowKit Ieee
set_option linter.unusedVariables false
set_option linter.unusedSimpArgs false
/-- has a real the sign? -/
def belB (x : Nat) : Bool := (double.order x 0 == some .lt) || ((double.order x 0 == some .eq) && (double.order ((floatBits .quo .f64 ONE x).getD 0) 0 == some .lt))
theorem quo_zero {x : Nat} (h : double.order x 0 = some .eq) : ∃ r, floatBits .quo .f64 ONE x = some r := by
  have hx : rg x < INF := by
    rcases Nat.lt_trichotomy (rg x) INF with h1 | h1 | h1
    · exact h1
    · rw [order_inf x 0 h1 (by decide)] at h
      split at h <;> cases h
    · rw [order_nan x 0 (.inl h1)] at h
      cases h
  obtain ⟨m, p, hr, hp, hv⟩ := read_fin x hx
  have h1 : double.read ONE = .number false (2 ^ 52) (-52) := by decide
  show ∃ r, double.div ONE x = some r
  unfold Format.div
  rw [h1, hr]
  simp only [Datum.quotient]
  by_cases hm : m = 0
  · simp [hm]
  · simp [hm]
theorem below_any (x : Nat) (w : World) :
    Calls Tryd.prog 33 #[.float .f64 x] w fun e w' => e = .returned (.bool (belB x)) ∧ w' = w := by
  have HB : Hid (belB x = ((FloatKind.f64.format.order x 0 == some .lt) || ((FloatKind.f64.format.order x 0 == some .eq) && (FloatKind.f64.format.order ((floatBits .quo .f64 ONE x).getD 0) 0 == some .lt)))) := rfl
  cases h1 : (FloatKind.f64.format.order x 0 == some .lt) with
  | true =>
    rw [h1] at HB
    go_enter Tryd.func33, Tryd.ntmps33
    go_wp2
    go_ret
    exact ⟨ret_bool (by rw [HB.out]; rfl), rfl⟩
  | false =>
    cases h2 : (FloatKind.f64.format.order x 0 == some .eq) with
    | true =>
      rw [h1, h2] at HB
      obtain ⟨r, hr⟩ := quo_zero (show FloatKind.f64.format.order x 0 = some .eq by simpa using h2)
      rw [hr] at HB
      have rQ : (binOp .quo 23 (.float .f64 4607182418800017408) (.float .f64 x)).run Tryd.prog w = .ok (.float .f64 r) w := run_float_arith w .quo 23 .f64 _ _ _ hr
      clear hr
      go_enter Tryd.func33, Tryd.ntmps33
      go_wp2
      go_ret
      exact ⟨ret_bool (by rw [HB.out]; simp), rfl⟩
    | false =>
      rw [h1, h2] at HB
      go_enter Tryd.func33, Tryd.ntmps33
      go_wp2
      go_ret
      exact ⟨ret_bool (by rw [HB.out]; rfl), rfl⟩
theorem same_real (x : Nat) (w : World) :
    Calls Tryd.prog 15 #[.agg #[.int .i64 4, .bool false, .int .i64 0, .float .f64 x, .string ⟨#[]⟩], .agg #[.int .i64 4, .bool false, .int .i64 0, .float .f64 x, .string ⟨#[]⟩]] w fun e w' => e = .returned (.bool true) ∧ Below w.heap.size w w' := by
  cases h1 : (FloatKind.f64.format.order x x == some .eq) with
  | true =>
    have h2 : (FloatKind.f64.format.order x x != some .eq) = false := by rw [bne, h1]; rfl
    go_enter Tryd.func15, Tryd.ntmps15
    go_wp2
    go_quiet (exact Calls.quiet_of_same (below_any x _))
    go_wp2
    go_ret
    refine ⟨ret_bool ?_, below_drewN (two_below w _ _) _⟩
    simp
  | false =>
    have h2 : (FloatKind.f64.format.order x x != some .eq) = true := by rw [bne, h1]; rfl
    go_enter Tryd.func15, Tryd.ntmps15
    go_wp2
    go_quiet (fail)
    go_wp2
    go_ret
    exact ⟨rfl, below_drewN (two_below w _ _) _⟩
end Go.Proofs.YthfmepnlbaifcaaDoor
