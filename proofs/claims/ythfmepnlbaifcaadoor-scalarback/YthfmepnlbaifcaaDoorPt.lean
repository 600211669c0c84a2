/-
  Some values printed.
-/
import Derived.Test.YthfmepnlbaifcaaDoorDf
import Derived.Test.YthfmepnlbaifcaaDoorShg
import Derived.Test.YthfmepnlbaifcaaDoorPr
namespace Go.Proofs.YthfmepnlbaifcaaDoor
open Go.RowKit Ieee
set_option linter.unusedVariables false
set_option linter.unusedSimpArgs false
theorem fmt15i (w : World) : Calls Tryd.prog 78 #[.int .u64 15, .int .i64 10] w fun e w' => e = .returned (.string ⟨([49, 53] : List UInt8).toArray⟩) ∧ w' = w := by
  have h := Tryd.internal_strconv_small 15 (by decide) w
  rw [show Lib.decDigits 15 = [49, 53] by decide +kernel] at h
  have h : Calls Tryd.prog 61 #[.int .i64 15] w fun e w' => e = .returned (.string ⟨([49, 53] : List UInt8).toArray⟩) ∧ w' = w := h
  go_enter Tryd.func78, Tryd.ntmps78
  go_wp2_with (go_at_call 61; refine h.mono ?_; rintro e w' ⟨rfl, rfl⟩)
  go_ret
  exact ⟨rfl, rfl⟩
theorem fmt15 (w : World) : Calls Tryd.prog 65 #[.int .u64 15, .int .i64 10] w fun e w' => e = .returned (.string ⟨([49, 53] : List UInt8).toArray⟩) ∧ w' = w := by
  go_enter Tryd.func65, Tryd.ntmps65
  go_wp2_with (go_at_call 78; refine (fmt15i _).mono ?_; rintro e w' ⟨rfl, rfl⟩)
  go_ret
  exact ⟨rfl, rfl⟩
theorem rep3 (w : World) : Calls Tryd.prog 66 #[.string ⟨([48] : List UInt8).toArray⟩, .int .i64 3] w fun e w' => e = .returned (.string ⟨([48, 48, 48] : List UInt8).toArray⟩) ∧ Below w.heap.size w w' := by
  have h := Tryd.strings_Repeat ⟨([48] : List UInt8).toArray⟩ 3 w (by decide) (by decide)
  exact h
theorem dtext15 (w : World) : Calls Tryd.prog 51 #[.int .u64 15, .int .i64 (-4)] w fun e w' => e = .returned (.string ⟨([48, 46, 48, 48, 49, 53] : List UInt8).toArray⟩) ∧ Below w.heap.size w w' := by
  go_enter Tryd.func51, Tryd.ntmps51
  go_wp2_with (first
    | (go_at_call 65; refine (fmt15 _).mono ?_; rintro e w' ⟨rfl, rfl⟩)
    | (go_at_call 66; refine (rep3 _).mono ?_; rintro e w' ⟨rfl, hb⟩))
  go_quiet (fail)
  go_wp2
  go_ret
  exact ⟨rfl, below_drewN hb _⟩
abbrev X0 : Nat := 4564560351926583034
theorem abs0 (w : World) : Calls Tryd.prog 50 #[.float .f64 X0] w fun e w' => e = .returned (.float .f64 X0) ∧ w' = w := by
  have hb := bits_run X0 w
  have hn : bits BinOp.andNot IntKind.u64 4564560351926583034 9223372036854775808 = 4564560351926583034 := by decide +kernel
  have hf := from_run 4564560351926583034 w
  go_enter Tryd.func50, Tryd.ntmps50
  go_wp2
  go_ret
  exact ⟨rfl, rfl⟩
theorem hit0 : Hit X0 (-4) 15 := ⟨by decide, by decide, by decide +kernel⟩
theorem dec0 (w : World) : Calls Tryd.prog 19 #[.float .f64 X0] w fun e w' => e = .returned (.tuple #[.int .u64 15, .int .i64 (-4), .int .i64 0]) ∧ w' = w := by
  have hz : ∀ j : Nat, j < 25 → rndW (unW X0 ((j : Int) - 2)) = 0 := by decide +kernel
  have h3 : rndW (unW X0 (-3)) = floatOfInt .f64 ((2 : Nat) : Int) := by decide +kernel
  have h3' : scF 2 (-3) ≠ X0 := by decide +kernel
  have hd : DecA X0 (.returned (.tuple #[.int .u64 15, .int .i64 (-4), .int .i64 0])) := by
    refine .inl ⟨-4, 15, by decide, by decide, hit0, ?_, rfl⟩
    intro k' M' h1 h2 hh
    have ht := tries (by omega) h2 hh
    by_cases e : k' = -3
    · subst e
      rw [h3] at ht
      have := ofInt_inj (by decide) hh.2.1 ht
      subst this
      exact h3' hh.2.2
    · have := hz (k' + 2).toNat (by omega)
      rw [show (((k' + 2).toNat : Nat) : Int) - 2 = k' by omega] at this
      rw [this] at ht
      have hv := (ofInt_v hh.2.1).2
      rw [← ht, V_zero] at hv
      have := Nat.mul_pos hh.1 (pw_pos 1074)
      omega
  refine (dec_yes (x := X0) w (by decide) (by decide)).mono ?_
  rintro e w' ⟨he, rfl⟩
  exact ⟨he.one hd, rfl⟩
theorem rtext0 (w : World) : Calls Tryd.prog 29 #[.float .f64 X0] w fun e w' => e = .returned (.tuple #[.string ⟨([48, 46, 48, 48, 49, 53] : List UInt8).toArray⟩, .int .i64 0]) ∧ Below w.heap.size w w' := by
  have c1 : (FloatKind.f64.format.order 4564560351926583034 4564560351926583034 != some .eq) = false := by decide +kernel
  have c2 : (FloatKind.f64.format.order 4564560351926583034 9218868437227405311 == some .gt) = false := by decide +kernel
  have c3 : (FloatKind.f64.format.order 4564560351926583034 18442240474082181119 == some .lt) = false := by decide +kernel
  have c4 : (FloatKind.f64.format.order 4564560351926583034 0 == some .eq) = false := by decide +kernel
  have c5 : (FloatKind.f64.format.order 4564560351926583034 0 == some .lt) = false := by decide +kernel
  go_enter Tryd.func29, Tryd.ntmps29
  go_wp2_with (first
    | (go_at_call 50; refine (abs0 _).mono ?_; rintro e w' ⟨rfl, rfl⟩)
    | (go_at_call 19; refine (dec0 _).mono ?_; rintro e w' ⟨rfl, rfl⟩)
    | (go_at_call 51; refine (dtext15 _).mono ?_; rintro e w' ⟨rfl, hb⟩))
  go_ret2
  exact ⟨rfl, hb⟩
theorem print_real (w : World) : Calls Tryd.prog 11 #[.agg #[.int .i64 4, .bool false, .int .i64 0, .float .f64 X0, .string ⟨#[]⟩]] w fun e w' => e = .returned (.tuple #[.string ⟨([48, 46, 48, 48, 49, 53] : List UInt8).toArray⟩, .bool false, .int .i64 0]) ∧ Below w.heap.size w w' := by
  go_enter Tryd.func11, Tryd.ntmps11
  go_wp2_with (first
    | (go_at_call 29; refine (rtext0 _).mono ?_; rintro e w' ⟨rfl, hb⟩))
  go_ret3
  exact ⟨rfl, ((Below.refl _ w).alloc (Nat.le_refl _) _).trans (hb.mono (by simp))⟩
theorem print_nine (w : World) : Calls Tryd.prog 11 #[.agg #[.int .i64 9, .bool false, .int .i64 0, .float .f64 0, .string ⟨#[]⟩]] w fun e w' => e = .returned (.tuple #[.string ⟨#[]⟩, .bool false, .int .i64 2]) ∧ Below w.heap.size w w' := by
  go_enter Tryd.func11, Tryd.ntmps11
  go_wp2
  go_ret3
  exact ⟨rfl, (Below.refl _ w).alloc (Nat.le_refl _) _⟩
end Go.Proofs.YthfmepnlbaifcaaDoor
