/-
  Whether a pattern takes a path, a method; PathsTakes: the walk.
-/
import Derived.Test.YtplbdnndpgfljabPh
namespace Go.Proofs.Ytplbdnndpgfljab
open Go.RowKit
set_option linter.unusedVariables false
set_option linter.unusedSimpArgs false
set_option maxRecDepth 100000
def begF (a s : List UInt8) : Bool := starB a && Lib.hasPrefix s (starT a)
def pathM (a s : List UInt8) : Bool := ppB a && pathB s && ((a == s) || begF a s)
def methM (a s : List UInt8) : Bool := methB s && ((a == [42]) || (a == s))
theorem isBegun_any (a s : List UInt8) (w : World) (h1 : a.length ≤ 2 ^ 62) : Calls Try.prog 21 #[.string ⟨a.toArray⟩, .string ⟨s.toArray⟩] w fun e w' => e = .returned (.bool (begF a s)) ∧ w' = w := by
  have hC : Calls Try.prog 33 #[.string ⟨a.toArray⟩, .string ⟨#[42]⟩] w fun e w' => e = .returned (.tuple #[.string ⟨(starT a).toArray⟩, .bool (starB a)]) ∧ w' = w :=
    Try.strings_CutSuffix ⟨a.toArray⟩ ⟨#[42]⟩ w (by show a.length ≤ _; omega)
  have hP : Calls Try.prog 22 #[.string ⟨s.toArray⟩, .string ⟨(starT a).toArray⟩] w fun e w' => e = .returned (.bool (Lib.hasPrefix s (starT a))) ∧ w' = w := Try.strings_HasPrefix ⟨s.toArray⟩ ⟨(starT a).toArray⟩ w
  have hE : begF a s = (starB a && Lib.hasPrefix s (starT a)) := rfl
  generalize starT a = t at hC hP hE
  generalize Lib.hasPrefix s t = c at hP hE
  cases hb : starB a with
  | true =>
    rw [hb] at hC hE
    have HE := hide2 hE
    clear hE hb
    go_enter Try.func21, Try.ntmps21
    go_wp2_with fail
    refine hC.mono ?_
    rintro e w1 ⟨rfl, hw⟩
    have hw := hw.symm
    subst hw
    go_wp2_with fail
    refine hP.mono ?_
    rintro e w1 ⟨rfl, hw⟩
    have hw := hw.symm
    subst hw
    go_wp2
    go_ret
    exact ⟨ret_bool (by rw [HE.out]; rfl), rfl⟩
  | false =>
    rw [hb] at hC hE
    have HE := hide2 hE
    clear hE hb
    go_enter Try.func21, Try.ntmps21
    go_wp2_with fail
    refine hC.mono ?_
    rintro e w1 ⟨rfl, hw⟩
    have hw := hw.symm
    subst hw
    go_wp2
    go_ret
    exact ⟨ret_bool (by rw [HE.out]; rfl), rfl⟩
theorem path_any (a s : List UInt8) (w : World) (h1 : a.length ≤ 2 ^ 62) (h2 : s.length ≤ 2 ^ 62) : Calls Try.prog 12 #[.string ⟨a.toArray⟩, .string ⟨s.toArray⟩] w fun e w' => e = .returned (.bool (pathM a s)) ∧ w' = w := by
  have hP := pathPattern_any a w h1
  have hI := isPath_any s w h2
  have hB := isBegun_any a s w h1
  have hE : pathM a s = (ppB a && pathB s && ((a == s) || begF a s)) := rfl
  generalize ppB a = b1 at hP hE
  generalize pathB s = b2 at hI hE
  generalize begF a s = b3 at hB hE
  generalize pathM a s = r at hE
  have fin : ∀ x : Bool, (b1 && b2 && ((a == s) || b3)) = x → x = r := fun x h => h.symm.trans hE.symm
  have FIN := hide2 fin
  clear fin hE
  cases b1 <;> cases b2 <;> cases hq : (a == s)
  all_goals
    go_enter Try.func12, Try.ntmps12
    go_wp2_with (first | (go_at_call 19; refine hP.mono ?_; rintro e w1 ⟨rfl, hw⟩; have hw := hw.symm; subst hw) | (go_at_call 20; refine hI.mono ?_; rintro e w1 ⟨rfl, hw⟩; have hw := hw.symm; subst hw) | (go_at_call 21; refine hB.mono ?_; rintro e w1 ⟨rfl, hw⟩; have hw := hw.symm; subst hw))
    go_ret
    exact ⟨ret_bool (FIN.out _ (by simp [hq])), rfl⟩
theorem pathM_ref (a s : List UInt8) : (ppB a && pathB s && ((starB a && Lib.hasPrefix s (starT a)) || (!starB a && (s == starT a)))) = pathM a s := by
  unfold pathM begF
  congr 1
  cases h : starB a with
  | false =>
    rw [starT_no h]
    simp [Bool.beq_comm]
  | true =>
    by_cases he : a = s
    · subst he
      have : Lib.hasPrefix a (starT a) = true := by
        rw [pre_iff, starT_yes h]
        exact List.take_prefix _ _
      simp [this]
    · simp [he]
end Go.Proofs.Ytplbdnndpgfljab
