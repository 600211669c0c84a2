/-
  Whether a pattern takes a path, a method; PathsTakes: the walk.
-/
import Derived.Test.YtfhobglcploaoaaDoorKPh
namespace Go.Proofs.YtfhobglcploaoaaDoor.Kk
open Go.RowKit
set_option linter.unusedVariables false
set_option linter.unusedSimpArgs false
set_option maxRecDepth 100000
def begF (a s : List UInt8) : Bool := starB a && Lib.hasPrefix s (starT a)
def pathM (a s : List UInt8) : Bool := ppB a && pathB s && ((a == s) || begF a s)
def methM (a s : List UInt8) : Bool := methB s && ((a == [42]) || (a == s))
theorem isBegun_any (a s : List UInt8) (w : World) (h1 : a.length ≤ 2 ^ 62) : Calls Tryd.prog 50 #[.string ⟨a.toArray⟩, .string ⟨s.toArray⟩] w fun e w' => e = .returned (.bool (begF a s)) ∧ w' = w := by
  have hC : Calls Tryd.prog 58 #[.string ⟨a.toArray⟩, .string ⟨#[42]⟩] w fun e w' => e = .returned (.tuple #[.string ⟨(starT a).toArray⟩, .bool (starB a)]) ∧ w' = w :=
    Tryd.strings_CutSuffix ⟨a.toArray⟩ ⟨#[42]⟩ w (by show a.length ≤ _; omega)
  have hP : Calls Tryd.prog 46 #[.string ⟨s.toArray⟩, .string ⟨(starT a).toArray⟩] w fun e w' => e = .returned (.bool (Lib.hasPrefix s (starT a))) ∧ w' = w := Tryd.strings_HasPrefix ⟨s.toArray⟩ ⟨(starT a).toArray⟩ w
  have hE : begF a s = (starB a && Lib.hasPrefix s (starT a)) := rfl
  generalize starT a = t at hC hP hE
  generalize Lib.hasPrefix s t = c at hP hE
  cases hb : starB a with
  | true =>
    rw [hb] at hC hE
    have HE := hide2 hE
    clear hE hb
    go_enter Tryd.func50, Tryd.ntmps50
    go_wp2_with fail
    refine hC.mono ?_
    rintro e w1 ⟨rfl, hw⟩
    have hw := hw.symm
    subst hw
    go_wp2_with fail
    refine hP.mono ?_
    rintro e w1 ⟨rfl, hw⟩
    have hw := hw.symm
    subst hw
    go_wp2
    go_ret
    exact ⟨ret_bool (by rw [HE.out]; rfl), rfl⟩
  | false =>
    rw [hb] at hC hE
    have HE := hide2 hE
    clear hE hb
    go_enter Tryd.func50, Tryd.ntmps50
    go_wp2_with fail
    refine hC.mono ?_
    rintro e w1 ⟨rfl, hw⟩
    have hw := hw.symm
    subst hw
    go_wp2
    go_ret
    exact ⟨ret_bool (by rw [HE.out]; rfl), rfl⟩
theorem path_any (a s : List UInt8) (w : World) (h1 : a.length ≤ 2 ^ 62) (h2 : s.length ≤ 2 ^ 62) : Calls Tryd.prog 36 #[.string ⟨a.toArray⟩, .string ⟨s.toArray⟩] w fun e w' => e = .returned (.bool (pathM a s)) ∧ w' = w := by
  have hP := pathPattern_any a w h1
  have hI := isPath_any s w h2
  have hB := isBegun_any a s w h1
  have hE : pathM a s = (ppB a && pathB s && ((a == s) || begF a s)) := rfl
  generalize ppB a = b1 at hP hE
  generalize pathB s = b2 at hI hE
  generalize begF a s = b3 at hB hE
  generalize pathM a s = r at hE
  have fin : ∀ x : Bool, (b1 && b2 && ((a == s) || b3)) = x → x = r := fun x h => h.symm.trans hE.symm
  have FIN := hide2 fin
  clear fin hE
  cases b1 <;> cases b2 <;> cases hq : (a == s)
  all_goals
    go_enter Tryd.func36, Tryd.ntmps36
    go_wp2_with (first | (go_at_call 48; refine hP.mono ?_; rintro e w1 ⟨rfl, hw⟩; have hw := hw.symm; subst hw) | (go_at_call 49; refine hI.mono ?_; rintro e w1 ⟨rfl, hw⟩; have hw := hw.symm; subst hw) | (go_at_call 50; refine hB.mono ?_; rintro e w1 ⟨rfl, hw⟩; have hw := hw.symm; subst hw))
    go_ret
    exact ⟨ret_bool (FIN.out _ (by simp [hq])), rfl⟩
theorem pathM_ref (a s : List UInt8) : (ppB a && pathB s && ((starB a && Lib.hasPrefix s (starT a)) || (!starB a && (s == starT a)))) = pathM a s := by
  unfold pathM begF
  congr 1
  cases h : starB a with
  | false =>
    rw [starT_no h]
    simp [Bool.beq_comm]
  | true =>
    by_cases he : a = s
    · subst he
      have : Lib.hasPrefix a (starT a) = true := by
        rw [pre_iff, starT_yes h]
        exact List.take_prefix _ _
      simp [this]
    · simp [he]
set_option maxHeartbeats 4000000 in
theorem rpathM_any (a s : List UInt8) (w : World) (h1 : a.length ≤ 2 ^ 62) (h2 : s.length ≤ 2 ^ 62) : Calls Tryd.prog 32 #[.string ⟨a.toArray⟩, .string ⟨s.toArray⟩] w fun e w' => e = .returned (.bool (pathM a s)) ∧ w' = w := by
  have hS := star_any a w h1
  have hP := rpathPattern_any a w h1
  have hI := rpath_any s w h2
  have hN := begins_any s (starT a) w h2 (Nat.le_trans (starT_len a) h1)
  have hE := pathM_ref a s
  generalize starT a = t at hS hN hE
  generalize Lib.hasPrefix s t = b3 at hN hE
  generalize ppB a = b1 at hP hE
  generalize pathB s = b2 at hI hE
  generalize pathM a s = r at hE
  generalize starB a = b4 at hS hE
  have fin : ∀ x : Bool, (b1 && b2 && ((b4 && b3) || (!b4 && (s == t)))) = x → x = r := fun x h => h.symm.trans hE
  have FIN := hide2 fin
  clear fin hE
  cases b1 <;> cases b2 <;> cases b4 <;> cases b3
  all_goals
    go_enter Tryd.func32, Tryd.ntmps32
    go_wp2_with (first | (go_at_call 40; refine hS.mono ?_; rintro e w1 ⟨rfl, hw⟩; have hw := hw.symm; subst hw) | (go_at_call 41; refine hP.mono ?_; rintro e w1 ⟨rfl, hw⟩; have hw := hw.symm; subst hw) | (go_at_call 42; refine hI.mono ?_; rintro e w1 ⟨rfl, hw⟩; have hw := hw.symm; subst hw) | (go_at_call 43; refine hN.mono ?_; rintro e w1 ⟨rfl, hw⟩; have hw := hw.symm; subst hw))
    all_goals
      go_ret
      refine ⟨ret_bool (FIN.out _ ?_), rfl⟩
      first | rfl | (simp; done) | (simp_all; done)
end Go.Proofs.YtfhobglcploaoaaDoor.Kk
