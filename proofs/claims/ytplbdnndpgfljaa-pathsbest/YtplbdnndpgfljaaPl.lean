/-
  Which pattern covers which, and how two of hosts stand: the program's.
-/
import Derived.Test.YtplbdnndpgfljaaPk
namespace Go.Proofs.Ytplbdnndpgfljaa
open Go.RowKit
set_option linter.unusedVariables false
set_option linter.unusedSimpArgs false
set_option maxRecDepth 100000
def covM (a b : List UInt8) : Bool := covF (srtF a) (srtF b)
def ordM (a b : List UInt8) : Int := cmpF (srtF a) (srtF b)
def cpM (a b : List UInt8) : Bool := ppB a && ppB b && ((a == b) || begF a (starT b))
def cmM (a b : List UInt8) : Bool := mpB b && ((a == [42]) || (a == b))
theorem coversHost_any (a b : List UInt8) (w : World) (h1 : a.length ≤ 2 ^ 62) (h2 : b.length ≤ 2 ^ 62) : Calls Try.prog 23 #[.string ⟨a.toArray⟩, .string ⟨b.toArray⟩] w fun e w' => e = .returned (.bool (covM a b)) ∧ Below w.heap.size w w' := by
  have hA := fun w => patternOf_any a w h1
  have hB := fun w => patternOf_any b w h2
  have hC := fun w => covers_any (srtF a).1 (srtF b).1 (srtF a).2 (srtF b).2 w (srt_low a) (srt_low b) (Nat.le_trans (srt_len a) h1) (Nat.le_trans (srt_len b) h2)
  have hE : covM a b = covF (srtF a) (srtF b) := rfl
  rw [show ((srtF a).1, (srtF a).2) = srtF a from rfl, show ((srtF b).1, (srtF b).2) = srtF b from rfl] at hC
  generalize covF (srtF a) (srtF b) = r at hC hE
  generalize patV (srtF a) = v1 at hA hC
  generalize patV (srtF b) = v2 at hB hC
  have HE := hide2 hE
  clear hE
  go_enter Try.func23, Try.ntmps23
  go_wp2_with fail
  refine (hA _).mono ?_
  rintro e w1 ⟨rfl, hb⟩
  have HB := hide2 hb
  clear hb
  go_wp2_with fail
  refine (hB _).mono ?_
  rintro e w2 ⟨rfl, hb⟩
  replace HB := hide2 (below_two HB.out hb)
  clear hb
  go_wp2_with fail
  refine (hC _).mono ?_
  rintro e w3 ⟨rfl, hb⟩
  replace HB := hide2 (below_two HB.out hb)
  clear hb
  go_wp2
  go_ret
  exact ⟨ret_bool HE.out.symm, HB.out⟩
theorem order_any (a b : List UInt8) (w : World) (h1 : a.length ≤ 2 ^ 62) (h2 : b.length ≤ 2 ^ 62) : Calls Try.prog 29 #[.string ⟨a.toArray⟩, .string ⟨b.toArray⟩] w fun e w' => e = .returned (.int .i64 (ordM a b)) ∧ Below w.heap.size w w' := by
  have hA := fun w => patternOf_any a w h1
  have hB := fun w => patternOf_any b w h2
  have hC := fun w => compare_any (srtF a).1 (srtF b).1 (srtF a).2 (srtF b).2 w (Nat.le_trans (srt_len a) h1) (Nat.le_trans (srt_len b) h2)
  have hE : ordM a b = cmpF (srtF a) (srtF b) := rfl
  rw [show ((srtF a).1, (srtF a).2) = srtF a from rfl, show ((srtF b).1, (srtF b).2) = srtF b from rfl] at hC
  generalize cmpF (srtF a) (srtF b) = r at hC hE
  generalize patV (srtF a) = v1 at hA hC
  generalize patV (srtF b) = v2 at hB hC
  have HE := hide2 hE
  clear hE
  go_enter Try.func29, Try.ntmps29
  go_wp2_with fail
  refine (hA _).mono ?_
  rintro e w1 ⟨rfl, hb⟩
  have HB := hide2 hb
  clear hb
  go_wp2_with fail
  refine (hB _).mono ?_
  rintro e w2 ⟨rfl, hb⟩
  replace HB := hide2 (below_two HB.out hb)
  clear hb
  go_wp2_with fail
  refine (hC _).mono ?_
  rintro e w3 ⟨rfl, hb⟩
  replace HB := hide2 (below_two HB.out hb)
  clear hb
  go_wp2
  go_ret
  exact ⟨ret_int HE.out.symm, HB.out⟩
theorem coversPath_any (a b : List UInt8) (w : World) (h1 : a.length ≤ 2 ^ 62) (h2 : b.length ≤ 2 ^ 62) : Calls Try.prog 25 #[.string ⟨a.toArray⟩, .string ⟨b.toArray⟩] w fun e w' => e = .returned (.bool (cpM a b)) ∧ w' = w := by
  have hP := pathPattern_any a w h1
  have hQ := pathPattern_any b w h2
  have hT := trim_star b w h2
  have hB := isBegun_any a (starT b) w h1
  have hE : cpM a b = (ppB a && ppB b && ((a == b) || begF a (starT b))) := rfl
  by_cases hab : a = b
  · subst hab
    have hE2 : cpM a a = ppB a := by simp [cpM]
    generalize ppB a = b1 at hP hE2
    have HE := hide2 hE2
    clear hE hE2 hQ
    cases b1
    all_goals
      go_enter Try.func25, Try.ntmps25
      go_wp2_with (first | (go_at_call 13; refine hP.mono ?_; rintro e w1 ⟨rfl, hw⟩; have hw := hw.symm; subst hw))
      go_ret
      exact ⟨ret_bool HE.out.symm, rfl⟩
  · have hq : (a == b) = false := by simpa using hab
    generalize ppB a = b1 at hP hE
    generalize ppB b = b2 at hQ hE
    generalize begF a (starT b) = b3 at hB hE
    generalize starT b = t at hT hB
    rw [hq] at hE
    have HE := hide2 hE
    have HAB := hide2 hab
    clear hE hab
    cases b1 with
    | false =>
      go_enter Try.func25, Try.ntmps25
      go_wp2_with fail
      refine hP.mono ?_; rintro e w1 ⟨rfl, hw⟩; have hw := hw.symm; subst hw
      go_wp2
      go_ret
      exact ⟨ret_bool HE.out.symm, rfl⟩
    | true =>
      cases b2 with
      | false =>
        go_enter Try.func25, Try.ntmps25
        go_wp2_with fail
        refine hP.mono ?_; rintro e w1 ⟨rfl, hw⟩; have hw := hw.symm; subst hw
        go_wp2_with fail
        refine hQ.mono ?_; rintro e w1 ⟨rfl, hw⟩; have hw := hw.symm; subst hw
        go_wp2
        go_ret
        exact ⟨ret_bool HE.out.symm, rfl⟩
      | true =>
        go_enter Try.func25, Try.ntmps25
        go_wp2_with fail
        refine hP.mono ?_; rintro e w1 ⟨rfl, hw⟩; have hw := hw.symm; subst hw
        go_wp2_with fail
        refine hQ.mono ?_; rintro e w1 ⟨rfl, hw⟩; have hw := hw.symm; subst hw
        go_wp2_with fail
        refine hT.mono ?_; rintro e w1 ⟨rfl, hw⟩; have hw := hw.symm; subst hw
        go_wp2_with fail
        refine hB.mono ?_; rintro e w1 ⟨rfl, hw⟩; have hw := hw.symm; subst hw
        go_wp2
        go_ret
        exact ⟨ret_bool (by rw [HE.out]; rfl), rfl⟩
theorem coversMethod_any (a b : List UInt8) (w : World) (h2 : b.length ≤ 2 ^ 62) : Calls Try.prog 27 #[.string ⟨a.toArray⟩, .string ⟨b.toArray⟩] w fun e w' => e = .returned (.bool (cmM a b)) ∧ w' = w := by
  have hI := methodPattern_any b w h2
  have hE : cmM a b = (mpB b && ((a == [42]) || (a == b))) := rfl
  generalize mpB b = b1 at hI hE
  generalize cmM a b = r at hE
  have fin : ∀ x : Bool, (b1 && ((a == [42]) || (a == b))) = x → x = r := fun x h => h.symm.trans hE.symm
  have FIN := hide2 fin
  clear fin hE
  cases b1 <;> cases hq : (a == [42]) <;> cases hq2 : (a == b)
  all_goals
    go_enter Try.func27, Try.ntmps27
    go_wp2_with (first | (go_at_call 15; refine hI.mono ?_; rintro e w1 ⟨rfl, hw⟩; have hw := hw.symm; subst hw))
    go_ret
    exact ⟨ret_bool (FIN.out _ (by simp [hq, hq2])), rfl⟩
end Go.Proofs.Ytplbdnndpgfljaa
