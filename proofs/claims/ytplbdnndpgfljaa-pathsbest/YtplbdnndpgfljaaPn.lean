/-
  Which pattern covers which: the document's; PathsCovers: the walk.
-/
import Derived.Test.YtplbdnndpgfljaaPm
namespace Go.Proofs.Ytplbdnndpgfljaa
open Go.RowKit
set_option linter.unusedVariables false
set_option linter.unusedSimpArgs false
set_option maxRecDepth 100000
theorem srt_two (l : List UInt8) (h : (srtF l).1 = 2) : (srtF l).2 = [] := by
  rcases srt_cases l with rfl | ⟨r, rfl, hh, hE⟩ | ⟨r, rfl, hh, hE⟩ | ⟨h1, h2, hh, hE⟩ | ⟨h1, h2, hh, hE⟩
  · rw [srt_all]
  all_goals rw [hE] at h; simp at h
theorem suf_nil (x : UInt8) (t : List UInt8) : Lib.hasSuffix [] (x :: t) = false := by
  rw [← Bool.not_eq_true, suf_iff]
  intro h
  have := h.length_le
  simp at this
theorem cov00 (t u : List UInt8) : (t == u) = covF (0, t) (0, u) := by
  have e : (((0 : Int), t) == ((0 : Int), u)) = (t == u) := by
    show (((0 : Int) == 0) && (t == u)) = _
    simp
  unfold covF
  rw [e]
  cases (t == u) <;> rfl
set_option maxHeartbeats 8000000 in
theorem rcoversHost_any (a b : List UInt8) (w : World) (g1 : a.length ≤ 2 ^ 61) (g2 : b.length ≤ 2 ^ 61) : Calls Try.prog 24 #[.string ⟨a.toArray⟩, .string ⟨b.toArray⟩] w fun e w' => e = .returned (.bool (covM a b)) ∧ Below w.heap.size w w' := by
  have h1 : a.length ≤ 2 ^ 62 := by omega
  have h2 : b.length ≤ 2 ^ 62 := by omega
  have hA := fun w => rsort_any a w h1
  have hB := fun w => rsort_any b w h2
  unfold srtR at hA hB
  have la := srt_low a
  have lb := srt_low b
  have ta := Nat.le_trans (srt_len a) g1
  have tb := Nat.le_trans (srt_len b) g2
  have b2 := srt_two b
  have hE : covM a b = covF (srtF a) (srtF b) := rfl
  generalize srtF a = p at *
  generalize srtF b = q at *
  obtain ⟨n, t⟩ := p
  obtain ⟨m, u⟩ := q
  simp only at hA hB la lb ta tb b2
  have hN := fun w => ends_any u (46 :: t) w (by omega) (by simp only [List.length_cons]; omega)
  have hadd : ∀ w, (Op.stringOp .add (ByteArray.mk #[46]) ⟨t.toArray⟩).run Try.prog w = .ok (.string ⟨(46 :: t).toArray⟩) w := fun w => str_add w [46] t (by simp; omega)
  generalize covM a b = r at hE ⊢
  have HE := hide2 hE
  have H2 := hide2 b2
  clear hE b2
  rcases la with rfl | rfl | rfl | rfl <;> rcases lb with rfl | rfl | rfl | rfl
  all_goals
    go_enter Try.func24, Try.ntmps24
    go_wp2_with fail
    refine (hA _).mono ?_; rintro e w1 ⟨rfl, hb⟩; have HB := hide2 hb; clear hb
    go_wp2_with fail
    refine (hB _).mono ?_; rintro e w2 ⟨rfl, hb⟩; replace HB := hide2 (below_two HB.out hb); clear hb
    have hadd2 := hadd w2
    go_wp2_with (go_at_call 45; refine (hN _).mono ?_; rintro e w3 ⟨rfl, hw⟩; have hw := hw.symm; subst hw)
    all_goals
      go_ret
      refine ⟨ret_bool ?_, HB.out⟩
      rw [HE.out]
      first
        | rfl
        | (simp [covF]; done)
        | (simp_all [covF]; done)
        | (have h0 := H2.out (by first | rfl | trivial); rw [h0]; simp [covF, belF, suf_nil]; done)
        | (exact cov00 t u)
theorem rcoversPath_any (a b : List UInt8) (w : World) (h1 : a.length ≤ 2 ^ 62) (h2 : b.length ≤ 2 ^ 62) : Calls Try.prog 26 #[.string ⟨a.toArray⟩, .string ⟨b.toArray⟩] w fun e w' => e = .returned (.bool (cpM a b)) ∧ w' = w := by
  have hP := rpathPattern_any a w h1
  have hQ := rpathPattern_any b w h2
  have hS := star_any a w h1
  have hT := star_any b w h2
  have hN := begins_any (starT b) (starT a) w (Nat.le_trans (starT_len b) h2) (Nat.le_trans (starT_len a) h1)
  have hE : cpM a b = (ppB a && ppB b && ((a == b) || (starB a && Lib.hasPrefix (starT b) (starT a)))) := rfl
  by_cases hab : a = b
  · subst hab
    have hE2 : cpM a a = ppB a := by simp [cpM]
    generalize ppB a = b1 at hP hE2
    generalize starT a = t at hS hN
    generalize starB a = c at hS
    have HE := hide2 hE2
    clear hE hE2 hQ hT
    cases b1
    all_goals
      go_enter Try.func26, Try.ntmps26
      go_wp2_with (first | (go_at_call 14; refine hP.mono ?_; rintro e w1 ⟨rfl, hw⟩; have hw := hw.symm; subst hw) | (go_at_call 40; refine hS.mono ?_; rintro e w1 ⟨rfl, hw⟩; have hw := hw.symm; subst hw))
      go_ret
      exact ⟨ret_bool HE.out.symm, rfl⟩
  · have hq : (a == b) = false := by simpa using hab
    generalize ppB a = b1 at hP hE
    generalize ppB b = b2 at hQ hE
    generalize starT a = t at hS hN hE
    generalize starT b = u at hT hN hE
    generalize starB a = c at hS hE
    generalize starB b = d at hT
    generalize Lib.hasPrefix u t = b3 at hN hE
    rw [hq] at hE
    have HE := hide2 hE
    have HAB := hide2 hab
    clear hE hab
    cases b1 with
    | false =>
      go_enter Try.func26, Try.ntmps26
      go_wp2_with fail
      refine hP.mono ?_; rintro e w1 ⟨rfl, hw⟩; have hw := hw.symm; subst hw
      go_wp2
      go_ret
      exact ⟨ret_bool HE.out.symm, rfl⟩
    | true =>
      cases b2 with
      | false =>
        go_enter Try.func26, Try.ntmps26
        go_wp2_with fail
        refine hP.mono ?_; rintro e w1 ⟨rfl, hw⟩; have hw := hw.symm; subst hw
        go_wp2_with fail
        refine hQ.mono ?_; rintro e w1 ⟨rfl, hw⟩; have hw := hw.symm; subst hw
        go_wp2
        go_ret
        exact ⟨ret_bool HE.out.symm, rfl⟩
      | true =>
        cases c with
        | false =>
          go_enter Try.func26, Try.ntmps26
          go_wp2_with fail
          refine hP.mono ?_; rintro e w1 ⟨rfl, hw⟩; have hw := hw.symm; subst hw
          go_wp2_with fail
          refine hQ.mono ?_; rintro e w1 ⟨rfl, hw⟩; have hw := hw.symm; subst hw
          go_wp2_with fail
          refine hS.mono ?_; rintro e w1 ⟨rfl, hw⟩; have hw := hw.symm; subst hw
          go_wp2_with fail
          refine hT.mono ?_; rintro e w1 ⟨rfl, hw⟩; have hw := hw.symm; subst hw
          go_wp2
          go_ret
          exact ⟨ret_bool (by rw [HE.out]; rfl), rfl⟩
        | true =>
          go_enter Try.func26, Try.ntmps26
          go_wp2_with fail
          refine hP.mono ?_; rintro e w1 ⟨rfl, hw⟩; have hw := hw.symm; subst hw
          go_wp2_with fail
          refine hQ.mono ?_; rintro e w1 ⟨rfl, hw⟩; have hw := hw.symm; subst hw
          go_wp2_with fail
          refine hS.mono ?_; rintro e w1 ⟨rfl, hw⟩; have hw := hw.symm; subst hw
          go_wp2_with fail
          refine hT.mono ?_; rintro e w1 ⟨rfl, hw⟩; have hw := hw.symm; subst hw
          go_wp2_with fail
          refine hN.mono ?_; rintro e w1 ⟨rfl, hw⟩; have hw := hw.symm; subst hw
          go_wp2
          go_ret
          exact ⟨ret_bool (by rw [HE.out]; rfl), rfl⟩
theorem cmM_ref (a b : List UInt8) : (mpB a && mpB b && ((a == [42]) || (a == b))) = cmM a b := by
  unfold cmM
  by_cases h1 : a = [42]
  · subst h1
    simp [mpB]
  · by_cases h2 : a = b
    · subst h2; simp
    · rw [show (a == [42]) = false by simpa using h1, show (a == b) = false by simpa using h2]; simp
theorem rcoversMethod_any (a b : List UInt8) (w : World) (h1 : a.length ≤ 2 ^ 62) (h2 : b.length ≤ 2 ^ 62) : Calls Try.prog 28 #[.string ⟨a.toArray⟩, .string ⟨b.toArray⟩] w fun e w' => e = .returned (.bool (cmM a b)) ∧ w' = w := by
  have hI := rmethodPattern_any a w h1
  have hJ := rmethodPattern_any b w h2
  have hE := cmM_ref a b
  by_cases hab : a = b
  · subst hab
    have hE2 : cmM a a = mpB a := by simp [cmM]
    generalize mpB a = b1 at hI hE2
    have HE := hide2 hE2
    clear hE hE2 hJ
    cases b1 <;> cases hq : (a == [42])
    all_goals
      go_enter Try.func28, Try.ntmps28
      go_wp2_with (first | (go_at_call 16; refine hI.mono ?_; rintro e w1 ⟨rfl, hw⟩; have hw := hw.symm; subst hw))
      go_ret
      exact ⟨ret_bool HE.out.symm, rfl⟩
  · have hq2 : (a == b) = false := by simpa using hab
    generalize mpB a = b1 at hI hE
    generalize mpB b = b2 at hJ hE
    generalize cmM a b = r at hE
    rw [hq2] at hE
    have fin : ∀ x : Bool, (b1 && b2 && ((a == [42]) || false)) = x → x = r := fun x h => h.symm.trans hE
    have FIN := hide2 fin
    have HAB := hide2 hab
    clear fin hE hab
    cases b1 with
    | false =>
      go_enter Try.func28, Try.ntmps28
      go_wp2_with fail
      refine hI.mono ?_; rintro e w1 ⟨rfl, hw⟩; have hw := hw.symm; subst hw
      go_wp2
      go_ret
      exact ⟨ret_bool (FIN.out _ (by simp)), rfl⟩
    | true =>
      cases b2 <;> cases hq : (a == [42])
      all_goals
        go_enter Try.func28, Try.ntmps28
        go_wp2_with fail
        refine hI.mono ?_; rintro e w1 ⟨rfl, hw⟩; have hw := hw.symm; subst hw
        go_wp2_with fail
        refine hJ.mono ?_; rintro e w1 ⟨rfl, hw⟩; have hw := hw.symm; subst hw
        go_wp2
        go_ret
        exact ⟨ret_bool (FIN.out _ (by simp [hq])), rfl⟩
set_option maxHeartbeats 4000000 in
theorem covers_law (a b : List UInt8) (w : World) (g1 : a.length ≤ 2 ^ 61) (g2 : b.length ≤ 2 ^ 61) : Calls Try.prog 5 #[.string ⟨a.toArray⟩, .string ⟨b.toArray⟩] w fun e w' => e = .returned (.bool true) ∧ Below w.heap.size w w' := by
  have h1 : a.length ≤ 2 ^ 62 := by omega
  have h2 : b.length ≤ 2 ^ 62 := by omega
  have h23 := fun w => coversHost_any a b w h1 h2
  have h24 := fun w => rcoversHost_any a b w g1 g2
  have h25 := fun w => at_below (coversPath_any a b w h1 h2)
  have h26 := fun w => at_below (rcoversPath_any a b w h1 h2)
  have h27 := fun w => at_below (coversMethod_any a b w h2)
  have h28 := fun w => at_below (rcoversMethod_any a b w h1 h2)
  have h29 := fun w => order_any a b w h1 h2
  have h30 := fun w => rorder_any a b w h1 h2
  generalize covM a b = b1 at h23 h24
  generalize cpM a b = b2 at h25 h26
  generalize cmM a b = b3 at h27 h28
  generalize ordM a b = z at h29 h30
  have HB := hide2 (Below.refl w.heap.size w)
  go_enter Try.func5, Try.ntmps5
  go_wp2_with fail
  refine (h23 _).mono ?_; rintro e w23 ⟨rfl, hb⟩
  replace HB := hide2 (below_two HB.out hb)
  clear hb
  go_wp2_with fail
  refine (h24 _).mono ?_; rintro e w24 ⟨rfl, hb⟩
  replace HB := hide2 (below_two HB.out hb)
  clear hb
  go_wp2_with fail
  refine (h25 _).mono ?_; rintro e w25 ⟨rfl, hb⟩
  replace HB := hide2 (below_two HB.out hb)
  clear hb
  go_wp2_with fail
  refine (h26 _).mono ?_; rintro e w26 ⟨rfl, hb⟩
  replace HB := hide2 (below_two HB.out hb)
  clear hb
  go_wp2_with fail
  refine (h27 _).mono ?_; rintro e w27 ⟨rfl, hb⟩
  replace HB := hide2 (below_two HB.out hb)
  clear hb
  go_wp2_with fail
  refine (h28 _).mono ?_; rintro e w28 ⟨rfl, hb⟩
  replace HB := hide2 (below_two HB.out hb)
  clear hb
  go_wp2_with fail
  refine (h29 _).mono ?_; rintro e w29 ⟨rfl, hb⟩
  replace HB := hide2 (below_two HB.out hb)
  clear hb
  go_wp2_with fail
  refine (h30 _).mono ?_; rintro e w30 ⟨rfl, hb⟩
  replace HB := hide2 (below_two HB.out hb)
  clear hb
  go_wp2
  go_ret
  exact ⟨rfl, HB.out⟩
end Go.Proofs.Ytplbdnndpgfljaa
