/-
  The document's sort of a host pattern; which texts are patterns, of both.
-/
import Derived.Test.YtfhobglcploaoaaDoorKPe
namespace Go.Proofs.YtfhobglcploaoaaDoor.Kk
open Go.RowKit
set_option linter.unusedVariables false
set_option linter.unusedSimpArgs false
set_option maxRecDepth 100000
def srtR (l : List UInt8) : Value := .tuple #[.int .i64 ((srtF l).1 + 1), .string ⟨(srtF l).2.toArray⟩]
theorem rfold_ok (l : List UInt8) (w : World) (hs : l.length ≤ 2 ^ 62) (h : hostB l = true) : Calls Tryd.prog 37 #[.string ⟨l.toArray⟩] w fun e w' => e = .returned (.tuple #[.string ⟨(fldF l).toArray⟩, .bool true]) ∧ Below w.heap.size w w' := by
  have := rfold_any l w hs
  rw [h, fdF, if_pos h] at this
  exact this
theorem rfold_no (l : List UInt8) (w : World) (hs : l.length ≤ 2 ^ 62) (h : hostB l = false) : Calls Tryd.prog 37 #[.string ⟨l.toArray⟩] w fun e w' => e = .returned (.tuple #[.string ⟨#[]⟩, .bool false]) ∧ Below w.heap.size w w' := by
  have := rfold_any l w hs
  rw [h, fdF, if_neg (by simp [h])] at this
  exact this
theorem pre_two (l : List UInt8) : (((ByteArray.mk l.toArray).extract 0 2).toList == [42, 46]) = Lib.hasPrefix l [42, 46] := by
  rw [extract_take, toList_mk]
  exact pre_eq l [42, 46]
theorem rsort_any (l : List UInt8) (w : World) (hs : l.length ≤ 2 ^ 62) : Calls Tryd.prog 38 #[.string ⟨l.toArray⟩] w fun e w' => e = .returned (srtR l) ∧ Below w.heap.size w w' := by
  rcases srt_cases l with rfl | ⟨r, rfl, hh, hE⟩ | ⟨r, rfl, hh, hE⟩ | ⟨h1, h2, hh, hE⟩ | ⟨h1, h2, hh, hE⟩
  · go_enter Tryd.func38, Tryd.ntmps38
    go_wp2
    go_ret2
    exact ⟨by rw [srtR, srt_all]; rfl, Below.refl _ _⟩
  · have hF := fun w => rfold_ok r w (by simp only [List.length_cons] at hs; omega) hh
    have HE := hide2 hE
    have HX : Hid ((ByteArray.mk (42 :: 46 :: r).toArray).extract 2 (r.length + 1 + 1) = ⟨r.toArray⟩) := by
      have := extract_drop (42 :: 46 :: r) 2
      exact hide2 (by simpa using this)
    have hr0 : (2 : Int) < (r.length : Int) + 1 + 1 := by
      rcases r with _ | ⟨c, r⟩
      · simp [hostB, madF] at hh
      · simp only [List.length_cons]; omega
    have hp : (((ByteArray.mk (42 :: 46 :: r).toArray).extract 0 2).toList == [42, 46]) = true := by rw [pre_two]; simp [Lib.hasPrefix, List.isPrefixOf]
    clear hE hh
    go_enter Tryd.func38, Tryd.ntmps38
    go_wp2_with fail
    rw [HX.out]
    refine (hF _).mono ?_
    rintro e w1 ⟨rfl, hb⟩
    have HB := hide2 hb
    clear hb hF
    go_wp2
    go_ret2
    exact ⟨by rw [srtR, HE.out]; rfl, HB.out⟩
  · have HE := hide2 hE
    rcases r with _ | ⟨c, r⟩
    · have hF := fun w => rfold_no [42, 46] w (by decide) (by decide)
      go_enter Tryd.func38, Tryd.ntmps38
      go_wp2_with fail
      refine (hF _).mono ?_
      rintro e w1 ⟨rfl, hb⟩
      have HB := hide2 hb
      clear hb hF
      go_wp2
      go_ret2
      exact ⟨by rw [srtR, HE.out]; rfl, HB.out⟩
    · have hF := fun w => rfold_no (c :: r) w (by simp only [List.length_cons] at hs ⊢; omega) hh
      have HX : Hid ((ByteArray.mk (42 :: 46 :: c :: r).toArray).extract 2 (r.length + 1 + 1 + 1) = ⟨(c :: r).toArray⟩) := by
        have := extract_drop (42 :: 46 :: c :: r) 2
        exact hide2 (by simpa using this)
      have hr0 : (2 : Int) < (r.length : Int) + 1 + 1 + 1 := by omega
      have hp : (((ByteArray.mk (42 :: 46 :: c :: r).toArray).extract 0 2).toList == [42, 46]) = true := by rw [pre_two]; simp [Lib.hasPrefix, List.isPrefixOf]
      clear hE hh
      go_enter Tryd.func38, Tryd.ntmps38
      go_wp2_with fail
      rw [HX.out]
      refine (hF _).mono ?_
      rintro e w1 ⟨rfl, hb⟩
      have HB := hide2 hb
      clear hb hF
      go_wp2
      go_ret2
      exact ⟨by rw [srtR, HE.out]; rfl, HB.out⟩
  · have hF := fun w => rfold_ok l w (by omega) hh
    have HE := hide2 hE
    have hl42 : (l == [42]) = false := by simpa using h1
    have hp : (((ByteArray.mk l.toArray).extract 0 2).toList == [42, 46]) = false := by rw [pre_two]; exact h2
    clear hE hh h1 h2
    by_cases h2 : (2 : Int) < (l.length : Int)
    all_goals
      go_enter Tryd.func38, Tryd.ntmps38
      go_wp2_with fail
      refine (hF _).mono ?_
      rintro e w1 ⟨rfl, hb⟩
      have HB := hide2 hb
      clear hb hF
      go_wp2
      go_ret2
      exact ⟨by rw [srtR, HE.out]; rfl, HB.out⟩
  · have hF := fun w => rfold_no l w (by omega) hh
    have HE := hide2 hE
    have hl42 : (l == [42]) = false := by simpa using h1
    have hp : (((ByteArray.mk l.toArray).extract 0 2).toList == [42, 46]) = false := by rw [pre_two]; exact h2
    clear hE hh h1 h2
    by_cases h2 : (2 : Int) < (l.length : Int)
    all_goals
      go_enter Tryd.func38, Tryd.ntmps38
      go_wp2_with fail
      refine (hF _).mono ?_
      rintro e w1 ⟨rfl, hb⟩
      have HB := hide2 hb
      clear hb hF
      go_wp2
      go_ret2
      exact ⟨by rw [srtR, HE.out]; rfl, HB.out⟩
def hpB (l : List UInt8) : Bool := decide ((srtF l).1 < 3)
def ppB (l : List UInt8) : Bool := (l == [42]) || pathB (starT l)
def mpB (l : List UInt8) : Bool := (l == [42]) || methB l
theorem field0 (w : World) (a b : Value) : Sem.run Tryd.prog (Instr.field 72 (.agg #[a, b]) 0) w = .ok a w := by kernel_rfl
theorem srt_low (l : List UInt8) : (srtF l).1 = 0 ∨ (srtF l).1 = 1 ∨ (srtF l).1 = 2 ∨ (srtF l).1 = 3 := by
  rcases srt_cases l with rfl | ⟨r, rfl, hh, hE⟩ | ⟨r, rfl, hh, hE⟩ | ⟨h1, h2, hh, hE⟩ | ⟨h1, h2, hh, hE⟩
  · rw [srt_all]; simp
  all_goals rw [hE]; simp
theorem trim_star (l : List UInt8) (w : World) (hs : l.length ≤ 2 ^ 62) : Calls Tryd.prog 56 #[.string ⟨l.toArray⟩, .string ⟨#[42]⟩] w fun e w' => e = .returned (.string ⟨(starT l).toArray⟩) ∧ w' = w :=
  Tryd.strings_TrimSuffix ⟨l.toArray⟩ ⟨#[42]⟩ w (by show l.length ≤ _; omega)
theorem starT_len (l : List UInt8) : (starT l).length ≤ l.length := by
  unfold starT Lib.trimSuffix
  split
  · simp
  · exact Nat.le_refl _
theorem pathPattern_any (l : List UInt8) (w : World) (hs : l.length ≤ 2 ^ 62) : Calls Tryd.prog 48 #[.string ⟨l.toArray⟩] w fun e w' => e = .returned (.bool (ppB l)) ∧ w' = w := by
  cases h : (l == [42]) with
  | true =>
    have : l = [42] := by simpa using h
    subst this
    go_enter Tryd.func48, Tryd.ntmps48
    go_wp2_with fail
    go_ret
    exact ⟨ret_bool (by rfl), rfl⟩
  | false =>
    have HE : Hid (ppB l = pathB (starT l)) := hide2 (by simp [ppB, h])
    have hT := trim_star l w hs
    have hI := isPath_any (starT l) w (Nat.le_trans (starT_len l) hs)
    go_enter Tryd.func48, Tryd.ntmps48
    go_wp2_with (first | (go_at_call 56; refine hT.mono ?_; rintro e w1 ⟨rfl, hw⟩; have hw := hw.symm; subst hw) | (go_at_call 49; refine hI.mono ?_; rintro e w1 ⟨rfl, hw⟩; have hw := hw.symm; subst hw))
    go_ret
    exact ⟨ret_bool HE.out.symm, rfl⟩
theorem ppB_ref (l : List UInt8) : ((starB l && (starT l == [])) || pathB (starT l)) = ppB l := by
  unfold ppB
  congr 1
  rw [Bool.eq_iff_iff]
  simp only [Bool.and_eq_true, beq_iff_eq]
  constructor
  · rintro ⟨h1, h2⟩
    rw [starT_yes h1] at h2
    rw [starB, suf_iff] at h1
    obtain ⟨p, rfl⟩ := h1
    simp at h2
    rw [h2]; rfl
  · rintro rfl
    exact ⟨rfl, rfl⟩
theorem rpathPattern_any (l : List UInt8) (w : World) (hs : l.length ≤ 2 ^ 62) : Calls Tryd.prog 41 #[.string ⟨l.toArray⟩] w fun e w' => e = .returned (.bool (ppB l)) ∧ w' = w := by
  have hS := star_any l w hs
  have hI := rpath_any (starT l) w (Nat.le_trans (starT_len l) hs)
  have HR := hide2 (ppB_ref l)
  obtain ⟨t, ht⟩ : ∃ t, starT l = t := ⟨_, rfl⟩
  obtain ⟨b, hb⟩ : ∃ b, starB l = b := ⟨_, rfl⟩
  rw [ht, hb] at hS HR
  rw [ht] at hI
  clear ht hb
  have fin : ∀ x : Bool, ((b && (t == [])) || pathB t) = x → x = ppB l := fun x h => h.symm.trans HR.out
  have FIN := hide2 fin
  clear fin HR
  cases b with
  | false =>
    go_enter Tryd.func41, Tryd.ntmps41
    go_wp2_with (first | (go_at_call 40; refine hS.mono ?_; rintro e w1 ⟨rfl, hw⟩; have hw := hw.symm; subst hw) | (go_at_call 42; refine hI.mono ?_; rintro e w1 ⟨rfl, hw⟩; have hw := hw.symm; subst hw))
    go_ret
    exact ⟨ret_bool (FIN.out _ (by simp)), rfl⟩
  | true =>
    by_cases h0 : t = []
    · subst h0
      go_enter Tryd.func41, Tryd.ntmps41
      go_wp2_with (first | (go_at_call 40; refine hS.mono ?_; rintro e w1 ⟨rfl, hw⟩; have hw := hw.symm; subst hw) | (go_at_call 42; refine hI.mono ?_; rintro e w1 ⟨rfl, hw⟩; have hw := hw.symm; subst hw))
      go_ret
      exact ⟨ret_bool (FIN.out _ (by simp)), rfl⟩
    · have h1 : t.isEmpty = false := by simpa using h0
      have H0 := hide2 h0
      clear h0
      go_enter Tryd.func41, Tryd.ntmps41
      go_wp2_with (first | (go_at_call 40; refine hS.mono ?_; rintro e w1 ⟨rfl, hw⟩; have hw := hw.symm; subst hw) | (go_at_call 42; refine hI.mono ?_; rintro e w1 ⟨rfl, hw⟩; have hw := hw.symm; subst hw))
      go_ret
      exact ⟨ret_bool (FIN.out _ (by simp [H0.out])), rfl⟩
end Go.Proofs.YtfhobglcploaoaaDoor.Kk
