/-
  The document's sort of a host pattern; which texts are patterns, of both.
-/
import Derived.Test.YtplbdnndpgfljabPe
namespace Go.Proofs.Ytplbdnndpgfljab
open Go.RowKit
set_option linter.unusedVariables false
set_option linter.unusedSimpArgs false
set_option maxRecDepth 100000
def srtR (l : List UInt8) : Value := .tuple #[.int .i64 ((srtF l).1 + 1), .string ⟨(srtF l).2.toArray⟩]
theorem pre_two (l : List UInt8) : (((ByteArray.mk l.toArray).extract 0 2).toList == [42, 46]) = Lib.hasPrefix l [42, 46] := by
  rw [extract_take, toList_mk]
  exact pre_eq l [42, 46]
def hpB (l : List UInt8) : Bool := decide ((srtF l).1 < 3)
def ppB (l : List UInt8) : Bool := (l == [42]) || pathB (starT l)
def mpB (l : List UInt8) : Bool := (l == [42]) || methB l
theorem field0 (w : World) (a b : Value) : Sem.run Try.prog (Instr.field 35 (.agg #[a, b]) 0) w = .ok a w := by kernel_rfl
theorem srt_low (l : List UInt8) : (srtF l).1 = 0 ∨ (srtF l).1 = 1 ∨ (srtF l).1 = 2 ∨ (srtF l).1 = 3 := by
  rcases srt_cases l with rfl | ⟨r, rfl, hh, hE⟩ | ⟨r, rfl, hh, hE⟩ | ⟨h1, h2, hh, hE⟩ | ⟨h1, h2, hh, hE⟩
  · rw [srt_all]; simp
  all_goals rw [hE]; simp
theorem hostPattern_any (l : List UInt8) (w : World) (hs : l.length ≤ 2 ^ 62) : Calls Try.prog 7 #[.string ⟨l.toArray⟩] w fun e w' => e = .returned (.bool (hpB l)) ∧ Below w.heap.size w w' := by
  have hP := patternOf_any l w hs
  have hlow := srt_low l
  obtain ⟨⟨n, t⟩, hn⟩ : ∃ p, srtF l = p := ⟨_, rfl⟩
  rw [hn] at hP hlow
  rw [patV] at hP
  have HN := hide2 hn
  have HL := hide2 hlow
  clear hn hlow
  go_enter Try.func7, Try.ntmps7
  go_wp2_with fail
  refine hP.mono ?_
  rintro e w1 ⟨rfl, hb⟩
  have HB := hide2 hb
  have hf := field0 w1 (.int .i64 n) (.string ⟨t.toArray⟩)
  clear hb hP
  go_wp2
  go_ret
  refine ⟨ret_bool ?_, HB.out⟩
  rw [hpB, HN.out]
  rcases HL.out with h | h | h | h <;> subst h <;> rfl
theorem trim_star (l : List UInt8) (w : World) (hs : l.length ≤ 2 ^ 62) : Calls Try.prog 31 #[.string ⟨l.toArray⟩, .string ⟨#[42]⟩] w fun e w' => e = .returned (.string ⟨(starT l).toArray⟩) ∧ w' = w :=
  Try.strings_TrimSuffix ⟨l.toArray⟩ ⟨#[42]⟩ w (by show l.length ≤ _; omega)
theorem starT_len (l : List UInt8) : (starT l).length ≤ l.length := by
  unfold starT Lib.trimSuffix
  split
  · simp
  · exact Nat.le_refl _
theorem pathPattern_any (l : List UInt8) (w : World) (hs : l.length ≤ 2 ^ 62) : Calls Try.prog 19 #[.string ⟨l.toArray⟩] w fun e w' => e = .returned (.bool (ppB l)) ∧ w' = w := by
  cases h : (l == [42]) with
  | true =>
    have : l = [42] := by simpa using h
    subst this
    go_enter Try.func19, Try.ntmps19
    go_wp2_with fail
    go_ret
    exact ⟨ret_bool (by rfl), rfl⟩
  | false =>
    have HE : Hid (ppB l = pathB (starT l)) := hide2 (by simp [ppB, h])
    have hT := trim_star l w hs
    have hI := isPath_any (starT l) w (Nat.le_trans (starT_len l) hs)
    go_enter Try.func19, Try.ntmps19
    go_wp2_with (first | (go_at_call 31; refine hT.mono ?_; rintro e w1 ⟨rfl, hw⟩; have hw := hw.symm; subst hw) | (go_at_call 20; refine hI.mono ?_; rintro e w1 ⟨rfl, hw⟩; have hw := hw.symm; subst hw))
    go_ret
    exact ⟨ret_bool HE.out.symm, rfl⟩
theorem ppB_ref (l : List UInt8) : ((starB l && (starT l == [])) || pathB (starT l)) = ppB l := by
  unfold ppB
  congr 1
  rw [Bool.eq_iff_iff]
  simp only [Bool.and_eq_true, beq_iff_eq]
  constructor
  · rintro ⟨h1, h2⟩
    rw [starT_yes h1] at h2
    rw [starB, suf_iff] at h1
    obtain ⟨p, rfl⟩ := h1
    simp at h2
    rw [h2]; rfl
  · rintro rfl
    exact ⟨rfl, rfl⟩
end Go.Proofs.Ytplbdnndpgfljab
