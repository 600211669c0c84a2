/-
  A text as a host pattern: its sort, and what stands in it: the program's and the document's.
-/
import Derived.Test.YtfhobglcploaoaaDoorKPd
namespace Go.Proofs.YtfhobglcploaoaaDoor.Kk
open Go.RowKit
set_option linter.unusedVariables false
set_option linter.unusedSimpArgs false
set_option maxRecDepth 100000
def srtF (l : List UInt8) : Int × List UInt8 := if l = [42] then (2, []) else if Lib.hasPrefix l [42, 46] then (if hostB (l.drop 2) then (1, fldF (l.drop 2)) else (3, l)) else if hostB l then (0, fldF l) else (3, l)
def patV (p : Int × List UInt8) : Value := .agg #[.int .i64 p.1, .string ⟨p.2.toArray⟩]
theorem srt_all : srtF [42] = (2, []) := by simp [srtF]
theorem srt_cases (l : List UInt8) : l = [42] ∨ (∃ r, l = 42 :: 46 :: r ∧ hostB r = true ∧ srtF l = (1, fldF r)) ∨ (∃ r, l = 42 :: 46 :: r ∧ hostB r = false ∧ srtF l = (3, l)) ∨
    (¬ l = [42] ∧ Lib.hasPrefix l [42, 46] = false ∧ hostB l = true ∧ srtF l = (0, fldF l)) ∨ (¬ l = [42] ∧ Lib.hasPrefix l [42, 46] = false ∧ hostB l = false ∧ srtF l = (3, l)) := by
  by_cases h1 : l = [42]
  · exact .inl h1
  cases h2 : Lib.hasPrefix l [42, 46] with
  | true =>
    obtain ⟨r, rfl⟩ := (pre_iff _ _).1 h2
    simp only [List.cons_append, List.nil_append] at h1 h2 ⊢
    cases h3 : hostB r with
    | true => exact .inr (.inl ⟨r, rfl, h3, by rw [srtF, if_neg h1, if_pos h2]; simp [h3]⟩)
    | false => exact .inr (.inr (.inl ⟨r, rfl, h3, by rw [srtF, if_neg h1, if_pos h2]; simp [h3]⟩))
  | false =>
    cases h3 : hostB l with
    | true => exact .inr (.inr (.inr (.inl ⟨h1, rfl, rfl, by rw [srtF, if_neg h1, if_neg (by simp [h2]), if_pos h3]⟩)))
    | false => exact .inr (.inr (.inr (.inr ⟨h1, rfl, rfl, by rw [srtF, if_neg h1, if_neg (by simp [h2]), if_neg (by simp [h3])]⟩)))
/-- two blocks of two cells each, laid at the world's end, and kept -/
structure Two (w w1 : World) (a0 a1 b0 b1 : Value) : Prop where
  c0 : w1.cell? ⟨w.heap.size, 0, none⟩ = some a0
  c1 : w1.cell? ⟨w.heap.size, 1, none⟩ = some a1
  d0 : w1.cell? ⟨w.heap.size + 1, 0, none⟩ = some b0
  d1 : w1.cell? ⟨w.heap.size + 1, 1, none⟩ = some b1
  f0 : w1.frozen? ⟨w.heap.size, 0, none⟩ = false
  f1 : w1.frozen? ⟨w.heap.size, 1, none⟩ = false
  g0 : w1.frozen? ⟨w.heap.size + 1, 0, none⟩ = false
  g1 : w1.frozen? ⟨w.heap.size + 1, 1, none⟩ = false
  below : Below w.heap.size w w1
theorem two_of {w w1 : World} {a0 a1 b0 b1 : Value} (hb : Below ((w.alloc (.cells #[a0, a1] 72 (0, 0))).alloc (.cells #[b0, b1] 72 (0, 0))).heap.size ((w.alloc (.cells #[a0, a1] 72 (0, 0))).alloc (.cells #[b0, b1] 72 (0, 0))) w1) : Two w w1 a0 a1 b0 b1 := by
  have hA : w1.heap[w.heap.size]? = some (.cells #[a0, a1] 72 (0, 0)) := by
    refine hb.cells ?_
    rw [Below.heap_alloc _ _ _ (by simp)]
    exact heap_alloc_new w _
  have hB : w1.heap[w.heap.size + 1]? = some (.cells #[b0, b1] 72 (0, 0)) := by
    refine hb.cells ?_
    have := heap_alloc_new (w.alloc (.cells #[a0, a1] 72 (0, 0))) (.cells #[b0, b1] 72 (0, 0))
    simpa using this
  have h1 : Below w.heap.size w ((w.alloc (.cells #[a0, a1] 72 (0, 0))).alloc (.cells #[b0, b1] 72 (0, 0))) := ((Below.refl _ w).alloc (Nat.le_refl _) _).alloc (by simp) _
  have h2 := h1.trans (hb.mono (by simp; omega))
  refine ⟨?_, ?_, ?_, ?_, ?_, ?_, ?_, ?_, h2⟩
  all_goals first | (simp [World.cell?, hA, hB]; done) | (simp [World.frozen?, hA, hB]; done)
theorem below_set {n b : Nat} {w w1 : World} (h : Below n w w1) (hn : n ≤ w.heap.size) (hb : n ≤ b) (o : Nat) (v : Value) : Below n w (w1.setCell ⟨b, o, none⟩ v) :=
  h.trans ((But.set o v).below (Nat.le_trans hn h.size) hb)
theorem patternOf_any (l : List UInt8) (w : World) (hs : l.length ≤ 2 ^ 62) : Calls Tryd.prog 34 #[.string ⟨l.toArray⟩] w fun e w' => e = .returned (patV (srtF l)) ∧ Below w.heap.size w w' := by
  rcases srt_cases l with rfl | ⟨r, rfl, hh, hE⟩ | ⟨r, rfl, hh, hE⟩ | ⟨h1, h2, hh, hE⟩ | ⟨h1, h2, hh, hE⟩
  · go_enter Tryd.func34, Tryd.ntmps34
    go_wp2
    refine bodyPost_ret (v := patV (2, [])) (by simp [results, Tryd.results34, go_sem, patV]) rfl ⟨by rw [srt_all], ?_⟩
    exact ((Below.refl _ w).alloc (Nat.le_refl _) _).alloc (by simp) _
  · have hF := fun w => fold_ok r w (by simp only [List.length_cons] at hs; omega) hh
    have HE := hide2 hE
    have HX : Hid ((ByteArray.mk (42 :: 46 :: r).toArray).extract 2 (r.length + 1 + 1) = ⟨r.toArray⟩) := by
      have := extract_drop (42 :: 46 :: r) 2
      exact hide2 (by simpa using this)
    clear hE hh
    go_enter Tryd.func34, Tryd.ntmps34
    go_wp2_with (first | (go_at_call 46; refine (Tryd.strings_HasPrefix _ _ _).mono ?_; rintro e w1 ⟨rfl, hw⟩; have hw := hw.symm; subst hw))
    rw [HX.out]
    refine (hF _).mono ?_
    rintro e w1 ⟨rfl, hb⟩
    have HT := hide2 (two_of hb)
    obtain ⟨c0, c1, d0, d1, f0, f1, g0, g1, _⟩ := HT.out
    clear hb hF
    go_wp2
    refine bodyPost_ret (v := patV (1, fldF r)) (by simp [results, Tryd.results34, go_sem, patV, c0, c1, d0, d1]) rfl ⟨by rw [HE.out], ?_⟩
    repeat (first | exact HT.out.below | refine below_set ?_ (Nat.le_refl _) (by omega) _ _)
  · have hF := fun w => fold_no r w (by simp only [List.length_cons] at hs; omega) hh
    have HE := hide2 hE
    have HX : Hid ((ByteArray.mk (42 :: 46 :: r).toArray).extract 2 (r.length + 1 + 1) = ⟨r.toArray⟩) := by
      have := extract_drop (42 :: 46 :: r) 2
      exact hide2 (by simpa using this)
    clear hE hh
    go_enter Tryd.func34, Tryd.ntmps34
    go_wp2_with (first | (go_at_call 46; refine (Tryd.strings_HasPrefix _ _ _).mono ?_; rintro e w1 ⟨rfl, hw⟩; have hw := hw.symm; subst hw))
    rw [HX.out]
    refine (hF _).mono ?_
    rintro e w1 ⟨rfl, hw1⟩
    have HT := hide2 (two_of (w1 := w1) (by rw [hw1]; exact Below.refl _ _))
    obtain ⟨c0, c1, d0, d1, f0, f1, g0, g1, _⟩ := HT.out
    clear hw1 hF
    go_wp2
    refine bodyPost_ret (v := patV (3, 42 :: 46 :: r)) (by simp [results, Tryd.results34, go_sem, patV, c0, c1, d0, d1]) rfl ⟨by rw [HE.out], ?_⟩
    repeat (first | exact HT.out.below | refine below_set ?_ (Nat.le_refl _) (by omega) _ _)
  · have hF := fun w => fold_ok l w (by omega) hh
    have HE := hide2 hE
    have hl42 : (l == [42]) = false := by simpa using h1
    have hP := Tryd.strings_HasPrefix ⟨l.toArray⟩ ⟨#[42, 46]⟩
    simp only [h2] at hP
    clear hE hh h1 h2
    go_enter Tryd.func34, Tryd.ntmps34
    go_wp2_with (first | (go_at_call 46; refine (hP _).mono ?_; rintro e w1 ⟨rfl, hw⟩; have hw := hw.symm; subst hw))
    refine (hF _).mono ?_
    rintro e w1 ⟨rfl, hb⟩
    have HT := hide2 (two_of hb)
    obtain ⟨c0, c1, d0, d1, f0, f1, g0, g1, _⟩ := HT.out
    clear hb hF
    go_wp2
    refine bodyPost_ret (v := patV (0, fldF l)) (by simp [results, Tryd.results34, go_sem, patV, c0, c1, d0, d1]) rfl ⟨by rw [HE.out], ?_⟩
    repeat (first | exact HT.out.below | refine below_set ?_ (Nat.le_refl _) (by omega) _ _)
  · have hF := fun w => fold_no l w (by omega) hh
    have HE := hide2 hE
    have hl42 : (l == [42]) = false := by simpa using h1
    have hP := Tryd.strings_HasPrefix ⟨l.toArray⟩ ⟨#[42, 46]⟩
    simp only [h2] at hP
    clear hE hh h1 h2
    go_enter Tryd.func34, Tryd.ntmps34
    go_wp2_with (first | (go_at_call 46; refine (hP _).mono ?_; rintro e w1 ⟨rfl, hw⟩; have hw := hw.symm; subst hw))
    refine (hF _).mono ?_
    rintro e w1 ⟨rfl, hw1⟩
    have HT := hide2 (two_of (w1 := w1) (by rw [hw1]; exact Below.refl _ _))
    obtain ⟨c0, c1, d0, d1, f0, f1, g0, g1, _⟩ := HT.out
    clear hw1 hF
    go_wp2
    refine bodyPost_ret (v := patV (3, l)) (by simp [results, Tryd.results34, go_sem, patV, c0, c1, d0, d1]) rfl ⟨by rw [HE.out], ?_⟩
    repeat (first | exact HT.out.below | refine below_set ?_ (Nat.le_refl _) (by omega) _ _)
end Go.Proofs.YtfhobglcploaoaaDoor.Kk
