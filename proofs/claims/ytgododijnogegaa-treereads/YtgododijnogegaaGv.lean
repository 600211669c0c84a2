/-
  Whether a token begins the value of another.
-/
import Derived.Test.YtgododijnogegaaGn
import Derived.BigQuiet
namespace Go.Proofs.Ytgododijnogegaa
open Go.RowKit
set_option linter.unusedVariables false
set_option linter.unusedSimpArgs false
set_option maxRecDepth 100000
theorem ret_bool {a b : Bool} (h : a = b) : Ending.returned (.bool a) = .returned (.bool b) := by rw [h]
theorem hb_iff (t : Tk) : hbB t = decide (2 ≤ t.kd ∧ t.kd ≤ 4) := by
  unfold hbB
  by_cases h : 2 ≤ t.kd ∧ t.kd ≤ 4
  · rw [decide_eq_true h]
    simp only [Bool.or_eq_true, decide_eq_true_eq]
    omega
  · rw [decide_eq_false h]
    simp only [Bool.or_eq_false_iff, decide_eq_false_iff_not]
    omega
/-- a cell of one of two new blocks, later -/
theorem new_cell {w W w1 : World} {A B : Array Value} {m : Nat} (hW : W = ((w.alloc (.cells A 39)).alloc (.cells B 39)).drewN m) (hb : Below W.heap.size W w1) : (∀ (j : Nat) (u : Value), A[j]? = some u → w1.cell? ⟨w.heap.size, j, none⟩ = some u) ∧ (∀ (j : Nat) (u : Value), B[j]? = some u → w1.cell? ⟨w.heap.size + 1, j, none⟩ = some u) := by
  subst hW
  have h0 : ((w.alloc (.cells A 39)).alloc (.cells B 39)).heap[w.heap.size]? = some (.cells A 39 (0, 0)) := by
    rw [Below.heap_alloc _ _ _ (by simp)]; exact Go.heap_alloc_new _ _
  have h1 : ((w.alloc (.cells A 39)).alloc (.cells B 39)).heap[w.heap.size + 1]? = some (.cells B 39 (0, 0)) := alloc2_new _ _ _
  constructor
  · intro j u hu
    rw [cell_block ((hb.block _ (Array.getElem?_eq_some_iff.1 h0).1).trans h0)]; exact hu
  · intro j u hu
    rw [cell_block ((hb.block _ (Array.getElem?_eq_some_iff.1 h1).1).trans h1)]; exact hu
set_option maxHeartbeats 2000000 in
theorem isValue_any (t u : Tk) (w : World) (hu : u.kd = 2 ∨ u.kd = 3) : Calls Try.prog 55 #[tokV t, tokV u] w fun e w' => e = .returned (.bool (isVal u t)) ∧ Below w.heap.size w w' := by
  have hB := fun W => hasBlock_any t W
  have HV : Hid (isVal u t = (hbB t && ((decide (u.kd = 3) && ((decide (t.line = u.line) && decide (t.kd = 4)) || (!decide (t.line = u.line) && (decide (u.col < t.col) || (decide (t.kd = 2) && decide (t.col = u.col)))))) || (decide (u.kd = 2) && (decide (t.line = u.line) || decide (u.col < t.col)))))) := by
    show _ = _
    unfold isVal
    rw [hb_iff]
  have HB0 := hideL hB
  clear hB
  generalize hbB t = hb at *
  generalize isVal u t = iv at *
  obtain ⟨kd, line, col, tx, quo⟩ := t
  obtain ⟨ukd, uline, ucol, utx, uquo⟩ := u
  unfold tokV at *
  dsimp only at *
  have HB2 : Hid (∀ A B : Obj, Below w.heap.size w ((w.alloc A).alloc B)) := fun A B => two_alloc _ _ _
  cases hb with
  | false =>
    have HV2 : Hid (iv = false) := by show _ = _; rw [HV.out]; rfl
    clear HV hu
    go_enter Try.func55, Try.ntmps55
    go_wp2
    go_quiet (fail)
    go_wp2_with (go_at_call 56; refine (HB0.out _).mono ?_; rintro e w1 ⟨rfl, hb1⟩)
    go_ret
    exact ⟨by rw [HV2.out]; rfl, (below_drewN (HB2.out _ _) _).trans (hb1.mono (HB2.out _ _).size)⟩
  | true =>
    rcases hu with rfl | rfl
    · cases h1 : (line == uline) with
      | true =>
        have HV2 : Hid (iv = true) := by
          show _ = _
          rw [HV.out, decide_eq_true (beq_iff_eq.1 h1)]
          rfl
        clear HV
        go_enter Try.func55, Try.ntmps55
        go_wp2
        go_quiet (fail)
        go_wp2_with (go_at_call 56; refine (HB0.out _).mono ?_; rintro e w1 ⟨rfl, hb1⟩; obtain ⟨na, nb⟩ := new_cell rfl hb1; have a0 := na 0 _ rfl; have a2 := na 2 _ rfl; have b0 := nb 0 _ rfl; have b2 := nb 2 _ rfl; clear na nb)
        go_ret
        exact ⟨ret_bool (by first | (rw [HV2.out]; done) | (rw [HV2.out]; rfl) | (rw [HV2.out]; simp; done) | (rw [HV2.out]; simp; omega) | (rw [HV2.out, decide_eq_false (show ¬ ucol < col by omega), Bool.false_or]; rfl)), (below_drewN (HB2.out _ _) _).trans (hb1.mono (HB2.out _ _).size)⟩
      | false =>
        have HV2 : Hid (iv = decide (ucol < col)) := by
          show _ = _
          rw [HV.out, decide_eq_false (beq_eq_false_iff_ne.1 h1)]
          simp
        clear HV
        go_enter Try.func55, Try.ntmps55
        go_wp2
        go_quiet (fail)
        go_wp2_with (go_at_call 56; refine (HB0.out _).mono ?_; rintro e w1 ⟨rfl, hb1⟩; obtain ⟨na, nb⟩ := new_cell rfl hb1; have a0 := na 0 _ rfl; have a2 := na 2 _ rfl; have b0 := nb 0 _ rfl; have b2 := nb 2 _ rfl; clear na nb)
        go_ret
        exact ⟨ret_bool (by first | (rw [HV2.out]; done) | (rw [HV2.out]; rfl) | (rw [HV2.out]; simp; done) | (rw [HV2.out]; simp; omega) | (rw [HV2.out, decide_eq_false (show ¬ ucol < col by omega), Bool.false_or]; rfl)), (below_drewN (HB2.out _ _) _).trans (hb1.mono (HB2.out _ _).size)⟩
    · cases h1 : (line == uline) with
      | true =>
        have HV2 : Hid (iv = decide (kd = 4)) := by
          show _ = _
          rw [HV.out, decide_eq_true (beq_iff_eq.1 h1)]
          simp
        clear HV
        go_enter Try.func55, Try.ntmps55
        go_wp2
        go_quiet (fail)
        go_wp2_with (go_at_call 56; refine (HB0.out _).mono ?_; rintro e w1 ⟨rfl, hb1⟩; obtain ⟨na, nb⟩ := new_cell rfl hb1; have a0 := na 0 _ rfl; have a2 := na 2 _ rfl; have b0 := nb 0 _ rfl; have b2 := nb 2 _ rfl; clear na nb)
        go_ret
        exact ⟨ret_bool (by first | (rw [HV2.out]; done) | (rw [HV2.out]; rfl) | (rw [HV2.out]; simp; done) | (rw [HV2.out]; simp; omega) | (rw [HV2.out, decide_eq_false (show ¬ ucol < col by omega), Bool.false_or]; rfl)), (below_drewN (HB2.out _ _) _).trans (hb1.mono (HB2.out _ _).size)⟩
      | false =>
        by_cases h2 : ucol < col
        · have HV2 : Hid (iv = true) := by
            show _ = _
            rw [HV.out, decide_eq_false (beq_eq_false_iff_ne.1 h1), decide_eq_true h2]
            rfl
          clear HV
          go_enter Try.func55, Try.ntmps55
          go_wp2
          go_quiet (fail)
          go_wp2_with (go_at_call 56; refine (HB0.out _).mono ?_; rintro e w1 ⟨rfl, hb1⟩; obtain ⟨na, nb⟩ := new_cell rfl hb1; have a0 := na 0 _ rfl; have a2 := na 2 _ rfl; have b0 := nb 0 _ rfl; have b2 := nb 2 _ rfl; clear na nb)
          go_ret
          exact ⟨ret_bool (by first | (rw [HV2.out]; done) | (rw [HV2.out]; rfl) | (rw [HV2.out]; simp; done) | (rw [HV2.out]; simp; omega) | (rw [HV2.out, decide_eq_false (show ¬ ucol < col by omega), Bool.false_or]; rfl)), (below_drewN (HB2.out _ _) _).trans (hb1.mono (HB2.out _ _).size)⟩
        · cases h3 : (kd == 2) with
          | true =>
            have HV2 : Hid (iv = decide (col = ucol)) := by
              show _ = _
              rw [HV.out, decide_eq_false (beq_eq_false_iff_ne.1 h1), decide_eq_false h2, decide_eq_true (beq_iff_eq.1 h3)]
              simp
            clear HV
            go_enter Try.func55, Try.ntmps55
            go_wp2
            go_quiet (fail)
            go_wp2_with (go_at_call 56; refine (HB0.out _).mono ?_; rintro e w1 ⟨rfl, hb1⟩; obtain ⟨na, nb⟩ := new_cell rfl hb1; have a0 := na 0 _ rfl; have a2 := na 2 _ rfl; have b0 := nb 0 _ rfl; have b2 := nb 2 _ rfl; clear na nb)
            go_ret
            exact ⟨ret_bool (by first | (rw [HV2.out]; done) | (rw [HV2.out]; rfl) | (rw [HV2.out]; simp; done) | (rw [HV2.out]; simp; omega) | (rw [HV2.out, decide_eq_false (show ¬ ucol < col by omega), Bool.false_or]; rfl)), (below_drewN (HB2.out _ _) _).trans (hb1.mono (HB2.out _ _).size)⟩
          | false =>
            have HV2 : Hid (iv = false) := by
              show _ = _
              rw [HV.out, decide_eq_false (beq_eq_false_iff_ne.1 h1), decide_eq_false h2, decide_eq_false (beq_eq_false_iff_ne.1 h3)]
              rfl
            clear HV
            go_enter Try.func55, Try.ntmps55
            go_wp2
            go_quiet (fail)
            go_wp2_with (go_at_call 56; refine (HB0.out _).mono ?_; rintro e w1 ⟨rfl, hb1⟩; obtain ⟨na, nb⟩ := new_cell rfl hb1; have a0 := na 0 _ rfl; have a2 := na 2 _ rfl; have b0 := nb 0 _ rfl; have b2 := nb 2 _ rfl; clear na nb)
            go_ret
            exact ⟨ret_bool (by first | (rw [HV2.out]; done) | (rw [HV2.out]; rfl) | (rw [HV2.out]; simp; done) | (rw [HV2.out]; simp; omega) | (rw [HV2.out, decide_eq_false (show ¬ ucol < col by omega), Bool.false_or]; rfl)), (below_drewN (HB2.out _ _) _).trans (hb1.mono (HB2.out _ _).size)⟩
end Go.Proofs.Ytgododijnogegaa
