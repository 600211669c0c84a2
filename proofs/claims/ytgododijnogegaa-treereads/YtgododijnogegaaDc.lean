/-
  A document's tokens, by the document.
-/
import Derived.Test.YtgododijnogegaaGt
import Derived.Test.YtgododijnogegaaPna
import Derived.OwnWalk
namespace Go.Proofs.Ytgododijnogegaa
open Go.RowKit
set_option linter.unusedVariables false
set_option linter.unusedSimpArgs false
set_option maxRecDepth 100000
/-- tokens in memory, as the document's reader asks for them -/
structure Dt0 (w : World) (g off n : Nat) (L : List Tk) : Prop where
  ts : ∀ (i : Nat) (t : Tk), L[i]? = some t → ∀ (j : Nat) (u : Value), t.row[j]? = some u → w.cell? ⟨g, off + i * 5 + j, none⟩ = some u
  str : ∀ t ∈ L, t.tx.size ≤ maxLen
  len : L.length = n
  small : n ≤ 17592186043904
  glt : g < w.heap.size
  some : 0 < n
def DcE (w : World) (r : Dr) (e : Ending) (w' : World) : Prop := match r with
  | .ok t => ∃ p, e = .returned (.tuple #[.pointer (some ⟨p, 0, none⟩), .int .i64 0, .int .i64 0]) ∧ TrIn w' (fun k => w.heap.size ≤ k ∧ k < w'.heap.size) t p ∧ Below w.heap.size w w'
  | .bad l er => e = .returned (.tuple #[.pointer none, .int .i64 l, .int .i64 er]) ∧ Below w.heap.size w w'
set_option maxHeartbeats 4000000 in
theorem document_any (w : World) (g off n cap : Nat) (L : List Tk) (h : Dt0 w g off n L) :
    Calls Try.prog 25 #[.slice (some ⟨g, off, none⟩) n cap] w (DcE w (docM L)) := by
  obtain ⟨t0, ht0⟩ : ∃ t0, L[0]? = some t0 := ⟨L[0]'(by rw [h.len]; exact h.some), List.getElem?_eq_getElem _⟩
  obtain ⟨W, hW⟩ : ∃ W, w.alloc (.cells #[.slice (some ⟨g, off, none⟩) n cap, .int .i64 0, .int .i64 0, .int .i64 0, .int .i64 0] 84) = W := ⟨_, rfl⟩
  have hBW : Below w.heap.size w W := by rw [← hW]; exact (Below.refl _ w).alloc (Nat.le_refl _) _
  have hg0 : Rg W w.heap.size (some ⟨g, off, none⟩) n cap L 0 0 0 0 := {
    blk := by rw [← hW]; exact Go.heap_alloc_new _ _
    ts := by rw [← hW]; exact ⟨h.str, .inr ⟨g, off, rfl, fun i t hi j u hu => cell_al (h.ts i t hi j u hu) _⟩⟩
    low := fun x hx _ => by cases hx; have := h.glt; dsimp only; omega
    len := h.len
    small := h.small
    q := Nat.zero_le _
    made := by decide }
  have hW1 : w.heap.size + 1 = W.heap.size := by rw [← hW]; simp
  have hn0 : 0 < n := h.some
  have i2 : (0 : Int) < (n : Int) := by omega
  have n0 : W.cell? ⟨g, off, none⟩ = some (.int .i64 t0.kd) := by
    have := cell_al (h.ts 0 t0 ht0 0 _ rfl) (.cells #[.slice (some ⟨g, off, none⟩) n cap, .int .i64 0, .int .i64 0, .int .i64 0, .int .i64 0] 84)
    rw [hW] at this
    simpa using this
  have n1 : W.cell? ⟨g, off + 1, none⟩ = some (.int .i64 t0.line) := by
    have := cell_al (h.ts 0 t0 ht0 1 _ rfl) (.cells #[.slice (some ⟨g, off, none⟩) n cap, .int .i64 0, .int .i64 0, .int .i64 0, .int .i64 0] 84)
    rw [hW] at this
    simpa using this
  have hlen := h.len
  have hsm := h.small
  obtain ⟨D, hD⟩ : ∃ D, docM L = D := ⟨_, rfl⟩
  rw [hD]
  unfold docM at hD
  rw [ht0] at hD
  dsimp only at hD
  by_cases hkd : 2 ≤ t0.kd ∧ t0.kd ≤ 4
  · rw [if_pos hkd] at hD
    have k1 : decide (t0.kd < 2) = false := by rw [decide_eq_false_iff_not]; omega
    have k2 : decide (4 < t0.kd) = false := by rw [decide_eq_false_iff_not]; omega
    have hB := block_any w.heap.size (some ⟨g, off, none⟩) n cap L 16 1 (by decide) W 0 0 hg0 hn0
    obtain ⟨R, hR⟩ : ∃ R, blkM L 16 0 0 = R := ⟨_, rfl⟩
    rw [hR] at hB hD
    have HD := hideL hD
    have HBW := hideL hBW
    clear h hg0 ht0 hkd hR hD hBW
    go_enter Try.func25, Try.ntmps25
    go_wp2_with (fail)
    refine hB.mono ?_
    clear hB
    intro e w2 hE
    cases R with
    | bad l er q3 m3 =>
      obtain ⟨rfl, hrg, hbt⟩ := hE
      obtain ⟨z0, z1, z2, z3, z4⟩ := hrg.cells
      have HE : Hid (∀ w3, Below w2.heap.size w2 w3 → DcE w D (.returned (.tuple #[.pointer none, .int .i64 l, .int .i64 er])) w3) := fun w3 h3 => by
        have hD := HD.out
        subst hD
        have h2 : Below w.heap.size w w2 := HBW.out.trans (hbt.below (by omega) (Nat.le_refl _))
        exact ⟨rfl, h2.trans (h3.mono h2.size)⟩
      clear hrg hbt HD HBW hlen hsm
      go_wp2_with (fail)
      go_region
      go_wp2_with (fail)
      go_ret3
      exact HE.out _ ⟨rfl, rfl, rfl, Nat.le_refl _, fun _ _ => rfl⟩
    | ok t q3 m3 =>
      obtain ⟨p, rfl, htr, hrg, hbt⟩ := hE
      have hlt := hrg.lt
      obtain ⟨z0, z1, z2, z3, z4⟩ := hrg.cells
      have h2 : Below w.heap.size w w2 := HBW.out.trans (hbt.below (by omega) (Nat.le_refl _))
      have HRG := hideL hrg
      rcases hu : L[q3]? with _ | u
      · have hq : n ≤ q3 := by have := List.getElem?_eq_none_iff.1 hu; omega
        have d1 : decide (q3 < n) = false := by rw [decide_eq_false_iff_not]; omega
        have HE : Hid (∀ w3, Below w2.heap.size w2 w3 → DcE w D (.returned (.tuple #[.pointer (some ⟨p, 0, none⟩), .int .i64 0, .int .i64 0])) w3) := fun w3 h3 => by
          have hD := HD.out
          dsimp only at hD
          rw [hu] at hD
          subst hD
          exact ⟨p, rfl, TrIn.turn (fun k hk => ⟨by omega, Nat.lt_of_lt_of_le hk.2 h3.size⟩) (fun k hk => h3.block k hk.2) t p htr, h2.trans (h3.mono h2.size)⟩
        clear hrg hbt HD HBW hlen hsm htr h2 hu HRG hq hlt
        go_wp2_with (fail)
        go_region
        go_wp2_with (fail)
        go_ret3
        exact HE.out _ ⟨rfl, rfl, rfl, Nat.le_refl _, fun _ _ => rfl⟩
      · have hq : q3 < n := by have := (List.getElem?_eq_some_iff.1 hu).1; omega
        have d1 : decide (q3 < n) = true := by rw [decide_eq_true_iff]; omega
        have d2 : (q3 : Int) < (n : Int) := by omega
        have d3 : (0 : Int) ≤ (q3 : Int) := by omega
        have hfl := fail_any w2 w.heap.size (some ⟨g, off, none⟩) n cap L q3 0 m3 u.line 90 hrg
        have y1 : w2.cell? ⟨g, off + q3 * 5 + 1, none⟩ = some (.int .i64 u.line) := by
          rcases hrg.ts.row with hx | ⟨g', off', ha, hcc⟩
          · rw [hx] at hu; simp at hu
          · cases ha
            exact hcc q3 u hu 1 _ rfl
        have HE : Hid (∀ w3, Below w.heap.size w2 w3 → DcE w D (.returned (.tuple #[.pointer none, .int .i64 u.line, .int .i64 90])) w3) := fun w3 h3 => by
          have hD := HD.out
          dsimp only at hD
          rw [hu] at hD
          subst hD
          exact ⟨rfl, h2.trans h3⟩
        have hW2 := hbt.size
        clear hrg hbt HD HBW hlen htr h2 hu HRG hq
        go_wp2_with (fail)
        refine hfl.mono ?_
        clear hfl
        rintro e w3 ⟨rfl, hrg, hbt⟩
        obtain ⟨x0, x1, x2, x3, x4⟩ := hrg.cells
        have HE2 := hideL (HE.out w3 (hbt.below (by omega) (Nat.le_refl _)))
        have HF : Hid (∀ w4, Below w3.heap.size w3 w4 → DcE w D (.returned (.tuple #[.pointer none, .int .i64 u.line, .int .i64 90])) w4) := fun w4 h4 => HE.out w4 ((hbt.below (by omega) (Nat.le_refl _)).trans (h4.mono (by have := hrg.lt; omega)))
        clear hrg hbt HE HE2 hW2 z0 z1 z2 z3 z4 y1
        go_wp2_with (fail)
        go_region
        go_wp2_with (fail)
        go_ret3
        exact HF.out _ ⟨rfl, rfl, rfl, Nat.le_refl _, fun _ _ => rfl⟩
  · rw [if_neg hkd] at hD
    have HE : Hid (∀ w3, Below W.heap.size W w3 → DcE w D (.returned (.tuple #[.pointer none, .int .i64 t0.line, .int .i64 90])) w3) := fun w3 h3 => by
      subst hD
      exact ⟨rfl, hBW.trans (h3.mono hBW.size)⟩
    have HKD : Hid (¬ (2 ≤ t0.kd ∧ t0.kd ≤ 4)) := hkd
    clear h hg0 ht0 hD hBW
    by_cases hl : t0.kd < 2
    · have k1 : decide (t0.kd < 2) = true := by rw [decide_eq_true_iff]; exact hl
      clear hkd hl
      go_enter Try.func25, Try.ntmps25
      go_wp2_with (fail)
      go_region
      go_wp2_with (fail)
      go_ret3
      exact HE.out _ ⟨rfl, rfl, rfl, Nat.le_refl _, fun _ _ => rfl⟩
    · have k1 : decide (t0.kd < 2) = false := by rw [decide_eq_false_iff_not]; exact hl
      have k2 : decide (4 < t0.kd) = true := by rw [decide_eq_true_iff]; omega
      clear hkd hl
      go_enter Try.func25, Try.ntmps25
      go_wp2_with (fail)
      go_region
      go_wp2_with (fail)
      go_ret3
      exact HE.out _ ⟨rfl, rfl, rfl, Nat.le_refl _, fun _ _ => rfl⟩
end Go.Proofs.Ytgododijnogegaa
