/- HealthMeets: so many good and then so many bad probes. -/
import Derived.Test.YtlgpohjffahbcaaHl
namespace Go.Proofs.Ytlgpohjffahbcaa
open Go.RowKit Ieee
set_option linter.unusedVariables false
set_option linter.unusedSimpArgs false
def rep (ok : Bool) (k : Nat) : List (Bool × Nat) := List.replicate k (ok, W1)
theorem rep_succ (ok : Bool) (k : Nat) : rep ok (k + 1) = rep ok k ++ [(ok, W1)] := List.replicate_succ'
theorem run_rep (s : St) (ok : Bool) (k : Nat) : runL s (rep ok (k + 1)) = (runL s (rep ok k)).probe ok W1 := by
  rw [rep_succ, runL_append]; rfl
theorem probe_up (s : St) (ok : Bool) (t : Nat) : (s.probe ok t).up = (s.rowed ok).up ∧ (s.probe ok t).row = (s.rowed ok).row := ⟨(probe_parts s ok t).1, (probe_parts s ok t).2.1⟩
theorem goods {s : St} {n : Nat} (h : Ok s n) : ∀ k, ((runL s (rep true k)).up = true ∨ (runL s (rep true k)).up = false ∧ (k : Int) ≤ max (runL s (rep true k)).row 0) ∧ (1 ≤ k → 0 ≤ (runL s (rep true k)).row) := by
  intro k
  induction k with
  | zero =>
    refine ⟨?_, fun h => by omega⟩
    cases hu : (runL s (rep true 0)).up
    · exact .inr ⟨rfl, by have : (0 : Int) ≤ max (runL s (rep true 0)).row 0 := Int.le_max_right _ _; simpa using this⟩
    · exact .inl rfl
  | succ k ih =>
    have hk := run_keeps (rep true k) s
    have hf := h.f1; have hr := h.r1
    rw [run_rep]
    obtain ⟨p1, p2⟩ := probe_up (runL s (rep true k)) true W1
    rw [p1, p2]
    generalize runL s (rep true k) = x at *
    unfold St.rowed
    have hl : lng x.row true = max x.row 0 + 1 := rfl
    have hm : 0 ≤ max x.row 0 := Int.le_max_right _ _
    split
    · rename_i he
      rw [hl] at he
      unfold thr at he
      refine ⟨?_, fun _ => Int.le_refl 0⟩
      rcases ih.1 with h1 | ⟨h1, h2⟩
      · rw [h1] at he; simp at he; omega
      · left; show (!x.up) = true; rw [h1]; rfl
    · refine ⟨?_, fun _ => by show 0 ≤ lng x.row true; omega⟩
      rcases ih.1 with h1 | ⟨h1, h2⟩
      · exact .inl h1
      · right
        refine ⟨h1, ?_⟩
        show ((k + 1 : Nat) : Int) ≤ max (lng x.row true) 0
        rw [hl]; omega
theorem goods_up {s : St} {n k : Nat} (h : Ok s n) (hk : (k : Int) = s.rise) : (runL s (rep true k)).up = true ∧ 0 ≤ (runL s (rep true k)).row := by
  have h1 := goods h k
  have hr := h.r1
  refine ⟨?_, h1.2 (by omega)⟩
  rcases h1.1 with h2 | ⟨h2, h3⟩
  · exact h2
  · have h4 := (h.run (L := rep true k)).d1 h2
    have h5 := (run_keeps (rep true k) s).1
    rw [h5] at h4
    omega
theorem bads {s : St} (hu : s.up = true) (h0 : 0 ≤ s.row) (hf : 1 ≤ s.fall) : ∀ k : Nat, (k : Int) ≤ s.fall → ((k : Int) < s.fall → (runL s (rep false k)).up = true ∧ min (runL s (rep false k)).row 0 = -(k : Int)) ∧ ((k : Int) = s.fall → (runL s (rep false k)).up = false ∧ (runL s (rep false k)).row = 0) := by
  intro k
  induction k with
  | zero =>
    intro _
    refine ⟨fun _ => ⟨hu, ?_⟩, fun h => by simp at h; omega⟩
    show min s.row 0 = -((0 : Nat) : Int)
    simp; omega
  | succ k ih =>
    intro hk
    obtain ⟨h1, h2⟩ := (ih (by omega)).1 (by omega)
    have hkp := (run_keeps (rep false k) s).2
    rw [run_rep]
    obtain ⟨p1, p2⟩ := probe_up (runL s (rep false k)) false W1
    rw [p1, p2]
    generalize runL s (rep false k) = x at *
    have hl : lng x.row false = min x.row 0 - 1 := rfl
    have ht : thr x = -x.fall := by unfold thr; rw [h1]; rfl
    unfold St.rowed
    rw [hl, ht, h2, hkp]
    by_cases he : -(k : Int) - 1 = -s.fall
    · rw [if_pos he]
      refine ⟨fun h => by omega, fun h => ⟨by show (!x.up) = false; rw [h1]; rfl, rfl⟩⟩
    · rw [if_neg he]
      refine ⟨fun h => ⟨h1, ?_⟩, fun h => by omega⟩
      show min (-(k : Int) - 1) 0 = _
      omega
theorem bads_down {s : St} {k : Nat} (hu : s.up = true) (h0 : 0 ≤ s.row) (hf : 1 ≤ s.fall) (hk : (k : Int) = s.fall) : (runL s (rep false k)).up = false ∧ (runL s (rep false k)).row = 0 := (bads hu h0 hf k (by omega)).2 hk
end Go.Proofs.Ytlgpohjffahbcaa
