/-
  lines.Plain.
-/
import Derived.Test.YtjmgngocpokpgaaDoorPlm
namespace Go.Proofs.YtjmgngocpokpgaaDoor
open Go.RowKit
set_option linter.unusedVariables false
set_option linter.unusedSimpArgs false
def plB (l : List UInt8) : Bool := decide (l ≠ [] ∧ strF l = 0 ∧ plnF l = l)
set_option maxRecDepth 100000 in
set_option maxHeartbeats 4000000 in
theorem plain17 (l : List UInt8) (m : Int) (w : World) (hs : l.length ≤ 2 ^ 30) (hm : w.cell? ⟨0, 0, none⟩ = some (.int .i64 m)) :
    Calls Tryd.prog 17 #[.string ⟨l.toArray⟩] w fun e w' => e = .returned (.bool (plB l)) ∧ ∃ q, w' = w.drewN q := by
  by_cases h0 : l = []
  · subst h0
    go_enter Tryd.func17, Tryd.ntmps17
    go_wp2
    go_ret
    exact ⟨ret_bool (by simp [plB]), 0, rfl⟩
  have h0' : ¬ (ByteArray.mk l.toArray) = ⟨#[]⟩ := fun e => h0 (by have := congrArg (fun b => b.data.toList) e; simpa using this)
  have hst : ∀ w, Calls Tryd.prog 30 #[.string ⟨l.toArray⟩] w fun e w' => e = .returned (.int .i64 (strF l)) ∧ w' = w := fun w => stray_any ⟨l.toArray⟩ w (by show l.length ≤ _; unfold maxLen; omega)
  have hpl := fun w (hm : w.cell? ⟨0, 0, none⟩ = some (.int .i64 m)) => plain_any l m w hs hm
  by_cases h1 : strF l = 0
  · by_cases h2 : plnF l = l
    · rw [h1] at hst
      rw [h2] at hpl
      go_enter Tryd.func17, Tryd.ntmps17
      go_wp2_with first
        | (go_at_call 30; refine (hst _).mono ?_; rintro e w' ⟨rfl, rfl⟩)
        | (go_at_call 31; refine (hpl _ hm).mono ?_; rintro e w' ⟨rfl, q2, rfl⟩)
      go_ret
      exact ⟨ret_bool (by simp [plB, h0, h1, h2]), q2, rfl⟩
    · have h2' : ¬ (ByteArray.mk (plnF l).toArray) = ⟨l.toArray⟩ := fun e => h2 (by have := congrArg (fun b => b.data.toList) e; simpa using this)
      rw [h1] at hst
      go_enter Tryd.func17, Tryd.ntmps17
      go_wp2_with first
        | (go_at_call 30; refine (hst _).mono ?_; rintro e w' ⟨rfl, rfl⟩)
        | (go_at_call 31; refine (hpl _ hm).mono ?_; rintro e w' ⟨rfl, q2, rfl⟩)
      go_ret
      exact ⟨ret_bool (by simp [plB, h0, h1, h2]), q2, rfl⟩
  · go_enter Tryd.func17, Tryd.ntmps17
    go_wp2_with first
      | (go_at_call 30; refine (hst _).mono ?_; rintro e w' ⟨rfl, rfl⟩)
    go_ret
    exact ⟨ret_bool (by simp [plB, h0, h1]), 0, rfl⟩
end Go.Proofs.YtjmgngocpokpgaaDoor
