/-
  FramesWrites' walk.
-/
import Derived.Test.YteeclghhoioapaaDoorEnc
namespace Go.Proofs.YteeclghhoioapaaDoor
open Go.RowKit
set_option linter.unusedVariables false
set_option linter.unusedSimpArgs false
set_option maxRecDepth 100000
set_option maxHeartbeats 4000000 in
theorem fwrites_any (m : Ms) (w : World) (hT : Tab w) (hs : Sm m) :
    Calls Tryd.prog 3 #[mv m] w fun e w' => e = .returned (.bool true) ∧ Below w.heap.size w w' := by
  have HO := hideL (fun w => own_any m w (by have := hs.2.1; unfold maxLen; omega) (by have := hs.2.2.1; unfold maxLen; omega))
  have HE := hideL (fun w h => encode_any m w h hs)
  have HR := hideL (fun w => rencode_any m w hs)
  have HS := hideL (Hw.start w m 23)
  have HT := hideL hT
  clear hT hs
  obtain ⟨F, hF⟩ : ∃ F, frmB m = F := ⟨_, rfl⟩
  obtain ⟨E, hE⟩ : ∃ E, frmE m = E := ⟨_, rfl⟩
  rw [hF, hE] at HE HR
  clear hF hE
  obtain ⟨kind, name, ver, frm, non, err, text⟩ := m
  simp only [mv, mcs] at *
  go_enter Tryd.func3, Tryd.ntmps3
  go_wp2_with (first
    | (go_at_call 10; refine (HO.out _).mono ?_; rintro e w1 ⟨rfl, hb1⟩; have HS1 := hideL (HS.out.below hb1); have HT1 := hideL ((HT.out.below HS.out.2.1 HT.out.pos).below hb1 (by simp)); clear hb1)
    | (go_at_call 9; refine (HE.out _ HT1.out).mono ?_; rintro e w2 ⟨v2, rfl, hr2, hb2⟩; have hS2 := HS1.out.below hb2; obtain ⟨c0, c1, c2, c3, c4, c5, c6⟩ := hS2.1.cs; have HS2 := hideL hS2; have HR2 := hideL hr2; clear hS2 hr2 hb2)
    | (go_at_call 11; refine (HR.out _).mono ?_; rintro e w3 ⟨v3, rfl, hr3, hb3⟩; have HS3 := hideL (HS2.out.below hb3); obtain ⟨a2, cp2, rfl, hh2, -⟩ := (HR2.out.keep hb3).has; obtain ⟨a3, cp3, rfl, hh3, -⟩ := hr3.has; have hq2 := fun w' (hb : Below w3.heap.size w3 w') => str_of w' a2 F.length cp2 F rfl (hh2.of_below hb); have hq3 := fun w' (hb : Below w3.heap.size w3 w') => str_of w' a3 F.length cp3 F rfl (hh3.of_below hb); have s2 := hq2 w3 (Below.refl _ _); have s3 := hq3 w3 (Below.refl _ _); clear hq2 hq3 hr3 hb3 HR2 hh2 hh3 c0 c1 c2 c3 c4 c5 c6))
  go_ret
  exact ⟨rfl, HS3.out.2.1⟩
end Go.Proofs.YteeclghhoioapaaDoor
