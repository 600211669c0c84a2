/-
  What Merge answers and what the document's answers is the same: plain.
-/
import Derived.Test.YtmljljpldljpjabMp
namespace Go.Proofs.Ytmljljpldljpjab
open Go.RowKit
set_option linter.unusedVariables false
set_option linter.unusedSimpArgs false
theorem wrongF_zero {C D : List Rs} (h : wrongF C D = none) : ∀ (j : Nat) (x : Rs), D[j]? = some x → errF C D j x = 0 := by
  intro j x hj
  have hjl := (List.getElem?_eq_some_iff.1 hj).1
  unfold wrongF at h
  split at h
  · cases h
  · rename_i hf
    have := List.find?_eq_none.1 hf j (by simpa using hjl)
    rw [hj] at this
    simpa using this
theorem mrF_none {C D : List Rs} (h : mrF C D = none) : Ordd C ∧ (∀ (j : Nat) (x : Rs), D[j]? = some x → errF C D j x = 0) ∧ (mergL C D).length ≤ 64 := by
  unfold mrF at h
  split at h
  · cases h
  · rename_i ho
    have ho' : astF C = C.length := Classical.not_not.1 ho
    rcases hw : wrongF C D with _ | ⟨i, x⟩
    · rw [hw] at h
      dsimp only at h
      split at h
      · cases h
      · exact ⟨astF_ord ho', wrongF_zero hw, by omega⟩
    · rw [hw] at h; cases h
theorem merg_one {C D M : List Rs} (h : mrF C D = none) (hs : SortP (mergL C D) M) : M = allM C D D.length := by
  obtain ⟨h1, h2, _⟩ := mrF_none h
  obtain ⟨hp, hk, hks⟩ := merg_perm h1 h2
  obtain ⟨a, b⟩ := hs.spec hk
  exact KS.ext a hks fun r => (b r).trans hp.mem_iff.symm
end Go.Proofs.Ytmljljpldljpjab
