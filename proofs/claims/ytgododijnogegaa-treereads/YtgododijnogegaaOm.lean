/-
  What a list of tokens comes to: its documents, or the first fault.
-/
import Derived.Test.YtgododijnogegaaOw
namespace Go.Proofs.Ytgododijnogegaa
open Go.RowKit
set_option linter.unusedVariables false
set_option linter.unusedSimpArgs false
theorem lpM_err {V : Tk → Nat → Nat → Rr} {L : List Tk} {t0 : Tk} (hV : ∀ u q m l e q2 m2, V u q m = .bad l e q2 m2 → e ≠ 0) : ∀ (n : Nat) (acc : List Tr) (q made : Nat) (l e : Int) (q2 m2 : Nat), lpM V L t0 n acc q made = .bad l e q2 m2 → e ≠ 0
  | 0, acc, q, made, l, e, q2, m2, h => by rw [lpM] at h; cases h
  | n + 1, acc, q, made, l, e, q2, m2, h => by
    rw [lpM] at h
    split at h
    · cases h
    · split at h
      · split at h
        · cases h; decide
        · split at h
          · exact lpM_err hV n _ _ _ l e q2 m2 h
          · rename_i hx
            cases h
            exact hV _ _ _ _ _ _ _ hx
      · cases h
theorem blkM_err {L : List Tk} : ∀ (f q made : Nat) (l e : Int) (q2 m2 : Nat), (∃ t, L[q]? = some t) → blkM L f q made = .bad l e q2 m2 → e ≠ 0
  | 0, q, made, l, e, q2, m2, ⟨t, ht⟩, h => by rw [blkM, ht] at h; cases h; decide
  | f + 1, q, made, l, e, q2, m2, ⟨t, ht⟩, h => by
    rw [blkM, ht] at h
    dsimp only at h
    split at h
    · cases h; decide
    · split at h
      · cases h
      · split at h
        · cases h
        · rename_i hx
          cases h
          refine lpM_err (fun u q m l e q2 m2 hv => ?_) _ _ _ _ _ _ _ _ hx
          unfold valM at hv
          split at hv
          · rename_i hn
            refine blkM_err f q m l e q2 m2 ?_ hv
            unfold nxtV at hn
            split at hn
            · rename_i t' ht'; exact ⟨t', ht'⟩
            · cases hn
          · split at hv
            · cases hv; decide
            · cases hv
theorem docM_err {L : List Tk} {l e : Int} (hne : L ≠ []) (h : docM L = .bad l e) : e ≠ 0 := by
  unfold docM at h
  split at h
  · rename_i h0
    rcases L with _ | ⟨t, L⟩
    · exact absurd rfl hne
    · simp at h0
  · rename_i t0 h0
    split at h
    · split at h
      · rename_i hx
        cases h
        exact blkM_err _ _ _ _ _ _ _ ⟨t0, h0⟩ hx
      · split at h
        · cases h; decide
        · cases h
    · cases h; decide
/-- what a list comes to -/
inductive Or where
  | ok (ts : List Tr)
  | bad (doc line err : Int)
/-- a document ends -/
def endM (doc : List Tk) (acc : List Tr) : Or :=
  if doc = [] then .ok acc else match docM doc with
    | .ok t => .ok (acc ++ [t])
    | .bad l e => .bad acc.length l e
/-- from a token on, with the tokens of the document and the documents before -/
def ofM : List Tk → List Tk → List Tr → Or
  | [], doc, acc => endM doc acc
  | t :: L, doc, acc => if t.kd = 1 then (match endM doc acc with
      | .ok acc' => ofM L [] acc'
      | .bad d l e => .bad d l e) else ofM L (doc ++ [t]) acc
end Go.Proofs.Ytgododijnogegaa
