import Derived.Test.YtmmnpnhffgpchaaGreatDoorBn21
import Derived.Deep.QuietTactic
import Derived.Deep.RegionHeld3
import Derived.BigQuiet
/-
  The walker turned: two stores; the kids, one more.
-/
namespace Go.Proofs.YtmmnpnhffgpchaaGreatDoor
open Go.RowKit
set_option linter.unusedVariables false
set_option linter.unusedSimpArgs false
theorem kidsT_cons {S : Nat → Option (Nat × Nat)} {ks : List Int} {i q h : Nat} {k : Int} (hi : ks[i]? = some k) : kidsT S (ks.drop i) q h = if k = q then (match S q with | some (e, h') => kidsT S (ks.drop (i + 1)) e (max h h') | none => none) else none := by
  obtain ⟨hl, he⟩ := List.getElem?_eq_some_iff.1 hi
  rw [List.drop_eq_getElem_cons hl, he, kidsT]
  cases S q <;> rfl
theorem kidsT_end {S : Nat → Option (Nat × Nat)} {ks : List Int} {i q h : Nat} (hi : ks.length ≤ i) : kidsT S (ks.drop i) q h = some (q, h) := by
  rw [List.drop_eq_nil_of_le hi, kidsT]
theorem subT_at {l : List Nx} {f q : Nat} {o : Nx} (h : l[q]? = some o) (hi : isN o = true) : subT l (f + 1) q = (match kidsT (subT l f) o.ks (q + 1) 0 with | some (e, h) => if keysOk l o = true then some (e, h + 1) else none | none => none) := by
  simp only [subT, h, hi, if_true]
  cases kidsT (subT l f) o.ks (q + 1) 0 <;> rfl
theorem subT_no {l : List Nx} {f q : Nat} {o : Nx} (h : l[q]? = some o) (hi : isN o = false) : subT l (f + 1) q = none := by
  simp [subT, h, hi]
/-- a part lies within the list, behind its node -/
theorem subT_in {l : List Nx} : ∀ (f q e h : Nat), subT l f q = some (e, h) → q < e ∧ e ≤ l.length ∧ h ≤ f := by
  intro f
  induction f with
  | zero => intro q e h hh; cases hh
  | succ f ih =>
    have kids : ∀ (ks : List Int) (q h e h' : Nat), q ≤ l.length → h ≤ f → kidsT (subT l f) ks q h = some (e, h') → q ≤ e ∧ e ≤ l.length ∧ h' ≤ f := by
      intro ks
      induction ks with
      | nil => intro q h e h' hq hh hk; simp only [kidsT, Option.some.injEq, Prod.mk.injEq] at hk; omega
      | cons k ks ihk =>
        intro q h e h' hq hh hk
        rw [kidsT] at hk
        split at hk
        · split at hk
          · rename_i e1 h1 hs
            have := ih _ _ _ hs
            have := ihk e1 (max h h1) e h' (by omega) (by omega) hk
            omega
          · cases hk
        · cases hk
    intro q e h hh
    rw [subT] at hh
    split at hh
    · rename_i o ho
      have hq := (List.getElem?_eq_some_iff.1 ho).1
      split at hh
      · split at hh
        · rename_i e1 h1 hk
          have := kids _ _ _ _ _ (by omega) (by omega) hk
          split at hh
          · simp only [Option.some.injEq, Prod.mk.injEq] at hh; omega
          · cases hh
        · cases hh
      · cases hh
    · cases hh
end Go.Proofs.YtmmnpnhffgpchaaGreatDoor

/-
  subtree: the walker goes through a part.
-/
namespace Go.Proofs.YtmmnpnhffgpchaaGreatDoor
open Go.RowKit
set_option linter.unusedVariables false
set_option linter.unusedSimpArgs false
set_option maxRecDepth 100000
end Go.Proofs.YtmmnpnhffgpchaaGreatDoor

/-
  subtree: the walker goes through a part.
-/
namespace Go.Proofs.YtmmnpnhffgpchaaGreatDoor
open Go.RowKit
set_option linter.unusedVariables false
set_option linter.unusedSimpArgs false
set_option maxRecDepth 100000
end Go.Proofs.YtmmnpnhffgpchaaGreatDoor

/-
  subtree, whole: what it answers is the plain function's.
-/
namespace Go.Proofs.YtmmnpnhffgpchaaGreatDoor
open Go.RowKit
set_option linter.unusedVariables false
end Go.Proofs.YtmmnpnhffgpchaaGreatDoor
