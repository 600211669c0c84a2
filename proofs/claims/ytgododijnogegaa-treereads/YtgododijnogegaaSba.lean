/-
  subtree, whole: what it answers is the plain function's.
-/
import Derived.Test.YtgododijnogegaaSo
namespace Go.Proofs.Ytgododijnogegaa
open Go.RowKit
set_option linter.unusedVariables false
theorem sub_none {w w' : World} {p : Nat} {a : Option Addr} {n cap : Nat} {l : List Nx} {dp d : Nat} {e : Ending} {r : Option (Nat × Nat)} (hr : r = none) (he : e = .returned (.bool false)) (hw : ∃ m, w' = w.drewN m) : SubE w p a n cap l dp d r e w' := by
  obtain ⟨m, rfl⟩ := hw
  subst hr he
  exact ⟨⟨rfl, rfl, rfl, Nat.le_refl _, fun _ _ _ => rfl⟩, rfl⟩
theorem sub_any {p : Nat} {a : Option Addr} {n cap : Nat} {l : List Nx} (h42 : C42 p a n cap l) (h43 : C43 p a n cap l) : ∀ (f d : Nat), d + f = 17 → ∀ (w : World) (q dp : Nat), Wk w p a n cap l q dp →
    Calls Try.prog 31 #[.pointer (some ⟨p, 0, none⟩), .int .i64 d] w (SubE w p a n cap l dp d (subT l f q)) := by
  intro f
  induction f with
  | zero =>
    intro d hd w q dp h
    exact (sub_out w p a n cap l q dp d h (by omega) (.inr (by omega))).mono fun e w' ⟨he, hw⟩ => sub_none rfl he hw
  | succ f ih =>
    intro d hd w q dp h
    rcases ho : l[q]? with _ | o
    · have h1 := List.getElem?_eq_none_iff.1 ho
      have h2 := h.len
      have h3 := h.q
      exact (sub_out w p a n cap l q dp d h (by omega) (.inl (by omega))).mono fun e w' ⟨he, hw⟩ => sub_none (subT_out h1) he hw
    · exact sub_in w p a n cap l q dp d f o h (by omega) ho h42 h43 fun w q dp h => by
        have := ih (d + 1) (by omega) w q dp h
        rwa [Int.natCast_add] at this
end Go.Proofs.Ytgododijnogegaa
