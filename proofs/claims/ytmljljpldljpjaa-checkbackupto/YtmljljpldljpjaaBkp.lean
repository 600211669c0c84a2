/-
  What makes one configuration another, merged into the one: plain.
-/
import Derived.Test.YtmljljpldljpjaaMx
import Derived.Test.YtmljljpldljpjaaSb
namespace Go.Proofs.Ytmljljpldljpjaa
open Go.RowKit
set_option linter.unusedVariables false
set_option linter.unusedSimpArgs false
theorem feq_symm {x y : Nat} (h : feq x y = true) : feq y x = true := by
  unfold feq at h ⊢
  have key : ∀ a b : Ieee.Datum, a.order b = some .eq → b.order a = some .eq := by
    intro a b h
    cases a <;> cases b <;> simp [Ieee.Datum.order] at h ⊢
    · rw [Int.min_comm]; exact h.symm
    · split at h <;> cases h
    · split at h <;> cases h
    · exact h.symm
  have h' : FloatKind.f64.format.order x y = some .eq := by simpa using h
  have := key _ _ (show (FloatKind.f64.format.read x).order (FloatKind.f64.format.read y) = some .eq from h')
  simpa using (show FloatKind.f64.format.order y x = some .eq from this)
theorem swt_symm {x y : Nat} (h : swt x y = true) : swt y x = true := by
  unfold swt at h ⊢
  rw [Bool.or_eq_true] at h ⊢
  rcases h with h | h
  · exact .inl (feq_symm h)
  · exact .inr (by rw [Bool.and_comm]; exact h)
theorem SameC.symm {a b : Rs} (h : SameC a b) : SameC b a :=
  ⟨h.key.symm, h.host.symm, h.route.symm, h.del.symm, h.eps.symm, ⟨h.tgs.1.symm, fun j o p h1 h2 => by have := h.tgs.2 j p o h2 h1; exact ⟨this.sv.symm, this.sp.symm, swt_symm this.wt⟩⟩, h.rus.symm⟩
end Go.Proofs.Ytmljljpldljpjaa
