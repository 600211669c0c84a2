/-
  The document's block, whole.
-/
import Derived.Test.YtgododijnogegaaPnm
import Derived.Test.YtgododijnogegaaPns
import Derived.Test.YtgododijnogegaaPno
namespace Go.Proofs.Ytgododijnogegaa
open Go.RowKit
set_option linter.unusedVariables false
theorem block_any (rp : Nat) (a : Option Addr) (n cap : Nat) (L : List Tk) : ∀ (f d : Nat), d + f = 17 → ∀ (w : World) (q made : Nat), Rg w rp a n cap L q 0 0 made → q < n →
    Calls Try.prog 38 #[.pointer (some ⟨rp, 0, none⟩), .int .i64 d] w (RrE w rp a n cap L (blkM L f q made)) := by
  intro f
  induction f with
  | zero =>
    intro d hd w q made h hq
    obtain ⟨t, ht⟩ : ∃ t, L[q]? = some t := ⟨L[q]'(by rw [h.len]; exact hq), List.getElem?_eq_getElem _⟩
    exact block_few w rp a n cap L t q made d 0 hd h ht (.inl rfl)
  | succ f ih =>
    intro d hd w q made h hq
    obtain ⟨t, ht⟩ : ∃ t, L[q]? = some t := ⟨L[q]'(by rw [h.len]; exact hq), List.getElem?_eq_getElem _⟩
    by_cases hm : made = 4096
    · exact block_few w rp a n cap L t q made d (f + 1) hd h ht (.inr (.inl hm))
    by_cases h4 : t.kd = 4
    · exact block_few w rp a n cap L t q made d (f + 1) hd h ht (.inr (.inr h4))
    have ih' : ∀ (w : World) (q made : Nat), Rg w rp a n cap L q 0 0 made → q < n → Calls Try.prog 38 #[.pointer (some ⟨rp, 0, none⟩), .int .i64 ((d : Int) + 1)] w (RrE w rp a n cap L (blkM L f q made)) := fun w q made h1 h2 => by
      have := ih (d + 1) (by omega) w q made h1 h2
      rwa [Int.natCast_add] at this
    by_cases h3 : t.kd = 3
    · exact block_map w rp a n cap L t q made d f (by omega) h ht hm h3 ih'
    by_cases h2 : t.kd = 2
    · exact block_seq w rp a n cap L t q made d f (by omega) h ht hm h2 ih'
    exact block_odd w rp a n cap L t q made d f (by omega) h ht hm ⟨h2, h3, h4⟩ ih'
end Go.Proofs.Ytgododijnogegaa
