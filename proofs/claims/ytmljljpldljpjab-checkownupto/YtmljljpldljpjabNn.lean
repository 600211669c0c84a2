/-
  Nothing sorted.
-/
import Derived.Test.YtmljljpldljpjabShs
import Derived.Shelf.SlSortCmp.NoneTotal
namespace Go.Proofs.Ytmljljpldljpjab
open Go.RowKit
theorem sort_none (W : World) (B blk : Nat) : Calls Try.prog 30 #[.slice (some ⟨blk, 0, none⟩) 0 0, .func (.func 31) #[] #[.pointer (some ⟨B, 0, none⟩)]] W fun e w' => e = .returned (.tuple #[]) ∧ w' = W :=
  AnyF.slices_SortFunc_none { Try.laysSlF6_f30 with } (some ⟨blk, 0, none⟩) 0 (.func (.func 31) #[] #[.pointer (some ⟨B, 0, none⟩)]) W
end Go.Proofs.Ytmljljpldljpjab
