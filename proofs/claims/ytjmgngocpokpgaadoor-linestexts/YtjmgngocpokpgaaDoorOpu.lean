/-
  Bytes of the second form: so many at most.
-/
import Derived.Test.YtjmgngocpokpgaaDoorOpen
namespace Go.Proofs.YtjmgngocpokpgaaDoor
open Go.ChangeShapes Go.WideShapes Go.ChangeAt Go.RowKit
set_option linter.unusedVariables false
theorem open_list_upto {H : Type} {enc : TypeId × Value → H} {W : World} {a : Option Addr} {len cap : Nat} {d : DataW H} {p : List MemPlace} {ds : List (DataW H)} {j : Nat}
    (h : DataW.Trod enc Tryd.prog W 0 (fun _ => true) true 22 (.slice a len cap) d p) (hd : ds[j]? = some d) (hb : Rows.uptoBulkAll ds ≤ 1048576) : len ≤ 1048576 := by
  have hm : d ∈ ds := List.mem_of_getElem? hd
  have h1 := bulk_part hm
  obtain ⟨fuel, hf⟩ := h
  rcases open_ints Tryd.underlying22 Tryd.underlying5 (by kernel_rfl) hf with ⟨hcs, _⟩ | ⟨x, l, c, ys, hcs, _, hl, hm, hz, hx, hcell, hwz⟩
  · simp [Value.cells] at hcs
    obtain ⟨rfl, rfl, rfl⟩ := hcs
    decide
  · simp [Value.cells] at hcs
    obtain ⟨rfl, rfl, rfl⟩ := hcs
    simp only [Prod.mk.injEq] at hx
    obtain ⟨rfl, _⟩ := hx
    have hzl : ys.length = cap := by simpa using hz
    simp only [Rows.uptoBulk] at h1
    have l1 := bulk_length (lits (H := H) .u8 (ys.take len))
    have l2 := bulk_length (lits (H := H) .u8 (ys.drop len))
    simp only [lits, List.length_map, List.length_take, List.length_drop] at l1 l2
    simp only [lits] at h1
    omega
end Go.Proofs.YtjmgngocpokpgaaDoor
