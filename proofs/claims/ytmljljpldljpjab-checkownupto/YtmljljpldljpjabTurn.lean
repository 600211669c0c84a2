/-
  But for some blocks all is as it was.
-/
import Derived.Test.YtmljljpldljpjabBuf
namespace Go.Proofs.Ytmljljpldljpjab
open Go.RowKit
set_option linter.unusedVariables false
set_option linter.unusedSimpArgs false
structure Turn (w w' : World) (own : List Nat) : Prop where
  os : w'.os = w.os
  tape : w'.tape = w.tape
  output : w'.output = w.output
  size : w.heap.size ≤ w'.heap.size
  block : ∀ k, k < w.heap.size → k ∉ own → w'.heap[k]? = w.heap[k]?
theorem Turn.refl (w : World) (own : List Nat) : Turn w w own := ⟨rfl, rfl, rfl, Nat.le_refl _, fun _ _ _ => rfl⟩
theorem Turn.trans {w w1 w2 : World} {own own2 : List Nat} (h : Turn w w1 own) (h2 : Turn w1 w2 own2) (hs : ∀ k ∈ own2, k ∈ own ∨ w.heap.size ≤ k) : Turn w w2 own :=
  ⟨h2.os.trans h.os, h2.tape.trans h.tape, h2.output.trans h.output, Nat.le_trans h.size h2.size, fun k hk hn =>
    (h2.block k (Nat.lt_of_lt_of_le hk h.size) (fun hm => (hs k hm).elim hn (fun h => by omega))).trans (h.block k hk hn)⟩
theorem Turn.grown {w w' : World} {row : Option Nat} (h : w.grownBy w' row) : Turn w w' row.toList :=
  ⟨h.os, h.tape, h.output, h.size, fun k hk hn => h.block k hk (fun e => hn (by rw [← e]; simp))⟩
theorem Turn.setCell (w : World) (k o : Nat) (v : Value) : Turn w (w.setCell ⟨k, o, none⟩ v) [k] :=
  ⟨rfl, rfl, rfl, by simp, fun j hj hn => Below.heap_setCell w _ v j (fun e => hn (by simpa using e))⟩
theorem Turn.alloc (w : World) (o : Obj) : Turn w (w.alloc o) [] := ⟨rfl, rfl, rfl, by simp, fun k hk _ => Below.heap_alloc w o k hk⟩
theorem Turn.drew (w : World) : Turn w w.drew [] := ⟨rfl, rfl, rfl, Nat.le_refl _, fun k hk _ => rfl⟩
theorem Turn.mono {w w' : World} {own own' : List Nat} (h : Turn w w' own) (hs : ∀ k ∈ own, k ∈ own' ∨ w.heap.size ≤ k) : Turn w w' own' :=
  ⟨h.os, h.tape, h.output, h.size, fun k hk hn => h.block k hk (fun hm => (hs k hm).elim hn (fun h => by omega))⟩
theorem Turn.below {w w' : World} {own : List Nat} {B : Nat} (h : Turn w w' own) (hB : B ≤ w.heap.size) (hl : ∀ k ∈ own, B ≤ k) : Below B w w' :=
  ⟨h.os, h.tape, h.output, h.size, fun k hk => h.block k (by omega) (fun hm => by have := hl k hm; omega)⟩
theorem lt_of_block {w : World} {k : Nat} {o : Obj} (h : w.heap[k]? = some o) : k < w.heap.size := by
  rcases Nat.lt_or_ge k w.heap.size with hlt | hge
  · exact hlt
  · rw [Array.getElem?_eq_none hge] at h; cases h
theorem block_setCell {w : World} {k : Nat} {cs : Array Value} {t : TypeId} {fr : Nat × Nat} (h : w.heap[k]? = some (.cells cs t fr)) (o : Nat) (v : Value) :
    (w.setCell ⟨k, o, none⟩ v).heap[k]? = some (.cells (cs.setIfInBounds o v) t fr) := by
  rw [setCell_eq_setRow w k o cs t fr v h]
  unfold World.setRow
  simp [Array.getElem?_modify, h]
end Go.Proofs.Ytmljljpldljpjab
