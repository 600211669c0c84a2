/-
  Copies of targets and of rules.
-/
import Derived.Test.YtmljljpldljpjabCp
import Derived.Test.YtmljljpldljpjabTurn
import Derived.Deep.RegionHeld3
namespace Go.Proofs.Ytmljljpldljpjab
open Go.RowKit
set_option linter.unusedVariables false
set_option linter.unusedSimpArgs false
set_option maxRecDepth 100000
set_option maxHeartbeats 2000000 in
theorem set3 {X : World} {p : Nat} {t : TypeId} {a0 a1 a2 : Value} (h : X.heap[p]? = some (.cells #[a0, a1, a2] t (0, 0))) (x0 x1 x2 : Value) :
    (X.frozen? ⟨p, 0, none⟩ = false ∧ (X.setCell ⟨p, 0, none⟩ x0).frozen? ⟨p, 1, none⟩ = false ∧ ((X.setCell ⟨p, 0, none⟩ x0).setCell ⟨p, 1, none⟩ x1).frozen? ⟨p, 2, none⟩ = false) ∧
    (X.cell? ⟨p, 0, none⟩ = some a0 ∧ (X.setCell ⟨p, 0, none⟩ x0).cell? ⟨p, 1, none⟩ = some a1 ∧ ((X.setCell ⟨p, 0, none⟩ x0).setCell ⟨p, 1, none⟩ x1).cell? ⟨p, 2, none⟩ = some a2) ∧
    ((((X.setCell ⟨p, 0, none⟩ x0).setCell ⟨p, 1, none⟩ x1).setCell ⟨p, 2, none⟩ x2).cell? ⟨p, 0, none⟩ = some x0 ∧ (((X.setCell ⟨p, 0, none⟩ x0).setCell ⟨p, 1, none⟩ x1).setCell ⟨p, 2, none⟩ x2).cell? ⟨p, 1, none⟩ = some x1 ∧ (((X.setCell ⟨p, 0, none⟩ x0).setCell ⟨p, 1, none⟩ x1).setCell ⟨p, 2, none⟩ x2).cell? ⟨p, 2, none⟩ = some x2) ∧
    But p X (((X.setCell ⟨p, 0, none⟩ x0).setCell ⟨p, 1, none⟩ x1).setCell ⟨p, 2, none⟩ x2) ∧ (((X.setCell ⟨p, 0, none⟩ x0).setCell ⟨p, 1, none⟩ x1).setCell ⟨p, 2, none⟩ x2).heap[p]? = some (.cells #[x0, x1, x2] t (0, 0)) := by
  have h0 := h
  have h1 : (X.setCell ⟨p, 0, none⟩ x0).heap[p]? = some (.cells #[x0, a1, a2] t (0, 0)) := heap_setCell_same _ p 0 _ t x0 h0
  have h2 : ((X.setCell ⟨p, 0, none⟩ x0).setCell ⟨p, 1, none⟩ x1).heap[p]? = some (.cells #[x0, x1, a2] t (0, 0)) := heap_setCell_same _ p 1 _ t x1 h1
  have h3 : (((X.setCell ⟨p, 0, none⟩ x0).setCell ⟨p, 1, none⟩ x1).setCell ⟨p, 2, none⟩ x2).heap[p]? = some (.cells #[x0, x1, x2] t (0, 0)) := heap_setCell_same _ p 2 _ t x2 h2
  refine ⟨⟨by simp [World.frozen?, h0], by simp [World.frozen?, h1], by simp [World.frozen?, h2]⟩, ⟨by rw [cell_block h0]; rfl, by rw [cell_block h1]; rfl, by rw [cell_block h2]; rfl⟩, ⟨by rw [cell_block h3]; rfl, by rw [cell_block h3]; rfl, by rw [cell_block h3]; rfl⟩, ((But.set 0 x0).trans (But.set 1 x1)).trans (But.set 2 x2), ?_⟩
  exact h3
set_option maxHeartbeats 2000000 in
theorem set4 {X : World} {p : Nat} {t : TypeId} {a0 a1 a2 a3 : Value} (h : X.heap[p]? = some (.cells #[a0, a1, a2, a3] t (0, 0))) (x0 x1 x2 x3 : Value) :
    (X.frozen? ⟨p, 0, none⟩ = false ∧ (X.setCell ⟨p, 0, none⟩ x0).frozen? ⟨p, 1, none⟩ = false ∧ ((X.setCell ⟨p, 0, none⟩ x0).setCell ⟨p, 1, none⟩ x1).frozen? ⟨p, 2, none⟩ = false ∧ (((X.setCell ⟨p, 0, none⟩ x0).setCell ⟨p, 1, none⟩ x1).setCell ⟨p, 2, none⟩ x2).frozen? ⟨p, 3, none⟩ = false) ∧
    (X.cell? ⟨p, 0, none⟩ = some a0 ∧ (X.setCell ⟨p, 0, none⟩ x0).cell? ⟨p, 1, none⟩ = some a1 ∧ ((X.setCell ⟨p, 0, none⟩ x0).setCell ⟨p, 1, none⟩ x1).cell? ⟨p, 2, none⟩ = some a2 ∧ (((X.setCell ⟨p, 0, none⟩ x0).setCell ⟨p, 1, none⟩ x1).setCell ⟨p, 2, none⟩ x2).cell? ⟨p, 3, none⟩ = some a3) ∧
    (((((X.setCell ⟨p, 0, none⟩ x0).setCell ⟨p, 1, none⟩ x1).setCell ⟨p, 2, none⟩ x2).setCell ⟨p, 3, none⟩ x3).cell? ⟨p, 0, none⟩ = some x0 ∧ ((((X.setCell ⟨p, 0, none⟩ x0).setCell ⟨p, 1, none⟩ x1).setCell ⟨p, 2, none⟩ x2).setCell ⟨p, 3, none⟩ x3).cell? ⟨p, 1, none⟩ = some x1 ∧ ((((X.setCell ⟨p, 0, none⟩ x0).setCell ⟨p, 1, none⟩ x1).setCell ⟨p, 2, none⟩ x2).setCell ⟨p, 3, none⟩ x3).cell? ⟨p, 2, none⟩ = some x2 ∧ ((((X.setCell ⟨p, 0, none⟩ x0).setCell ⟨p, 1, none⟩ x1).setCell ⟨p, 2, none⟩ x2).setCell ⟨p, 3, none⟩ x3).cell? ⟨p, 3, none⟩ = some x3) ∧
    But p X ((((X.setCell ⟨p, 0, none⟩ x0).setCell ⟨p, 1, none⟩ x1).setCell ⟨p, 2, none⟩ x2).setCell ⟨p, 3, none⟩ x3) ∧ ((((X.setCell ⟨p, 0, none⟩ x0).setCell ⟨p, 1, none⟩ x1).setCell ⟨p, 2, none⟩ x2).setCell ⟨p, 3, none⟩ x3).heap[p]? = some (.cells #[x0, x1, x2, x3] t (0, 0)) := by
  have h0 := h
  have h1 : (X.setCell ⟨p, 0, none⟩ x0).heap[p]? = some (.cells #[x0, a1, a2, a3] t (0, 0)) := heap_setCell_same _ p 0 _ t x0 h0
  have h2 : ((X.setCell ⟨p, 0, none⟩ x0).setCell ⟨p, 1, none⟩ x1).heap[p]? = some (.cells #[x0, x1, a2, a3] t (0, 0)) := heap_setCell_same _ p 1 _ t x1 h1
  have h3 : (((X.setCell ⟨p, 0, none⟩ x0).setCell ⟨p, 1, none⟩ x1).setCell ⟨p, 2, none⟩ x2).heap[p]? = some (.cells #[x0, x1, x2, a3] t (0, 0)) := heap_setCell_same _ p 2 _ t x2 h2
  have h4 : ((((X.setCell ⟨p, 0, none⟩ x0).setCell ⟨p, 1, none⟩ x1).setCell ⟨p, 2, none⟩ x2).setCell ⟨p, 3, none⟩ x3).heap[p]? = some (.cells #[x0, x1, x2, x3] t (0, 0)) := heap_setCell_same _ p 3 _ t x3 h3
  refine ⟨⟨by simp [World.frozen?, h0], by simp [World.frozen?, h1], by simp [World.frozen?, h2], by simp [World.frozen?, h3]⟩, ⟨by rw [cell_block h0]; rfl, by rw [cell_block h1]; rfl, by rw [cell_block h2]; rfl, by rw [cell_block h3]; rfl⟩, ⟨by rw [cell_block h4]; rfl, by rw [cell_block h4]; rfl, by rw [cell_block h4]; rfl, by rw [cell_block h4]; rfl⟩, (((But.set 0 x0).trans (But.set 1 x1)).trans (But.set 2 x2)).trans (But.set 3 x3), ?_⟩
  exact h4
set_option maxHeartbeats 2000000 in
theorem set8 {X : World} {p : Nat} {t : TypeId} {a0 a1 a2 a3 a4 a5 a6 a7 : Value} (h : X.heap[p]? = some (.cells #[a0, a1, a2, a3, a4, a5, a6, a7] t (0, 0))) (x0 x1 x2 x3 x4 x5 x6 x7 : Value) :
    (X.frozen? ⟨p, 0, none⟩ = false ∧ (X.setCell ⟨p, 0, none⟩ x0).frozen? ⟨p, 1, none⟩ = false ∧ ((X.setCell ⟨p, 0, none⟩ x0).setCell ⟨p, 1, none⟩ x1).frozen? ⟨p, 2, none⟩ = false ∧ (((X.setCell ⟨p, 0, none⟩ x0).setCell ⟨p, 1, none⟩ x1).setCell ⟨p, 2, none⟩ x2).frozen? ⟨p, 3, none⟩ = false ∧ ((((X.setCell ⟨p, 0, none⟩ x0).setCell ⟨p, 1, none⟩ x1).setCell ⟨p, 2, none⟩ x2).setCell ⟨p, 3, none⟩ x3).frozen? ⟨p, 4, none⟩ = false ∧ (((((X.setCell ⟨p, 0, none⟩ x0).setCell ⟨p, 1, none⟩ x1).setCell ⟨p, 2, none⟩ x2).setCell ⟨p, 3, none⟩ x3).setCell ⟨p, 4, none⟩ x4).frozen? ⟨p, 5, none⟩ = false ∧ ((((((X.setCell ⟨p, 0, none⟩ x0).setCell ⟨p, 1, none⟩ x1).setCell ⟨p, 2, none⟩ x2).setCell ⟨p, 3, none⟩ x3).setCell ⟨p, 4, none⟩ x4).setCell ⟨p, 5, none⟩ x5).frozen? ⟨p, 6, none⟩ = false ∧ (((((((X.setCell ⟨p, 0, none⟩ x0).setCell ⟨p, 1, none⟩ x1).setCell ⟨p, 2, none⟩ x2).setCell ⟨p, 3, none⟩ x3).setCell ⟨p, 4, none⟩ x4).setCell ⟨p, 5, none⟩ x5).setCell ⟨p, 6, none⟩ x6).frozen? ⟨p, 7, none⟩ = false) ∧
    (X.cell? ⟨p, 0, none⟩ = some a0 ∧ (X.setCell ⟨p, 0, none⟩ x0).cell? ⟨p, 1, none⟩ = some a1 ∧ ((X.setCell ⟨p, 0, none⟩ x0).setCell ⟨p, 1, none⟩ x1).cell? ⟨p, 2, none⟩ = some a2 ∧ (((X.setCell ⟨p, 0, none⟩ x0).setCell ⟨p, 1, none⟩ x1).setCell ⟨p, 2, none⟩ x2).cell? ⟨p, 3, none⟩ = some a3 ∧ ((((X.setCell ⟨p, 0, none⟩ x0).setCell ⟨p, 1, none⟩ x1).setCell ⟨p, 2, none⟩ x2).setCell ⟨p, 3, none⟩ x3).cell? ⟨p, 4, none⟩ = some a4 ∧ (((((X.setCell ⟨p, 0, none⟩ x0).setCell ⟨p, 1, none⟩ x1).setCell ⟨p, 2, none⟩ x2).setCell ⟨p, 3, none⟩ x3).setCell ⟨p, 4, none⟩ x4).cell? ⟨p, 5, none⟩ = some a5 ∧ ((((((X.setCell ⟨p, 0, none⟩ x0).setCell ⟨p, 1, none⟩ x1).setCell ⟨p, 2, none⟩ x2).setCell ⟨p, 3, none⟩ x3).setCell ⟨p, 4, none⟩ x4).setCell ⟨p, 5, none⟩ x5).cell? ⟨p, 6, none⟩ = some a6 ∧ (((((((X.setCell ⟨p, 0, none⟩ x0).setCell ⟨p, 1, none⟩ x1).setCell ⟨p, 2, none⟩ x2).setCell ⟨p, 3, none⟩ x3).setCell ⟨p, 4, none⟩ x4).setCell ⟨p, 5, none⟩ x5).setCell ⟨p, 6, none⟩ x6).cell? ⟨p, 7, none⟩ = some a7) ∧
    (((((((((X.setCell ⟨p, 0, none⟩ x0).setCell ⟨p, 1, none⟩ x1).setCell ⟨p, 2, none⟩ x2).setCell ⟨p, 3, none⟩ x3).setCell ⟨p, 4, none⟩ x4).setCell ⟨p, 5, none⟩ x5).setCell ⟨p, 6, none⟩ x6).setCell ⟨p, 7, none⟩ x7).cell? ⟨p, 0, none⟩ = some x0 ∧ ((((((((X.setCell ⟨p, 0, none⟩ x0).setCell ⟨p, 1, none⟩ x1).setCell ⟨p, 2, none⟩ x2).setCell ⟨p, 3, none⟩ x3).setCell ⟨p, 4, none⟩ x4).setCell ⟨p, 5, none⟩ x5).setCell ⟨p, 6, none⟩ x6).setCell ⟨p, 7, none⟩ x7).cell? ⟨p, 1, none⟩ = some x1 ∧ ((((((((X.setCell ⟨p, 0, none⟩ x0).setCell ⟨p, 1, none⟩ x1).setCell ⟨p, 2, none⟩ x2).setCell ⟨p, 3, none⟩ x3).setCell ⟨p, 4, none⟩ x4).setCell ⟨p, 5, none⟩ x5).setCell ⟨p, 6, none⟩ x6).setCell ⟨p, 7, none⟩ x7).cell? ⟨p, 2, none⟩ = some x2 ∧ ((((((((X.setCell ⟨p, 0, none⟩ x0).setCell ⟨p, 1, none⟩ x1).setCell ⟨p, 2, none⟩ x2).setCell ⟨p, 3, none⟩ x3).setCell ⟨p, 4, none⟩ x4).setCell ⟨p, 5, none⟩ x5).setCell ⟨p, 6, none⟩ x6).setCell ⟨p, 7, none⟩ x7).cell? ⟨p, 3, none⟩ = some x3 ∧ ((((((((X.setCell ⟨p, 0, none⟩ x0).setCell ⟨p, 1, none⟩ x1).setCell ⟨p, 2, none⟩ x2).setCell ⟨p, 3, none⟩ x3).setCell ⟨p, 4, none⟩ x4).setCell ⟨p, 5, none⟩ x5).setCell ⟨p, 6, none⟩ x6).setCell ⟨p, 7, none⟩ x7).cell? ⟨p, 4, none⟩ = some x4 ∧ ((((((((X.setCell ⟨p, 0, none⟩ x0).setCell ⟨p, 1, none⟩ x1).setCell ⟨p, 2, none⟩ x2).setCell ⟨p, 3, none⟩ x3).setCell ⟨p, 4, none⟩ x4).setCell ⟨p, 5, none⟩ x5).setCell ⟨p, 6, none⟩ x6).setCell ⟨p, 7, none⟩ x7).cell? ⟨p, 5, none⟩ = some x5 ∧ ((((((((X.setCell ⟨p, 0, none⟩ x0).setCell ⟨p, 1, none⟩ x1).setCell ⟨p, 2, none⟩ x2).setCell ⟨p, 3, none⟩ x3).setCell ⟨p, 4, none⟩ x4).setCell ⟨p, 5, none⟩ x5).setCell ⟨p, 6, none⟩ x6).setCell ⟨p, 7, none⟩ x7).cell? ⟨p, 6, none⟩ = some x6 ∧ ((((((((X.setCell ⟨p, 0, none⟩ x0).setCell ⟨p, 1, none⟩ x1).setCell ⟨p, 2, none⟩ x2).setCell ⟨p, 3, none⟩ x3).setCell ⟨p, 4, none⟩ x4).setCell ⟨p, 5, none⟩ x5).setCell ⟨p, 6, none⟩ x6).setCell ⟨p, 7, none⟩ x7).cell? ⟨p, 7, none⟩ = some x7) ∧
    But p X ((((((((X.setCell ⟨p, 0, none⟩ x0).setCell ⟨p, 1, none⟩ x1).setCell ⟨p, 2, none⟩ x2).setCell ⟨p, 3, none⟩ x3).setCell ⟨p, 4, none⟩ x4).setCell ⟨p, 5, none⟩ x5).setCell ⟨p, 6, none⟩ x6).setCell ⟨p, 7, none⟩ x7) ∧ ((((((((X.setCell ⟨p, 0, none⟩ x0).setCell ⟨p, 1, none⟩ x1).setCell ⟨p, 2, none⟩ x2).setCell ⟨p, 3, none⟩ x3).setCell ⟨p, 4, none⟩ x4).setCell ⟨p, 5, none⟩ x5).setCell ⟨p, 6, none⟩ x6).setCell ⟨p, 7, none⟩ x7).heap[p]? = some (.cells #[x0, x1, x2, x3, x4, x5, x6, x7] t (0, 0)) := by
  have h0 := h
  have h1 : (X.setCell ⟨p, 0, none⟩ x0).heap[p]? = some (.cells #[x0, a1, a2, a3, a4, a5, a6, a7] t (0, 0)) := heap_setCell_same _ p 0 _ t x0 h0
  have h2 : ((X.setCell ⟨p, 0, none⟩ x0).setCell ⟨p, 1, none⟩ x1).heap[p]? = some (.cells #[x0, x1, a2, a3, a4, a5, a6, a7] t (0, 0)) := heap_setCell_same _ p 1 _ t x1 h1
  have h3 : (((X.setCell ⟨p, 0, none⟩ x0).setCell ⟨p, 1, none⟩ x1).setCell ⟨p, 2, none⟩ x2).heap[p]? = some (.cells #[x0, x1, x2, a3, a4, a5, a6, a7] t (0, 0)) := heap_setCell_same _ p 2 _ t x2 h2
  have h4 : ((((X.setCell ⟨p, 0, none⟩ x0).setCell ⟨p, 1, none⟩ x1).setCell ⟨p, 2, none⟩ x2).setCell ⟨p, 3, none⟩ x3).heap[p]? = some (.cells #[x0, x1, x2, x3, a4, a5, a6, a7] t (0, 0)) := heap_setCell_same _ p 3 _ t x3 h3
  have h5 : (((((X.setCell ⟨p, 0, none⟩ x0).setCell ⟨p, 1, none⟩ x1).setCell ⟨p, 2, none⟩ x2).setCell ⟨p, 3, none⟩ x3).setCell ⟨p, 4, none⟩ x4).heap[p]? = some (.cells #[x0, x1, x2, x3, x4, a5, a6, a7] t (0, 0)) := heap_setCell_same _ p 4 _ t x4 h4
  have h6 : ((((((X.setCell ⟨p, 0, none⟩ x0).setCell ⟨p, 1, none⟩ x1).setCell ⟨p, 2, none⟩ x2).setCell ⟨p, 3, none⟩ x3).setCell ⟨p, 4, none⟩ x4).setCell ⟨p, 5, none⟩ x5).heap[p]? = some (.cells #[x0, x1, x2, x3, x4, x5, a6, a7] t (0, 0)) := heap_setCell_same _ p 5 _ t x5 h5
  have h7 : (((((((X.setCell ⟨p, 0, none⟩ x0).setCell ⟨p, 1, none⟩ x1).setCell ⟨p, 2, none⟩ x2).setCell ⟨p, 3, none⟩ x3).setCell ⟨p, 4, none⟩ x4).setCell ⟨p, 5, none⟩ x5).setCell ⟨p, 6, none⟩ x6).heap[p]? = some (.cells #[x0, x1, x2, x3, x4, x5, x6, a7] t (0, 0)) := heap_setCell_same _ p 6 _ t x6 h6
  have h8 : ((((((((X.setCell ⟨p, 0, none⟩ x0).setCell ⟨p, 1, none⟩ x1).setCell ⟨p, 2, none⟩ x2).setCell ⟨p, 3, none⟩ x3).setCell ⟨p, 4, none⟩ x4).setCell ⟨p, 5, none⟩ x5).setCell ⟨p, 6, none⟩ x6).setCell ⟨p, 7, none⟩ x7).heap[p]? = some (.cells #[x0, x1, x2, x3, x4, x5, x6, x7] t (0, 0)) := heap_setCell_same _ p 7 _ t x7 h7
  refine ⟨⟨by simp [World.frozen?, h0], by simp [World.frozen?, h1], by simp [World.frozen?, h2], by simp [World.frozen?, h3], by simp [World.frozen?, h4], by simp [World.frozen?, h5], by simp [World.frozen?, h6], by simp [World.frozen?, h7]⟩, ⟨by rw [cell_block h0]; rfl, by rw [cell_block h1]; rfl, by rw [cell_block h2]; rfl, by rw [cell_block h3]; rfl, by rw [cell_block h4]; rfl, by rw [cell_block h5]; rfl, by rw [cell_block h6]; rfl, by rw [cell_block h7]; rfl⟩, ⟨by rw [cell_block h8]; rfl, by rw [cell_block h8]; rfl, by rw [cell_block h8]; rfl, by rw [cell_block h8]; rfl, by rw [cell_block h8]; rfl, by rw [cell_block h8]; rfl, by rw [cell_block h8]; rfl, by rw [cell_block h8]; rfl⟩, (((((((But.set 0 x0).trans (But.set 1 x1)).trans (But.set 2 x2)).trans (But.set 3 x3)).trans (But.set 4 x4)).trans (But.set 5 x5)).trans (But.set 6 x6)).trans (But.set 7 x7), ?_⟩
  exact h8
theorem st_float (w : World) (a : Addr) (b : Nat) (m : Mode) : (store a (.float .f64 b) m).run Try.prog w = stored Try.prog w a (.float .f64 b) m := run_store Try.prog w a _ m rfl
theorem blk1 (w : World) (A B : Obj) : ((w.alloc A).alloc B).heap[w.heap.size]? = some A := by
  rw [Below.heap_alloc _ _ _ (by simp), heap_alloc_new]
theorem blk2 (w : World) (A B : Obj) : ((w.alloc A).alloc B).heap[w.heap.size + 1]? = some B := by
  have := heap_alloc_new (w.alloc A) B
  simpa using this
theorem But.belowW {w X Y : World} {p : Nat} (h : But p X Y) (hb : Below w.heap.size w X) (hp : w.heap.size ≤ p) : Below w.heap.size w Y := hb.trans (h.below hb.size hp)
def Tg.val (t : Tg) : Value := .agg #[.string t.sv, .string t.sp, .float .f64 t.wt]
def Ru.val (r : Ru) : Value := .agg #[.string r.pa, .string r.me, .string r.sp, .bool r.al]
set_option maxHeartbeats 8000000 in
theorem copyTg_any (w : World) (t : Tg) (h1 : okS t.sv) (h2 : okS t.sp) : Calls Try.prog 53 #[t.val] w fun e w' => e = .returned t.val ∧ Below w.heap.size w w' := by
  obtain ⟨sv, sp, wt⟩ := t
  unfold Tg.val
  dsimp only at h1 h2 ⊢
  have HA := hideL (blk1 w (.cells #[.string sv, .string sp, .float .f64 wt] 46 (0, 0)) (.cells #[.string ⟨#[]⟩, .string ⟨#[]⟩, .float .f64 0] 46 (0, 0)))
  have HC := hideL (blk2 w (.cells #[.string sv, .string sp, .float .f64 wt] 46 (0, 0)) (.cells #[.string ⟨#[]⟩, .string ⟨#[]⟩, .float .f64 0] 46 (0, 0)))
  have HB0 := hideL (((Gr.alloc w (.cells #[.string sv, .string sp, .float .f64 wt] 46 (0, 0))).trans (Gr.alloc _ (.cells #[.string ⟨#[]⟩, .string ⟨#[]⟩, .float .f64 0] 46 (0, 0)))).below)
  have HSZ : Hid (((w.alloc (.cells #[.string sv, .string sp, .float .f64 wt] 46 (0, 0))).alloc (.cells #[.string ⟨#[]⟩, .string ⟨#[]⟩, .float .f64 0] 46 (0, 0))).heap.size = w.heap.size + 2) := by unfold Hid; simp
  go_enter Try.func53, Try.ntmps53
  go_wp2_with fail
  generalize (w.alloc (.cells #[.string sv, .string sp, .float .f64 wt] 46 (0, 0))).alloc (.cells #[.string ⟨#[]⟩, .string ⟨#[]⟩, .float .f64 0] 46 (0, 0)) = wx at HA HC HB0 HSZ ⊢
  have HK := hideL (fun (W : World) (h : Below wx.heap.size wx W) => show (_ ∧ _ ∧ _ ∧ _) from ⟨cell_of_below h ((cell_block HA.out 0).trans rfl), cell_of_below h ((cell_block HA.out 1).trans rfl), cell_of_below h ((cell_block HA.out 2).trans rfl), (h.block _ (by have := HSZ.out; omega)).trans HC.out⟩)
  obtain ⟨c0, c1, c2, -⟩ := HK.out wx (Below.refl _ _)
  have st := st_float
  go_region_held3 (fun w' => w'.cell? ⟨w.heap.size, 0, none⟩ = some (.string sv) ∧ w'.cell? ⟨w.heap.size, 1, none⟩ = some (.string sp) ∧ w'.cell? ⟨w.heap.size, 2, none⟩ = some (.float .f64 wt)) (go_keep)
    (first
      | (go_at_call 50; refine (clone_any sp _ h2).mono ?_; rintro e w6 ⟨rfl, hb6⟩; have B6 : Hid (Below wx.heap.size wx w6) := B5.out.trans (hb6.mono B5.out.size); obtain ⟨l1, l2, l3, l4⟩ := HK.out w6 B6.out; obtain ⟨⟨f0, f1, f2⟩, ⟨g0, g1, g2⟩, ⟨k0, k1, k2⟩, hbut, -⟩ := set3 l4 (.string sv) (.string sp) (.float .f64 wt); have HBT := hideL hbut; clear hb6 hbut)
      | (go_at_call 50; refine (clone_any sv _ h1).mono ?_; rintro e w5 ⟨rfl, hb5⟩; have B5 : Hid (Below wx.heap.size wx w5) := (below_drewN (Below.refl _ wx) 1).trans hb5; obtain ⟨m1, m2, m3, m4⟩ := HK.out w5 B5.out; clear hb5))
  have HBE := hideL (HBT.out.belowW (HB0.out.trans (B6.out.mono HB0.out.size)) (Nat.le_succ _))
  clear HBT
  go_wp2
  exact bodyPost_ret (v := .agg #[.string sv, .string sp, .float .f64 wt]) (by simp [results, Try.results53, go_sem, k0, k1, k2]) rfl ⟨rfl, HBE.out⟩
set_option maxHeartbeats 8000000 in
theorem copyRu_any (w : World) (t : Ru) (h1 : okS t.pa) (h2 : okS t.me) (h3 : okS t.sp) : Calls Try.prog 55 #[t.val] w fun e w' => e = .returned t.val ∧ Below w.heap.size w w' := by
  obtain ⟨pa, me, sp, al⟩ := t
  unfold Ru.val
  dsimp only at h1 h2 h3 ⊢
  have HA := hideL (blk1 w (.cells #[.string pa, .string me, .string sp, .bool al] 58 (0, 0)) (.cells #[.string ⟨#[]⟩, .string ⟨#[]⟩, .string ⟨#[]⟩, .bool false] 58 (0, 0)))
  have HC := hideL (blk2 w (.cells #[.string pa, .string me, .string sp, .bool al] 58 (0, 0)) (.cells #[.string ⟨#[]⟩, .string ⟨#[]⟩, .string ⟨#[]⟩, .bool false] 58 (0, 0)))
  have HB0 := hideL (((Gr.alloc w (.cells #[.string pa, .string me, .string sp, .bool al] 58 (0, 0))).trans (Gr.alloc _ (.cells #[.string ⟨#[]⟩, .string ⟨#[]⟩, .string ⟨#[]⟩, .bool false] 58 (0, 0)))).below)
  have HSZ : Hid (((w.alloc (.cells #[.string pa, .string me, .string sp, .bool al] 58 (0, 0))).alloc (.cells #[.string ⟨#[]⟩, .string ⟨#[]⟩, .string ⟨#[]⟩, .bool false] 58 (0, 0))).heap.size = w.heap.size + 2) := by unfold Hid; simp
  go_enter Try.func55, Try.ntmps55
  go_wp2_with fail
  generalize (w.alloc (.cells #[.string pa, .string me, .string sp, .bool al] 58 (0, 0))).alloc (.cells #[.string ⟨#[]⟩, .string ⟨#[]⟩, .string ⟨#[]⟩, .bool false] 58 (0, 0)) = wx at HA HC HB0 HSZ ⊢
  have HK := hideL (fun (W : World) (h : Below wx.heap.size wx W) => show (_ ∧ _ ∧ _ ∧ _ ∧ _) from ⟨cell_of_below h ((cell_block HA.out 0).trans rfl), cell_of_below h ((cell_block HA.out 1).trans rfl), cell_of_below h ((cell_block HA.out 2).trans rfl), cell_of_below h ((cell_block HA.out 3).trans rfl), (h.block _ (by have := HSZ.out; omega)).trans HC.out⟩)
  obtain ⟨c0, c1, c2, c3, -⟩ := HK.out wx (Below.refl _ _)
  go_region_held3 (fun w' => w'.cell? ⟨w.heap.size, 0, none⟩ = some (.string pa) ∧ w'.cell? ⟨w.heap.size, 1, none⟩ = some (.string me) ∧ w'.cell? ⟨w.heap.size, 2, none⟩ = some (.string sp) ∧ w'.cell? ⟨w.heap.size, 3, none⟩ = some (.bool al)) (go_keep)
    (first
      | (go_at_call 50; refine (clone_any sp _ h3).mono ?_; rintro e w6 ⟨rfl, hb6⟩; have B6 : Hid (Below wx.heap.size wx w6) := B4.out.trans (hb6.mono B4.out.size); obtain ⟨l1, l2, l3, l3', l4⟩ := HK.out w6 B6.out; obtain ⟨⟨f0, f1, f2, f3⟩, ⟨g0, g1, g2, g3⟩, ⟨k0, k1, k2, k3⟩, hbut, -⟩ := set4 l4 (.string pa) (.string me) (.string sp) (.bool al); have HBT := hideL hbut; clear hb6 hbut)
      | (go_at_call 50; refine (clone_any me _ h2).mono ?_; rintro e w4 ⟨rfl, hb4⟩; have B4 : Hid (Below wx.heap.size wx w4) := B5.out.trans (hb4.mono B5.out.size); obtain ⟨n1, n2, n3, n3', n4⟩ := HK.out w4 B4.out; clear hb4)
      | (go_at_call 50; refine (clone_any pa _ h1).mono ?_; rintro e w5 ⟨rfl, hb5⟩; have B5 : Hid (Below wx.heap.size wx w5) := (below_drewN (Below.refl _ wx) 1).trans hb5; obtain ⟨m1, m2, m3, m3', m4⟩ := HK.out w5 B5.out; clear hb5))
  have HBE := hideL (HBT.out.belowW (HB0.out.trans (B6.out.mono HB0.out.size)) (Nat.le_succ _))
  clear HBT
  go_wp2
  exact bodyPost_ret (v := .agg #[.string pa, .string me, .string sp, .bool al]) (by simp [results, Try.results55, go_sem, k0, k1, k2, k3]) rfl ⟨rfl, HBE.out⟩
set_option maxHeartbeats 8000000 in
theorem copiesT_any (w : World) (a : Option Addr) (n c : Nat) (L : List Tg) (hn : L.length = n) (hl : n ≤ 1048576) (hS : Cel w a 3 (L.map Tg.row)) (hok : ∀ s ∈ L, okS s.sv ∧ okS s.sp) :
    Calls Try.prog 52 #[.slice a n c, .func (.func 53) #[] #[]] w fun e w' => ∃ v, e = .returned v ∧ w'.ownsRow w.heap.size 46 3 v n (rowsOf Tg.row L) ∧ Below w.heap.size w w' := by
  have HS := hideL hS
  have HN := hideL hn
  have HK := hideL hok
  clear hS hn hok
  obtain ⟨i57, hi57, hx0, hx1, hx2⟩ := info_parts Try.info46
  go_enter Try.func52, Try.ntmps52
  go_wp2_with (at_make; refine wpList_make_own _ rfl (.const (.int .i64 0)) (.tmp 9) 31 rfl w.heap.size 46 i57 _ 3 Try.underlying31 hi57 hx0 hx1 .i64 .i64 (n : Int) n rfl rfl (by omega) (by rw [hx2]; omega) (by unfold maxLen; omega) (Nat.le_refl _) ?_; intro w1 hown1 hgrow1; have HO1 := hideL hown1; have HB1 := hideL (made_row hown1 hgrow1); clear hown1 hgrow1)
  go_loopw [5, 13] (fun v t wr => ∃ (i : Nat), t = .int .i64 i ∧ i ≤ n ∧ wr.ownsRow w.heap.size 46 3 v i (rowsOf Tg.row (L.take i)) ∧ Below w.heap.size w wr) (fun _ t _ => n - (intOf t).toNat)
  case atStart => exact ⟨0, rfl, by omega, by simpa [rowsOf] using HO1.out, HB1.out⟩
  case round =>
    obtain ⟨i, rfl, hi, hown, hbel⟩ := hrel
    have i0 : (0 : Int) ≤ i := by omega
    obtain ⟨va, vc, rfl, _, hvc, hvm⟩ := own_form hown
    have HOW := hideL hown
    have HB := hideL hbel
    have hlm : i + 1 ≤ maxLen := by unfold maxLen; omega
    have hlb : (i + 1) * 40 ≤ 140737488355328 := by omega
    clear hown hbel HO1 HB1
    by_cases h3 : i < n
    · have h3' : (i : Int) < n := by omega
      rcases hki : L[i]? with _ | o
      · have := List.getElem?_eq_none_iff.1 hki; have := HN.out; omega
      obtain ⟨g, off, rfl, hc⟩ := (HS.out.below HB.out).at_ hki
      have c0 := hc 0 _ rfl
      have c1 := hc 1 _ rfl
      have c2 := hc 2 _ rfl
      rw [Nat.add_zero] at c0
      have st := st_float
      have HTR := hideL (take_rows Tg.row hki)
      have hoko := HK.out o (List.mem_of_getElem? hki)
      clear hc hki
      go_wp2_with fail
      refine (copyTg_any _ o hoko.1 hoko.2).mono ?_
      rintro e w2 ⟨rfl, hb2'⟩
      have hb2 := ((Gr.alloc wr _).below).trans (hb2'.mono (Gr.alloc wr _).below.size)
      clear hb2'
      have HB2 := hideL (HB.out.trans (hb2.mono HB.out.size))
      have HO2 := hideL (own_blk' HOW.out (fun k hk => hb2.block k (HOW.out.lt k hk).2))
      unfold Tg.val
      clear hb2 c0 c1 c2
      have HOD : Hid ((w2.alloc (Obj.cells #[.string o.sv, .string o.sp, .float .f64 o.wt] 46)).ownsRow w.heap.size 46 3 (.slice va i vc) i (rowsOf Tg.row (L.take i))) := HO2.out.alloc _
      have HND : Hid (∀ j u, (Tg.row o)[j]? = some u → (w2.alloc (Obj.cells #[.string o.sv, .string o.sp, .float .f64 o.wt] 46)).cell? ((⟨w2.heap.size, 0, none⟩ : Addr).add j) = some u) := World.news_of_block (w := (w2.alloc (Obj.cells #[.string o.sv, .string o.sp, .float .f64 o.wt] 46))) (Go.heap_alloc_new w2 _)
      have hszD : w.heap.size ≤ (w2.alloc (Obj.cells #[.string o.sv, .string o.sp, .float .f64 o.wt] 46)).heap.size := Nat.le_trans HB2.out.size (by simp)
      go_wp2_with (at_builtin; refine wpList_append_at _ rfl (.tmp 17) (.tmp 21) 31 rfl w.heap.size 46 i57 _ 3 40 Try.underlying31 hi57 hx0 hx1 hx2 rfl (by decide) (.slice va i vc) i (rowsOf Tg.row (L.take i)) rfl HOD.out ⟨w2.heap.size, 0, none⟩ 1 1 (Tg.row o) rfl rfl HND.out (tg_one _) hlm hlb hszD ?_; intro v3 w3 hown3 hgrow3 hat3; have HB3 := hideL (below_app (mm := 0) HO2.out HB2.out.size hgrow3); have HO3 := hideL hown3; clear hown3 hgrow3 hat3)
      have HF : Hid (w3.ownsRow w.heap.size 46 3 v3 (i + 1) (rowsOf Tg.row (L.take (i + 1)))) := by rw [HTR.out]; exact HO3.out
      go_roundw
      case rel => exact ⟨i + 1, by go_num, by omega, HF.out, HB2.out.trans HB3.out⟩
      case measure => simp [intOf]; omega
    · have h3' : ¬ (i : Int) < n := by omega
      obtain rfl : i = n := by omega
      have HF : Hid (wr.ownsRow w.heap.size 46 3 (.slice va i vc) i (rowsOf Tg.row L)) := by
        have h1 := HOW.out
        rwa [List.take_of_length_le (by have := HN.out; omega)] at h1
      go_wp2
      go_ret
      exact ⟨_, rfl, HF.out, HB.out⟩
set_option maxHeartbeats 8000000 in
theorem copiesR_any (w : World) (a : Option Addr) (n c : Nat) (L : List Ru) (hn : L.length = n) (hl : n ≤ 1048576) (hS : Cel w a 4 (L.map Ru.row)) (hok : ∀ s ∈ L, okS s.pa ∧ okS s.me ∧ okS s.sp) :
    Calls Try.prog 54 #[.slice a n c, .func (.func 55) #[] #[]] w fun e w' => ∃ v, e = .returned v ∧ w'.ownsRow w.heap.size 58 4 v n (rowsOf Ru.row L) ∧ Below w.heap.size w w' := by
  have HS := hideL hS
  have HN := hideL hn
  have HK := hideL hok
  clear hS hn hok
  obtain ⟨i71, hi71, hx0, hx1, hx2⟩ := info_parts Try.info58
  go_enter Try.func54, Try.ntmps54
  go_wp2_with (at_make; refine wpList_make_own _ rfl (.const (.int .i64 0)) (.tmp 9) 32 rfl w.heap.size 58 i71 _ 4 Try.underlying32 hi71 hx0 hx1 .i64 .i64 (n : Int) n rfl rfl (by omega) (by rw [hx2]; omega) (by unfold maxLen; omega) (Nat.le_refl _) ?_; intro w1 hown1 hgrow1; have HO1 := hideL hown1; have HB1 := hideL (made_row hown1 hgrow1); clear hown1 hgrow1)
  go_loopw [5, 13] (fun v t wr => ∃ (i : Nat), t = .int .i64 i ∧ i ≤ n ∧ wr.ownsRow w.heap.size 58 4 v i (rowsOf Ru.row (L.take i)) ∧ Below w.heap.size w wr) (fun _ t _ => n - (intOf t).toNat)
  case atStart => exact ⟨0, rfl, by omega, by simpa [rowsOf] using HO1.out, HB1.out⟩
  case round =>
    obtain ⟨i, rfl, hi, hown, hbel⟩ := hrel
    have i0 : (0 : Int) ≤ i := by omega
    obtain ⟨va, vc, rfl, _, hvc, hvm⟩ := own_form hown
    have HOW := hideL hown
    have HB := hideL hbel
    have hlm : i + 1 ≤ maxLen := by unfold maxLen; omega
    have hlb : (i + 1) * 56 ≤ 140737488355328 := by omega
    clear hown hbel HO1 HB1
    by_cases h3 : i < n
    · have h3' : (i : Int) < n := by omega
      rcases hki : L[i]? with _ | o
      · have := List.getElem?_eq_none_iff.1 hki; have := HN.out; omega
      obtain ⟨g, off, rfl, hc⟩ := (HS.out.below HB.out).at_ hki
      have c0 := hc 0 _ rfl
      have c1 := hc 1 _ rfl
      have c2 := hc 2 _ rfl
      have c3 := hc 3 _ rfl
      rw [Nat.add_zero] at c0
      have HTR := hideL (take_rows Ru.row hki)
      have hoko := HK.out o (List.mem_of_getElem? hki)
      clear hc hki
      go_wp2_with fail
      refine (copyRu_any _ o hoko.1 hoko.2.1 hoko.2.2).mono ?_
      rintro e w2 ⟨rfl, hb2'⟩
      have hb2 := ((Gr.alloc wr _).below).trans (hb2'.mono (Gr.alloc wr _).below.size)
      clear hb2'
      have HB2 := hideL (HB.out.trans (hb2.mono HB.out.size))
      have HO2 := hideL (own_blk' HOW.out (fun k hk => hb2.block k (HOW.out.lt k hk).2))
      unfold Ru.val
      clear hb2 c0 c1 c2 c3
      have HOD : Hid ((w2.alloc (Obj.cells #[.string o.pa, .string o.me, .string o.sp, .bool o.al] 58)).ownsRow w.heap.size 58 4 (.slice va i vc) i (rowsOf Ru.row (L.take i))) := HO2.out.alloc _
      have HND : Hid (∀ j u, (Ru.row o)[j]? = some u → (w2.alloc (Obj.cells #[.string o.pa, .string o.me, .string o.sp, .bool o.al] 58)).cell? ((⟨w2.heap.size, 0, none⟩ : Addr).add j) = some u) := World.news_of_block (w := (w2.alloc (Obj.cells #[.string o.pa, .string o.me, .string o.sp, .bool o.al] 58))) (Go.heap_alloc_new w2 _)
      have hszD : w.heap.size ≤ (w2.alloc (Obj.cells #[.string o.pa, .string o.me, .string o.sp, .bool o.al] 58)).heap.size := Nat.le_trans HB2.out.size (by simp)
      go_wp2_with (at_builtin; refine wpList_append_at _ rfl (.tmp 17) (.tmp 21) 32 rfl w.heap.size 58 i71 _ 4 56 Try.underlying32 hi71 hx0 hx1 hx2 rfl (by decide) (.slice va i vc) i (rowsOf Ru.row (L.take i)) rfl HOD.out ⟨w2.heap.size, 0, none⟩ 1 1 (Ru.row o) rfl rfl HND.out (ru_one _) hlm hlb hszD ?_; intro v3 w3 hown3 hgrow3 hat3; have HB3 := hideL (below_app (mm := 0) HO2.out HB2.out.size hgrow3); have HO3 := hideL hown3; clear hown3 hgrow3 hat3)
      have HF : Hid (w3.ownsRow w.heap.size 58 4 v3 (i + 1) (rowsOf Ru.row (L.take (i + 1)))) := by rw [HTR.out]; exact HO3.out
      go_roundw
      case rel => exact ⟨i + 1, by go_num, by omega, HF.out, HB2.out.trans HB3.out⟩
      case measure => simp [intOf]; omega
    · have h3' : ¬ (i : Int) < n := by omega
      obtain rfl : i = n := by omega
      have HF : Hid (wr.ownsRow w.heap.size 58 4 (.slice va i vc) i (rowsOf Ru.row L)) := by
        have h1 := HOW.out
        rwa [List.take_of_length_le (by have := HN.out; omega)] at h1
      go_wp2
      go_ret
      exact ⟨_, rfl, HF.out, HB.out⟩
end Go.Proofs.Ytmljljpldljpjab
