/-
  Decide.
-/
import Derived.Test.YtfhobglcploaoaaDoorHa
import Derived.Lib.LaidTab
namespace Go.Proofs.YtfhobglcploaoaaDoor
open Go.RowKit
set_option linter.unusedVariables false
set_option linter.unusedSimpArgs false
set_option maxRecDepth 100000
theorem wp_scope_once {P : Program} {a : Act} {w : World} {Q : Exit → Act → World → Prop} {c rest : Code} (l : Nat) (hf : findLabel c l = some rest)
    (h : c.wp P (Exit.jump l (fun a' w' => rest.wp P (Exit.noGoto Q) a' w') Q) a w) : (Code.scope c).wp P Q a w :=
  wp_scope_jumps l _ (fun _ _ => 0) hf h (fun a w hJ => Code.wp_mono (fun e a' w' hq => by
    cases e with
    | goto l' => exact hq.elim
    | _ => exact hq) hJ)
theorem jump_ret {l : Nat} {J : Act → World → Prop} {Q : Exit → Act → World → Prop} {a : Act} {w : World} (h : Q .ret a w) : Exit.jump l J Q .ret a w := h
/-- the statuses by kind -/
def Sts (w : World) : Prop := w.cell? ⟨0, 1, none⟩ = some (.int .i64 0) ∧ w.cell? ⟨0, 2, none⟩ = some (.int .i64 404) ∧ w.cell? ⟨0, 3, none⟩ = some (.int .i64 404) ∧ w.cell? ⟨0, 4, none⟩ = some (.int .i64 403) ∧ w.cell? ⟨0, 5, none⟩ = some (.int .i64 503)
theorem Sts.below {w w' : World} (h : Sts w) (hb : Below w.heap.size w w') : Sts w' := ⟨cell_of_below hb h.1, cell_of_below hb h.2.1, cell_of_below hb h.2.2.1, cell_of_below hb h.2.2.2.1, cell_of_below hb h.2.2.2.2⟩
theorem six_cells {W : World} {b : Nat} {x0 x1 x2 x3 x4 x5 : Value} {t : TypeId} (h : W.heap[b]? = some (.cells #[x0, x1, x2, x3, x4, x5] t (0, 0))) : W.cell? ⟨b, 0, none⟩ = some x0 ∧ W.cell? ⟨b, 1, none⟩ = some x1 ∧ W.cell? ⟨b, 2, none⟩ = some x2 ∧ W.cell? ⟨b, 3, none⟩ = some x3 ∧ W.cell? ⟨b, 4, none⟩ = some x4 ∧ W.cell? ⟨b, 5, none⟩ = some x5 := by
  refine ⟨?_, ?_, ?_, ?_, ?_, ?_⟩ <;> (rw [cell_block h]; rfl)
theorem thawed {W : World} {b : Nat} {cs : Array Value} {t : TypeId} (h : W.heap[b]? = some (.cells cs t (0, 0))) (o : Nat) : W.frozen? ⟨b, o, none⟩ = false := by simp [World.frozen?, h]
set_option maxHeartbeats 2000000 in
theorem set4 {X : World} {p : Nat} {t : TypeId} {a0 a1 a2 a3 : Value} (h : X.heap[p]? = some (.cells #[a0, a1, a2, a3] t (0, 0))) (x0 x1 x2 x3 : Value) :
    (X.frozen? ⟨p, 0, none⟩ = false ∧ (X.setCell ⟨p, 0, none⟩ x0).frozen? ⟨p, 1, none⟩ = false ∧ ((X.setCell ⟨p, 0, none⟩ x0).setCell ⟨p, 1, none⟩ x1).frozen? ⟨p, 2, none⟩ = false ∧ (((X.setCell ⟨p, 0, none⟩ x0).setCell ⟨p, 1, none⟩ x1).setCell ⟨p, 2, none⟩ x2).frozen? ⟨p, 3, none⟩ = false) ∧
    (X.cell? ⟨p, 0, none⟩ = some a0 ∧ (X.setCell ⟨p, 0, none⟩ x0).cell? ⟨p, 1, none⟩ = some a1 ∧ ((X.setCell ⟨p, 0, none⟩ x0).setCell ⟨p, 1, none⟩ x1).cell? ⟨p, 2, none⟩ = some a2 ∧ (((X.setCell ⟨p, 0, none⟩ x0).setCell ⟨p, 1, none⟩ x1).setCell ⟨p, 2, none⟩ x2).cell? ⟨p, 3, none⟩ = some a3) ∧
    (((((X.setCell ⟨p, 0, none⟩ x0).setCell ⟨p, 1, none⟩ x1).setCell ⟨p, 2, none⟩ x2).setCell ⟨p, 3, none⟩ x3).cell? ⟨p, 0, none⟩ = some x0 ∧ ((((X.setCell ⟨p, 0, none⟩ x0).setCell ⟨p, 1, none⟩ x1).setCell ⟨p, 2, none⟩ x2).setCell ⟨p, 3, none⟩ x3).cell? ⟨p, 1, none⟩ = some x1 ∧ ((((X.setCell ⟨p, 0, none⟩ x0).setCell ⟨p, 1, none⟩ x1).setCell ⟨p, 2, none⟩ x2).setCell ⟨p, 3, none⟩ x3).cell? ⟨p, 2, none⟩ = some x2 ∧ ((((X.setCell ⟨p, 0, none⟩ x0).setCell ⟨p, 1, none⟩ x1).setCell ⟨p, 2, none⟩ x2).setCell ⟨p, 3, none⟩ x3).cell? ⟨p, 3, none⟩ = some x3) ∧
    But p X ((((X.setCell ⟨p, 0, none⟩ x0).setCell ⟨p, 1, none⟩ x1).setCell ⟨p, 2, none⟩ x2).setCell ⟨p, 3, none⟩ x3) ∧ ((((X.setCell ⟨p, 0, none⟩ x0).setCell ⟨p, 1, none⟩ x1).setCell ⟨p, 2, none⟩ x2).setCell ⟨p, 3, none⟩ x3).heap[p]? = some (.cells #[x0, x1, x2, x3] t (0, 0)) := by
  have h0 := h
  have h1 : (X.setCell ⟨p, 0, none⟩ x0).heap[p]? = some (.cells #[x0, a1, a2, a3] t (0, 0)) := heap_setCell_same _ p 0 _ t x0 h0
  have h2 : ((X.setCell ⟨p, 0, none⟩ x0).setCell ⟨p, 1, none⟩ x1).heap[p]? = some (.cells #[x0, x1, a2, a3] t (0, 0)) := heap_setCell_same _ p 1 _ t x1 h1
  have h3 : (((X.setCell ⟨p, 0, none⟩ x0).setCell ⟨p, 1, none⟩ x1).setCell ⟨p, 2, none⟩ x2).heap[p]? = some (.cells #[x0, x1, x2, a3] t (0, 0)) := heap_setCell_same _ p 2 _ t x2 h2
  have h4 : ((((X.setCell ⟨p, 0, none⟩ x0).setCell ⟨p, 1, none⟩ x1).setCell ⟨p, 2, none⟩ x2).setCell ⟨p, 3, none⟩ x3).heap[p]? = some (.cells #[x0, x1, x2, x3] t (0, 0)) := heap_setCell_same _ p 3 _ t x3 h3
  refine ⟨⟨by simp [World.frozen?, h0], by simp [World.frozen?, h1], by simp [World.frozen?, h2], by simp [World.frozen?, h3]⟩, ⟨by rw [cell_block h0]; rfl, by rw [cell_block h1]; rfl, by rw [cell_block h2]; rfl, by rw [cell_block h3]; rfl⟩, ⟨by rw [cell_block h4]; rfl, by rw [cell_block h4]; rfl, by rw [cell_block h4]; rfl, by rw [cell_block h4]; rfl⟩, (((But.set 0 x0).trans (But.set 1 x1)).trans (But.set 2 x2)).trans (But.set 3 x3), ?_⟩
  exact h4
set_option maxHeartbeats 2000000 in
theorem set6 {X : World} {p : Nat} {t : TypeId} {a0 a1 a2 a3 a4 a5 : Value} (h : X.heap[p]? = some (.cells #[a0, a1, a2, a3, a4, a5] t (0, 0))) (x0 x1 x2 x3 x4 x5 : Value) :
    (X.frozen? ⟨p, 0, none⟩ = false ∧ (X.setCell ⟨p, 0, none⟩ x0).frozen? ⟨p, 1, none⟩ = false ∧ ((X.setCell ⟨p, 0, none⟩ x0).setCell ⟨p, 1, none⟩ x1).frozen? ⟨p, 2, none⟩ = false ∧ (((X.setCell ⟨p, 0, none⟩ x0).setCell ⟨p, 1, none⟩ x1).setCell ⟨p, 2, none⟩ x2).frozen? ⟨p, 3, none⟩ = false ∧ ((((X.setCell ⟨p, 0, none⟩ x0).setCell ⟨p, 1, none⟩ x1).setCell ⟨p, 2, none⟩ x2).setCell ⟨p, 3, none⟩ x3).frozen? ⟨p, 4, none⟩ = false ∧ (((((X.setCell ⟨p, 0, none⟩ x0).setCell ⟨p, 1, none⟩ x1).setCell ⟨p, 2, none⟩ x2).setCell ⟨p, 3, none⟩ x3).setCell ⟨p, 4, none⟩ x4).frozen? ⟨p, 5, none⟩ = false) ∧
    (X.cell? ⟨p, 0, none⟩ = some a0 ∧ (X.setCell ⟨p, 0, none⟩ x0).cell? ⟨p, 1, none⟩ = some a1 ∧ ((X.setCell ⟨p, 0, none⟩ x0).setCell ⟨p, 1, none⟩ x1).cell? ⟨p, 2, none⟩ = some a2 ∧ (((X.setCell ⟨p, 0, none⟩ x0).setCell ⟨p, 1, none⟩ x1).setCell ⟨p, 2, none⟩ x2).cell? ⟨p, 3, none⟩ = some a3 ∧ ((((X.setCell ⟨p, 0, none⟩ x0).setCell ⟨p, 1, none⟩ x1).setCell ⟨p, 2, none⟩ x2).setCell ⟨p, 3, none⟩ x3).cell? ⟨p, 4, none⟩ = some a4 ∧ (((((X.setCell ⟨p, 0, none⟩ x0).setCell ⟨p, 1, none⟩ x1).setCell ⟨p, 2, none⟩ x2).setCell ⟨p, 3, none⟩ x3).setCell ⟨p, 4, none⟩ x4).cell? ⟨p, 5, none⟩ = some a5) ∧
    (((((((X.setCell ⟨p, 0, none⟩ x0).setCell ⟨p, 1, none⟩ x1).setCell ⟨p, 2, none⟩ x2).setCell ⟨p, 3, none⟩ x3).setCell ⟨p, 4, none⟩ x4).setCell ⟨p, 5, none⟩ x5).cell? ⟨p, 0, none⟩ = some x0 ∧ ((((((X.setCell ⟨p, 0, none⟩ x0).setCell ⟨p, 1, none⟩ x1).setCell ⟨p, 2, none⟩ x2).setCell ⟨p, 3, none⟩ x3).setCell ⟨p, 4, none⟩ x4).setCell ⟨p, 5, none⟩ x5).cell? ⟨p, 1, none⟩ = some x1 ∧ ((((((X.setCell ⟨p, 0, none⟩ x0).setCell ⟨p, 1, none⟩ x1).setCell ⟨p, 2, none⟩ x2).setCell ⟨p, 3, none⟩ x3).setCell ⟨p, 4, none⟩ x4).setCell ⟨p, 5, none⟩ x5).cell? ⟨p, 2, none⟩ = some x2 ∧ ((((((X.setCell ⟨p, 0, none⟩ x0).setCell ⟨p, 1, none⟩ x1).setCell ⟨p, 2, none⟩ x2).setCell ⟨p, 3, none⟩ x3).setCell ⟨p, 4, none⟩ x4).setCell ⟨p, 5, none⟩ x5).cell? ⟨p, 3, none⟩ = some x3 ∧ ((((((X.setCell ⟨p, 0, none⟩ x0).setCell ⟨p, 1, none⟩ x1).setCell ⟨p, 2, none⟩ x2).setCell ⟨p, 3, none⟩ x3).setCell ⟨p, 4, none⟩ x4).setCell ⟨p, 5, none⟩ x5).cell? ⟨p, 4, none⟩ = some x4 ∧ ((((((X.setCell ⟨p, 0, none⟩ x0).setCell ⟨p, 1, none⟩ x1).setCell ⟨p, 2, none⟩ x2).setCell ⟨p, 3, none⟩ x3).setCell ⟨p, 4, none⟩ x4).setCell ⟨p, 5, none⟩ x5).cell? ⟨p, 5, none⟩ = some x5) ∧
    But p X ((((((X.setCell ⟨p, 0, none⟩ x0).setCell ⟨p, 1, none⟩ x1).setCell ⟨p, 2, none⟩ x2).setCell ⟨p, 3, none⟩ x3).setCell ⟨p, 4, none⟩ x4).setCell ⟨p, 5, none⟩ x5) ∧ ((((((X.setCell ⟨p, 0, none⟩ x0).setCell ⟨p, 1, none⟩ x1).setCell ⟨p, 2, none⟩ x2).setCell ⟨p, 3, none⟩ x3).setCell ⟨p, 4, none⟩ x4).setCell ⟨p, 5, none⟩ x5).heap[p]? = some (.cells #[x0, x1, x2, x3, x4, x5] t (0, 0)) := by
  have h0 := h
  have h1 : (X.setCell ⟨p, 0, none⟩ x0).heap[p]? = some (.cells #[x0, a1, a2, a3, a4, a5] t (0, 0)) := heap_setCell_same _ p 0 _ t x0 h0
  have h2 : ((X.setCell ⟨p, 0, none⟩ x0).setCell ⟨p, 1, none⟩ x1).heap[p]? = some (.cells #[x0, x1, a2, a3, a4, a5] t (0, 0)) := heap_setCell_same _ p 1 _ t x1 h1
  have h3 : (((X.setCell ⟨p, 0, none⟩ x0).setCell ⟨p, 1, none⟩ x1).setCell ⟨p, 2, none⟩ x2).heap[p]? = some (.cells #[x0, x1, x2, a3, a4, a5] t (0, 0)) := heap_setCell_same _ p 2 _ t x2 h2
  have h4 : ((((X.setCell ⟨p, 0, none⟩ x0).setCell ⟨p, 1, none⟩ x1).setCell ⟨p, 2, none⟩ x2).setCell ⟨p, 3, none⟩ x3).heap[p]? = some (.cells #[x0, x1, x2, x3, a4, a5] t (0, 0)) := heap_setCell_same _ p 3 _ t x3 h3
  have h5 : (((((X.setCell ⟨p, 0, none⟩ x0).setCell ⟨p, 1, none⟩ x1).setCell ⟨p, 2, none⟩ x2).setCell ⟨p, 3, none⟩ x3).setCell ⟨p, 4, none⟩ x4).heap[p]? = some (.cells #[x0, x1, x2, x3, x4, a5] t (0, 0)) := heap_setCell_same _ p 4 _ t x4 h4
  have h6 : ((((((X.setCell ⟨p, 0, none⟩ x0).setCell ⟨p, 1, none⟩ x1).setCell ⟨p, 2, none⟩ x2).setCell ⟨p, 3, none⟩ x3).setCell ⟨p, 4, none⟩ x4).setCell ⟨p, 5, none⟩ x5).heap[p]? = some (.cells #[x0, x1, x2, x3, x4, x5] t (0, 0)) := heap_setCell_same _ p 5 _ t x5 h5
  refine ⟨⟨by simp [World.frozen?, h0], by simp [World.frozen?, h1], by simp [World.frozen?, h2], by simp [World.frozen?, h3], by simp [World.frozen?, h4], by simp [World.frozen?, h5]⟩, ⟨by rw [cell_block h0]; rfl, by rw [cell_block h1]; rfl, by rw [cell_block h2]; rfl, by rw [cell_block h3]; rfl, by rw [cell_block h4]; rfl, by rw [cell_block h5]; rfl⟩, ⟨by rw [cell_block h6]; rfl, by rw [cell_block h6]; rfl, by rw [cell_block h6]; rfl, by rw [cell_block h6]; rfl, by rw [cell_block h6]; rfl, by rw [cell_block h6]; rfl⟩, (((((But.set 0 x0).trans (But.set 1 x1)).trans (But.set 2 x2)).trans (But.set 3 x3)).trans (But.set 4 x4)).trans (But.set 5 x5), ?_⟩
  exact h6
/-- the four blocks of Decide -/
structure Fx (B B1 B2 B3 : Nat) (w W : World) (tb rs rt dd : Array Value) : Prop where
  lt : B < B1 ∧ B1 < B2 ∧ B2 < B3
  bel : Below B w W
  b0 : W.heap[B]? = some (.cells tb 25 (0, 0))
  b1 : W.heap[B1]? = some (.cells rs 33 (0, 0))
  b2 : W.heap[B2]? = some (.cells rt 45 (0, 0))
  b3 : W.heap[B3]? = some (.cells dd 33 (0, 0))
theorem Fx.call {B B1 B2 B3 : Nat} {w W W' : World} {tb rs rt dd : Array Value} (h : Fx B B1 B2 B3 w W tb rs rt dd) (hb : Below W.heap.size W W') : Fx B B1 B2 B3 w W' tb rs rt dd :=
  ⟨h.lt, h.bel.trans (hb.mono (Nat.le_of_lt (lt_of_block h.b0))), hb.cells h.b0, hb.cells h.b1, hb.cells h.b2, hb.cells h.b3⟩
theorem But.low {b B : Nat} {w A C : World} (h : But b A C) (h0 : Below B w A) (h1 : B ≤ b) (h2 : B ≤ A.heap.size) : Below B w C := h0.trans (h.below h2 h1)
theorem Fx.put {B B1 B2 B3 : Nat} {w W : World} {tb rs rt dd : Array Value} (h : Fx B B1 B2 B3 w W tb rs rt dd) (o : Nat) (v : Value) : Fx B B1 B2 B3 w (W.setCell ⟨B3, o, none⟩ v) tb rs rt (dd.setIfInBounds o v) :=
  have hb := But.set (b := B3) (A := W) o v
  have hl := h.lt
  ⟨h.lt, hb.low h.bel (by omega) (Nat.le_of_lt (lt_of_block h.b0)), hb.cells h.b0 (by omega), hb.cells h.b1 (by omega), hb.cells h.b2 (by omega), block_setCell h.b3 o v⟩
theorem Fx.put0 {B B1 B2 B3 : Nat} {w W : World} {tb rs rt : Array Value} {a0 a1 a2 a3 a4 a5 : Value} (h : Fx B B1 B2 B3 w W tb rs rt #[a0, a1, a2, a3, a4, a5]) (v : Value) : Fx B B1 B2 B3 w (W.setCell ⟨B3, 0, none⟩ v) tb rs rt #[v, a1, a2, a3, a4, a5] := h.put 0 v
theorem Fx.put1 {B B1 B2 B3 : Nat} {w W : World} {tb rs rt : Array Value} {a0 a1 a2 a3 a4 a5 : Value} (h : Fx B B1 B2 B3 w W tb rs rt #[a0, a1, a2, a3, a4, a5]) (v : Value) : Fx B B1 B2 B3 w (W.setCell ⟨B3, 1, none⟩ v) tb rs rt #[a0, v, a2, a3, a4, a5] := h.put 1 v
theorem Fx.put2 {B B1 B2 B3 : Nat} {w W : World} {tb rs rt : Array Value} {a0 a1 a2 a3 a4 a5 : Value} (h : Fx B B1 B2 B3 w W tb rs rt #[a0, a1, a2, a3, a4, a5]) (v : Value) : Fx B B1 B2 B3 w (W.setCell ⟨B3, 2, none⟩ v) tb rs rt #[a0, a1, v, a3, a4, a5] := h.put 2 v
theorem Fx.put3 {B B1 B2 B3 : Nat} {w W : World} {tb rs rt : Array Value} {a0 a1 a2 a3 a4 a5 : Value} (h : Fx B B1 B2 B3 w W tb rs rt #[a0, a1, a2, a3, a4, a5]) (v : Value) : Fx B B1 B2 B3 w (W.setCell ⟨B3, 3, none⟩ v) tb rs rt #[a0, a1, a2, v, a4, a5] := h.put 3 v
theorem Fx.put4 {B B1 B2 B3 : Nat} {w W : World} {tb rs rt : Array Value} {a0 a1 a2 a3 a4 a5 : Value} (h : Fx B B1 B2 B3 w W tb rs rt #[a0, a1, a2, a3, a4, a5]) (v : Value) : Fx B B1 B2 B3 w (W.setCell ⟨B3, 4, none⟩ v) tb rs rt #[a0, a1, a2, a3, v, a5] := h.put 4 v
theorem Fx.put5 {B B1 B2 B3 : Nat} {w W : World} {tb rs rt : Array Value} {a0 a1 a2 a3 a4 a5 : Value} (h : Fx B B1 B2 B3 w W tb rs rt #[a0, a1, a2, a3, a4, a5]) (v : Value) : Fx B B1 B2 B3 w (W.setCell ⟨B3, 5, none⟩ v) tb rs rt #[a0, a1, a2, a3, a4, v] := h.put 5 v
theorem Fx.route {B B1 B2 B3 : Nat} {w W V : World} {tb rs rt dd rt' : Array Value} (h : Fx B B1 B2 B3 w W tb rs rt dd) (hb : But B2 W V) (hk : V.heap[B2]? = some (.cells rt' 45 (0, 0))) : Fx B B1 B2 B3 w V tb rs rt' dd :=
  have hl := h.lt
  ⟨h.lt, hb.low h.bel (by omega) (Nat.le_of_lt (lt_of_block h.b0)), hb.cells h.b0 (by omega), hb.cells h.b1 (by omega), hk, hb.cells h.b3 (by omega)⟩
theorem fx_start (w : World) (x y z v : Array Value) : Fx w.heap.size (w.heap.size + 1) (w.heap.size + 1 + 1) (w.heap.size + 1 + 1 + 1) w ((((w.alloc (.cells x 25 (0, 0))).alloc (.cells y 33 (0, 0))).alloc (.cells z 45 (0, 0))).alloc (.cells v 33 (0, 0))) x y z v := by
  have hs1 : (w.alloc (.cells x 25 (0, 0))).heap.size = w.heap.size + 1 := al_size _ _
  have hs2 : ((w.alloc (.cells x 25 (0, 0))).alloc (.cells y 33 (0, 0))).heap.size = w.heap.size + 1 + 1 := by rw [al_size, hs1]
  have hs3 : (((w.alloc (.cells x 25 (0, 0))).alloc (.cells y 33 (0, 0))).alloc (.cells z 45 (0, 0))).heap.size = w.heap.size + 1 + 1 + 1 := by rw [al_size, hs2]
  refine ⟨⟨by omega, by omega, by omega⟩, ((((Gr.alloc _ _).trans (Gr.alloc _ _)).trans (Gr.alloc _ _)).trans (Gr.alloc _ _)).below, ?_, ?_, ?_, ?_⟩
  · exact (((Gr.alloc _ _).trans (Gr.alloc _ _)).trans (Gr.alloc _ _)).below.cells (heap_alloc_new w _)
  · have := ((Gr.alloc ((w.alloc (.cells x 25 (0, 0))).alloc (.cells y 33 (0, 0))) (.cells z 45 (0, 0))).trans (Gr.alloc _ (.cells v 33 (0, 0)))).below.cells (heap_alloc_new (w.alloc (.cells x 25 (0, 0))) (.cells y 33 (0, 0))); rwa [hs1] at this
  · have := (Gr.alloc (((w.alloc (.cells x 25 (0, 0))).alloc (.cells y 33 (0, 0))).alloc (.cells z 45 (0, 0))) (.cells v 33 (0, 0))).below.cells (heap_alloc_new ((w.alloc (.cells x 25 (0, 0))).alloc (.cells y 33 (0, 0))) (.cells z 45 (0, 0))); rwa [hs2] at this
  · have := heap_alloc_new (((w.alloc (.cells x 25 (0, 0))).alloc (.cells y 33 (0, 0))).alloc (.cells z 45 (0, 0))) (.cells v 33 (0, 0)); rwa [hs3] at this
set_option maxHeartbeats 32000000 in
theorem decide_any (w : World) (t : Tb) (ya : Option Addr) (yn yc : Nat) (L : List Hy) (me ho pa : ByteArray) (u : Nat) (n : Int) (ht : Tin w t) (hy : Lin w ya yn L) (g1 : okS ho) (g2 : okS pa) (hst : Sts w) :
    Calls Tryd.prog 8 #[.agg #[.int .i64 t.ver, .slice t.ha t.hos.length t.hc, .slice t.sa t.svs.length t.sc], .slice ya yn yc, .string me, .string ho, .string pa, .float .f64 u, .int .i64 n] w fun e w' => e = .returned (decF t.hos L me ho pa u n).val ∧ Below w.heap.size w w' := by
  have G1 := hideL g1
  have G2 := hideL g2
  obtain ⟨hn, hhn⟩ : ∃ hn, t.hos.length = hn := ⟨_, rfl⟩
  have HN := hideL hhn
  have hln : hn ≤ 140737488355328 := by rw [← hhn]; exact ht.lh
  obtain ⟨R, hR⟩ : ∃ R, decF t.hos L me ho pa u n = R := ⟨_, rfl⟩
  have HR := hideL hR
  have HFI := fun W (h : Below w.heap.size w W) => find_any W t ho (ht.below h) g1
  rw [hhn] at HFI
  rw [hhn, hR]
  have h4 := fx_start w #[.int .i64 t.ver, .slice t.ha hn t.hc, .slice t.sa t.svs.length t.sc] #[.int .i64 0, .int .i64 0, .string ⟨#[]⟩, .int .i64 0, .string ⟨#[]⟩, .string ⟨#[]⟩] #[.string ⟨#[]⟩, .string ⟨#[]⟩, .slice none 0 0, .slice none 0 0] #[.int .i64 2, .int .i64 0, .string ⟨#[]⟩, .int .i64 (-1), .string ⟨#[]⟩, .string ⟨#[]⟩]
  obtain ⟨w3, hw3⟩ : ∃ X, (((w.alloc (.cells #[.int .i64 t.ver, .slice t.ha hn t.hc, .slice t.sa t.svs.length t.sc] 25 (0, 0))).alloc (.cells #[.int .i64 0, .int .i64 0, .string ⟨#[]⟩, .int .i64 0, .string ⟨#[]⟩, .string ⟨#[]⟩] 33 (0, 0))).alloc (.cells #[.string ⟨#[]⟩, .string ⟨#[]⟩, .slice none 0 0, .slice none 0 0] 45 (0, 0))) = X := ⟨_, rfl⟩
  have hs3 : w3.heap.size = w.heap.size + 1 + 1 + 1 := by rw [← hw3, al_size, al_size, al_size]
  rw [hw3] at h4
  obtain ⟨B, hB⟩ : ∃ B, w.heap.size = B := ⟨_, rfl⟩
  obtain ⟨B1, hB1⟩ : ∃ B1, B + 1 = B1 := ⟨_, rfl⟩
  obtain ⟨B2, hB2⟩ : ∃ B2, B1 + 1 = B2 := ⟨_, rfl⟩
  obtain ⟨B3, hB3⟩ : ∃ B3, B2 + 1 = B3 := ⟨_, rfl⟩
  have HBQ := hideL hB
  have HT := hideL (show ∀ W, Below B w W → Tin W t from fun W h => ht.below (by rw [hB]; exact h))
  have HY := hideL (show ∀ W, Below B w W → Lin W ya yn L from fun W h => hy.below (by rw [hB]; exact h))
  have HST := hideL (show ∀ W, Below B w W → Sts W from fun W h => hst.below (by rw [hB]; exact h))
  rw [hB, hB1, hB2, hB3] at h4 hs3
  have F4 := hideL h4
  have HFI4 := hideL (HFI _ (by rw [hB]; exact F4.out.bel))
  have l0 := three_cells F4.out.b0
  obtain ⟨p0, p1, p2⟩ := l0
  clear ht hy hst g1 g2 hhn hR h4 HFI
  go_enter Tryd.func8, Tryd.ntmps8
  go_wp2_with fail
  refine wp_scope_once 0 rfl ?_
  go_wp2_with fail
  refine HFI4.out.mono ?_
  rintro e w5 ⟨rfl, hb5⟩
  have F5 := hideL (F4.out.call hb5)
  clear hb5 p0 p1 p2 HFI4 hw3 hB hB1 hB2 hB3 hs3 F4
  rcases hfi : fndF t.hos ho with _ | i
  · have HRV : Hid (R = ⟨2, 404, e0, -1, e0, e0⟩) := by unfold Hid; rw [← HR.out]; exact dec2 hfi
    clear hfi
    have hx : ixI none = -1 := rfl
    rw [hx]
    go_wp2_with fail
    go_step3
    refine ⟨rfl, ?_⟩
    obtain ⟨k0, k1, k2, k3, k4, k5⟩ := six_cells F5.out.b3
    have kz := thawed F5.out.b3 1
    have hlt := F5.out.lt
    have ks := (HST.out _ F5.out.bel).2.1
    obtain ⟨wa, hwa⟩ : ∃ X, w5.setCell ⟨B3, 1, none⟩ (.int .i64 404) = X := ⟨_, rfl⟩
    have FA := hideL (F5.out.put1 (.int .i64 404))
    rw [hwa] at FA
    obtain ⟨m0, m1, m2, m3, m4, m5⟩ := six_cells FA.out.b3
    obtain ⟨⟨z0, z1, z2, z3, z4, z5⟩, ⟨y0, y1, y2, y3, y4, y5⟩, ⟨x0, x1, x2, x3, x4, x5⟩, hbut, -⟩ := set6 FA.out.b1 (.int .i64 2) (.int .i64 404) (.string ⟨#[]⟩) (.int .i64 (-1)) (.string ⟨#[]⟩) (.string ⟨#[]⟩)
    have HBT := hideL (hbut.low FA.out.bel (by omega) (Nat.le_of_lt (lt_of_block FA.out.b0)))
    clear hbut hlt
    go_wp2_with fail
    rw [Exit.noGoto_ret]
    refine bodyPost_ret (v := .agg #[.int .i64 2, .int .i64 404, .string ⟨#[]⟩, .int .i64 (-1), .string ⟨#[]⟩, .string ⟨#[]⟩]) (by simp [results, Tryd.results8, go_sem, x0, x1, x2, x3, x4, x5]) rfl ?_
    exact ⟨by rw [HRV.out]; rfl, by rw [HBQ.out]; exact HBT.out⟩
  · obtain ⟨x, hix, -⟩ := idx_spec hfi
    have HFI := hideL hfi
    have HIX := hideL hix
    have hil : i < hn := by have := (List.getElem?_eq_some_iff.1 hix).1; have := HN.out; omega
    have hil' : (i : Int) < hn := by omega
    have i0 : (0 : Int) ≤ i := by omega
    have T5 := HT.out _ F5.out.bel
    have HI5 := hideL (T5.each x (List.mem_of_getElem? hix))
    obtain ⟨g, off, ea, hcx⟩ := T5.hs.at_ hix
    have c0 := hcx 0 _ rfl
    have c1 := hcx 1 _ rfl
    have c2 := hcx 2 _ rfl
    have c3 := hcx 3 _ rfl
    rw [Nat.add_zero] at c0
    obtain ⟨m, hm⟩ : ∃ m, x.ens.length = m := ⟨_, rfl⟩
    have HM := hideL hm
    have hml : m ≤ 140737488355328 := by rw [← hm]; exact HI5.out.le
    rw [hm] at c2
    obtain ⟨-, p1, -⟩ := three_cells F5.out.b0
    rw [ea] at p1
    clear hfi hix hcx hm T5 ea
    have hx : ixI (some i) = (i : Int) := rfl
    rw [hx]
    obtain ⟨⟨z0, z1, z2, z3⟩, ⟨y0, y1, y2, y3⟩, -, hbut, hblk⟩ := set4 F5.out.b2 (.string x.ho) (.string x.ro) (.slice x.ea m x.ec) (.slice x.qa x.pms.length x.qc)
    have F6 := hideL (F5.out.route hbut hblk)
    have HI := hideL (fun W (h : Below B w W) => (HT.out W h).each x (List.mem_of_getElem? HIX.out))
    obtain ⟨w6, hw6⟩ : ∃ X, ((((w5.setCell ⟨B2, 0, none⟩ (.string x.ho)).setCell ⟨B2, 1, none⟩ (.string x.ro)).setCell ⟨B2, 2, none⟩ (.slice x.ea m x.ec)).setCell ⟨B2, 3, none⟩ (.slice x.qa x.pms.length x.qc)) = X := ⟨_, rfl⟩
    rw [hw6] at F6
    obtain ⟨-, q1, -, -⟩ := four_cells F6.out.b2
    go_wp2_with fail
    go_wp2_with fail
    refine (clone_any x.ro w6 HI5.out.sr).mono ?_
    rintro e w7 ⟨rfl, hb7⟩
    have F7 := hideL (F6.out.call hb7)
    clear hb7 q1 hw6 z0 z1 z2 z3 y0 y1 y2 y3 c0 c1 c2 c3 p1 F5 F6 HI5
    have k2w7 := (six_cells F7.out.b3).2.2.1
    have f2w7 := thawed F7.out.b3 2
    obtain ⟨w8, hw8⟩ : ∃ X, w7.setCell ⟨B3, 2, none⟩ (.string x.ro) = X := ⟨_, rfl⟩
    have F8 := hideL (F7.out.put2 (.string x.ro))
    rw [hw8] at F8
    have k0w8 := (six_cells F8.out.b3).1
    have f0w8 := thawed F8.out.b3 0
    obtain ⟨w9, hw9⟩ : ∃ X, w8.setCell ⟨B3, 0, none⟩ (.int .i64 3) = X := ⟨_, rfl⟩
    have F9 := hideL (F8.out.put0 (.int .i64 3))
    rw [hw9] at F9

    have HRU := hideL (rule_any w9 x me pa (HI.out _ F9.out.bel) G2.out)
    rw [HM.out] at HRU
    obtain ⟨q0, q1, q2, q3⟩ := four_cells F9.out.b2
    go_wp2_with fail
    refine HRU.out.mono ?_
    rintro e w10 ⟨rfl, hb10⟩
    have F10 := hideL (F9.out.call hb10)
    clear hb10 q0 q1 q2 q3 hw8 hw9 k2w7 f2w7 k0w8 f0w8 HRU F7 F8 F9
    rcases hru : rulF x.ens me pa with _ | r
    · have HRV : Hid (R = ⟨3, 404, x.ro, -1, e0, e0⟩) := by unfold Hid; rw [← HR.out]; exact dec3 HFI.out HIX.out hru
      clear hru
      have hx3 : ixI (none : Option Nat) = -1 := rfl
      rw [hx3]
      have k3w10 := (six_cells F10.out.b3).2.2.2.1
      have f3w10 := thawed F10.out.b3 3
      obtain ⟨w11, hw11⟩ : ∃ X, w10.setCell ⟨B3, 3, none⟩ (.int .i64 (-1)) = X := ⟨_, rfl⟩
      have F11 := hideL (F10.out.put3 (.int .i64 (-1)))
      rw [hw11] at F11

      have k3w11 := (six_cells F11.out.b3).2.2.2.1
      go_wp2_with fail
      go_step3
      refine ⟨rfl, ?_⟩
      obtain ⟨k0, k1, k2, k3, k4, k5⟩ := six_cells F11.out.b3
      have kz := thawed F11.out.b3 1
      have hlt := F11.out.lt
      have ks := (HST.out _ F11.out.bel).2.2.1
      obtain ⟨wa, hwa⟩ : ∃ X, w11.setCell ⟨B3, 1, none⟩ (.int .i64 404) = X := ⟨_, rfl⟩
      have FA := hideL (F11.out.put1 (.int .i64 404))
      rw [hwa] at FA
      obtain ⟨m0, m1, m2, m3, m4, m5⟩ := six_cells FA.out.b3
      obtain ⟨⟨z0, z1, z2, z3, z4, z5⟩, ⟨y0, y1, y2, y3, y4, y5⟩, ⟨x0, x1, x2, x3, x4, x5⟩, hbut, -⟩ := set6 FA.out.b1 (.int .i64 3) (.int .i64 404) (.string x.ro) (.int .i64 (-1)) (.string ⟨#[]⟩) (.string ⟨#[]⟩)
      have HBT := hideL (hbut.low FA.out.bel (by omega) (Nat.le_of_lt (lt_of_block FA.out.b0)))
      clear hbut hlt
      go_wp2_with fail
      rw [Exit.noGoto_ret]
      refine bodyPost_ret (v := .agg #[.int .i64 3, .int .i64 404, .string x.ro, .int .i64 (-1), .string ⟨#[]⟩, .string ⟨#[]⟩]) (by simp [results, Tryd.results8, go_sem, x0, x1, x2, x3, x4, x5]) rfl ?_
      exact ⟨by rw [HRV.out]; rfl, by rw [HBQ.out]; exact HBT.out⟩
    · have HRU := hideL hru
      have hx3 : ixI (some r) = (r : Int) := rfl
      rw [hx3]
      have r0 : (0 : Int) ≤ r := by omega
      obtain ⟨en, hrk, -⟩ := idx_spec hru
      have HRK := hideL hrk
      have hrl : r < m := by have := (List.getElem?_eq_some_iff.1 hrk).1; have := HM.out; omega
      have hrl' : (r : Int) < m := by omega
      clear hru hrk
      have k3w10 := (six_cells F10.out.b3).2.2.2.1
      have f3w10 := thawed F10.out.b3 3
      obtain ⟨w11, hw11⟩ : ∃ X, w10.setCell ⟨B3, 3, none⟩ (.int .i64 r) = X := ⟨_, rfl⟩
      have F11 := hideL (F10.out.put3 (.int .i64 r))
      rw [hw11] at F11
      have k0w11 := (six_cells F11.out.b3).1
      have f0w11 := thawed F11.out.b3 0
      obtain ⟨w12, hw12⟩ : ∃ X, w11.setCell ⟨B3, 0, none⟩ (.int .i64 4) = X := ⟨_, rfl⟩
      have F12 := hideL (F11.out.put0 (.int .i64 4))
      rw [hw12] at F12

      have k3w11 := (six_cells F11.out.b3).2.2.2.1
      have HAL := hideL (allowed_any w12 x me pa (HI.out _ F12.out.bel) G2.out)
      rw [HM.out] at HAL
      obtain ⟨q0, q1, q2, q3⟩ := four_cells F12.out.b2
      go_wp2_with fail
      refine HAL.out.mono ?_
      rintro e w13 ⟨rfl, hb13⟩
      have F13 := hideL (F12.out.call hb13)
      clear hb13 q0 q1 q2 q3 hw11 hw12 k3w10 f3w10 k0w11 f0w11 k3w11 HAL F10 F11 F12
      rcases hal : alwB x.pms me pa with _ | _
      · have HRV : Hid (R = ⟨4, 403, x.ro, r, e0, e0⟩) := by unfold Hid; rw [← HR.out]; exact dec4 HFI.out HIX.out HRU.out hal
        clear hal
        go_wp2_with fail
        go_step3
        refine ⟨rfl, ?_⟩
        obtain ⟨k0, k1, k2, k3, k4, k5⟩ := six_cells F13.out.b3
        have kz := thawed F13.out.b3 1
        have hlt := F13.out.lt
        have ks := (HST.out _ F13.out.bel).2.2.2.1
        obtain ⟨wa, hwa⟩ : ∃ X, w13.setCell ⟨B3, 1, none⟩ (.int .i64 403) = X := ⟨_, rfl⟩
        have FA := hideL (F13.out.put1 (.int .i64 403))
        rw [hwa] at FA
        obtain ⟨m0, m1, m2, m3, m4, m5⟩ := six_cells FA.out.b3
        obtain ⟨⟨z0, z1, z2, z3, z4, z5⟩, ⟨y0, y1, y2, y3, y4, y5⟩, ⟨x0, x1, x2, x3, x4, x5⟩, hbut, -⟩ := set6 FA.out.b1 (.int .i64 4) (.int .i64 403) (.string x.ro) (.int .i64 r) (.string ⟨#[]⟩) (.string ⟨#[]⟩)
        have HBT := hideL (hbut.low FA.out.bel (by omega) (Nat.le_of_lt (lt_of_block FA.out.b0)))
        clear hbut hlt
        go_wp2_with fail
        rw [Exit.noGoto_ret]
        refine bodyPost_ret (v := .agg #[.int .i64 4, .int .i64 403, .string x.ro, .int .i64 r, .string ⟨#[]⟩, .string ⟨#[]⟩]) (by simp [results, Tryd.results8, go_sem, x0, x1, x2, x3, x4, x5]) rfl ?_
        exact ⟨by rw [HRV.out]; rfl, by rw [HBQ.out]; exact HBT.out⟩
      · have HAB := hideL hal
        clear hal
        have k0w13 := (six_cells F13.out.b3).1
        have f0w13 := thawed F13.out.b3 0
        obtain ⟨w14, hw14⟩ : ∃ X, w13.setCell ⟨B3, 0, none⟩ (.int .i64 5) = X := ⟨_, rfl⟩
        have F14 := hideL (F13.out.put0 (.int .i64 5))
        rw [hw14] at F14

        have k3w14 := (six_cells F14.out.b3).2.2.2.1
        have q2 := (four_cells F14.out.b2).2.2.1
        have HI14 := hideL (HI.out _ F14.out.bel)
        have HE := hideL (HI14.out.each en (List.mem_of_getElem? HRK.out))
        obtain ⟨g2, off2, eb, dcx⟩ := HI14.out.es.at_ HRK.out
        have d0 := dcx 0 _ rfl
        have d1 := dcx 1 _ rfl
        have d2 := dcx 2 _ rfl
        rw [Nat.add_zero] at d0
        rw [eb] at q2
        obtain ⟨ms, hms⟩ : ∃ ms, en.shs.length = ms := ⟨_, rfl⟩
        obtain ⟨sv, hsv⟩ : ∃ sv, shF en.shs u = sv := ⟨_, rfl⟩
        have HSV := hideL hsv
        have HSH := hideL (share_any w14 en u HE.out)
        rw [hms, hsv] at HSH
        rw [hms] at d2
        clear dcx eb hms hsv
        go_wp2_with fail
        refine HSH.out.mono ?_
        rintro e w15 ⟨rfl, hb15⟩
        have F15 := hideL (F14.out.call hb15)
        clear hb15 q2 k3w14 hw14 k0w13 f0w13 d0 d1 d2 HSH F13 F14 HI14 HE
        have k4w15 := (six_cells F15.out.b3).2.2.2.2.1
        have f4w15 := thawed F15.out.b3 4
        obtain ⟨w16, hw16⟩ : ∃ X, w15.setCell ⟨B3, 4, none⟩ (.string sv) = X := ⟨_, rfl⟩
        have F16 := hideL (F15.out.put4 (.string sv))
        rw [hw16] at F16

        have k4w16 := (six_cells F16.out.b3).2.2.2.2.1
        have HEP := hideL (endpoints_any w16 ya yn yc L sv (HY.out _ F16.out.bel))
        go_wp2_with fail
        refine HEP.out.mono ?_
        rintro e w17 ⟨rfl, hb17⟩
        have F17 := hideL (F16.out.call hb17)
        clear hb17 k4w16 hw16 k4w15 f4w15 HEP F15 F16
        rcases hep : epsF L sv with _ | hyo
        · have HRV : Hid (R = ⟨5, 503, x.ro, r, sv, e0⟩) := by unfold Hid; rw [← HR.out, ← HSV.out]; exact dec5 HFI.out HIX.out HRU.out HAB.out HRK.out (by rw [HSV.out, hep]; rfl)
          clear hep
          have hxe : epsV none = .slice none 0 0 := rfl
          rw [hxe]
          go_wp2_with fail
          go_step3
          refine ⟨rfl, ?_⟩
          obtain ⟨k0, k1, k2, k3, k4, k5⟩ := six_cells F17.out.b3
          have kz := thawed F17.out.b3 1
          have hlt := F17.out.lt
          have ks := (HST.out _ F17.out.bel).2.2.2.2
          obtain ⟨wa, hwa⟩ : ∃ X, w17.setCell ⟨B3, 1, none⟩ (.int .i64 503) = X := ⟨_, rfl⟩
          have FA := hideL (F17.out.put1 (.int .i64 503))
          rw [hwa] at FA
          obtain ⟨m0, m1, m2, m3, m4, m5⟩ := six_cells FA.out.b3
          obtain ⟨⟨z0, z1, z2, z3, z4, z5⟩, ⟨y0, y1, y2, y3, y4, y5⟩, ⟨x0, x1, x2, x3, x4, x5⟩, hbut, -⟩ := set6 FA.out.b1 (.int .i64 5) (.int .i64 503) (.string x.ro) (.int .i64 r) (.string sv) (.string ⟨#[]⟩)
          have HBT := hideL (hbut.low FA.out.bel (by omega) (Nat.le_of_lt (lt_of_block FA.out.b0)))
          clear hbut hlt
          go_wp2_with fail
          rw [Exit.noGoto_ret]
          refine bodyPost_ret (v := .agg #[.int .i64 5, .int .i64 503, .string x.ro, .int .i64 r, .string sv, .string ⟨#[]⟩]) (by simp [results, Tryd.results8, go_sem, x0, x1, x2, x3, x4, x5]) rfl ?_
          exact ⟨by rw [HRV.out]; rfl, by rw [HBQ.out]; exact HBT.out⟩
        · have HPE := hideL hep
          obtain ⟨kk, hkk⟩ : ∃ kk, hyo.eps.length = kk := ⟨_, rfl⟩
          have HKK := hideL hkk
          have hxe : epsV (some hyo) = .slice hyo.ea kk hyo.ec := by rw [← hkk]; rfl
          rw [hxe]
          have hkl : kk ≤ 140737488355328 := by rw [← hkk]; exact ((HY.out _ F17.out.bel).each hyo (epsF_mem hep).1).le
          clear hep hkk
          by_cases hz : kk = 0
          · have HRV : Hid (R = ⟨5, 503, x.ro, r, sv, e0⟩) := by unfold Hid; rw [← HR.out, ← HSV.out]; exact dec5 HFI.out HIX.out HRU.out HAB.out HRK.out (by rw [HSV.out, HPE.out]; show hyo.eps.length = 0; rw [HKK.out]; exact hz)
            have hz' : ((kk : Int) == 0) = true := by simp [hz]
            clear hz
            go_wp2_with fail
            go_step3
            refine ⟨rfl, ?_⟩
            obtain ⟨k0, k1, k2, k3, k4, k5⟩ := six_cells F17.out.b3
            have kz := thawed F17.out.b3 1
            have hlt := F17.out.lt
            have ks := (HST.out _ F17.out.bel).2.2.2.2
            obtain ⟨wa, hwa⟩ : ∃ X, w17.setCell ⟨B3, 1, none⟩ (.int .i64 503) = X := ⟨_, rfl⟩
            have FA := hideL (F17.out.put1 (.int .i64 503))
            rw [hwa] at FA
            obtain ⟨m0, m1, m2, m3, m4, m5⟩ := six_cells FA.out.b3
            obtain ⟨⟨z0, z1, z2, z3, z4, z5⟩, ⟨y0, y1, y2, y3, y4, y5⟩, ⟨x0, x1, x2, x3, x4, x5⟩, hbut, -⟩ := set6 FA.out.b1 (.int .i64 5) (.int .i64 503) (.string x.ro) (.int .i64 r) (.string sv) (.string ⟨#[]⟩)
            have HBT := hideL (hbut.low FA.out.bel (by omega) (Nat.le_of_lt (lt_of_block FA.out.b0)))
            clear hbut hlt
            go_wp2_with fail
            rw [Exit.noGoto_ret]
            refine bodyPost_ret (v := .agg #[.int .i64 5, .int .i64 503, .string x.ro, .int .i64 r, .string sv, .string ⟨#[]⟩]) (by simp [results, Tryd.results8, go_sem, x0, x1, x2, x3, x4, x5]) rfl ?_
            exact ⟨by rw [HRV.out]; rfl, by rw [HBQ.out]; exact HBT.out⟩
          · have hz' : ((kk : Int) == 0) = false := by simp [hz]
            have HZ := hideL hz
            clear hz
            have hlo : (0 : Int) ≤ max n 0 % (kk : Int) := Int.emod_nonneg _ (by have := HZ.out; omega)
            have hhi : max n 0 % (kk : Int) < (kk : Int) := Int.emod_lt_of_pos _ (by have := HZ.out; omega)
            have hixk : (max n 0 % (kk : Int)).toNat < kk := by omega
            rcases hpk : hyo.eps[(max n 0 % (kk : Int)).toNat]? with _ | p
            · have := List.getElem?_eq_none_iff.1 hpk; have := HKK.out; omega
            have HRV : Hid (R = ⟨1, 0, x.ro, r, sv, p⟩) := by unfold Hid; rw [← HR.out, ← HSV.out]; exact dec1 HFI.out HIX.out HRU.out HAB.out HRK.out (by rw [HSV.out, HPE.out]; show hyo.eps[pickN n hyo.eps.length]? = some p; rw [HKK.out]; exact hpk)
            have k0w17 := (six_cells F17.out.b3).1
            have f0w17 := thawed F17.out.b3 0
            obtain ⟨w18, hw18⟩ : ∃ X, w17.setCell ⟨B3, 0, none⟩ (.int .i64 1) = X := ⟨_, rfl⟩
            have F18 := hideL (F17.out.put0 (.int .i64 1))
            rw [hw18] at F18

            have HY18 := hideL ((HY.out _ F18.out.bel).each hyo (epsF_mem HPE.out).1)
            have hop := HY18.out.ok p (List.mem_of_getElem? hpk)
            obtain ⟨g3, off3, ec, ecx⟩ := HY18.out.es.at_ hpk
            have n0 := ecx 0 _ rfl
            simp only [Nat.add_zero, Nat.mul_one] at n0
            rw [ec]
            clear ecx hpk ec hixk
            go_wp2_with fail
            refine (clone_any p _ hop).mono ?_
            rintro e w19 ⟨rfl, hb19⟩
            have F19 := hideL (F18.out.call hb19)
            clear hb19 n0 hw18 k0w17 f0w17
            have k5w19 := (six_cells F19.out.b3).2.2.2.2.2
            have f5w19 := thawed F19.out.b3 5
            obtain ⟨w20, hw20⟩ : ∃ X, w19.setCell ⟨B3, 5, none⟩ (.string p) = X := ⟨_, rfl⟩
            have F20 := hideL (F19.out.put5 (.string p))
            rw [hw20] at F20
            obtain ⟨k0, k1, k2, k3, k4, k5⟩ := six_cells F20.out.b3
            have kz := thawed F20.out.b3 1
            have hlt := F20.out.lt
            have ks := (HST.out _ F20.out.bel).1
            obtain ⟨wa, hwa⟩ : ∃ X, w20.setCell ⟨B3, 1, none⟩ (.int .i64 0) = X := ⟨_, rfl⟩
            have FA := hideL (F20.out.put1 (.int .i64 0))
            rw [hwa] at FA
            obtain ⟨m0, m1, m2, m3, m4, m5⟩ := six_cells FA.out.b3
            obtain ⟨⟨z0, z1, z2, z3, z4, z5⟩, ⟨y0, y1, y2, y3, y4, y5⟩, ⟨x0, x1, x2, x3, x4, x5⟩, hbut, -⟩ := set6 FA.out.b1 (.int .i64 1) (.int .i64 0) (.string x.ro) (.int .i64 r) (.string sv) (.string p)
            have HBT := hideL (hbut.low FA.out.bel (by omega) (Nat.le_of_lt (lt_of_block FA.out.b0)))
            clear hbut hlt
            go_wp2_with fail
            go_step3
            go_wp2_with fail
            refine jump_ret ?_
            refine bodyPost_ret (v := .agg #[.int .i64 1, .int .i64 0, .string x.ro, .int .i64 r, .string sv, .string p]) (by simp [results, Tryd.results8, go_sem, x0, x1, x2, x3, x4, x5]) rfl ?_
            exact ⟨by rw [HRV.out]; rfl, by rw [HBQ.out]; exact HBT.out⟩

end Go.Proofs.YtfhobglcploaoaaDoor
