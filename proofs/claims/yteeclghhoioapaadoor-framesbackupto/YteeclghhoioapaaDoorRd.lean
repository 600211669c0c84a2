/-
  read: what a payload tells.
-/
import Derived.Test.YteeclghhoioapaaDoorCn
namespace Go.Proofs.YteeclghhoioapaaDoor
open Go.RowKit
set_option linter.unusedVariables false
set_option linter.unusedSimpArgs false
set_option maxRecDepth 100000
/-- A message of nothing. -/
def zeroM : Ms := { kind := 0 }
/-- What read holds on to. -/
structure Rd (w0 w : World) (C M : Nat) (c : Cur) (m : Ms) : Prop where
  cu : Cu w C c
  mx : w.heap[M]? = some (.cells (mcs m).toArray 29 (0, 0))
  rx : w.heap[w0.heap.size]? = some (.cells (mcs zeroM).toArray 29 (0, 0))
  l1 : w0.heap.size < C
  l2 : C < M
  bel : Below w0.heap.size w0 w
theorem Rd.next {w0 w w' : World} {C M : Nat} {c c' : Cur} {m : Ms} (h : Rd w0 w C M c m) (hc : Cu w' C c') (hb : Bt w w' C) : Rd w0 w' C M c' m := by
  have hM := (Array.getElem?_eq_some_iff.1 h.mx).1
  have l1 := h.l1; have l2 := h.l2
  refine ⟨hc, (hb.block M hM (by omega)).trans h.mx, (hb.block w0.heap.size (by omega) (by omega)).trans h.rx, l1, l2, ?_⟩
  exact Bt.under h.bel hb (by omega)
theorem Rd.set {w0 w : World} {C M : Nat} {c : Cur} {m m' : Ms} (h : Rd w0 w C M c m) (i : Nat) (v : Value) (hm : (mcs m).toArray.setIfInBounds i v = (mcs m').toArray) : Rd w0 (w.setCell ⟨M, i, none⟩ v) C M c m' := by
  have l1 := h.l1; have l2 := h.l2
  have hb := Bt.set w M i v
  refine ⟨?_, ?_, ?_, l1, l2, h.bel.setCell (by show w0.heap.size ≤ M; omega) v⟩
  · obtain ⟨a, n, cap, hC, hB, hx⟩ := h.cu
    exact ⟨a, n, cap, (hb.block C (Array.getElem?_eq_some_iff.1 hC).1 (by omega)).trans hC, hB.bt hb (fun x hh => by have := (hx x hh).2; omega), hx⟩
  · rw [← hm]; exact heap_setCell_same w M i _ 29 v h.mx
  · exact (hb.block w0.heap.size (Array.getElem?_eq_some_iff.1 h.rx).1 (by omega)).trans h.rx
theorem cs7 {w : World} {B : Nat} {kind ver frm non err : Int} {name text : ByteArray} {t : TypeId} (h : w.heap[B]? = some (.cells (mcs { kind := kind, name := name, ver := ver, frm := frm, non := non, err := err, text := text }).toArray t (0, 0))) :
    w.cell? ⟨B, 0, none⟩ = some (.int .i64 kind) ∧ w.cell? ⟨B, 1, none⟩ = some (.string name) ∧ w.cell? ⟨B, 2, none⟩ = some (.int .i64 ver) ∧ w.cell? ⟨B, 3, none⟩ = some (.int .i64 frm) ∧ w.cell? ⟨B, 4, none⟩ = some (.int .i64 non) ∧ w.cell? ⟨B, 5, none⟩ = some (.int .i64 err) ∧ w.cell? ⟨B, 6, none⟩ = some (.string text) ∧
    w.frozen? ⟨B, 0, none⟩ = false ∧ w.frozen? ⟨B, 1, none⟩ = false ∧ w.frozen? ⟨B, 2, none⟩ = false ∧ w.frozen? ⟨B, 3, none⟩ = false ∧ w.frozen? ⟨B, 4, none⟩ = false ∧ w.frozen? ⟨B, 5, none⟩ = false ∧ w.frozen? ⟨B, 6, none⟩ = false := by
  refine ⟨?_, ?_, ?_, ?_, ?_, ?_, ?_, ?_, ?_, ?_, ?_, ?_, ?_, ?_⟩ <;> first | (rw [cell_of_row w B _ _ t _ h]; rfl) | exact frozen_of_row w B _ _ t h
/-- What read leaves. -/
def RdE (w : World) (p : List Int) (e : Ending) (w' : World) : Prop := e = .returned (.tuple #[mv (pread p).1, .bool (pread p).2]) ∧ Below w.heap.size w w'
theorem Rd.below {w0 w w' : World} {C M : Nat} {c : Cur} {m : Ms} (h : Rd w0 w C M c m) (hb : Below w.heap.size w w') : Rd w0 w' C M c m := by
  refine ⟨h.cu.below hb, (hb.block M (Array.getElem?_eq_some_iff.1 h.mx).1).trans h.mx, (hb.block _ (Array.getElem?_eq_some_iff.1 h.rx).1).trans h.rx, h.l1, h.l2, h.bel.trans (hb.mono h.bel.size)⟩
/-- The seven cells, written one behind the other. -/
def put7 (w : World) (R : Nat) (a0 a1 a2 a3 a4 a5 a6 : Value) : World := ((((((w.setCell ⟨R, 0, none⟩ a0).setCell ⟨R, 1, none⟩ a1).setCell ⟨R, 2, none⟩ a2).setCell ⟨R, 3, none⟩ a3).setCell ⟨R, 4, none⟩ a4).setCell ⟨R, 5, none⟩ a5).setCell ⟨R, 6, none⟩ a6
theorem put7_spec {w : World} {R : Nat} {b0 b1 b2 b3 b4 b5 b6 : Value} {t : TypeId} (h : w.heap[R]? = some (.cells #[b0, b1, b2, b3, b4, b5, b6] t (0, 0))) (a0 a1 a2 a3 a4 a5 a6 : Value) :
    (put7 w R a0 a1 a2 a3 a4 a5 a6).heap[R]? = some (.cells #[a0, a1, a2, a3, a4, a5, a6] t (0, 0)) ∧ Bt w (put7 w R a0 a1 a2 a3 a4 a5 a6) R := by
  have s0 : (w.setCell ⟨R, 0, none⟩ a0).heap[R]? = some (.cells #[a0, b1, b2, b3, b4, b5, b6] t (0, 0)) := heap_setCell_same w R 0 _ t a0 h
  have s1 : ((w.setCell ⟨R, 0, none⟩ a0).setCell ⟨R, 1, none⟩ a1).heap[R]? = some (.cells #[a0, a1, b2, b3, b4, b5, b6] t (0, 0)) := heap_setCell_same (w.setCell ⟨R, 0, none⟩ a0) R 1 _ t a1 s0
  have s2 : (((w.setCell ⟨R, 0, none⟩ a0).setCell ⟨R, 1, none⟩ a1).setCell ⟨R, 2, none⟩ a2).heap[R]? = some (.cells #[a0, a1, a2, b3, b4, b5, b6] t (0, 0)) := heap_setCell_same ((w.setCell ⟨R, 0, none⟩ a0).setCell ⟨R, 1, none⟩ a1) R 2 _ t a2 s1
  have s3 : ((((w.setCell ⟨R, 0, none⟩ a0).setCell ⟨R, 1, none⟩ a1).setCell ⟨R, 2, none⟩ a2).setCell ⟨R, 3, none⟩ a3).heap[R]? = some (.cells #[a0, a1, a2, a3, b4, b5, b6] t (0, 0)) := heap_setCell_same (((w.setCell ⟨R, 0, none⟩ a0).setCell ⟨R, 1, none⟩ a1).setCell ⟨R, 2, none⟩ a2) R 3 _ t a3 s2
  have s4 : (((((w.setCell ⟨R, 0, none⟩ a0).setCell ⟨R, 1, none⟩ a1).setCell ⟨R, 2, none⟩ a2).setCell ⟨R, 3, none⟩ a3).setCell ⟨R, 4, none⟩ a4).heap[R]? = some (.cells #[a0, a1, a2, a3, a4, b5, b6] t (0, 0)) := heap_setCell_same ((((w.setCell ⟨R, 0, none⟩ a0).setCell ⟨R, 1, none⟩ a1).setCell ⟨R, 2, none⟩ a2).setCell ⟨R, 3, none⟩ a3) R 4 _ t a4 s3
  have s5 : ((((((w.setCell ⟨R, 0, none⟩ a0).setCell ⟨R, 1, none⟩ a1).setCell ⟨R, 2, none⟩ a2).setCell ⟨R, 3, none⟩ a3).setCell ⟨R, 4, none⟩ a4).setCell ⟨R, 5, none⟩ a5).heap[R]? = some (.cells #[a0, a1, a2, a3, a4, a5, b6] t (0, 0)) := heap_setCell_same (((((w.setCell ⟨R, 0, none⟩ a0).setCell ⟨R, 1, none⟩ a1).setCell ⟨R, 2, none⟩ a2).setCell ⟨R, 3, none⟩ a3).setCell ⟨R, 4, none⟩ a4) R 5 _ t a5 s4
  have s6 : (((((((w.setCell ⟨R, 0, none⟩ a0).setCell ⟨R, 1, none⟩ a1).setCell ⟨R, 2, none⟩ a2).setCell ⟨R, 3, none⟩ a3).setCell ⟨R, 4, none⟩ a4).setCell ⟨R, 5, none⟩ a5).setCell ⟨R, 6, none⟩ a6).heap[R]? = some (.cells #[a0, a1, a2, a3, a4, a5, a6] t (0, 0)) := heap_setCell_same ((((((w.setCell ⟨R, 0, none⟩ a0).setCell ⟨R, 1, none⟩ a1).setCell ⟨R, 2, none⟩ a2).setCell ⟨R, 3, none⟩ a3).setCell ⟨R, 4, none⟩ a4).setCell ⟨R, 5, none⟩ a5) R 6 _ t a6 s5
  exact ⟨s6, ((((((Bt.set w R 0 a0).trans (Bt.set _ R 1 a1)).trans (Bt.set _ R 2 a2)).trans (Bt.set _ R 3 a3)).trans (Bt.set _ R 4 a4)).trans (Bt.set _ R 5 a5)).trans (Bt.set _ R 6 a6)⟩
/-- What is there when the answer is laid. -/
theorem Rd.out {w0 w w' : World} {M : Nat} {c : Cur} {m : Ms} (h : Rd w0 w (w0.heap.size + 1) M c m) (hb : Bt w w' w0.heap.size) : w'.heap[M]? = some (.cells (mcs m).toArray 29 (0, 0)) ∧ w'.heap[w0.heap.size + 1]? = w.heap[w0.heap.size + 1]? ∧ Below w0.heap.size w0 w' := by
  have l2 := h.l2
  exact ⟨(hb.block M (Array.getElem?_eq_some_iff.1 h.mx).1 (by omega)).trans h.mx, hb.block _ h.cu.lt (by omega), Bt.under h.bel hb (Nat.le_refl _)⟩
theorem cell_same {w w' : World} {B : Nat} (h : w'.heap[B]? = w.heap[B]?) (i : Nat) : w'.cell? ⟨B, i, none⟩ = w.cell? ⟨B, i, none⟩ := World.cell?_of_block (w := w) h
theorem ret_tup {u : Value} {a b : Bool} (h : a = b) : Ending.returned (.tuple #[u, .bool a]) = .returned (.tuple #[u, .bool b]) := by rw [h]
theorem tk_rest (c : Cur) (k : Int) : (c.tk k).2.rest.length ≤ c.rest.length ∧ (c.tk k).1.length ≤ c.rest.length := by
  unfold Cur.tk
  split
  · simp
  · simp; omega
theorem nm_rest (wd : Nat) (c : Cur) : (c.nm wd).2.rest.length ≤ c.rest.length := (tk_rest c wd).1
theorem tx_size (wd : Nat) (c : Cur) : (c.tx wd).1.size ≤ c.rest.length := by
  unfold Cur.tx
  rw [bstr_size]
  exact Nat.le_trans (tk_rest _ _).2 (nm_rest wd c)
/-- What is held ahead of the message's own block. -/
structure Rd0 (w0 w : World) (C : Nat) (c : Cur) : Prop where
  cu : Cu w C c
  rx : w.heap[w0.heap.size]? = some (.cells (mcs zeroM).toArray 29 (0, 0))
  l1 : w0.heap.size < C
  bel : Below w0.heap.size w0 w
theorem Rd0.start {w0 w : World} {C : Nat} {c : Cur} (h : Rd0 w0 w C c) (m : Ms) : Rd w0 (w.alloc (.cells (mcs m).toArray 29)) C w.heap.size c m := by
  have hb : Below w.heap.size w (w.alloc (.cells (mcs m).toArray 29)) := (Below.refl _ _).alloc (Nat.le_refl _) _
  refine ⟨h.cu.below hb, heap_alloc_new _ _, (hb.block _ (Array.getElem?_eq_some_iff.1 h.rx).1).trans h.rx, h.l1, h.cu.lt, h.bel.trans (hb.mono ?_)⟩
  have := h.cu.lt; have := h.l1; omega
end Go.Proofs.YteeclghhoioapaaDoor
