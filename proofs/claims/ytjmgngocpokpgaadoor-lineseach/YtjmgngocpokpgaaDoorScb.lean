/-
  lines.Scan.
-/
import Derived.Test.YtjmgngocpokpgaaDoorSca
import Derived.Maps.OwnIn
namespace Go.Proofs.YtjmgngocpokpgaaDoor
open Go.RowKit Go.Shelf
set_option linter.unusedVariables false
set_option linter.unusedSimpArgs false
attribute [local go_sem] Oper.semAt_some
/-- The fault that is told, or none. -/
def fltOf (xs : List Tl) : Int × Int × Int := match xs.find? (fun x => decide (x.e ≠ 0)) with
  | some x => (x.d, x.ln, x.e)
  | none => (0, 0, 0)
def toksOf (xs : List Tl) : List Tk := match xs.find? (fun x => decide (x.e ≠ 0)) with
  | some _ => []
  | none => xs.map (·.tk)
def Tl.row (x : Tl) : List Value := x.tk.row
theorem tl_flat (xs : List Tl) : xs.flatMap Tl.row = (xs.map (·.tk)).flatMap Tk.row := by
  induction xs with
  | nil => rfl
  | cons x xs ih => simp only [List.flatMap_cons, List.map_cons, ih]; rfl
def Fine (x : Tl) : Prop := x.d = 0 ∧ x.ln = 0 ∧ x.e = 0
/-- Between two rounds of Scan's loop. -/
def ScI (w : World) (B : Nat) (pre : List Tl) (W : World) : Prop :=
  W.heap[w.heap.size]? = some (.cells #[.slice none 0 0] 29 (0, 0)) ∧ W.heap[w.heap.size + 1]? = some (.cells #[.int .i64 0, .int .i64 0, .int .i64 0] 32 (0, 0)) ∧
  (∃ v, W.heap[w.heap.size + 2]? = some (.cells #[v] 29 (0, 0)) ∧ W.ownsRow B 39 5 v pre.length (pre.flatMap Tl.row)) ∧ (∀ x ∈ pre, Fine x) ∧ Below w.heap.size w W ∧ B ≤ W.heap.size
/-- Where it is left for a fault. -/
def ScX (w : World) (B : Nat) (c : Code) (pre : List Tl) (W : World) : Prop :=
  c = .ret ∧ ∃ p x, pre = p ++ [x] ∧ (∀ y ∈ p, Fine y) ∧ x.e ≠ 0 ∧ W.heap[w.heap.size]? = some (.cells #[.slice none 0 0] 29 (0, 0)) ∧ W.heap[w.heap.size + 1]? = some (.cells #[.int .i64 x.d, .int .i64 x.ln, .int .i64 x.e] 32 (0, 0)) ∧ Below w.heap.size w W
theorem keep_cells {X Y : World} {row : Option Nat} {B : Nat} (hg : X.grownBy Y row) (hr : ∀ r, row = some r → B ≤ r ∧ ∃ o : Obj, X.heap[r]? = some o ∧ o.isCells = false) (k : Nat) (cs : Array Value) (t : TypeId) (fr : Nat × Nat) (h : X.heap[k]? = some (.cells cs t fr)) : Y.heap[k]? = some (.cells cs t fr) :=
  (hg.block k (Array.getElem?_eq_some_iff.1 h).1 (fun e => by obtain ⟨_, o, ho, hc⟩ := hr k e.symm; rw [h] at ho; cases ho; cases hc)).trans h
theorem scI_own (w : World) (B B' : Nat) (hB : w.heap.size ≤ B') : OwnFrom B' (ScI w B) := by
  intro s X Y row hs hg hr
  obtain ⟨h1, h2, ⟨v, h3, h4⟩, h5, h6, h7⟩ := hs
  refine ⟨keep_cells hg hr _ _ _ _ h1, keep_cells hg hr _ _ _ _ h2, ⟨v, keep_cells hg hr _ _ _ _ h3, own_blk h4 (fun k hk => ?_)⟩, h5, ?_, Nat.le_trans h7 hg.size⟩
  · obtain ⟨cur, hc⟩ := own_cells h4 k hk
    exact (keep_cells hg hr k _ _ _ hc).trans hc.symm
  · exact h6.grown hg h6.size (fun k h => Nat.le_trans hB (hr k h).1)
theorem scX_own (w : World) (B B' : Nat) (hB : w.heap.size ≤ B') (c : Code) : OwnFrom B' (ScX w B c) := by
  intro s X Y row hs hg hr
  obtain ⟨h0, p, x, h1, h2, h3, h4, h5, h6⟩ := hs
  exact ⟨h0, p, x, h1, h2, h3, keep_cells hg hr _ _ _ _ h4, keep_cells hg hr _ _ _ _ h5, h6.grown hg h6.size (fun k h => Nat.le_trans hB (hr k h).1)⟩
/-- A token more. -/
theorem sc_app {w W w1 : World} {B B' : Nat} {pre : List Tl} {x : Tl} {v : Value} {g' cap' : Nat} (hB : w.heap.size + 2 < B) (h1 : W.heap[w.heap.size]? = some (.cells #[.slice none 0 0] 29 (0, 0))) (h2 : W.heap[w.heap.size + 1]? = some (.cells #[.int .i64 0, .int .i64 0, .int .i64 0] 32 (0, 0)))
    (hv : W.heap[w.heap.size + 2]? = some (.cells #[v] 29 (0, 0))) (hrow : W.ownsRow B 39 5 v pre.length (pre.flatMap Tl.row)) (hf : ∀ y ∈ pre, Fine y) (hx : Fine x) (hb : Below w.heap.size w W) (hs : B ≤ W.heap.size) {o : Obj}
    (hown' : w1.ownsRow B 39 5 (.slice (some ⟨g', 0, none⟩) (pre.length + 1) cap') (pre.length + 1) (pre.flatMap Tl.row ++ x.row)) (hg : (W.alloc o).grownBy w1 v.ownBlock) (hat : (Value.slice (some ⟨g', 0, none⟩) (pre.length + 1) cap').ownBlock = v.ownBlock ∨ (Value.slice (some ⟨g', 0, none⟩) (pre.length + 1) cap').ownBlock = some (W.alloc o).heap.size) :
    (w1.cell? ⟨w.heap.size + 2, 0, none⟩ = some v ∧ w1.frozen? ⟨w.heap.size + 2, 0, none⟩ = false) ∧
    Hid (KeepsFrom B' W (w1.setCell ⟨w.heap.size + 2, 0, none⟩ (.slice (some ⟨g', 0, none⟩) (pre.length + 1) cap')) ∧
      Kc [w.heap.size, w.heap.size + 1] (w.heap.size + 2) W (w1.setCell ⟨w.heap.size + 2, 0, none⟩ (.slice (some ⟨g', 0, none⟩) (pre.length + 1) cap')) ∧
      ScI w B (pre ++ [x]) (w1.setCell ⟨w.heap.size + 2, 0, none⟩ (.slice (some ⟨g', 0, none⟩) (pre.length + 1) cap'))) := by
  have hlow : ∀ k, v.ownBlock = some k → B ≤ k := fun k h => (hrow.lt k h).1
  have hsz : W.heap.size + 1 ≤ w1.heap.size := by have := hg.size; simpa using this
  have same : ∀ k, k < W.heap.size → some k ≠ v.ownBlock → w1.heap[k]? = W.heap[k]? := fun k hk hne =>
    (hg.block k (by simp; omega) hne).trans (Go.heap_alloc_old W _ hk)
  have low : ∀ k, k < B → w1.heap[k]? = W.heap[k]? := fun k hk => same k (by omega) (fun e => by have := hlow k e.symm; omega)
  have hv1 := (low (w.heap.size + 2) (by omega)).trans hv
  refine ⟨⟨cell_of_row _ _ 0 _ _ _ hv1, frozen_of_row _ _ 0 _ _ hv1⟩, ?_⟩
  obtain ⟨W2, hW2⟩ : ∃ W2, w1.setCell ⟨w.heap.size + 2, 0, none⟩ (.slice (some ⟨g', 0, none⟩) (pre.length + 1) cap') = W2 := ⟨_, rfl⟩
  rw [hW2]
  have s1 : ∀ k, k ≠ w.heap.size + 2 → W2.heap[k]? = w1.heap[k]? := fun k hk => by rw [← hW2]; exact Below.heap_setCell w1 _ _ k hk
  have z2 : W2.heap.size = w1.heap.size := by rw [← hW2]; simp
  have hv2 : W2.heap[w.heap.size + 2]? = some (.cells #[.slice (some ⟨g', 0, none⟩) (pre.length + 1) cap'] 29 (0, 0)) := by rw [← hW2]; exact one_setCell hv1
  have cA : W.cell? ⟨w.heap.size + 2, 0, none⟩ = some v := cell_of_row _ _ 0 _ _ _ hv
  have cB : W2.cell? ⟨w.heap.size + 2, 0, none⟩ = some (.slice (some ⟨g', 0, none⟩) (pre.length + 1) cap') := cell_of_row _ _ 0 _ _ _ hv2
  have hgl := (hown'.lt g' rfl)
  refine ⟨?_, ⟨by omega, ?_, ?_⟩, ?_⟩
  · have k1 : KeepsOthers W w1 := (KeepsOthers.alloc W _).trans (KeepsOthers.of_grownBy hg (fun j o hj ho => by
      obtain ⟨cur, hgg⟩ := own_cells (hrow.alloc _) j hj
      rw [hgg] at ho; cases ho; rfl))
    have k2 : KeepsOthers w1 W2 := by rw [← hW2]; exact KeepsOthers.setCell _ _ _
    exact (k1.trans k2).from B'
  · intro _ k hk
    unfold Cs at hk
    rw [cB] at hk
    simp [Value.ownBlock] at hk
    omega
  · intro k o2 ho hc hn
    unfold Cs at hn
    rw [cA] at hn
    simp at hn
    obtain ⟨⟨n1, n2⟩, n3, n4⟩ := hn
    have hkl := (Array.getElem?_eq_some_iff.1 ho).1
    have e1 := (s1 k n3).trans (same k hkl (fun e => n4 e.symm))
    refine ⟨e1.trans ho, ?_⟩
    unfold Cs
    rw [cB]
    simp [Value.ownBlock]
    refine ⟨⟨n1, n2⟩, n3, ?_⟩
    intro e
    subst e
    rcases hat with h | h
    · exact n4 h.symm
    · simp [Value.ownBlock] at h
      omega
  · refine ⟨(s1 _ (by omega)).trans ((low _ (by omega)).trans h1), (s1 _ (by omega)).trans ((low _ (by omega)).trans h2), ⟨_, hv2, ?_⟩, ?_, ?_, by omega⟩
    · rw [List.length_append, List.flatMap_append]
      have e : [x].flatMap Tl.row = x.row := by simp
      rw [e]
      refine own_blk hown' (fun k hk => ?_)
      have := (hown'.lt k hk).1
      exact s1 k (by omega)
    · intro y hy
      rcases List.mem_append.1 hy with h | h
      · exact hf y h
      · obtain rfl := List.mem_singleton.1 h
        exact hx
    · have b1 : Below w.heap.size w w1 := (hb.alloc hb.size _).grown hg (by have := hb.size; simp; omega) (fun k h => by have := hlow k h; omega)
      rw [← hW2]
      exact b1.setCell (p := ⟨w.heap.size + 2, 0, none⟩) (by show _ ≤ w.heap.size + 2; omega) _
end Go.Proofs.YtjmgngocpokpgaaDoor
