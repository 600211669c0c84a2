import Derived.Test.YtmmnpnhffgpchaaGreatDoorBn8
import Derived.Test.YtmmnpnhffgpchaaGreatDoorLRng2
import Derived.Maps.OwnIn
/-
  lines.Each, lines.Scan.
-/
namespace Go.Proofs.YtmmnpnhffgpchaaGreatDoor.Ln
open Go.RowKit Go.Shelf
set_option linter.unusedVariables false
set_option linter.unusedSimpArgs false
attribute [local go_sem] Oper.semAt_some
theorem str_has (w : World) (a : Option Addr) (n cap : Nat) (l : List UInt8) (hn : l.length = n) (hB : Has w a (zL l)) : (convert 22 9 (.slice a n cap)).run Tryz.prog w = .ok (.string ⟨l.toArray⟩) w := by
  rw [run_convert_bytes_string w 22 9 5 a n cap Tryz.underlying22 Tryz.underlying5 Tryz.underlying9]
  subst hn
  rcases hB with ⟨rfl, h0⟩ | ⟨x, rfl, hB⟩
  · have : l = [] := by simpa [zL] using h0
    subst this
    simp [Conv.bytesToString]; rfl
  · have hl := run_loadCells_list (P := Tryz.prog) w x ((zL l).map (Value.int .u8)) (fun j v hj => by
      obtain ⟨hj', rfl⟩ := vals_at (zL l) j v hj
      exact hB j hj')
    simp only [List.length_map, zL_length] at hl
    have := run_bytesToString w x l.length cap (zL l) hl
    rw [this, fold_push]
    congr
    simp
theorem each_big (a : Option Addr) (n cap : Nat) (w : World) (hn : 65536 < n) (hl : n ≤ maxLen) : Calls Tryz.prog 15 #[.slice a n cap] w fun e w' => e = .returned (.func (.func 25) #[] #[]) ∧ w' = w := by
  unfold maxLen at hl
  have h1 : (65536 : Int) < n := by omega
  go_enter Tryz.func15, Tryz.ntmps15
  go_wp2
  go_ret
  exact ⟨rfl, rfl⟩
theorem each_any (a : Option Addr) (n cap : Nat) (l : List UInt8) (w : World) (hn : l.length = n) (hB : Has w a (zL l)) (hl : n ≤ 65536) :
    Calls Tryz.prog 15 #[.slice a n cap] w fun e w' => e = .returned (.func (.func 26) #[] #[.pointer (some ⟨w.heap.size, 0, none⟩)]) ∧ w' = w.alloc (.cells #[.string ⟨l.toArray⟩] 9) := by
  have h1 : ¬ (65536 : Int) < n := by omega
  have hc := str_has w a n cap l hn hB
  clear hB
  go_enter Tryz.func15, Tryz.ntmps15
  go_wp2
  go_ret
  exact ⟨rfl, rfl⟩
end Go.Proofs.YtmmnpnhffgpchaaGreatDoor.Ln

/-
  lines.Scan.
-/
namespace Go.Proofs.YtmmnpnhffgpchaaGreatDoor.Ln
open Go.RowKit Go.Shelf
set_option linter.unusedVariables false
set_option linter.unusedSimpArgs false
attribute [local go_sem] Oper.semAt_some
/-- The fault that is told, or none. -/
def fltOf (xs : List Tl) : Int × Int × Int := match xs.find? (fun x => decide (x.e ≠ 0)) with
  | some x => (x.d, x.ln, x.e)
  | none => (0, 0, 0)
def toksOf (xs : List Tl) : List Tk := match xs.find? (fun x => decide (x.e ≠ 0)) with
  | some _ => []
  | none => xs.map (·.tk)
def Tl.row (x : Tl) : List Value := x.tk.row
theorem tl_flat (xs : List Tl) : xs.flatMap Tl.row = (xs.map (·.tk)).flatMap Tk.row := by
  induction xs with
  | nil => rfl
  | cons x xs ih => simp only [List.flatMap_cons, List.map_cons, ih]; rfl
def Fine (x : Tl) : Prop := x.d = 0 ∧ x.ln = 0 ∧ x.e = 0
/-- Between two rounds of Scan's loop. -/
def ScI (w : World) (B : Nat) (pre : List Tl) (W : World) : Prop :=
  W.heap[w.heap.size]? = some (.cells #[.slice none 0 0] 38 (0, 0)) ∧ W.heap[w.heap.size + 1]? = some (.cells #[.int .i64 0, .int .i64 0, .int .i64 0] 27 (0, 0)) ∧
  (∃ v, W.heap[w.heap.size + 2]? = some (.cells #[v] 38 (0, 0)) ∧ W.ownsRow B 52 5 v pre.length (pre.flatMap Tl.row)) ∧ (∀ x ∈ pre, Fine x) ∧ Below w.heap.size w W ∧ B ≤ W.heap.size
/-- Where it is left for a fault. -/
def ScX (w : World) (B : Nat) (c : Code) (pre : List Tl) (W : World) : Prop :=
  c = .ret ∧ ∃ p x, pre = p ++ [x] ∧ (∀ y ∈ p, Fine y) ∧ x.e ≠ 0 ∧ W.heap[w.heap.size]? = some (.cells #[.slice none 0 0] 38 (0, 0)) ∧ W.heap[w.heap.size + 1]? = some (.cells #[.int .i64 x.d, .int .i64 x.ln, .int .i64 x.e] 27 (0, 0)) ∧ Below w.heap.size w W
theorem keep_cells {X Y : World} {row : Option Nat} {B : Nat} (hg : X.grownBy Y row) (hr : ∀ r, row = some r → B ≤ r ∧ ∃ o : Obj, X.heap[r]? = some o ∧ o.isCells = false) (k : Nat) (cs : Array Value) (t : TypeId) (fr : Nat × Nat) (h : X.heap[k]? = some (.cells cs t fr)) : Y.heap[k]? = some (.cells cs t fr) :=
  (hg.block k (Array.getElem?_eq_some_iff.1 h).1 (fun e => by obtain ⟨_, o, ho, hc⟩ := hr k e.symm; rw [h] at ho; cases ho; cases hc)).trans h
theorem scI_own (w : World) (B B' : Nat) (hB : w.heap.size ≤ B') : OwnFrom B' (ScI w B) := by
  intro s X Y row hs hg hr
  obtain ⟨h1, h2, ⟨v, h3, h4⟩, h5, h6, h7⟩ := hs
  refine ⟨keep_cells hg hr _ _ _ _ h1, keep_cells hg hr _ _ _ _ h2, ⟨v, keep_cells hg hr _ _ _ _ h3, own_blk h4 (fun k hk => ?_)⟩, h5, ?_, Nat.le_trans h7 hg.size⟩
  · obtain ⟨cur, hc⟩ := own_cells h4 k hk
    exact (keep_cells hg hr k _ _ _ hc).trans hc.symm
  · exact h6.grown hg h6.size (fun k h => Nat.le_trans hB (hr k h).1)
theorem scX_own (w : World) (B B' : Nat) (hB : w.heap.size ≤ B') (c : Code) : OwnFrom B' (ScX w B c) := by
  intro s X Y row hs hg hr
  obtain ⟨h0, p, x, h1, h2, h3, h4, h5, h6⟩ := hs
  exact ⟨h0, p, x, h1, h2, h3, keep_cells hg hr _ _ _ _ h4, keep_cells hg hr _ _ _ _ h5, h6.grown hg h6.size (fun k h => Nat.le_trans hB (hr k h).1)⟩
/-- A token more. -/
theorem sc_app {w W w1 : World} {B B' : Nat} {pre : List Tl} {x : Tl} {v : Value} {g' cap' : Nat} (hB : w.heap.size + 2 < B) (h1 : W.heap[w.heap.size]? = some (.cells #[.slice none 0 0] 38 (0, 0))) (h2 : W.heap[w.heap.size + 1]? = some (.cells #[.int .i64 0, .int .i64 0, .int .i64 0] 27 (0, 0)))
    (hv : W.heap[w.heap.size + 2]? = some (.cells #[v] 38 (0, 0))) (hrow : W.ownsRow B 52 5 v pre.length (pre.flatMap Tl.row)) (hf : ∀ y ∈ pre, Fine y) (hx : Fine x) (hb : Below w.heap.size w W) (hs : B ≤ W.heap.size) {o : Obj}
    (hown' : w1.ownsRow B 52 5 (.slice (some ⟨g', 0, none⟩) (pre.length + 1) cap') (pre.length + 1) (pre.flatMap Tl.row ++ x.row)) (hg : (W.alloc o).grownBy w1 v.ownBlock) (hat : (Value.slice (some ⟨g', 0, none⟩) (pre.length + 1) cap').ownBlock = v.ownBlock ∨ (Value.slice (some ⟨g', 0, none⟩) (pre.length + 1) cap').ownBlock = some (W.alloc o).heap.size) :
    (w1.cell? ⟨w.heap.size + 2, 0, none⟩ = some v ∧ w1.frozen? ⟨w.heap.size + 2, 0, none⟩ = false) ∧
    Hid (KeepsFrom B' W (w1.setCell ⟨w.heap.size + 2, 0, none⟩ (.slice (some ⟨g', 0, none⟩) (pre.length + 1) cap')) ∧
      Kc [w.heap.size, w.heap.size + 1] (w.heap.size + 2) W (w1.setCell ⟨w.heap.size + 2, 0, none⟩ (.slice (some ⟨g', 0, none⟩) (pre.length + 1) cap')) ∧
      ScI w B (pre ++ [x]) (w1.setCell ⟨w.heap.size + 2, 0, none⟩ (.slice (some ⟨g', 0, none⟩) (pre.length + 1) cap'))) := by
  have hlow : ∀ k, v.ownBlock = some k → B ≤ k := fun k h => (hrow.lt k h).1
  have hsz : W.heap.size + 1 ≤ w1.heap.size := by have := hg.size; simpa using this
  have same : ∀ k, k < W.heap.size → some k ≠ v.ownBlock → w1.heap[k]? = W.heap[k]? := fun k hk hne =>
    (hg.block k (by simp; omega) hne).trans (Go.heap_alloc_old W _ hk)
  have low : ∀ k, k < B → w1.heap[k]? = W.heap[k]? := fun k hk => same k (by omega) (fun e => by have := hlow k e.symm; omega)
  have hv1 := (low (w.heap.size + 2) (by omega)).trans hv
  refine ⟨⟨cell_of_row _ _ 0 _ _ _ hv1, frozen_of_row _ _ 0 _ _ hv1⟩, ?_⟩
  obtain ⟨W2, hW2⟩ : ∃ W2, w1.setCell ⟨w.heap.size + 2, 0, none⟩ (.slice (some ⟨g', 0, none⟩) (pre.length + 1) cap') = W2 := ⟨_, rfl⟩
  rw [hW2]
  have s1 : ∀ k, k ≠ w.heap.size + 2 → W2.heap[k]? = w1.heap[k]? := fun k hk => by rw [← hW2]; exact Below.heap_setCell w1 _ _ k hk
  have z2 : W2.heap.size = w1.heap.size := by rw [← hW2]; simp
  have hv2 : W2.heap[w.heap.size + 2]? = some (.cells #[.slice (some ⟨g', 0, none⟩) (pre.length + 1) cap'] 38 (0, 0)) := by rw [← hW2]; exact one_setCell hv1
  have cA : W.cell? ⟨w.heap.size + 2, 0, none⟩ = some v := cell_of_row _ _ 0 _ _ _ hv
  have cB : W2.cell? ⟨w.heap.size + 2, 0, none⟩ = some (.slice (some ⟨g', 0, none⟩) (pre.length + 1) cap') := cell_of_row _ _ 0 _ _ _ hv2
  have hgl := (hown'.lt g' rfl)
  refine ⟨?_, ⟨by omega, ?_, ?_⟩, ?_⟩
  · have k1 : KeepsOthers W w1 := (KeepsOthers.alloc W _).trans (KeepsOthers.of_grownBy hg (fun j o hj ho => by
      obtain ⟨cur, hgg⟩ := own_cells (hrow.alloc _) j hj
      rw [hgg] at ho; cases ho; rfl))
    have k2 : KeepsOthers w1 W2 := by rw [← hW2]; exact KeepsOthers.setCell _ _ _
    exact (k1.trans k2).from B'
  · intro _ k hk
    unfold Cs at hk
    rw [cB] at hk
    simp [Value.ownBlock] at hk
    omega
  · intro k o2 ho hc hn
    unfold Cs at hn
    rw [cA] at hn
    simp at hn
    obtain ⟨⟨n1, n2⟩, n3, n4⟩ := hn
    have hkl := (Array.getElem?_eq_some_iff.1 ho).1
    have e1 := (s1 k n3).trans (same k hkl (fun e => n4 e.symm))
    refine ⟨e1.trans ho, ?_⟩
    unfold Cs
    rw [cB]
    simp [Value.ownBlock]
    refine ⟨⟨n1, n2⟩, n3, ?_⟩
    intro e
    subst e
    rcases hat with h | h
    · exact n4 h.symm
    · simp [Value.ownBlock] at h
      omega
  · refine ⟨(s1 _ (by omega)).trans ((low _ (by omega)).trans h1), (s1 _ (by omega)).trans ((low _ (by omega)).trans h2), ⟨_, hv2, ?_⟩, ?_, ?_, by omega⟩
    · rw [List.length_append, List.flatMap_append]
      have e : [x].flatMap Tl.row = x.row := by simp
      rw [e]
      refine own_blk hown' (fun k hk => ?_)
      have := (hown'.lt k hk).1
      exact s1 k (by omega)
    · intro y hy
      rcases List.mem_append.1 hy with h | h
      · exact hf y h
      · obtain rfl := List.mem_singleton.1 h
        exact hx
    · have b1 : Below w.heap.size w w1 := (hb.alloc hb.size _).grown hg (by have := hb.size; simp; omega) (fun k h => by have := hlow k h; omega)
      rw [← hW2]
      exact b1.setCell (p := ⟨w.heap.size + 2, 0, none⟩) (by show _ ≤ w.heap.size + 2; omega) _
end Go.Proofs.YtmmnpnhffgpchaaGreatDoor.Ln

/-
  lines.Scan: its contract.
-/
namespace Go.Proofs.YtmmnpnhffgpchaaGreatDoor.Ln
open Go.RowKit Go.Shelf
set_option linter.unusedVariables false
set_option linter.unusedSimpArgs false
attribute [local go_sem] Oper.semAt_some
/-- What Scan answers of what is told. -/
def ScE (w : World) (A : List Tl) (e : Ending) (w' : World) : Prop := ∃ tv, e = .returned (.tuple #[tv, .agg #[.int .i64 (fltOf A).1, .int .i64 (fltOf A).2.1, .int .i64 (fltOf A).2.2]]) ∧ w'.ownsRow w.heap.size 52 5 tv (toksOf A).length ((toksOf A).flatMap Tk.row) ∧ Below w.heap.size w w'
theorem all_fine {A : List Tl} (h : ∀ x ∈ A, Fine x) : A.find? (fun x => decide (x.e ≠ 0)) = none := by
  rw [List.find?_eq_none]
  intro x hx
  simp [(h x hx).2.2]
theorem one_fault {p r : List Tl} {x : Tl} (h : ∀ y ∈ p, Fine y) (hx : x.e ≠ 0) : (p ++ [x] ++ r).find? (fun x => decide (x.e ≠ 0)) = some x := by
  rw [List.append_assoc, List.find?_append, all_fine h]
  simp [hx]
/-- The two results are written. -/
theorem put4 {W : World} {B : Nat} {v : Value} {a b c : Value} (h1 : W.heap[B]? = some (.cells #[v] 38 (0, 0))) (h2 : W.heap[B + 1]? = some (.cells #[a, b, c] 27 (0, 0))) (u d l e : Value) :
    ((((W.setCell ⟨B, 0, none⟩ u).setCell ⟨B + 1, 0, none⟩ d).setCell ⟨B + 1, 1, none⟩ l).setCell ⟨B + 1, 2, none⟩ e).heap[B]? = some (.cells #[u] 38 (0, 0)) ∧
    ((((W.setCell ⟨B, 0, none⟩ u).setCell ⟨B + 1, 0, none⟩ d).setCell ⟨B + 1, 1, none⟩ l).setCell ⟨B + 1, 2, none⟩ e).heap[B + 1]? = some (.cells #[d, l, e] 27 (0, 0)) ∧
    (∀ k, k ≠ B → k ≠ B + 1 → ((((W.setCell ⟨B, 0, none⟩ u).setCell ⟨B + 1, 0, none⟩ d).setCell ⟨B + 1, 1, none⟩ l).setCell ⟨B + 1, 2, none⟩ e).heap[k]? = W.heap[k]?) ∧
    ((((W.setCell ⟨B, 0, none⟩ u).setCell ⟨B + 1, 0, none⟩ d).setCell ⟨B + 1, 1, none⟩ l).setCell ⟨B + 1, 2, none⟩ e).heap.size = W.heap.size := by
  have s1 : (W.setCell ⟨B, 0, none⟩ u).heap[B]? = some (.cells #[u] 38 (0, 0)) := one_setCell h1
  have s2 : (W.setCell ⟨B, 0, none⟩ u).heap[B + 1]? = some (.cells #[a, b, c] 27 (0, 0)) := (heap_setCell_other _ _ _ _ (by simp)).trans h2
  have s3 := heap_setCell_same _ (B + 1) 0 _ _ d s2
  have s4 := heap_setCell_same _ (B + 1) 1 _ _ l s3
  have s5 := heap_setCell_same _ (B + 1) 2 _ _ e s4
  refine ⟨?_, s5, fun k n1 n2 => ?_, by simp⟩
  · exact (heap_setCell_other _ _ _ _ (by simp)).trans ((heap_setCell_other _ _ _ _ (by simp)).trans ((heap_setCell_other _ _ _ _ (by simp)).trans s1))
  · exact (heap_setCell_other _ _ _ _ n2).trans ((heap_setCell_other _ _ _ _ n2).trans ((heap_setCell_other _ _ _ _ n2).trans (heap_setCell_other _ _ _ _ n1)))
theorem put4K (W : World) (a1 a2 a3 a4 : Addr) (u d l e : Value) : KeepsOthers W ((((W.setCell a1 u).setCell a2 d).setCell a3 l).setCell a4 e) :=
  (((KeepsOthers.setCell W _ _).trans (KeepsOthers.setCell _ _ _)).trans (KeepsOthers.setCell _ _ _)).trans (KeepsOthers.setCell _ _ _)
theorem len4 (w : World) (o1 o2 o3 : Obj) : (((w.alloc o1).alloc o2).alloc o3).heap.size = w.heap.size + 3 := by simp
set_option maxRecDepth 100000 in
set_option maxHeartbeats 4000000 in
theorem scan_core (a : Option Addr) (n cap : Nat) (w : World) (gf : Nat) (lb : Array Value) (A : List Tl) (Nn : Nat) (hNn : Nn ≤ 2 ^ 20) (eg : ∀ args w, (callFunc gf args).run Tryz.prog w = .ok (.enter gf args) w)
    (hA : ∀ x ∈ A, Fine x ∨ x.e ≠ 0)
    (hE : Calls Tryz.prog 15 #[.slice a n cap] (((w.alloc (.cells #[.slice none 0 0] 38)).alloc (.cells #[.int .i64 0, .int .i64 0, .int .i64 0] 27)).alloc (.cells #[.slice none 0 0] 38)) fun e w' => e = .returned (.func (.func gf) #[] lb) ∧ Below (w.heap.size + 3) (((w.alloc (.cells #[.slice none 0 0] 38)).alloc (.cells #[.int .i64 0, .int .i64 0, .int .i64 0] 27)).alloc (.cells #[.slice none 0 0] 38)) w' ∧ SeqP 2 Tryz.prog gf lb tells (fun _ _ => True) (Kc [w.heap.size, w.heap.size + 1] (w.heap.size + 2)) (fun xs => xs = A) (fun pre => pre <+: A) Nn w') :
    Calls Tryz.prog 10 #[.slice a n cap] w (ScE w A) := by
  refine (callsIn_wide (n := 3)).1 ?_
  refine callsIn_of_wp_marks Tryz.func10 rfl trivial ?_ rfl
  simp only [Tryz.ntmps10, List.size_toArray, List.length_cons, List.length_nil, Nat.reduceAdd, Nat.reduceSub, Array.replicate_succ, Array.replicate_zero, List.push_toArray, List.append_toArray, List.nil_append, List.cons_append]
  obtain ⟨i39, hi39, hz0, hz1, hz2⟩ := info_parts Tryz.info52
  gi_wp2_with fail
  refine ⟨trivial, ?_⟩
  refine (callsIn_wide.2 hE).mono ?_
  rintro e w3 ⟨rfl, hb3, hseq⟩
  have b0 : Below w.heap.size w (((w.alloc (.cells #[.slice none 0 0] 38)).alloc (.cells #[.int .i64 0, .int .i64 0, .int .i64 0] 27)).alloc (.cells #[.slice none 0 0] 38)) := (((Below.refl _ w).alloc (Nat.le_refl _) _).alloc (by simp) _).alloc (by simp; omega) _
  have B3 : Below w.heap.size w w3 := b0.trans (hb3.mono (by omega))
  have hs3 : w.heap.size + 3 ≤ w3.heap.size := by have := hb3.size; rw [len4] at this; exact this
  have k1 : w3.heap[w.heap.size]? = some (.cells #[.slice none 0 0] 38 (0, 0)) := (hb3.block _ (by omega)).trans ((Go.heap_alloc_old _ _ (by simp; omega)).trans ((Go.heap_alloc_old _ _ (by simp)).trans (heap_alloc_new w _)))
  have k2 : w3.heap[w.heap.size + 1]? = some (.cells #[.int .i64 0, .int .i64 0, .int .i64 0] 27 (0, 0)) := by
    refine (hb3.block _ (by omega)).trans ((Go.heap_alloc_old _ _ (by simp)).trans ?_)
    have := heap_alloc_new (w.alloc (.cells #[.slice none 0 0] 38)) (.cells #[.int .i64 0, .int .i64 0, .int .i64 0] 27)
    rw [World.size_alloc] at this; exact this
  have k3 : w3.heap[w.heap.size + 2]? = some (.cells #[.slice none 0 0] 38 (0, 0)) := by
    refine (hb3.block _ (by omega)).trans ?_
    have := heap_alloc_new ((w.alloc (.cells #[.slice none 0 0] 38)).alloc (.cells #[.int .i64 0, .int .i64 0, .int .i64 0] 27)) (.cells #[.slice none 0 0] 38)
    rw [World.size_alloc, World.size_alloc] at this; exact this
  clear hE
  gi_wp2_with fail
  refine wpIn_range_al2 (n := 3) (by decide) (gf := gf) (lb := lb) rfl eg hseq Kc.trans ?hKb (Below.refl _ _) (fun _ => rfl)
    (ScI w w3.heap.size) (ScX w w3.heap.size) (scI_own w _ _ B3.size) (scX_own w _ _ B3.size) (fun _ _ _ _ _ _ _ => trivial) ?h0
    (fun x => .cells #[.int .i64 x.tk.kind, .int .i64 x.tk.line, .int .i64 x.tk.col, .string ⟨x.tk.text.toArray⟩, .bool x.tk.q] 52) (fun x => .cells #[.int .i64 x.d, .int .i64 x.ln, .int .i64 x.e] 27) ?hKa
    (fun x m => { tmps := #[.slice a n cap, undef, .pointer (some ⟨w.heap.size, 0, none⟩), .pointer (some ⟨w.heap.size + 1, 0, none⟩), .pointer (some ⟨w.heap.size + 2, 0, none⟩), .pointer (some ⟨m, 0, none⟩), .pointer (some ⟨m + 1, 0, none⟩), .slice a n cap, .func (.func gf) #[] lb, .agg #[.int .i64 x.tk.kind, .int .i64 x.tk.line, .int .i64 x.tk.col, .string ⟨x.tk.text.toArray⟩, .bool x.tk.q], .agg #[.int .i64 x.d, .int .i64 x.ln, .int .i64 x.e], undef, undef, undef, undef, undef, undef, undef, undef, undef, undef], defers := [] }) ?assign ?body ?done ?stop
  case hKb =>
    intro W l o o' hlw hW hc _
    exact Kc.put hW hc (by omega)
  case hKa =>
    intro W o hlt
    exact Kc.of_below ((Below.refl _ W).alloc (Nat.le_refl _) _) (by omega)
  case h0 => exact ⟨k1, k2, ⟨_, k3, World.ownsRow_nil _ _ _ _⟩, (fun x hx => by cases hx), B3, Nat.le_refl _⟩
  case assign =>
    intro l x W K hK
    simp only [tells, Tk.row]
    gi_wp2
    exact hK
  case body =>
    rintro l pre x m W hm hmb hmb2 ⟨h1, h2, ⟨v, hv, hrow⟩, hf, hb, hs⟩ _ hSp hlen
    have hcv := cell_of_row W _ 0 _ _ _ hv
    have f0 := cell_of hmb2 0 _ rfl
    have f1 := cell_of hmb2 1 _ rfl
    have f2 := cell_of hmb2 2 _ rfl
    have t0 := cell_of hmb 0 _ rfl
    have t1 := cell_of hmb 1 _ rfl
    have t2 := cell_of hmb 2 _ rfl
    have t3 := cell_of hmb 3 _ rfl
    have t4 := cell_of hmb 4 _ rfl
    have hxA := hA x (hSp.subset (by simp))
    by_cases hx : x.e = 0
    · have hF : Fine x := hxA.resolve_right (fun h => h hx)
      obtain ⟨e1, e2, e3⟩ := hF
      rw [e1] at f0
      rw [e2] at f1
      rw [e3] at f2
      have HNW : Hid (∀ j u, (Tl.row x)[j]? = some u → (W.alloc (.cells #[.int .i64 x.tk.kind, .int .i64 x.tk.line, .int .i64 x.tk.col, .string ⟨x.tk.text.toArray⟩, .bool x.tk.q] 52)).cell? ((⟨W.heap.size, 0, none⟩ : Addr).add j) = some u) := World.news_of_block (heap_alloc_new W _)
      have HF : Hid (Fine x) := ⟨e1, e2, e3⟩
      have hln : pre.length ≤ 2 ^ 20 := by omega
      gi_wp2_with (gi_at_builtin; refine wpListIn_append_own_at _ rfl (.tmp 15) (.tmp 17) 38 rfl w3.heap.size 52 i39 _ 5 48 Tryz.underlying38 hi39 hz0 hz1 hz2 rfl (by decide) v pre.length (pre.flatMap Tl.row) rfl (hrow.alloc _) ⟨W.heap.size, 0, none⟩ 1 1 (Tl.row x) rfl rfl HNW.out (Tk.row_one _) (by unfold maxLen; omega) (by omega) (by simp; omega) ?_; intro v' w1 hown' hgrow _ hat; obtain ⟨g', cap', rfl, _, _⟩ := hown'.form (by omega); obtain ⟨⟨q1, q2⟩, HQ⟩ := sc_app (B' := w3.heap.size) (by omega) h1 h2 hv hrow hf HF.out hb hs hown' hgrow hat)
      exact HQ.out
    · have hx' : ¬ (x.e = 0) := hx
      have hx2 : (x.e == 0) = false := by simpa using hx
      have g1 : W.cell? ⟨w.heap.size, 0, none⟩ = some (.slice none 0 0) := cell_of h1 0 _ rfl
      have g20 : W.cell? ⟨w.heap.size + 1, 0, none⟩ = some (.int .i64 0) := cell_of h2 0 _ rfl
      have g21 : W.cell? ⟨w.heap.size + 1, 1, none⟩ = some (.int .i64 0) := cell_of h2 1 _ rfl
      have g22 : W.cell? ⟨w.heap.size + 1, 2, none⟩ = some (.int .i64 0) := cell_of h2 2 _ rfl
      have z1 : W.frozen? ⟨w.heap.size, 0, none⟩ = false := by simp [World.frozen?, h1]
      have z20 : W.frozen? ⟨w.heap.size + 1, 0, none⟩ = false := by simp [World.frozen?, h2]
      have z21 : W.frozen? ⟨w.heap.size + 1, 1, none⟩ = false := by simp [World.frozen?, h2]
      have z22 : W.frozen? ⟨w.heap.size + 1, 2, none⟩ = false := by simp [World.frozen?, h2]
      have n1 : ¬ w.heap.size = w.heap.size + 1 := by omega
      gi_wp2_with fail
      gi_region
      all_goals gi_wp2
      all_goals
        obtain ⟨p1, p2, p3, p4⟩ := put4 h1 h2 (.slice none 0 0) (.int .i64 x.d) (.int .i64 x.ln) (.int .i64 x.e)
        exact ⟨((put4K W _ _ _ _ _ _ _ _).trans (KeepsOthers.drew _)).from _, rfl, pre, x, rfl, hf, hx, p1, p2, ((((hb.setCell (p := ⟨w.heap.size, 0, none⟩) (Nat.le_refl _) _).setCell (p := ⟨w.heap.size + 1, 0, none⟩) (Nat.le_succ _) _).setCell (p := ⟨w.heap.size + 1, 1, none⟩) (Nat.le_succ _) _).setCell (p := ⟨w.heap.size + 1, 2, none⟩) (Nat.le_succ _) _).drew⟩
  case done =>
    rintro D xs W hD hS ⟨h1, h2, ⟨v, hv, hrow⟩, hf, hb, hs⟩ hK
    subst hS
    have hcv : W.cell? ⟨w.heap.size + 2, 0, none⟩ = some v := cell_of hv 0 _ rfl
    have g1 : W.cell? ⟨w.heap.size, 0, none⟩ = some (.slice none 0 0) := cell_of h1 0 _ rfl
    have g20 : W.cell? ⟨w.heap.size + 1, 0, none⟩ = some (.int .i64 0) := cell_of h2 0 _ rfl
    have g21 : W.cell? ⟨w.heap.size + 1, 1, none⟩ = some (.int .i64 0) := cell_of h2 1 _ rfl
    have g22 : W.cell? ⟨w.heap.size + 1, 2, none⟩ = some (.int .i64 0) := cell_of h2 2 _ rfl
    have z1 : W.frozen? ⟨w.heap.size, 0, none⟩ = false := by simp [World.frozen?, h1]
    have z20 : W.frozen? ⟨w.heap.size + 1, 0, none⟩ = false := by simp [World.frozen?, h2]
    have z21 : W.frozen? ⟨w.heap.size + 1, 1, none⟩ = false := by simp [World.frozen?, h2]
    have z22 : W.frozen? ⟨w.heap.size + 1, 2, none⟩ = false := by simp [World.frozen?, h2]
    obtain ⟨av, cv, rfl, _⟩ := own_sh hrow
    gi_wp2
    obtain ⟨p1, p2, p3, p4⟩ := put4 h1 h2 (.slice av xs.length cv) (.int .i64 0) (.int .i64 0) (.int .i64 0)
    have hbl0 : Below w.heap.size w ((((W.setCell ⟨w.heap.size, 0, none⟩ (.slice av xs.length cv)).setCell ⟨w.heap.size + 1, 0, none⟩ (.int .i64 0)).setCell ⟨w.heap.size + 1, 1, none⟩ (.int .i64 0)).setCell ⟨w.heap.size + 1, 2, none⟩ (.int .i64 0)) := (((hb.setCell (p := ⟨w.heap.size, 0, none⟩) (Nat.le_refl _) _).setCell (p := ⟨w.heap.size + 1, 0, none⟩) (Nat.le_succ _) _).setCell (p := ⟨w.heap.size + 1, 1, none⟩) (Nat.le_succ _) _).setCell (p := ⟨w.heap.size + 1, 2, none⟩) (Nat.le_succ _) _
    obtain ⟨W4, hW4⟩ : ∃ W4, ((((W.setCell ⟨w.heap.size, 0, none⟩ (.slice av xs.length cv)).setCell ⟨w.heap.size + 1, 0, none⟩ (.int .i64 0)).setCell ⟨w.heap.size + 1, 1, none⟩ (.int .i64 0)).setCell ⟨w.heap.size + 1, 2, none⟩ (.int .i64 0)) = W4 := ⟨_, rfl⟩
    rw [hW4] at p1 p2 p3 p4 hbl0 ⊢
    have hK4 : W4.heap[D]? = some (.deferred (some [])) := (p3 D (by omega) (by omega)).trans hK
    refine ⟨by simp, .inl ⟨_, _, rfl, run_takeDeferred hK4, ?_⟩⟩
    have hbl : Below w.heap.size w (W4.putObj D (.deferred none)) := hbl0.grown (grownBy_putObj' _ D (.deferred none)) hbl0.size (fun k e => by cases e; have := B3.size; omega)
    have e1 : (W4.putObj D (.deferred none)).heap[w.heap.size]? = some (.cells #[.slice av xs.length cv] 38 (0, 0)) := (World.putObj_heap_other (by omega)).trans p1
    have e2 : (W4.putObj D (.deferred none)).heap[w.heap.size + 1]? = some (.cells #[.int .i64 0, .int .i64 0, .int .i64 0] 27 (0, 0)) := (World.putObj_heap_other (by omega)).trans p2
    have r1 := cell_of e1 0 _ rfl
    have r20 := cell_of e2 0 _ rfl
    have r21 := cell_of e2 1 _ rfl
    have r22 := cell_of e2 2 _ rfl
    have hnone := all_fine hf
    have hfl : fltOf xs = (0, 0, 0) := by unfold fltOf; rw [hnone]
    have htk : toksOf xs = xs.map (·.tk) := by unfold toksOf; rw [hnone]
    have HROW : Hid ((W4.putObj D (.deferred none)).ownsRow w.heap.size 52 5 (.slice av xs.length cv) (toksOf xs).length ((toksOf xs).flatMap Tk.row)) := by
      show World.ownsRow _ _ _ _ _ _ _
      rw [htk, ← tl_flat, List.length_map]
      refine own_blk (own_low hrow (by omega)) (fun k hk => ?_)
      have hkl := (hrow.lt k hk).1
      obtain ⟨cur, hc⟩ := own_cells hrow k hk
      refine (World.putObj_heap_other (fun e => ?_)).trans (p3 k (by omega) (by omega))
      subst e
      rw [hc] at hK
      cases hK
    have HFL := hide2 hfl
    clear hfl htk hnone
    refine ⟨.tuple #[.slice av xs.length cv, .agg #[.int .i64 0, .int .i64 0, .int .i64 0]], ?_, ?_⟩
    · skip
      simp [results, Tryz.results10, go_sem, r1, r20, r21, r22]
    · exact ⟨_, by rw [HFL.out], HROW.out, hbl⟩
  case stop =>
    rintro D c pre W hD hSp ⟨rfl, p, x, rfl, hf, hx, h1, h2, hb⟩ hK
    obtain ⟨r, hr⟩ := hSp
    have hfind := one_fault (r := r) hf hx
    rw [hr] at hfind
    have hfl : fltOf A = (x.d, x.ln, x.e) := by unfold fltOf; rw [hfind]
    have htk : toksOf A = [] := by unfold toksOf; rw [hfind]
    gi_wp2
    refine ⟨by simp, .inl ⟨_, _, rfl, run_takeDeferred hK, ?_⟩⟩
    have hbl : Below w.heap.size w (W.putObj D (.deferred none)) := hb.grown (grownBy_putObj' _ D (.deferred none)) hb.size (fun k e => by cases e; have := B3.size; omega)
    have e1 : (W.putObj D (.deferred none)).heap[w.heap.size]? = some (.cells #[.slice none 0 0] 38 (0, 0)) := (World.putObj_heap_other (by omega)).trans h1
    have e2 : (W.putObj D (.deferred none)).heap[w.heap.size + 1]? = some (.cells #[.int .i64 x.d, .int .i64 x.ln, .int .i64 x.e] 27 (0, 0)) := (World.putObj_heap_other (by omega)).trans h2
    have r1 := cell_of e1 0 _ rfl
    have r20 := cell_of e2 0 _ rfl
    have r21 := cell_of e2 1 _ rfl
    have r22 := cell_of e2 2 _ rfl
    refine ⟨.tuple #[.slice none 0 0, .agg #[.int .i64 x.d, .int .i64 x.ln, .int .i64 x.e]], ?_, ?_⟩
    · simp [results, Tryz.results10, go_sem, r1, r20, r21, r22]
    · exact ⟨_, by rw [hfl], by rw [htk]; exact World.ownsRow_nil _ _ _ _, hbl⟩
end Go.Proofs.YtmmnpnhffgpchaaGreatDoor.Ln
