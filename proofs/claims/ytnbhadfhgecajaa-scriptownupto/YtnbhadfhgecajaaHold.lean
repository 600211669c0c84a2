/-
  Steps whose data is written over and grown: what of them, and of all else, stands.
-/
import Derived.Test.YtnbhadfhgecajaaDecodeA
import Derived.Test.YtnbhadfhgecajaaAwake
namespace Go.Proofs.Ytnbhadfhgecajaa
open Go.RowKit
set_option linter.unusedVariables false

/-- A list of steps in the call's own memory, each one's data in a row of its own, all else as it was. -/
structure AS (W : World) (base m1 m2 : Nat) (av : Option Addr) (cl : Nat) (w0 w3 : World) (ts : List Told) : Prop where
  own : W.ownsRow base 32 4 (.slice av ts.length cl) ts.length (ts.flatMap Told.row)
  lies : ∀ x ∈ ts, Lies base x W
  apart : Apart ts
  out : ∀ x ∈ ts, ∀ b, x.blk = some b → b < m1 ∨ m2 ≤ b
  gout : ∀ b, (Value.slice av ts.length cl).ownBlock = some b → b < m1
  low : Below base w0 W
  mid : ∀ k, m1 ≤ k → k < m2 → W.heap[k]? = w3.heap[k]?
  base : base ≤ m1
  lem : m1 ≤ m2
  size : m2 ≤ W.heap.size

def Told.with (x : Told) (d : Sl) : Told := ⟨x.at', ⟨x.s.op, x.s.x, x.s.y, d⟩⟩

theorem flat_same : ∀ (ts us : List Told), ts.map Told.row = us.map Told.row → ts.flatMap Told.row = us.flatMap Told.row := by
  intro ts us h
  rw [List.flatMap_def, List.flatMap_def, h]
theorem flat_set : ∀ (ts : List Told) (i : Nat) (x : Told) (d : Sl), ts[i]? = some x → (ts.set i (x.with d)).flatMap Told.row = (ts.flatMap Told.row).set (i * 4 + 3) d.val
  | [], i, x, d, h => by simp at h
  | y :: r, 0, x, d, h => by
    simp at h
    subst h
    simp [Told.row, Told.with]
  | y :: r, i + 1, x, d, h => by
    have ih := flat_set r i x d (by simpa using h)
    rw [List.set_cons_succ, List.flatMap_cons, ih, List.flatMap_cons]
    have hm : y.row.length = 4 := rfl
    rw [List.set_append_right _ _ (by omega), hm, show (i + 1) * 4 + 3 - 4 = i * 4 + 3 by omega]
theorem mem_set_cases {ts : List Told} {i : Nat} {x' y : Told} (h : y ∈ ts.set i x') : y = x' ∨ ∃ j, j ≠ i ∧ ts[j]? = some y := by
  obtain ⟨j, hj⟩ := List.mem_iff_getElem?.1 h
  rw [List.getElem?_set] at hj
  split at hj
  · split at hj
    · cases hj; exact .inl rfl
    · cases hj
  · exact .inr ⟨j, by omega, hj⟩
theorem apart_set {ts : List Told} (h : Apart ts) {i : Nat} {x x' : Told} (hx : ts[i]? = some x) (hb : x'.blk = x.blk ∨ ∃ m, x'.blk = some m ∧ ∀ y ∈ ts, ∀ b, y.blk = some b → b < m) : Apart (ts.set i x') := by
  have key : ∀ j y b, j ≠ i → ts[j]? = some y → y.blk = some b → x'.blk ≠ some b := by
    intro j y b hne hy hyb he
    rcases hb with h1 | ⟨m, h1, h2⟩
    · rw [h1] at he
      exact hne (h j i y x b hy hx hyb he)
    · rw [h1] at he
      cases he
      have := h2 y (List.mem_of_getElem? hy) b hyb
      omega
  intro p q y z b hp hq hy hz
  rw [List.getElem?_set] at hp hq
  split at hp <;> split at hq
  · omega
  · rename_i h1 h2
    split at hp
    · cases hp
      exact absurd hy (key q z b (by omega) hq hz)
    · cases hp
  · rename_i h1 h2
    split at hq
    · cases hq
      exact absurd hz (key p y b (by omega) hp hy)
    · cases hq
  · exact h p q y z b hp hq hy hz

theorem AS.some {W : World} {base m1 m2 cl : Nat} {av : Option Addr} {w0 w3 : World} {ts : List Told} (h : AS W base m1 m2 av cl w0 w3 ts) (hp : 0 < ts.length) : ∃ g, av = .some ⟨g, 0, none⟩ := by
  rcases h.own.2 with ⟨h1, h2⟩ | ⟨g, cp, cur, h1, _⟩
  · omega
  · cases h1; exact ⟨g, rfl⟩
theorem AS.cell {W : World} {base m1 m2 cl g : Nat} {w0 w3 : World} {ts : List Told} (h : AS W base m1 m2 (.some ⟨g, 0, none⟩) cl w0 w3 ts) (i : Nat) (x : Told) (hx : ts[i]? = .some x) (j : Nat) (u : Value) (hu : x.row[j]? = .some u) : W.cell? ⟨g, i * 4 + j, none⟩ = .some u := by
  have hi := (List.getElem?_eq_some_iff.1 hx).1
  have hj : j < 4 := by have := (List.getElem?_eq_some_iff.1 hu).1; simpa [Told.row] using this
  rw [h.own.cellAt (i * 4 + j) (by omega), flat_get' ts i j x hx hj, hu]
/-- A byte of one step's data is written. -/
theorem AS.store {W : World} {base m1 m2 cl : Nat} {av : Option Addr} {w0 w3 : World} {ts : List Told} (h : AS W base m1 m2 av cl w0 w3 ts) (i : Nat) (x : Told) (hx : ts[i]? = .some x) (b : Nat) (n c : Nat) (zs : List Int) (hd : x.s.d = ⟨.some ⟨b, 0, none⟩, n, c, zs⟩) (k : Nat) (z : Int) :
    AS (W.setCell ⟨b, k, none⟩ (.int .u8 z)) base m1 m2 av cl w0 w3 (ts.set i (x.with ⟨.some ⟨b, 0, none⟩, n, c, zs.set k z⟩)) := by
  have hm := List.mem_of_getElem? hx
  have hbk : x.blk = .some b := by unfold Told.blk; rw [hd]; rfl
  have hL : W.ownsRow base 5 1 (.slice (.some ⟨b, 0, none⟩) n c) n (vals zs) := by
    have := h.lies x hm
    unfold Lies at this
    rw [hd] at this
    exact this
  have hbl := hL.lt b rfl
  have other : ∀ j, j ≠ b → (W.setCell ⟨b, k, none⟩ (.int .u8 z)).heap[j]? = W.heap[j]? := fun j hj => Below.heap_setCell _ _ _ _ hj
  have hrow : (ts.set i (x.with ⟨.some ⟨b, 0, none⟩, n, c, zs.set k z⟩)).flatMap Told.row = ts.flatMap Told.row := by
    apply flat_same
    rw [List.map_set]
    have e : (x.with ⟨.some ⟨b, 0, none⟩, n, c, zs.set k z⟩).row = x.row := by unfold Told.row Told.with; rw [hd]
    rw [e]
    apply List.ext_getElem?
    intro j
    rw [List.getElem?_set]
    split
    · rename_i hj; subst hj
      have hl := (List.getElem?_eq_some_iff.1 hx).1
      rw [if_pos (by simpa using hl), List.getElem?_map, hx]; rfl
    · rfl
  refine ⟨?_, ?_, ?_, ?_, ?_, ?_, ?_, h.base, h.lem, by simpa [World.setCell] using h.size⟩
  · rw [hrow, List.length_set]
    exact own_blk' h.own (fun j hj => other j (fun e => by
      subst e
      exact own_apart' h.own hL (by decide) j hj rfl))
  · intro y hy
    rcases mem_set_cases hy with rfl | ⟨j, hj, hjy⟩
    · show (W.setCell ⟨b, k, none⟩ (.int .u8 z)).ownsRow base 5 1 (.slice (.some ⟨b, 0, none⟩) n c) n (vals (zs.set k z))
      have := (hL.stored k (.int .u8 z)).1
      have e : vals (zs.set k z) = (vals zs).set k (.int .u8 z) := by simp [vals, List.map_set]
      rw [e]; exact this
    · refine own_block (h.lies y (List.mem_of_getElem? hjy)) (fun q hq => other q ?_)
      rintro rfl
      exact hj (h.apart j i y x q hjy hx hq hbk)
  · refine apart_set h.apart hx (.inl ?_)
    rw [hbk]; rfl
  · intro y hy q hq
    rcases mem_set_cases hy with rfl | ⟨j, hj, hjy⟩
    · exact h.out x hm q (by rw [hbk]; exact hq)
    · exact h.out y (List.mem_of_getElem? hjy) q hq
  · intro q hq
    rw [List.length_set] at hq
    exact h.gout q hq
  · exact h.low.setCell (p := ⟨b, k, none⟩) hbl.1 _
  · intro j h1 h2
    rw [other j (fun e => by subst e; have := h.out x hm j hbk; omega)]
    exact h.mid j h1 h2
/-- One step's data is grown. -/
theorem AS.grow {W w1 : World} {base m1 m2 cl g : Nat} {w0 w3 : World} {ts : List Told} (h : AS W base m1 m2 (.some ⟨g, 0, none⟩) cl w0 w3 ts) (i : Nat) (x : Told) (hx : ts[i]? = .some x) (o : Obj) (a' : Option Addr) (n' c' : Nat) (zs' : List Int)
    (hown : w1.ownsRow base 5 1 (.slice a' n' c') n' (vals zs')) (hg : (W.alloc o).grownBy w1 x.blk) (hat : (Value.slice a' n' c').ownBlock = x.blk ∨ (Value.slice a' n' c').ownBlock = .some (W.alloc o).heap.size) :
    AS (w1.setCell ⟨g, i * 4 + 3, none⟩ (.slice a' n' c')) base m1 m2 (.some ⟨g, 0, none⟩) cl w0 w3 (ts.set i (x.with ⟨a', n', c', zs'⟩)) := by
  have hm := List.mem_of_getElem? hx
  have hL : W.ownsRow base 5 1 x.s.d.val x.s.d.n (vals x.s.d.zs) := h.lies x hm
  have hsz : (W.alloc o).heap.size = W.heap.size + 1 := by simp
  have same : ∀ k, k < W.heap.size → .some k ≠ x.blk → w1.heap[k]? = W.heap[k]? := fun k hk hne =>
    (hg.block k (by omega) hne).trans (Go.heap_alloc_old W _ k hk)
  have hgl := h.own.lt g rfl
  have hgx : .some g ≠ x.blk := own_apart' h.own hL (by decide) g rfl
  have other : ∀ j, j ≠ g → (w1.setCell ⟨g, i * 4 + 3, none⟩ (.slice a' n' c')).heap[j]? = w1.heap[j]? := fun j hj => Below.heap_setCell _ _ _ _ hj
  have hown1 : w1.ownsRow base 32 4 (.slice (.some ⟨g, 0, none⟩) ts.length cl) ts.length (ts.flatMap Told.row) := own_blk' h.own (fun k hk => by
    cases hk
    exact same g hgl.2 hgx)
  refine ⟨?_, ?_, ?_, ?_, ?_, ?_, ?_, h.base, h.lem, by have := hg.size; have := h.size; simp [World.setCell]; omega⟩
  · rw [flat_set ts i x _ hx, List.length_set]
    exact (hown1.stored (i * 4 + 3) (.slice a' n' c')).1
  · intro y hy
    rcases mem_set_cases hy with rfl | ⟨j, hj, hjy⟩
    · refine own_block (show w1.ownsRow base 5 1 (.slice a' n' c') n' (vals zs') from hown) (fun k hk => other k ?_)
      rintro rfl
      exact own_apart' hown1 hown (by decide) k rfl hk.symm
    · have hy' := h.lies y (List.mem_of_getElem? hjy)
      refine own_block hy' (fun k hk => (other k ?_).trans (same k (hy'.lt k hk).2 ?_))
      · rintro rfl
        exact own_apart' h.own hy' (by decide) k rfl hk.symm
      · intro e
        exact hj (h.apart j i y x k hjy hx hk e.symm)
  · refine apart_set h.apart hx ?_
    rcases hat with h1 | h1
    · exact .inl h1
    · refine .inr ⟨_, h1, fun y hy b hb => ?_⟩
      have := ((h.lies y hy).lt b hb).2
      omega
  · intro y hy q hq
    rcases mem_set_cases hy with rfl | ⟨j, hj, hjy⟩
    · rcases hat with h1 | h1
      · exact h.out x hm q (h1.symm.trans hq)
      · have : (Value.slice a' n' c').ownBlock = .some q := hq
        rw [h1] at this
        cases this
        have := h.size
        exact .inr (by omega)
    · exact h.out y (List.mem_of_getElem? hjy) q hq
  · intro q hq
    cases hq
    have := h.gout g
    exact this rfl
  · have b1 : Below base w0 w1 := (h.low.alloc (Nat.le_trans h.base (Nat.le_trans h.lem h.size)) o).grown hg (by have := hgl; omega) (fun k hk => (hL.lt k hk).1)
    exact b1.setCell (p := ⟨g, i * 4 + 3, none⟩) hgl.1 _
  · intro j h1 h2
    have hgm := h.gout g rfl
    have hs := h.size
    rw [other j (by omega), same j (by omega) (fun e => by have := h.out x hm j e.symm; omega)]
    exact h.mid j h1 h2
end Go.Proofs.Ytnbhadfhgecajaa
