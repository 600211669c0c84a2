/-
  A list of slices of bytes, each in a row of the call's own and apart from the others: grown, written over; and their grown copies.
-/
import Derived.Test.YtfolfeaednmcoabPick
import Derived.Maps.AppendAt
import Derived.ArgAppend
namespace Go.Proofs.Ytfolfeaednmcoab
open Go.RowKit
set_option linter.unusedVariables false
set_option linter.unusedSimpArgs false
/-- A slice of reals, with what it holds. -/
structure Fs where
  a : Option Addr
  n : Nat
  cap : Nat
  zs : List Nat
abbrev Fs.val (s : Fs) : Value := .slice s.a s.n s.cap
theorem fvals_setl (zs : List Nat) (k z : Nat) : fvals (zs.set k z) = (fvals zs).set k (.float .f64 z) := by simp [fvals, List.map_set]
theorem fvals_at (zs : List Nat) (j : Nat) (u : Value) (h : (fvals zs)[j]? = some u) : j < zs.length ∧ u = .float .f64 (zs.getD j 0) := by
  have hj : j < zs.length := by have := (List.getElem?_eq_some_iff.1 h).1; simpa [fvals_length] using this
  rw [fvals_get zs j hj] at h
  exact ⟨hj, by injection h with h; exact h.symm⟩

def Fs.blk (s : Fs) : Option Nat := s.val.ownBlock
def RowOf (W : World) (base : Nat) (s : Fs) : Prop := W.ownsRow base 28 1 s.val s.n (fvals s.zs)
def ApartS (ss : List Fs) : Prop := ∀ (i j : Nat) (s t : Fs) (b : Nat), ss[i]? = some s → ss[j]? = some t → s.blk = some b → t.blk = some b → i = j

theorem own_ne {w : World} {b1 b2 : Nat} {e1 e2 : TypeId} {s1 s2 : Nat} {v1 v2 : Value} {n1 n2 : Nat} {x1 x2 : List Value} (h1 : w.ownsRow b1 e1 s1 v1 n1 x1) (h2 : w.ownsRow b2 e2 s2 v2 n2 x2) (hne : e1 ≠ e2) (k : Nat) (hk : v1.ownBlock = some k) : some k ≠ v2.ownBlock := by
  intro e
  obtain ⟨c1, h3⟩ := own_cells h1 k hk
  obtain ⟨c2, h4⟩ := own_cells h2 k e.symm
  rw [h3] at h4
  cases h4
  exact hne rfl
theorem own_shape {w : World} {base : Nat} {e : TypeId} {size n : Nat} {v : Value} {xs : List Value} (h : w.ownsRow base e size v n xs) : ∃ a c, v = .slice a n c := by
  rcases h.2 with ⟨rfl, h0⟩ | ⟨g, cp, cur, rfl, _⟩
  · exact ⟨none, 0, by rw [h0]⟩
  · exact ⟨_, _, rfl⟩

/-- The list, what is in it, what waits. -/
structure AL (W : World) (base : Nat) (v : Value) (wA : World) (ss ps : List Fs) : Prop where
  own : W.ownsRow base 22 1 v ss.length (ss.map Fs.val)
  rows : ∀ s ∈ ss ++ ps, RowOf W base s
  apart : ApartS (ss ++ ps)
  low : Below base wA W
  size : base ≤ W.heap.size
theorem AL.later {W W' : World} {base : Nat} {v : Value} {wA : World} {ss ps : List Fs} (h : AL W base v wA ss ps) (hb : Below W.heap.size W W') : AL W' base v wA ss ps :=
  ⟨own_block h.own (fun k hk => hb.block k (h.own.lt k hk).2), fun s hs => own_block (h.rows s hs) (fun k hk => hb.block k ((h.rows s hs).lt k hk).2), h.apart, h.low.trans (hb.mono h.size), Nat.le_trans h.size hb.size⟩
/-- Rows made since wait. -/
theorem AL.waits {W : World} {base m : Nat} {v : Value} {wA : World} {ss ps qs : List Fs} (h : AL W base v wA ss ps) (hlow : ∀ s ∈ ss ++ ps, ∀ b, s.blk = some b → b < m) (hbm : base ≤ m) (hq : ∀ s ∈ qs, RowOf W m s) (hap : ApartS qs) : AL W base v wA ss (ps ++ qs) := by
  refine ⟨h.own, fun s hs => ?_, ?_, h.low, h.size⟩
  · rw [← List.append_assoc] at hs
    rcases List.mem_append.1 hs with h1 | h1
    · exact h.rows s h1
    · exact own_base (hq s h1) hbm
  · rw [← List.append_assoc]
    intro i j s t b hi hj hs ht
    rw [List.getElem?_append] at hi hj
    split at hi <;> split at hj
    · exact h.apart i j s t b hi hj hs ht
    · have h1 := hlow s (List.mem_of_getElem? hi) b hs
      have h2 := ((hq t (List.mem_of_getElem? hj)).lt b ht).1
      omega
    · have h1 := hlow t (List.mem_of_getElem? hj) b ht
      have h2 := ((hq s (List.mem_of_getElem? hi)).lt b hs).1
      omega
    · have := hap _ _ s t b hi hj hs ht
      omega
theorem AL.lt {W : World} {base : Nat} {v : Value} {wA : World} {ss ps : List Fs} (h : AL W base v wA ss ps) : ∀ s ∈ ss ++ ps, ∀ b, s.blk = some b → b < W.heap.size := fun s hs b hb => ((h.rows s hs).lt b hb).2
/-- The first one that waits is appended. -/
theorem AL.push {W w1 : World} {base : Nat} {v v' : Value} {wA : World} {ss ps : List Fs} {s : Fs} {o : Obj} (h : AL W base v wA ss (s :: ps)) (hown : w1.ownsRow base 22 1 v' (ss.length + 1) (ss.map Fs.val ++ [s.val])) (hg : (W.alloc o).grownBy w1 v.ownBlock) : AL w1 base v' wA (ss ++ [s]) ps := by
  have e : ss ++ s :: ps = (ss ++ [s]) ++ ps := by simp
  refine ⟨by rw [List.length_append, List.map_append]; exact hown, fun t ht => ?_, by rw [← e]; exact h.apart, (h.low.alloc h.size o).grown hg (by have := h.size; simp; omega) (fun k hk => (h.own.lt k hk).1), by have := hg.size; have := h.size; simp at *; omega⟩
  rw [← e] at ht
  have hr := h.rows t ht
  refine own_block hr (fun k hk => ?_)
  have hl := (hr.lt k hk).2
  exact (hg.block k (by simp; omega) (own_ne hr h.own (by decide) k hk)).trans (Below.heap_alloc W _ k hl)
theorem AL.drop {W : World} {base : Nat} {v : Value} {wA : World} {ss ps : List Fs} (h : AL W base v wA ss ps) : AL W base v wA ss [] := by
  refine ⟨h.own, fun s hs => h.rows s (by simp at hs; simp [hs]), ?_, h.low, h.size⟩
  intro i j s t b hi hj hs ht
  rw [List.append_nil] at hi hj
  refine h.apart i j s t b ?_ ?_ hs ht
  · rw [List.getElem?_append_left (List.getElem?_eq_some_iff.1 hi).1]; exact hi
  · rw [List.getElem?_append_left (List.getElem?_eq_some_iff.1 hj).1]; exact hj
theorem AL.cell {W : World} {base g c : Nat} {wA : World} {ss ps : List Fs} (h : AL W base (.slice (some ⟨g, 0, none⟩) ss.length c) wA ss ps) (i : Nat) (s : Fs) (hs : ss[i]? = some s) : W.cell? ⟨g, i, none⟩ = some s.val := by
  have hi := (List.getElem?_eq_some_iff.1 hs).1
  rw [h.own.cellAt i (by omega), List.getElem?_map, hs]; rfl
theorem mem_set_cases {ts : List Fs} {i : Nat} {x' y : Fs} (h : y ∈ ts.set i x') : y = x' ∨ ∃ j, j ≠ i ∧ ts[j]? = some y := by
  obtain ⟨j, hj⟩ := List.mem_iff_getElem?.1 h
  rw [List.getElem?_set] at hj
  split at hj
  · split at hj
    · cases hj; exact .inl rfl
    · cases hj
  · exact .inr ⟨j, by omega, hj⟩
/-- A byte of one of them is written. -/
theorem AL.store {W : World} {base : Nat} {v : Value} {wA : World} {ss : List Fs} (h : AL W base v wA ss []) (i b n c : Nat) (zs : List Nat) (hx : ss[i]? = some ⟨some ⟨b, 0, none⟩, n, c, zs⟩) (k : Nat) (z : Nat) :
    AL (W.setCell ⟨b, k, none⟩ (.float .f64 z)) base v wA (ss.set i ⟨some ⟨b, 0, none⟩, n, c, zs.set k z⟩) [] := by
  have hm := List.mem_of_getElem? hx
  have hL : W.ownsRow base 28 1 (.slice (some ⟨b, 0, none⟩) n c) n (fvals zs) := h.rows ⟨some ⟨b, 0, none⟩, n, c, zs⟩ (by simp [hm])
  have hbl := hL.lt b rfl
  have other : ∀ j, j ≠ b → (W.setCell ⟨b, k, none⟩ (.float .f64 z)).heap[j]? = W.heap[j]? := fun j hj => Below.heap_setCell _ _ _ _ hj
  have hmap : (ss.set i ⟨some ⟨b, 0, none⟩, n, c, zs.set k z⟩).map Fs.val = ss.map Fs.val := by
    rw [List.map_set]
    apply List.ext_getElem?
    intro j
    rw [List.getElem?_set]
    split
    · rename_i hj; subst hj
      have hl := (List.getElem?_eq_some_iff.1 hx).1
      rw [if_pos (by simpa using hl), List.getElem?_map, hx]; rfl
    · rfl
  have hblk : ∀ (j : Nat) (s : Fs), (ss.set i ⟨some ⟨b, 0, none⟩, n, c, zs.set k z⟩)[j]? = some s → ∃ s', ss[j]? = some s' ∧ s'.blk = s.blk := by
    intro j s hj
    rw [List.getElem?_set] at hj
    split at hj
    · rename_i e; subst e
      split at hj
      · cases hj; exact ⟨_, hx, rfl⟩
      · cases hj
    · exact ⟨s, hj, rfl⟩
  refine ⟨?_, ?_, ?_, ?_, by simpa [World.setCell] using h.size⟩
  · rw [hmap, List.length_set]
    exact own_block h.own (fun j hj => other j (fun e => by
      subst e
      exact own_ne h.own hL (by decide) j hj rfl))
  · intro y hy
    rw [List.append_nil] at hy
    rcases mem_set_cases hy with rfl | ⟨j, hj, hjy⟩
    · show (W.setCell ⟨b, k, none⟩ (.float .f64 z)).ownsRow base 28 1 (.slice (some ⟨b, 0, none⟩) n c) n (fvals (zs.set k z))
      have := (hL.stored k (.float .f64 z)).1
      rw [fvals_setl]; exact this
    · refine own_block (h.rows y (by simp [List.mem_of_getElem? hjy])) (fun q hq => other q ?_)
      rintro rfl
      exact hj (h.apart j i y _ q (by simpa using hjy) (by simpa using hx) hq rfl)
  · intro p q y z' b' hp hq hy hz
    rw [List.append_nil] at hp hq
    obtain ⟨y', h1, h2⟩ := hblk p y hp
    obtain ⟨z'', h3, h4⟩ := hblk q z' hq
    exact h.apart p q y' z'' b' (by simpa using h1) (by simpa using h3) (h2.trans hy) (h4.trans hz)
  · exact h.low.setCell (p := ⟨b, k, none⟩) hbl.1 _
end Go.Proofs.Ytfolfeaednmcoab
