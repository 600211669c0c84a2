/-
  what stands in spoil: the outer row known cell by cell, the lists in it rows of some values.
-/
import Derived.Test.YtmljljpldljpjabWk
namespace Go.Proofs.Ytmljljpldljpjab
open Go.RowKit
set_option linter.unusedVariables false
set_option linter.unusedSimpArgs false
set_option maxRecDepth 100000
def Kd (W : World) (In : Nat → Prop) (e : TypeId) (sz L : Nat) (u : Value) : Prop := ∃ a n c xs, u = .slice a n c ∧ W.ownsRow 0 e sz (.slice a n c) n xs ∧ n ≤ L ∧ ∀ k, u.ownBlock = some k → In k
theorem Kd.sp {In : Nat → Prop} {W W' : World} {e : TypeId} {sz L : Nat} {u : Value} (h : Kd W In e sz L u) (hs : Sp In W W') : Kd W' In e sz L u := by
  obtain ⟨a, n, c, xs, rfl, h1, h2, h3⟩ := h
  obtain ⟨ys, h4⟩ := hs.keep h1
  exact ⟨a, n, c, ys, rfl, h4, h2, h3⟩
theorem Kd.nil (W : World) (In : Nat → Prop) (e : TypeId) (sz L : Nat) : Kd W In e sz L (.slice none 0 0) := ⟨none, 0, 0, [], rfl, ⟨by simp, .inl ⟨rfl, rfl⟩⟩, Nat.zero_le _, fun k hk => by simp [Value.ownBlock] at hk⟩
structure Rk3 (W : World) (In : Nat → Prop) (xs : List Value) (j be bt br : Nat) : Prop where
  e : ∃ u, xs[j * 8 + 2]? = some u ∧ Kd W In 9 1 be u
  t : ∃ u, xs[j * 8 + 3]? = some u ∧ Kd W In 46 3 bt u
  r : ∃ u, xs[j * 8 + 5]? = some u ∧ Kd W In 58 4 br u
theorem Rk3.sp {In : Nat → Prop} {W W' : World} {xs : List Value} {j be bt br : Nat} (h : Rk3 W In xs j be bt br) (hs : Sp In W W') : Rk3 W' In xs j be bt br := by
  obtain ⟨⟨u, e1, e2⟩, ⟨v, t1, t2⟩, ⟨x, r1, r2⟩⟩ := h
  exact ⟨⟨u, e1, e2.sp hs⟩, ⟨v, t1, t2.sp hs⟩, ⟨x, r1, r2.sp hs⟩⟩
/-- i is the row at work: its own bounds -/
structure Sps (w W : World) (In : Nat → Prop) (g n c : Nat) (xs : List Value) (i be bt br : Nat) : Prop where
  sp : Sp In w W
  row : W.ownsRow 0 34 8 (.slice (some ⟨g, 0, none⟩) n c) n xs
  ig : In g
  kids : ∀ j, j < n → Rk3 W In xs j (if j = i then be else 1048576) (if j = i then bt else 1048576) (if j = i then br else 1048576)
/-- what leaves the outer row alone -/
theorem Sps.by {w W W' : World} {In : Nat → Prop} {g n c : Nat} {xs : List Value} {i be bt br : Nat} (h : Sps w W In g n c xs i be bt br) (hs : Sp In W W') (hg : W'.heap[g]? = W.heap[g]?) : Sps w W' In g n c xs i be bt br :=
  ⟨h.sp.trans hs, own_blk' h.row (fun k hk => by cases hk; exact hg), h.ig, fun j hj => (h.kids j hj).sp hs⟩
theorem Sps.blk {w W : World} {In : Nat → Prop} {g n c : Nat} {xs : List Value} {i be bt br : Nat} (h : Sps w W In g n c xs i be bt br) : ∃ cur, W.heap[g]? = some (.cells cur 34 (0, 0)) ∧ n * 8 ≤ cur.size ∧ cur.toList.take (n * 8) = xs ∧ n ≤ c := by
  rcases h.row.2 with ⟨h1, _⟩ | ⟨g', cap, cur, h1, h2, h3, h4, h5, h6, h7⟩
  · cases h1
  · cases h1
    exact ⟨cur, h3, by rw [h6]; exact Nat.mul_le_mul_right _ h4, h7, h4⟩
/-- a row of type e (not 34) has its own block -/
theorem kd_blk {W : World} {e : TypeId} {sz : Nat} {a : Option Addr} {n c : Nat} {xs : List Value} (h : W.ownsRow 0 e sz (.slice a n c) n xs) (h0 : 0 < n) : ∃ k cur, a = some ⟨k, 0, none⟩ ∧ W.heap[k]? = some (.cells cur e (0, 0)) ∧ n * sz ≤ cur.size := by
  rcases h.2 with ⟨h1, h2⟩ | ⟨g', cap, cur, h1, h2, h3, h4, h5, h6, h7⟩
  · omega
  · cases h1
    exact ⟨_, cur, rfl, h3, by rw [h6]; exact Nat.mul_le_mul_right _ h4⟩
theorem Sps.kidset {w W : World} {In : Nat → Prop} {g n c : Nat} {xs : List Value} {i be bt br : Nat} (h : Sps w W In g n c xs i be bt br) {k : Nat} {cur : Array Value} {e : TypeId} (hk : W.heap[k]? = some (.cells cur e (0, 0))) (hi : In k) (he : e ≠ 34) (o : Nat) (vs : List Value) : Sps w (W.setCells k o vs) In g n c xs i be bt br := by
  refine h.by (Sp.sets hi hk o vs) ((setCells_but k vs o W).block g ?_ ?_)
  · obtain ⟨c2, h2, _⟩ := h.blk
    exact lt_of_block h2
  · intro e2
    subst e2
    obtain ⟨c2, h2, _⟩ := h.blk
    rw [h2] at hk
    injection hk with hk
    injection hk with _ hk
    exact he hk.symm
theorem Sps.kidset1 {w W : World} {In : Nat → Prop} {g n c : Nat} {xs : List Value} {i be bt br : Nat} (h : Sps w W In g n c xs i be bt br) {k : Nat} {cur : Array Value} {e : TypeId} (hk : W.heap[k]? = some (.cells cur e (0, 0))) (hi : In k) (he : e ≠ 34) (o : Nat) (v : Value) : Sps w (W.setCell ⟨k, o, none⟩ v) In g n c xs i be bt br := h.kidset hk hi he o [v]
theorem Sps.alloc {w W : World} {In : Nat → Prop} {g n c : Nat} {xs : List Value} {i be bt br : Nat} (h : Sps w W In g n c xs i be bt br) (o : Obj) : Sps w (W.alloc o) In g n c xs i be bt br := by
  obtain ⟨c2, h2, _⟩ := h.blk
  exact h.by (Sp.alloc In W o) (Below.heap_alloc W o g (lt_of_block h2))
/-- a list of the row at work goes on: a row of type e (not 34) -/
theorem Sps.app {w W W' : World} {In : Nat → Prop} {g n c : Nat} {xs : List Value} {i be bt br : Nat} (h : Sps w W In g n c xs i be bt br) {e : TypeId} {sz : Nat} {v : Value} {m : Nat} {ys : List Value} (ho : W.ownsRow 0 e sz v m ys) (he : e ≠ 34) (hg : W.grownBy W' v.ownBlock) (hs : Sp In W W') : Sps w W' In g n c xs i be bt br := by
  obtain ⟨c2, h2, _⟩ := h.blk
  refine h.by hs (hg.block g (lt_of_block h2) (fun e1 => ?_))
  rcases ho.2 with ⟨rfl, _⟩ | ⟨k, cap, cur, rfl, _, h3, _⟩
  · simp [Value.ownBlock] at e1
  · simp only [Value.ownBlock, Option.some.injEq] at e1
    subst e1
    rw [h2] at h3
    injection h3 with h3
    injection h3 with _ h3
    exact he h3.symm
/-- a cell of the outer row is set -/
theorem Sps.put {w W : World} {In : Nat → Prop} {g n c : Nat} {xs : List Value} {i be bt br : Nat} (h : Sps w W In g n c xs i be bt br) (p : Nat) (u : Value) (hp : p < n * 8) : Sp In W (W.setCell ⟨g, p, none⟩ u) ∧ (W.setCell ⟨g, p, none⟩ u).ownsRow 0 34 8 (.slice (some ⟨g, 0, none⟩) n c) n (xs.set p u) := by
  obtain ⟨cur, h1, h2, h3, h4⟩ := h.blk
  refine ⟨Sp.set h.ig h1 p u, by rw [List.length_set]; exact h.row.1, ?_⟩
  rcases h.row.2 with ⟨k1, _⟩ | ⟨g', cap, cur', k1, k2, k3, k4, k5, k6, k7⟩
  · cases k1
  · cases k1
    rw [h1] at k3
    injection k3 with k3
    injection k3 with k3 _
    subst k3
    exact .inr ⟨g, c, _, rfl, Nat.zero_le _, heap_setCell_same W g p _ 34 u h1, k4, k5, by simp [k6], by rw [Array.toList_setIfInBounds, List.take_set, h3]⟩
end Go.Proofs.Ytmljljpldljpjab
