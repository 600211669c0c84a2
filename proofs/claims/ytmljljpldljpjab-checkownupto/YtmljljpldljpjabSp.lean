/-
  spoil: lists written over and gone on with.
-/
import Derived.Test.YtmljljpldljpjabSx
namespace Go.Proofs.Ytmljljpldljpjab
open Go.RowKit
set_option linter.unusedVariables false
set_option linter.unusedSimpArgs false
set_option maxRecDepth 100000
theorem Sps.cell {w W : World} {In : Nat → Prop} {g n c : Nat} {xs : List Value} {i be bt br : Nat} (h : Sps w W In g n c xs i be bt br) {p : Nat} {u : Value} (hp : xs[p]? = some u) : W.cell? ⟨g, p, none⟩ = some u := by
  have := h.row.cells rfl p u hp
  rw [Go.WideShapes.add_plain, Nat.zero_add] at this
  exact this
theorem Sps.three {w W : World} {In : Nat → Prop} {g n c : Nat} {xs : List Value} {i be bt br : Nat} (h : Sps w W In g n c xs i be bt br) (hi : i < n) :
    ∃ a1 n1 c1 a2 n2 c2 a3 n3 c3, (xs[i * 8 + 2]? = some (.slice a1 n1 c1) ∧ xs[i * 8 + 3]? = some (.slice a2 n2 c2) ∧ xs[i * 8 + 5]? = some (.slice a3 n3 c3)) ∧ n1 ≤ be ∧ n2 ≤ bt ∧ n3 ≤ br := by
  have hk := h.kids i hi
  simp only [if_true] at hk
  obtain ⟨⟨u, e1, a1, n1, c1, x1, rfl, -, l1, -⟩, ⟨v, t1, a2, n2, c2, x2, rfl, -, l2, -⟩, ⟨x, r1, a3, n3, c3, x3, rfl, -, l3, -⟩⟩ := hk
  exact ⟨a1, n1, c1, a2, n2, c2, a3, n3, c3, ⟨e1, t1, r1⟩, l1, l2, l3⟩
theorem Sps.kid {w W : World} {In : Nat → Prop} {g n c : Nat} {xs : List Value} {i be bt br : Nat} (h : Sps w W In g n c xs i be bt br) (hi : i < n) {f : Nat} {e : TypeId} {sz : Nat} {a : Option Addr} {m cc : Nat} (hf : (f = 2 ∧ e = 9 ∧ sz = 1) ∨ (f = 3 ∧ e = 46 ∧ sz = 3) ∨ (f = 5 ∧ e = 58 ∧ sz = 4)) (hx : xs[i * 8 + f]? = some (.slice a m cc)) (h0 : 0 < m) :
    ∃ b cur, a = some ⟨b, 0, none⟩ ∧ W.heap[b]? = some (.cells cur e (0, 0)) ∧ m * sz ≤ cur.size ∧ In b := by
  have hk := h.kids i hi
  simp only [if_true] at hk
  have key : ∃ L, Kd W In e sz L (.slice a m cc) := by
    rcases hf with ⟨rfl, rfl, rfl⟩ | ⟨rfl, rfl, rfl⟩ | ⟨rfl, rfl, rfl⟩
    · obtain ⟨u, e1, e2⟩ := hk.e; rw [hx] at e1; cases e1; exact ⟨_, e2⟩
    · obtain ⟨u, e1, e2⟩ := hk.t; rw [hx] at e1; cases e1; exact ⟨_, e2⟩
    · obtain ⟨u, e1, e2⟩ := hk.r; rw [hx] at e1; cases e1; exact ⟨_, e2⟩
  obtain ⟨L, a', m', c', ys, he, ho, -, hI⟩ := key
  cases he
  obtain ⟨b, cur, rfl, h1, h2⟩ := kd_blk ho h0
  exact ⟨b, cur, rfl, h1, h2, hI b rfl⟩
theorem Sps.kidbut {w W W' : World} {In : Nat → Prop} {g n c : Nat} {xs : List Value} {i be bt br : Nat} (h : Sps w W In g n c xs i be bt br) {k : Nat} {cur cur' : Array Value} {e : TypeId} (hk : W.heap[k]? = some (.cells cur e (0, 0))) (hi : In k) (he : e ≠ 34) (hb : But k W W') (hk' : W'.heap[k]? = some (.cells cur' e (0, 0))) (hs : cur'.size = cur.size) : Sps w W' In g n c xs i be bt br := by
  obtain ⟨c2, h2, _⟩ := h.blk
  refine h.by (Sp.but hb hi hk hk' hs) (hb.block g (lt_of_block h2) ?_)
  intro e2
  subst e2
  rw [h2] at hk
  injection hk with hk
  injection hk with _ hk
  exact he hk.symm
theorem blk_cell {W : World} {b : Nat} {cur : Array Value} {e : TypeId} (h : W.heap[b]? = some (.cells cur e (0, 0))) {p : Nat} (hp : p < cur.size) : (∃ u, W.cell? ⟨b, p, none⟩ = some u) ∧ W.frozen? ⟨b, p, none⟩ = false := by
  refine ⟨⟨cur[p], ?_⟩, by simp [World.frozen?, h]⟩
  rw [cell_block h]
  simp [hp]
set_option maxHeartbeats 2000000 in
theorem setq3 {X : World} {p q : Nat} {t : TypeId} {cur : Array Value} (h : X.heap[p]? = some (.cells cur t (0, 0))) (hq : q + 3 ≤ cur.size) (x0 x1 x2 : Value) :
    (X.frozen? ⟨p, q, none⟩ = false ∧ (X.setCell ⟨p, q, none⟩ x0).frozen? ⟨p, q + 1, none⟩ = false ∧ ((X.setCell ⟨p, q, none⟩ x0).setCell ⟨p, q + 1, none⟩ x1).frozen? ⟨p, q + 2, none⟩ = false) ∧
    ((∃ u, X.cell? ⟨p, q, none⟩ = some u) ∧ (∃ u, (X.setCell ⟨p, q, none⟩ x0).cell? ⟨p, q + 1, none⟩ = some u) ∧ (∃ u, ((X.setCell ⟨p, q, none⟩ x0).setCell ⟨p, q + 1, none⟩ x1).cell? ⟨p, q + 2, none⟩ = some u)) ∧
    But p X (((X.setCell ⟨p, q, none⟩ x0).setCell ⟨p, q + 1, none⟩ x1).setCell ⟨p, q + 2, none⟩ x2) ∧ ∃ cur', (((X.setCell ⟨p, q, none⟩ x0).setCell ⟨p, q + 1, none⟩ x1).setCell ⟨p, q + 2, none⟩ x2).heap[p]? = some (.cells cur' t (0, 0)) ∧ cur'.size = cur.size := by
  obtain ⟨c0, h0, s0⟩ : ∃ c, X.heap[p]? = some (.cells c t (0, 0)) ∧ c.size = cur.size := ⟨cur, h, rfl⟩
  obtain ⟨c1, h1, s1⟩ : ∃ c, (X.setCell ⟨p, q, none⟩ x0).heap[p]? = some (.cells c t (0, 0)) ∧ c.size = cur.size := ⟨_, heap_setCell_same _ p (q) _ t x0 h0, by simpa using s0⟩
  obtain ⟨c2, h2, s2⟩ : ∃ c, ((X.setCell ⟨p, q, none⟩ x0).setCell ⟨p, q + 1, none⟩ x1).heap[p]? = some (.cells c t (0, 0)) ∧ c.size = cur.size := ⟨_, heap_setCell_same _ p (q + 1) _ t x1 h1, by simpa using s1⟩
  obtain ⟨c3, h3, s3⟩ : ∃ c, (((X.setCell ⟨p, q, none⟩ x0).setCell ⟨p, q + 1, none⟩ x1).setCell ⟨p, q + 2, none⟩ x2).heap[p]? = some (.cells c t (0, 0)) ∧ c.size = cur.size := ⟨_, heap_setCell_same _ p (q + 2) _ t x2 h2, by simpa using s2⟩
  refine ⟨⟨(blk_cell h0 (by omega)).2, (blk_cell h1 (by omega)).2, (blk_cell h2 (by omega)).2⟩, ⟨(blk_cell h0 (by omega)).1, (blk_cell h1 (by omega)).1, (blk_cell h2 (by omega)).1⟩, ((But.set q x0).trans (But.set (q + 1) x1)).trans (But.set (q + 2) x2), _, h3, s3⟩

set_option maxHeartbeats 2000000 in
theorem setq4 {X : World} {p q : Nat} {t : TypeId} {cur : Array Value} (h : X.heap[p]? = some (.cells cur t (0, 0))) (hq : q + 4 ≤ cur.size) (x0 x1 x2 x3 : Value) :
    (X.frozen? ⟨p, q, none⟩ = false ∧ (X.setCell ⟨p, q, none⟩ x0).frozen? ⟨p, q + 1, none⟩ = false ∧ ((X.setCell ⟨p, q, none⟩ x0).setCell ⟨p, q + 1, none⟩ x1).frozen? ⟨p, q + 2, none⟩ = false ∧ (((X.setCell ⟨p, q, none⟩ x0).setCell ⟨p, q + 1, none⟩ x1).setCell ⟨p, q + 2, none⟩ x2).frozen? ⟨p, q + 3, none⟩ = false) ∧
    ((∃ u, X.cell? ⟨p, q, none⟩ = some u) ∧ (∃ u, (X.setCell ⟨p, q, none⟩ x0).cell? ⟨p, q + 1, none⟩ = some u) ∧ (∃ u, ((X.setCell ⟨p, q, none⟩ x0).setCell ⟨p, q + 1, none⟩ x1).cell? ⟨p, q + 2, none⟩ = some u) ∧ (∃ u, (((X.setCell ⟨p, q, none⟩ x0).setCell ⟨p, q + 1, none⟩ x1).setCell ⟨p, q + 2, none⟩ x2).cell? ⟨p, q + 3, none⟩ = some u)) ∧
    But p X ((((X.setCell ⟨p, q, none⟩ x0).setCell ⟨p, q + 1, none⟩ x1).setCell ⟨p, q + 2, none⟩ x2).setCell ⟨p, q + 3, none⟩ x3) ∧ ∃ cur', ((((X.setCell ⟨p, q, none⟩ x0).setCell ⟨p, q + 1, none⟩ x1).setCell ⟨p, q + 2, none⟩ x2).setCell ⟨p, q + 3, none⟩ x3).heap[p]? = some (.cells cur' t (0, 0)) ∧ cur'.size = cur.size := by
  obtain ⟨c0, h0, s0⟩ : ∃ c, X.heap[p]? = some (.cells c t (0, 0)) ∧ c.size = cur.size := ⟨cur, h, rfl⟩
  obtain ⟨c1, h1, s1⟩ : ∃ c, (X.setCell ⟨p, q, none⟩ x0).heap[p]? = some (.cells c t (0, 0)) ∧ c.size = cur.size := ⟨_, heap_setCell_same _ p (q) _ t x0 h0, by simpa using s0⟩
  obtain ⟨c2, h2, s2⟩ : ∃ c, ((X.setCell ⟨p, q, none⟩ x0).setCell ⟨p, q + 1, none⟩ x1).heap[p]? = some (.cells c t (0, 0)) ∧ c.size = cur.size := ⟨_, heap_setCell_same _ p (q + 1) _ t x1 h1, by simpa using s1⟩
  obtain ⟨c3, h3, s3⟩ : ∃ c, (((X.setCell ⟨p, q, none⟩ x0).setCell ⟨p, q + 1, none⟩ x1).setCell ⟨p, q + 2, none⟩ x2).heap[p]? = some (.cells c t (0, 0)) ∧ c.size = cur.size := ⟨_, heap_setCell_same _ p (q + 2) _ t x2 h2, by simpa using s2⟩
  obtain ⟨c4, h4, s4⟩ : ∃ c, ((((X.setCell ⟨p, q, none⟩ x0).setCell ⟨p, q + 1, none⟩ x1).setCell ⟨p, q + 2, none⟩ x2).setCell ⟨p, q + 3, none⟩ x3).heap[p]? = some (.cells c t (0, 0)) ∧ c.size = cur.size := ⟨_, heap_setCell_same _ p (q + 3) _ t x3 h3, by simpa using s3⟩
  refine ⟨⟨(blk_cell h0 (by omega)).2, (blk_cell h1 (by omega)).2, (blk_cell h2 (by omega)).2, (blk_cell h3 (by omega)).2⟩, ⟨(blk_cell h0 (by omega)).1, (blk_cell h1 (by omega)).1, (blk_cell h2 (by omega)).1, (blk_cell h3 (by omega)).1⟩, (((But.set q x0).trans (But.set (q + 1) x1)).trans (But.set (q + 2) x2)).trans (But.set (q + 3) x3), _, h4, s4⟩

set_option maxHeartbeats 2000000 in
theorem setq8 {X : World} {p q : Nat} {t : TypeId} {cur : Array Value} (h : X.heap[p]? = some (.cells cur t (0, 0))) (hq : q + 8 ≤ cur.size) (x0 x1 x2 x3 x4 x5 x6 x7 : Value) :
    (X.frozen? ⟨p, q, none⟩ = false ∧ (X.setCell ⟨p, q, none⟩ x0).frozen? ⟨p, q + 1, none⟩ = false ∧ ((X.setCell ⟨p, q, none⟩ x0).setCell ⟨p, q + 1, none⟩ x1).frozen? ⟨p, q + 2, none⟩ = false ∧ (((X.setCell ⟨p, q, none⟩ x0).setCell ⟨p, q + 1, none⟩ x1).setCell ⟨p, q + 2, none⟩ x2).frozen? ⟨p, q + 3, none⟩ = false ∧ ((((X.setCell ⟨p, q, none⟩ x0).setCell ⟨p, q + 1, none⟩ x1).setCell ⟨p, q + 2, none⟩ x2).setCell ⟨p, q + 3, none⟩ x3).frozen? ⟨p, q + 4, none⟩ = false ∧ (((((X.setCell ⟨p, q, none⟩ x0).setCell ⟨p, q + 1, none⟩ x1).setCell ⟨p, q + 2, none⟩ x2).setCell ⟨p, q + 3, none⟩ x3).setCell ⟨p, q + 4, none⟩ x4).frozen? ⟨p, q + 5, none⟩ = false ∧ ((((((X.setCell ⟨p, q, none⟩ x0).setCell ⟨p, q + 1, none⟩ x1).setCell ⟨p, q + 2, none⟩ x2).setCell ⟨p, q + 3, none⟩ x3).setCell ⟨p, q + 4, none⟩ x4).setCell ⟨p, q + 5, none⟩ x5).frozen? ⟨p, q + 6, none⟩ = false ∧ (((((((X.setCell ⟨p, q, none⟩ x0).setCell ⟨p, q + 1, none⟩ x1).setCell ⟨p, q + 2, none⟩ x2).setCell ⟨p, q + 3, none⟩ x3).setCell ⟨p, q + 4, none⟩ x4).setCell ⟨p, q + 5, none⟩ x5).setCell ⟨p, q + 6, none⟩ x6).frozen? ⟨p, q + 7, none⟩ = false) ∧
    ((∃ u, X.cell? ⟨p, q, none⟩ = some u) ∧ (∃ u, (X.setCell ⟨p, q, none⟩ x0).cell? ⟨p, q + 1, none⟩ = some u) ∧ (∃ u, ((X.setCell ⟨p, q, none⟩ x0).setCell ⟨p, q + 1, none⟩ x1).cell? ⟨p, q + 2, none⟩ = some u) ∧ (∃ u, (((X.setCell ⟨p, q, none⟩ x0).setCell ⟨p, q + 1, none⟩ x1).setCell ⟨p, q + 2, none⟩ x2).cell? ⟨p, q + 3, none⟩ = some u) ∧ (∃ u, ((((X.setCell ⟨p, q, none⟩ x0).setCell ⟨p, q + 1, none⟩ x1).setCell ⟨p, q + 2, none⟩ x2).setCell ⟨p, q + 3, none⟩ x3).cell? ⟨p, q + 4, none⟩ = some u) ∧ (∃ u, (((((X.setCell ⟨p, q, none⟩ x0).setCell ⟨p, q + 1, none⟩ x1).setCell ⟨p, q + 2, none⟩ x2).setCell ⟨p, q + 3, none⟩ x3).setCell ⟨p, q + 4, none⟩ x4).cell? ⟨p, q + 5, none⟩ = some u) ∧ (∃ u, ((((((X.setCell ⟨p, q, none⟩ x0).setCell ⟨p, q + 1, none⟩ x1).setCell ⟨p, q + 2, none⟩ x2).setCell ⟨p, q + 3, none⟩ x3).setCell ⟨p, q + 4, none⟩ x4).setCell ⟨p, q + 5, none⟩ x5).cell? ⟨p, q + 6, none⟩ = some u) ∧ (∃ u, (((((((X.setCell ⟨p, q, none⟩ x0).setCell ⟨p, q + 1, none⟩ x1).setCell ⟨p, q + 2, none⟩ x2).setCell ⟨p, q + 3, none⟩ x3).setCell ⟨p, q + 4, none⟩ x4).setCell ⟨p, q + 5, none⟩ x5).setCell ⟨p, q + 6, none⟩ x6).cell? ⟨p, q + 7, none⟩ = some u)) ∧
    But p X ((((((((X.setCell ⟨p, q, none⟩ x0).setCell ⟨p, q + 1, none⟩ x1).setCell ⟨p, q + 2, none⟩ x2).setCell ⟨p, q + 3, none⟩ x3).setCell ⟨p, q + 4, none⟩ x4).setCell ⟨p, q + 5, none⟩ x5).setCell ⟨p, q + 6, none⟩ x6).setCell ⟨p, q + 7, none⟩ x7) ∧ ∃ cur', ((((((((X.setCell ⟨p, q, none⟩ x0).setCell ⟨p, q + 1, none⟩ x1).setCell ⟨p, q + 2, none⟩ x2).setCell ⟨p, q + 3, none⟩ x3).setCell ⟨p, q + 4, none⟩ x4).setCell ⟨p, q + 5, none⟩ x5).setCell ⟨p, q + 6, none⟩ x6).setCell ⟨p, q + 7, none⟩ x7).heap[p]? = some (.cells cur' t (0, 0)) ∧ cur'.size = cur.size := by
  obtain ⟨c0, h0, s0⟩ : ∃ c, X.heap[p]? = some (.cells c t (0, 0)) ∧ c.size = cur.size := ⟨cur, h, rfl⟩
  obtain ⟨c1, h1, s1⟩ : ∃ c, (X.setCell ⟨p, q, none⟩ x0).heap[p]? = some (.cells c t (0, 0)) ∧ c.size = cur.size := ⟨_, heap_setCell_same _ p (q) _ t x0 h0, by simpa using s0⟩
  obtain ⟨c2, h2, s2⟩ : ∃ c, ((X.setCell ⟨p, q, none⟩ x0).setCell ⟨p, q + 1, none⟩ x1).heap[p]? = some (.cells c t (0, 0)) ∧ c.size = cur.size := ⟨_, heap_setCell_same _ p (q + 1) _ t x1 h1, by simpa using s1⟩
  obtain ⟨c3, h3, s3⟩ : ∃ c, (((X.setCell ⟨p, q, none⟩ x0).setCell ⟨p, q + 1, none⟩ x1).setCell ⟨p, q + 2, none⟩ x2).heap[p]? = some (.cells c t (0, 0)) ∧ c.size = cur.size := ⟨_, heap_setCell_same _ p (q + 2) _ t x2 h2, by simpa using s2⟩
  obtain ⟨c4, h4, s4⟩ : ∃ c, ((((X.setCell ⟨p, q, none⟩ x0).setCell ⟨p, q + 1, none⟩ x1).setCell ⟨p, q + 2, none⟩ x2).setCell ⟨p, q + 3, none⟩ x3).heap[p]? = some (.cells c t (0, 0)) ∧ c.size = cur.size := ⟨_, heap_setCell_same _ p (q + 3) _ t x3 h3, by simpa using s3⟩
  obtain ⟨c5, h5, s5⟩ : ∃ c, (((((X.setCell ⟨p, q, none⟩ x0).setCell ⟨p, q + 1, none⟩ x1).setCell ⟨p, q + 2, none⟩ x2).setCell ⟨p, q + 3, none⟩ x3).setCell ⟨p, q + 4, none⟩ x4).heap[p]? = some (.cells c t (0, 0)) ∧ c.size = cur.size := ⟨_, heap_setCell_same _ p (q + 4) _ t x4 h4, by simpa using s4⟩
  obtain ⟨c6, h6, s6⟩ : ∃ c, ((((((X.setCell ⟨p, q, none⟩ x0).setCell ⟨p, q + 1, none⟩ x1).setCell ⟨p, q + 2, none⟩ x2).setCell ⟨p, q + 3, none⟩ x3).setCell ⟨p, q + 4, none⟩ x4).setCell ⟨p, q + 5, none⟩ x5).heap[p]? = some (.cells c t (0, 0)) ∧ c.size = cur.size := ⟨_, heap_setCell_same _ p (q + 5) _ t x5 h5, by simpa using s5⟩
  obtain ⟨c7, h7, s7⟩ : ∃ c, (((((((X.setCell ⟨p, q, none⟩ x0).setCell ⟨p, q + 1, none⟩ x1).setCell ⟨p, q + 2, none⟩ x2).setCell ⟨p, q + 3, none⟩ x3).setCell ⟨p, q + 4, none⟩ x4).setCell ⟨p, q + 5, none⟩ x5).setCell ⟨p, q + 6, none⟩ x6).heap[p]? = some (.cells c t (0, 0)) ∧ c.size = cur.size := ⟨_, heap_setCell_same _ p (q + 6) _ t x6 h6, by simpa using s6⟩
  obtain ⟨c8, h8, s8⟩ : ∃ c, ((((((((X.setCell ⟨p, q, none⟩ x0).setCell ⟨p, q + 1, none⟩ x1).setCell ⟨p, q + 2, none⟩ x2).setCell ⟨p, q + 3, none⟩ x3).setCell ⟨p, q + 4, none⟩ x4).setCell ⟨p, q + 5, none⟩ x5).setCell ⟨p, q + 6, none⟩ x6).setCell ⟨p, q + 7, none⟩ x7).heap[p]? = some (.cells c t (0, 0)) ∧ c.size = cur.size := ⟨_, heap_setCell_same _ p (q + 7) _ t x7 h7, by simpa using s7⟩
  refine ⟨⟨(blk_cell h0 (by omega)).2, (blk_cell h1 (by omega)).2, (blk_cell h2 (by omega)).2, (blk_cell h3 (by omega)).2, (blk_cell h4 (by omega)).2, (blk_cell h5 (by omega)).2, (blk_cell h6 (by omega)).2, (blk_cell h7 (by omega)).2⟩, ⟨(blk_cell h0 (by omega)).1, (blk_cell h1 (by omega)).1, (blk_cell h2 (by omega)).1, (blk_cell h3 (by omega)).1, (blk_cell h4 (by omega)).1, (blk_cell h5 (by omega)).1, (blk_cell h6 (by omega)).1, (blk_cell h7 (by omega)).1⟩, (((((((But.set q x0).trans (But.set (q + 1) x1)).trans (But.set (q + 2) x2)).trans (But.set (q + 3) x3)).trans (But.set (q + 4) x4)).trans (But.set (q + 5) x5)).trans (But.set (q + 6) x6)).trans (But.set (q + 7) x7), _, h8, s8⟩

theorem own_put {W : World} {g n c : Nat} {xs : List Value} (h : W.ownsRow 0 34 8 (.slice (some ⟨g, 0, none⟩) n c) n xs) (p : Nat) (u : Value) : (W.setCell ⟨g, p, none⟩ u).ownsRow 0 34 8 (.slice (some ⟨g, 0, none⟩) n c) n (xs.set p u) := by
  refine ⟨by rw [List.length_set]; exact h.1, ?_⟩
  rcases h.2 with ⟨k1, _⟩ | ⟨g', cap, cur', k1, k2, k3, k4, k5, k6, k7⟩
  · cases k1
  · cases k1
    exact .inr ⟨g, c, _, rfl, Nat.zero_le _, heap_setCell_same W g p _ 34 u k3, k4, k5, by simp [k6], by rw [Array.toList_setIfInBounds, List.take_set, k7]⟩
theorem new_cell (w : World) (cs : List Value) (e : TypeId) (j : Nat) (u : Value) (h : cs[j]? = some u) : (w.alloc (.cells cs.toArray e (0, 0))).cell? ((⟨w.heap.size, 0, none⟩ : Addr).add j) = some u := by
  rw [Go.WideShapes.add_plain, cell_block (heap_alloc_new w _)]
  simpa using h
theorem Sps.kidown {w W : World} {In : Nat → Prop} {g n c : Nat} {xs : List Value} {i be bt br : Nat} (h : Sps w W In g n c xs i be bt br) (hi : i < n) {f : Nat} {e : TypeId} {sz : Nat} {a : Option Addr} {m cc : Nat} (hf : (f = 2 ∧ e = 9 ∧ sz = 1) ∨ (f = 3 ∧ e = 46 ∧ sz = 3) ∨ (f = 5 ∧ e = 58 ∧ sz = 4)) (hx : xs[i * 8 + f]? = some (.slice a m cc)) :
    (∃ ys, W.ownsRow 0 e sz (.slice a m cc) m ys) ∧ ∀ k, (Value.slice a m cc).ownBlock = some k → In k := by
  have hk := h.kids i hi
  simp only [if_true] at hk
  have key : ∃ L, Kd W In e sz L (.slice a m cc) := by
    rcases hf with ⟨rfl, rfl, rfl⟩ | ⟨rfl, rfl, rfl⟩ | ⟨rfl, rfl, rfl⟩
    · obtain ⟨u, e1, e2⟩ := hk.e; rw [hx] at e1; cases e1; exact ⟨_, e2⟩
    · obtain ⟨u, e1, e2⟩ := hk.t; rw [hx] at e1; cases e1; exact ⟨_, e2⟩
    · obtain ⟨u, e1, e2⟩ := hk.r; rw [hx] at e1; cases e1; exact ⟨_, e2⟩
  obtain ⟨L, a', m', c', ys, he, ho, -, hI⟩ := key
  cases he
  exact ⟨⟨ys, ho⟩, hI⟩
theorem Sps.fz {w W : World} {In : Nat → Prop} {g n c : Nat} {xs : List Value} {i be bt br : Nat} (h : Sps w W In g n c xs i be bt br) (p : Nat) : W.frozen? ⟨g, p, none⟩ = false := by
  obtain ⟨cur, h1, _⟩ := h.blk
  simp [World.frozen?, h1]
theorem Sps.fld2 {w W : World} {In : Nat → Prop} {g n c : Nat} {xs : List Value} {i be bt br b' : Nat} (h : Sps w W In g n c xs i be bt br) (hi : i < n) {u : Value} (hu : Kd W In 9 1 b' u) : Sps w (W.setCell ⟨g, i * 8 + 2, none⟩ u) In g n c (xs.set (i * 8 + 2) u) i b' bt br := by
  obtain ⟨hs, ho⟩ := h.put (i * 8 + 2) u (by omega)
  have hl : i * 8 + 2 < xs.length := by rw [h.row.1]; omega
  refine ⟨h.sp.trans hs, ho, h.ig, fun j hj => ?_⟩
  have hk := (h.kids j hj).sp hs
  obtain ⟨⟨u2, e1, e2⟩, ⟨u3, t1, t2⟩, ⟨u5, r1, r2⟩⟩ := hk
  by_cases hji : j = i
  · subst hji
    simp only [if_true] at e2 t2 r2 ⊢
    exact ⟨⟨u, by rw [List.getElem?_set_self hl], hu.sp hs⟩, ⟨_, by rw [List.getElem?_set_ne (by omega)]; exact t1, t2⟩, ⟨_, by rw [List.getElem?_set_ne (by omega)]; exact r1, r2⟩⟩
  · simp only [if_neg hji] at e2 t2 r2 ⊢
    exact ⟨⟨_, by rw [List.getElem?_set_ne (by omega)]; exact e1, e2⟩, ⟨_, by rw [List.getElem?_set_ne (by omega)]; exact t1, t2⟩, ⟨_, by rw [List.getElem?_set_ne (by omega)]; exact r1, r2⟩⟩
theorem Sps.fld3 {w W : World} {In : Nat → Prop} {g n c : Nat} {xs : List Value} {i be bt br b' : Nat} (h : Sps w W In g n c xs i be bt br) (hi : i < n) {u : Value} (hu : Kd W In 46 3 b' u) : Sps w (W.setCell ⟨g, i * 8 + 3, none⟩ u) In g n c (xs.set (i * 8 + 3) u) i be b' br := by
  obtain ⟨hs, ho⟩ := h.put (i * 8 + 3) u (by omega)
  have hl : i * 8 + 3 < xs.length := by rw [h.row.1]; omega
  refine ⟨h.sp.trans hs, ho, h.ig, fun j hj => ?_⟩
  have hk := (h.kids j hj).sp hs
  obtain ⟨⟨u2, e1, e2⟩, ⟨u3, t1, t2⟩, ⟨u5, r1, r2⟩⟩ := hk
  by_cases hji : j = i
  · subst hji
    simp only [if_true] at e2 t2 r2 ⊢
    exact ⟨⟨_, by rw [List.getElem?_set_ne (by omega)]; exact e1, e2⟩, ⟨u, by rw [List.getElem?_set_self hl], hu.sp hs⟩, ⟨_, by rw [List.getElem?_set_ne (by omega)]; exact r1, r2⟩⟩
  · simp only [if_neg hji] at e2 t2 r2 ⊢
    exact ⟨⟨_, by rw [List.getElem?_set_ne (by omega)]; exact e1, e2⟩, ⟨_, by rw [List.getElem?_set_ne (by omega)]; exact t1, t2⟩, ⟨_, by rw [List.getElem?_set_ne (by omega)]; exact r1, r2⟩⟩
theorem Sps.fld5 {w W : World} {In : Nat → Prop} {g n c : Nat} {xs : List Value} {i be bt br b' : Nat} (h : Sps w W In g n c xs i be bt br) (hi : i < n) {u : Value} (hu : Kd W In 58 4 b' u) : Sps w (W.setCell ⟨g, i * 8 + 5, none⟩ u) In g n c (xs.set (i * 8 + 5) u) i be bt b' := by
  obtain ⟨hs, ho⟩ := h.put (i * 8 + 5) u (by omega)
  have hl : i * 8 + 5 < xs.length := by rw [h.row.1]; omega
  refine ⟨h.sp.trans hs, ho, h.ig, fun j hj => ?_⟩
  have hk := (h.kids j hj).sp hs
  obtain ⟨⟨u2, e1, e2⟩, ⟨u3, t1, t2⟩, ⟨u5, r1, r2⟩⟩ := hk
  by_cases hji : j = i
  · subst hji
    simp only [if_true] at e2 t2 r2 ⊢
    exact ⟨⟨_, by rw [List.getElem?_set_ne (by omega)]; exact e1, e2⟩, ⟨_, by rw [List.getElem?_set_ne (by omega)]; exact t1, t2⟩, ⟨u, by rw [List.getElem?_set_self hl], hu.sp hs⟩⟩
  · simp only [if_neg hji] at e2 t2 r2 ⊢
    exact ⟨⟨_, by rw [List.getElem?_set_ne (by omega)]; exact e1, e2⟩, ⟨_, by rw [List.getElem?_set_ne (by omega)]; exact t1, t2⟩, ⟨_, by rw [List.getElem?_set_ne (by omega)]; exact r1, r2⟩⟩
theorem zero_step {W : World} {In : Nat → Prop} {g n c : Nat} {xs : List Value} (hi : In g) (h : W.ownsRow 0 34 8 (.slice (some ⟨g, 0, none⟩) n c) n xs) (p : Nat) (u : Value) : Sp In W (W.setCell ⟨g, p, none⟩ u) ∧ (W.setCell ⟨g, p, none⟩ u).ownsRow 0 34 8 (.slice (some ⟨g, 0, none⟩) n c) n (xs.set p u) := by
  refine ⟨?_, own_put h p u⟩
  rcases h.2 with ⟨k1, _⟩ | ⟨g', cap, cur', k1, k2, k3, _⟩
  · cases k1
  · cases k1
    exact Sp.set hi k3 p u
theorem Sps.zero {w W : World} {In : Nat → Prop} {g n c : Nat} {xs : List Value} {i be bt br : Nat} (h : Sps w W In g n c xs i be bt br) (hi : i < n) : ∃ ys, Sps w ((((((((W.setCell ⟨g, i * 8, none⟩ (.int .i64 0)).setCell ⟨g, i * 8 + 1, none⟩ (.string ⟨#[]⟩)).setCell ⟨g, i * 8 + 2, none⟩ (.slice none 0 0)).setCell ⟨g, i * 8 + 3, none⟩ (.slice none 0 0)).setCell ⟨g, i * 8 + 4, none⟩ (.string ⟨#[]⟩)).setCell ⟨g, i * 8 + 5, none⟩ (.slice none 0 0)).setCell ⟨g, i * 8 + 6, none⟩ (.string ⟨#[]⟩)).setCell ⟨g, i * 8 + 7, none⟩ (.bool false)) In g n c ys (i + 1) 1048576 1048576 1048576 := by
  obtain ⟨s0, o0⟩ := zero_step h.ig h.row (i * 8) (.int .i64 0)
  obtain ⟨s1, o1⟩ := zero_step h.ig o0 (i * 8 + 1) (.string ⟨#[]⟩)
  obtain ⟨s2, o2⟩ := zero_step h.ig o1 (i * 8 + 2) (.slice none 0 0)
  obtain ⟨s3, o3⟩ := zero_step h.ig o2 (i * 8 + 3) (.slice none 0 0)
  obtain ⟨s4, o4⟩ := zero_step h.ig o3 (i * 8 + 4) (.string ⟨#[]⟩)
  obtain ⟨s5, o5⟩ := zero_step h.ig o4 (i * 8 + 5) (.slice none 0 0)
  obtain ⟨s6, o6⟩ := zero_step h.ig o5 (i * 8 + 6) (.string ⟨#[]⟩)
  obtain ⟨s7, o7⟩ := zero_step h.ig o6 (i * 8 + 7) (.bool false)
  have hS := s0.trans (s1.trans (s2.trans (s3.trans (s4.trans (s5.trans (s6.trans s7))))))
  refine ⟨_, h.sp.trans hS, o7, h.ig, fun j hj => ?_⟩
  have hk := (h.kids j hj).sp hS
  have hl := h.row.1
  have l2 : i * 8 + 2 < xs.length := by omega
  have l3 : i * 8 + 3 < xs.length := by omega
  have l5 : i * 8 + 5 < xs.length := by omega
  simp only [ite_self]
  by_cases hji : j = i
  · subst hji
    exact ⟨⟨_, by simp [List.getElem?_set, l2], Kd.nil _ _ _ _ _⟩, ⟨_, by simp [List.getElem?_set, l3], Kd.nil _ _ _ _ _⟩, ⟨_, by simp [List.getElem?_set, l5], Kd.nil _ _ _ _ _⟩⟩
  · obtain ⟨⟨u2, e1, e2⟩, ⟨u3, t1, t2⟩, ⟨u5, r1, r2⟩⟩ := hk
    simp only [if_neg hji] at e2 t2 r2
    exact ⟨⟨u2, by iterate 8 rw [List.getElem?_set_ne (by omega)]
                   exact e1, e2⟩, ⟨u3, by iterate 8 rw [List.getElem?_set_ne (by omega)]
                                          exact t1, t2⟩, ⟨u5, by iterate 8 rw [List.getElem?_set_ne (by omega)]
                                                                 exact r1, r2⟩⟩
set_option maxHeartbeats 32000000 in
theorem spoil_some (w : World) (In : Nat → Prop) (g n c : Nat) (xs : List Value) (hS : Sps w w In g n c xs 0 1048576 1048576 1048576) (hN : ∀ k, w.heap.size ≤ k → In k) (hn : n ≤ 1048576) :
    Calls Try.prog 8 #[.slice (some ⟨g, 0, none⟩) n c] w fun e w' => e = .returned (.tuple #[]) ∧ ∃ ys, Sps w w' In g n c ys n 1048576 1048576 1048576 := by
  have HN := hideL hN
  have HS0 := hideL hS
  have stf := st_float
  clear hS hN
  obtain ⟨i9, hi9, hy0, hy1, hy2⟩ := info_parts Try.info9
  obtain ⟨i57, hi57, hz0, hz1, hz2⟩ := info_parts Try.info46
  obtain ⟨i71, hi71, hq0, hq1, hq2⟩ := info_parts Try.info58
  go_enter Try.func8, Try.ntmps8
  go_wp2_with fail
  go_loopw [2] (fun t wr => ∃ (i : Nat) (ys : List Value), t = .int .i64 i ∧ i ≤ n ∧ Sps w wr In g n c ys i 1048576 1048576 1048576) (fun t _ => n - (intOf t).toNat)
  case atStart => exact ⟨0, xs, rfl, by omega, HS0.out⟩
  case round =>
    obtain ⟨i, ys, rfl, hi, hs⟩ := hrel
    have i0 : (0 : Int) ≤ i := by omega
    have HS := hideL hs
    clear hs
    by_cases h3 : i < n
    · have h3' : (i : Int) < n := by omega
      obtain ⟨a1, n1, c1, a2, n2, c2, a3, n3, c3, hxs, hl1, hl2, hl3⟩ := HS.out.three h3
      have HX := hideL hxs
      clear hxs
      go_wp2_with fail
      go_loopw [3] (fun t wk => ∃ (k : Nat), t = .int .i64 k ∧ k ≤ n1 ∧ Sps w wk In g n c ys i 1048576 1048576 1048576) (fun t _ => n1 - (intOf t).toNat)
      case atStart => exact ⟨0, rfl, by omega, HS.out⟩
      case round =>
        obtain ⟨k, rfl, hk, hs1⟩ := hrel
        have k0 : (0 : Int) ≤ k := by omega
        have HS1 := hideL hs1
        clear hs1
        have cl1 := HS1.out.cell HX.out.1
        by_cases h4 : k < n1
        · have h4' : (k : Int) < n1 := by omega
          obtain ⟨b1, cur1, rfl, q1, q2, q3⟩ := HS1.out.kid h3 (.inl ⟨rfl, rfl, rfl⟩) HX.out.1 (by omega)
          obtain ⟨⟨y1, ce1⟩, fr1⟩ := blk_cell q1 (p := k) (by omega)
          go_wp2_with fail
          exact ⟨⟨k + 1, by go_num, by omega, HS1.out.kidset1 q1 q3 (by decide) _ _⟩, by simp [intOf]; omega⟩
        · have h4' : ¬ (k : Int) < n1 := by omega
          obtain rfl : k = n1 := by omega
          go_wp2_with fail
          go_loopw [4] (fun t wk => ∃ (k : Nat), t = .int .i64 k ∧ k ≤ n2 ∧ Sps w wk In g n c ys i 1048576 1048576 1048576) (fun t _ => n2 - (intOf t).toNat)
          case atStart => exact ⟨0, rfl, by omega, HS1.out⟩
          case round =>
            obtain ⟨l, rfl, hkl, hs2⟩ := hrel
            have l0 : (0 : Int) ≤ l := by omega
            have HS2 := hideL hs2
            clear hs2
            have cl2 := HS2.out.cell HX.out.2.1
            by_cases h5 : l < n2
            · have h5' : (l : Int) < n2 := by omega
              obtain ⟨b2, cur2, rfl, q1, q2, q3⟩ := HS2.out.kid h3 (.inr (.inl ⟨rfl, rfl, rfl⟩)) HX.out.2.1 (by omega)
              obtain ⟨⟨fr1, fr2, fr3⟩, ⟨⟨y1, ce1⟩, ⟨y2, ce2⟩, ⟨y3, ce3⟩⟩, hbt, cur3, q4, q5⟩ := setq3 q1 (q := l * 3) (by omega) (.string ⟨#[115, 112, 111, 105, 108, 116]⟩) (.string ⟨#[]⟩) (.float .f64 0)
              have HBT := hideL hbt
              have HQ4 := hideL q4
              clear hbt q4
              go_wp2_with fail
              exact ⟨⟨l + 1, by go_num, by omega, HS2.out.kidbut q1 q3 (by decide) HBT.out HQ4.out q5⟩, by simp [intOf]; omega⟩
            · have h5' : ¬ (l : Int) < n2 := by omega
              obtain rfl : l = n2 := by omega
              go_wp2_with fail
              go_loopw [5] (fun t wk => ∃ (k : Nat), t = .int .i64 k ∧ k ≤ n3 ∧ Sps w wk In g n c ys i 1048576 1048576 1048576) (fun t _ => n3 - (intOf t).toNat)
              case atStart => exact ⟨0, rfl, by omega, HS2.out⟩
              case round =>
                obtain ⟨m, rfl, hkm, hs3⟩ := hrel
                have m0 : (0 : Int) ≤ m := by omega
                have HS3 := hideL hs3
                clear hs3
                have cl3 := HS3.out.cell HX.out.2.2
                by_cases h6 : m < n3
                · have h6' : (m : Int) < n3 := by omega
                  obtain ⟨b3, cur3, rfl, q1, q2, q3⟩ := HS3.out.kid h3 (.inr (.inr ⟨rfl, rfl, rfl⟩)) HX.out.2.2 (by omega)
                  obtain ⟨⟨fr1, fr2, fr3, fr4⟩, ⟨⟨y1, ce1⟩, ⟨y2, ce2⟩, ⟨y3, ce3⟩, ⟨y4, ce4⟩⟩, hbt, cur4, q4, q5⟩ := setq4 q1 (q := m * 4) (by omega) (.string ⟨#[115, 112, 111, 105, 108, 116]⟩) (.string ⟨#[]⟩) (.string ⟨#[]⟩) (.bool false)
                  have HBT := hideL hbt
                  have HQ4 := hideL q4
                  clear hbt q4
                  go_wp2_with fail
                  exact ⟨⟨m + 1, by go_num, by omega, HS3.out.kidbut q1 q3 (by decide) HBT.out HQ4.out q5⟩, by simp [intOf]; omega⟩
                · have h6' : ¬ (m : Int) < n3 := by omega
                  obtain rfl : m = n3 := by omega
                  have cl1 := HS3.out.cell HX.out.1
                  have SA1 := hideL (HS3.out.alloc (.cells #[.string ⟨#[109, 111, 114, 101]⟩, .string ⟨#[109, 111, 114, 101]⟩] 9))
                  obtain ⟨⟨x1, ho1⟩, hI1⟩ := SA1.out.kidown h3 (.inl ⟨rfl, rfl, rfl⟩) HX.out.1
                  have HO1 := hideL ho1
                  have HI1 := hideL hI1
                  have hszA : w.heap.size ≤ wr.heap.size := HS3.out.sp.size
                  clear ho1 hI1
                  go_wp2_with first
                    | (at_builtin; refine wpList_append_wk _ rfl (.tmp 95) (.tmp 98) 32 rfl 0 58 i71 _ 4 56 Try.underlying32 hi71 hq0 hq1 hq2 rfl (by decide) (.slice a3 m c3) m x3 rfl HO3.out ⟨w4.heap.size, 0, none⟩ 2 2 [.string ⟨#[]⟩, .string ⟨#[]⟩, .string ⟨#[]⟩, .bool false, .string ⟨#[]⟩, .string ⟨#[]⟩, .string ⟨#[]⟩, .bool false] rfl rfl (fun j u hj => new_cell w4 _ 58 j u hj) (by intro u hu; simp only [List.mem_cons, List.not_mem_nil, or_false] at hu; rcases hu with rfl | rfl | rfl | rfl | rfl | rfl | rfl | rfl <;> rfl) (by unfold maxLen; omega) (by omega) (Nat.zero_le _) In HI3.out (fun k' hk' => HN.out k' (by simp at hk'; omega)) ?_; intro v1 w5 hown1 hgrow1 hin1 hsp1; obtain ⟨b3, d3, rfl, _⟩ := own_form hown1; have S5 := hideL (SA3.out.app HO3.out (by decide) hgrow1 hsp1); have K1 : Kd w5 In 58 4 1048578 (.slice b3 (m + 2) d3) := ⟨_, _, _, _, rfl, hown1, by omega, hin1⟩; have f3 := S5.out.fz (i * 8 + 5); have g3 := S5.out.cell HX5.out; have S6 := hideL (S5.out.fld5 h3 K1); clear hown1 hgrow1 hin1 hsp1 K1 HO3 HI3 SA3; obtain ⟨w6, hw6⟩ : ∃ X, w5.setCell ⟨g, i * 8 + 5, none⟩ (.slice b3 (m + 2) d3) = X := ⟨_, rfl⟩; rw [hw6] at S6; obtain ⟨cur6, q1, q2, -, -⟩ := S6.out.blk; obtain ⟨⟨r0, r1, r2, r3, r4, r5, r6, r7⟩, ⟨⟨y0, t0⟩, ⟨y1, t1⟩, ⟨y2, t2⟩, ⟨y3, t3⟩, ⟨y4, t4⟩, ⟨y5, t5⟩, ⟨y6, t6⟩, ⟨y7, t7⟩⟩, -, -⟩ := setq8 q1 (q := i * 8) (by omega) (.int .i64 0) (.string ⟨#[]⟩) (.slice none 0 0) (.slice none 0 0) (.string ⟨#[]⟩) (.slice none 0 0) (.string ⟨#[]⟩) (.bool false); clear q1 q2)
                    | (at_builtin; refine wpList_append_wk _ rfl (.tmp 82) (.tmp 85) 31 rfl 0 46 i57 _ 3 40 Try.underlying31 hi57 hz0 hz1 hz2 rfl (by decide) (.slice a2 l c2) l x2 rfl HO2.out ⟨w2.heap.size, 0, none⟩ 2 2 [.string ⟨#[]⟩, .string ⟨#[]⟩, .float .f64 0, .string ⟨#[]⟩, .string ⟨#[]⟩, .float .f64 0] rfl rfl (fun j u hj => new_cell w2 _ 46 j u hj) (by intro u hu; simp only [List.mem_cons, List.not_mem_nil, or_false] at hu; rcases hu with rfl | rfl | rfl | rfl | rfl | rfl <;> rfl) (by unfold maxLen; omega) (by omega) (Nat.zero_le _) In HI2.out (fun k' hk' => HN.out k' (by simp at hk'; omega)) ?_; intro v1 w3 hown1 hgrow1 hin1 hsp1; obtain ⟨b2, d2, rfl, _⟩ := own_form hown1; have S3 := hideL (SA2.out.app HO2.out (by decide) hgrow1 hsp1); have K1 : Kd w3 In 46 3 1048578 (.slice b2 (l + 2) d2) := ⟨_, _, _, _, rfl, hown1, by omega, hin1⟩; have f2 := S3.out.fz (i * 8 + 3); have g2 := S3.out.cell HX3.out; have S4 := hideL (S3.out.fld3 h3 K1); clear hown1 hgrow1 hin1 hsp1 K1 HO2 HI2 SA2; obtain ⟨w4, hw4⟩ : ∃ X, w3.setCell ⟨g, i * 8 + 3, none⟩ (.slice b2 (l + 2) d2) = X := ⟨_, rfl⟩; rw [hw4] at S4; have hszC : w.heap.size ≤ w4.heap.size := S4.out.sp.size; have hX5 : ((ys.set (i * 8 + 2) (.slice b1 (k + 2) d1)).set (i * 8 + 3) (.slice b2 (l + 2) d2))[i * 8 + 5]? = some (.slice a3 m c3) := (by rw [List.getElem?_set_ne (by omega), List.getElem?_set_ne (by omega)]; exact HX.out.2.2); have HX5 := hideL hX5; have cl3 := S4.out.cell hX5; clear hX5; have SA3 := hideL (S4.out.alloc (.cells #[.string ⟨#[]⟩, .string ⟨#[]⟩, .string ⟨#[]⟩, .bool false, .string ⟨#[]⟩, .string ⟨#[]⟩, .string ⟨#[]⟩, .bool false] 58)); obtain ⟨⟨x3, ho3⟩, hI3⟩ := SA3.out.kidown h3 (.inr (.inr ⟨rfl, rfl, rfl⟩)) HX5.out; have HO3 := hideL ho3; have HI3 := hideL hI3; clear ho3 hI3)
                    | (at_builtin; refine wpList_append_wk _ rfl (.tmp 71) (.tmp 72) 30 rfl 0 9 i9 _ 1 16 Try.underlying30 hi9 hy0 hy1 hy2 rfl (by decide) (.slice a1 k c1) k x1 rfl HO1.out ⟨wr.heap.size, 0, none⟩ 2 2 [.string ⟨#[109, 111, 114, 101]⟩, .string ⟨#[109, 111, 114, 101]⟩] rfl rfl (fun j u hj => new_cell wr _ 9 j u hj) (by intro u hu; simp only [List.mem_cons, List.not_mem_nil, or_false, or_self] at hu; subst hu; rfl) (by unfold maxLen; omega) (by omega) (Nat.zero_le _) In HI1.out (fun k' hk' => HN.out k' (by simp at hk'; omega)) ?_; intro v1 w1 hown1 hgrow1 hin1 hsp1; obtain ⟨b1, d1, rfl, _⟩ := own_form hown1; have S1 := hideL (SA1.out.app HO1.out (by decide) hgrow1 hsp1); have K1 : Kd w1 In 9 1 1048578 (.slice b1 (k + 2) d1) := ⟨_, _, _, _, rfl, hown1, by omega, hin1⟩; have f1 := S1.out.fz (i * 8 + 2); have g1 := S1.out.cell HX.out.1; have S2 := hideL (S1.out.fld2 h3 K1); clear hown1 hgrow1 hin1 hsp1 K1 HO1 HI1 SA1; obtain ⟨w2, hw2⟩ : ∃ X, w1.setCell ⟨g, i * 8 + 2, none⟩ (.slice b1 (k + 2) d1) = X := ⟨_, rfl⟩; rw [hw2] at S2; have hszB : w.heap.size ≤ w2.heap.size := S2.out.sp.size; have hX3 : (ys.set (i * 8 + 2) (.slice b1 (k + 2) d1))[i * 8 + 3]? = some (.slice a2 l c2) := (by rw [List.getElem?_set_ne (by omega)]; exact HX.out.2.1); have HX3 := hideL hX3; have cl2 := S2.out.cell hX3; clear hX3; have SA2 := hideL (S2.out.alloc (.cells #[.string ⟨#[]⟩, .string ⟨#[]⟩, .float .f64 0, .string ⟨#[]⟩, .string ⟨#[]⟩, .float .f64 0] 46)); obtain ⟨⟨x2, ho2⟩, hI2⟩ := SA2.out.kidown h3 (.inr (.inl ⟨rfl, rfl, rfl⟩)) HX3.out; have HO2 := hideL ho2; have HI2 := hideL hI2; clear ho2 hI2)
                  obtain ⟨zs, hz⟩ := S6.out.zero h3
                  exact ⟨⟨i + 1, zs, by go_num, by omega, hz⟩, by simp [intOf]; omega⟩
    · have h3' : ¬ (i : Int) < n := by omega
      obtain rfl : i = n := by omega
      go_wp2
      first | (refine bodyPost_ret (results_none rfl _ _ _) rfl ?_) | (refine bodyPost_end (results_none rfl _ _ _) rfl ?_)
      exact ⟨rfl, ys, HS.out⟩
end Go.Proofs.Ytmljljpldljpjab
