/-
  Lists of resources of one's own.
-/
import Derived.Test.YtmljljpldljpjabCy
namespace Go.Proofs.Ytmljljpldljpjab
open Go.RowKit
set_option linter.unusedVariables false
set_option linter.unusedSimpArgs false
set_option maxRecDepth 100000
/-- a list of resources, the list and theirs in rows of one's own -/
structure Ol (W : World) (base : Nat) (v : Value) (os : List Rx) : Prop where
  row : W.ownsRow base 34 8 v os.length (rowsOf Rx.row os)
  each : ∀ o ∈ os, Ro W base o
theorem Ol.below {W W' : World} {base : Nat} {v : Value} {os : List Rx} (h : Ol W base v os) (hb : Below W.heap.size W W') : Ol W' base v os := ⟨own_stay h.row hb, fun o ho => (h.each o ho).below hb⟩
theorem Ol.low {W : World} {base b' : Nat} {v : Value} {os : List Rx} (h : Ol W base v os) (hb : b' ≤ base) : Ol W b' v os := ⟨own_low' h.row hb, fun o ho => (h.each o ho).low hb⟩
theorem Ol.nil (W : World) (base : Nat) : Ol W base (.slice none 0 0) [] := ⟨⟨by simp [rowsOf], .inl ⟨rfl, rfl⟩⟩, fun o ho => by cases ho⟩
theorem Ol.lr {W : World} {base : Nat} {a : Option Addr} {n c : Nat} {os : List Rx} (h : Ol W base (.slice a n c) os) (hk : ∀ o ∈ os, Rok o.toRs) : Lr W a os := by
  obtain ⟨a', c', e, _⟩ := own_form h.row
  cases e
  exact ⟨fun o ho => (h.each o ho).rin (hk o ho), own_cel Rx.row 8 rx_len (by decide) h.row⟩
theorem app_keep {w w3 : World} {base m mm : Nat} {e : TypeId} {sz : Nat} {v : Value} {xs : List Value} {ob : Obj} (h : w.ownsRow base e sz v m xs) (hg : ((w.alloc ob).drewN mm).grownBy w3 v.ownBlock) {k : Nat} {cs : Array Value} {t : TypeId} {fr : Nat × Nat} (hb : w.heap[k]? = some (.cells cs t fr)) (ht : t ≠ e) : w3.heap[k]? = some (.cells cs t fr) := by
  have hk : k < w.heap.size := lt_of_block hb
  refine Eq.trans (hg.block k (by simp; omega) (fun e' => ?_)) ((Below.heap_alloc w ob k hk).trans hb)
  obtain ⟨c1, hc1⟩ := own_cells h k e'.symm
  rw [hc1] at hb
  injection hb with hb
  injection hb with _ h3
  exact ht h3.symm
theorem own_app {w w3 : World} {base m mm : Nat} {e : TypeId} {sz : Nat} {v : Value} {xs : List Value} {ob : Obj} (h : w.ownsRow base e sz v m xs) (hg : ((w.alloc ob).drewN mm).grownBy w3 v.ownBlock) {b2 : Nat} {e2 : TypeId} {s2 : Nat} {v2 : Value} {n2 : Nat} {x2 : List Value} (h2 : w.ownsRow b2 e2 s2 v2 n2 x2) (ht : e2 ≠ e) : w3.ownsRow b2 e2 s2 v2 n2 x2 :=
  own_blk' h2 (fun k hk => by
    obtain ⟨c1, hc1⟩ := own_cells h2 k hk
    rw [hc1]
    exact app_keep h hg hc1 ht)
theorem Ro.app {w w3 : World} {base m mm : Nat} {sz : Nat} {v : Value} {xs : List Value} {ob : Obj} (h : w.ownsRow base 34 sz v m xs) (hg : ((w.alloc ob).drewN mm).grownBy w3 v.ownBlock) {b2 : Nat} {o : Rx} (ho : Ro w b2 o) : Ro w3 b2 o :=
  ⟨own_app h hg ho.e (by decide), own_app h hg ho.t (by decide), own_app h hg ho.r (by decide)⟩
/-- one more -/
theorem Ol.more {w w3 : World} {base mm : Nat} {v v3 : Value} {os : List Rx} {p : Rx} {ob : Obj} (h : Ol w base v os) (hr : w3.ownsRow base 34 8 v3 (os.length + 1) (rowsOf Rx.row os ++ p.row)) (hg : ((w.alloc ob).drewN mm).grownBy w3 v.ownBlock) (hp : Ro w base p) : Ol w3 base v3 (os ++ [p]) := by
  refine ⟨by rw [List.length_append, rowsOf_append, rowsOf_one]; exact hr, fun o ho => ?_⟩
  rcases List.mem_append.1 ho with ho | ho
  · exact Ro.app h.row hg (h.each o ho)
  · simp at ho; subst ho; exact Ro.app h.row hg hp
/-- a list of one's own whose resources lie elsewhere, unturned -/
structure Gl (w0 W : World) (v : Value) (os : List Rx) : Prop where
  row : W.ownsRow w0.heap.size 34 8 v os.length (rowsOf Rx.row os)
  each : ∀ o ∈ os, Rin w0 o
  bel : Below w0.heap.size w0 W
theorem Gl.nil (w0 : World) {W : World} (h : Below w0.heap.size w0 W) : Gl w0 W (.slice none 0 0) [] := ⟨⟨by simp [rowsOf], .inl ⟨rfl, rfl⟩⟩, fun o ho => (by cases ho), h⟩
theorem Gl.lr {w0 W : World} {a : Option Addr} {n c : Nat} {os : List Rx} (h : Gl w0 W (.slice a n c) os) : Lr W a os := by
  obtain ⟨a', c', e, _⟩ := own_form h.row
  cases e
  exact ⟨fun o ho => (h.each o ho).below h.bel, own_cel Rx.row 8 rx_len (by decide) h.row⟩
theorem Gl.below {w0 W W' : World} {v : Value} {os : List Rx} (h : Gl w0 W v os) (hb : Below W.heap.size W W') : Gl w0 W' v os := ⟨own_stay h.row hb, h.each, h.bel.trans (hb.mono h.bel.size)⟩
theorem Gl.more {w0 w w3 : World} {mm : Nat} {v v3 : Value} {os : List Rx} {p : Rx} {ob : Obj} (h : Gl w0 w v os) (hr : w3.ownsRow w0.heap.size 34 8 v3 (os.length + 1) (rowsOf Rx.row os ++ p.row)) (hg : ((w.alloc ob).drewN mm).grownBy w3 v.ownBlock) (hp : Rin w0 p) : Gl w0 w3 v3 (os ++ [p]) := by
  refine ⟨by rw [List.length_append, rowsOf_append, rowsOf_one]; exact hr, fun o ho => ?_, h.bel.trans (below_app h.row h.bel.size hg)⟩
  rcases List.mem_append.1 ho with ho | ho
  · exact h.each o ho
  · simp at ho; subst ho; exact hp
/-- places: from 0 on, up to i, then noughts -/
def plc (i n : Nat) : List Value := (List.range n).map fun j => .int .i64 (if j < i then (j : Int) else 0)
theorem plc_zero (n : Nat) : plc 0 n = List.replicate n (.int .i64 0) := by
  apply List.ext_getElem
  · simp [plc]
  · intro j h1 h2; simp [plc]
theorem plc_set (i n : Nat) (hi : i < n) : (plc i n).set i (.int .i64 i) = plc (i + 1) n := by
  apply List.ext_getElem
  · simp [plc]
  · intro j h1 h2
    rw [List.getElem_set]
    by_cases h : i = j
    · subst h; simp [plc]
    · simp only [h, if_false, plc, List.getElem_map, List.getElem_range]
      have : (j < i) = (j < i + 1) := by simp; omega
      simp [this]
theorem plc_full (n j : Nat) (hj : j < n) : (plc n n)[j]? = some (.int .i64 j) := by
  simp [plc, hj]
theorem plc_len (i n : Nat) : (plc i n).length = n := by simp [plc]
end Go.Proofs.Ytmljljpldljpjab
