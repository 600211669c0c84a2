/-
  Lists of trees under way.
-/
import Derived.Test.YtgododijnogegaaOn
namespace Go.Proofs.Ytgododijnogegaa
open Go.RowKit
set_option linter.unusedVariables false
set_option linter.unusedSimpArgs false
set_option maxRecDepth 100000
theorem Try.info53 : (Try.prog.info? 53).map (fun i => (i.zero, i.size, i.bytes)) = some (some (.agg #[.int .i64 0, .int .i64 0, .int .i64 0, .string ⟨#[]⟩, .bool false]), 5, 48) := by kernel_rfl
theorem Try.info41 : (Try.prog.info? 41).map (fun i => (i.zero, i.size, i.bytes)) = some (some (.slice none 0 0), 1, 24) := by kernel_rfl
theorem apart_types {w : World} {b1 b2 : Nat} {e1 e2 : TypeId} {s1 s2 : Nat} {v1 v2 : Value} {n1 n2 : Nat} {x1 x2 : List Value} (h1 : w.ownsRow b1 e1 s1 v1 n1 x1) (h2 : w.ownsRow b2 e2 s2 v2 n2 x2) (hne : e1 ≠ e2) {k : Nat} (hk : v1.ownBlock = some k) : v2.ownBlock ≠ some k := fun h => by
  obtain ⟨c1, hc1⟩ := own_cells h1 k hk
  obtain ⟨c2, hc2⟩ := own_cells h2 k h
  rw [hc1] at hc2
  injection hc2 with hc2
  injection hc2 with _ h3
  exact hne h3
/-- an append elsewhere: the nodes stay -/
theorem Own.grown {w w3 : World} {base b2 e2 s2 n2 mm : Nat} {v : Value} {os : List Nx} {d : Value} {xs : List Value} {ob : Obj} (h : Own w base v os) (hd : w.ownsRow b2 e2 s2 d n2 xs) (he : e2 ≠ 51 ∧ e2 ≠ 3) (hg : ((w.alloc ob).drewN mm).grownBy w3 d.ownBlock) : Own w3 base v os := by
  have hk : ∀ k, k < w.heap.size → d.ownBlock ≠ some k → w3.heap[k]? = w.heap[k]? := fun k hk hne => (hg.block k (by simp; omega) (fun e => hne e.symm)).trans (Below.heap_alloc w ob k hk)
  exact h.keep (fun k e => hk k (h.row.lt k e).2 (apart_types h.row hd (Ne.symm he.1) e)) (fun o ho k e => hk k ((h.kids o ho).1.lt k e).2 (apart_types (h.kids o ho).1 hd (Ne.symm he.2) e))
theorem Ots.grown {w w3 : World} {base b2 s2 n2 mm : Nat} {v : Value} {ts : List Tr} {vs : List Value} {d : Value} {xs : List Value} {ob : Obj} (h : Ots w base v ts vs) (hd : w.ownsRow b2 53 s2 d n2 xs) (hg : ((w.alloc ob).drewN mm).grownBy w3 d.ownBlock) : Ots w3 base v ts vs := by
  have hk : ∀ k, k < w.heap.size → d.ownBlock ≠ some k → w3.heap[k]? = w.heap[k]? := fun k hk hne => (hg.block k (by simp; omega) (fun e => hne e.symm)).trans (Below.heap_alloc w ob k hk)
  refine ⟨own_block h.row fun k e => hk k (h.row.lt k e).2 (apart_types h.row hd (by decide) e), fun i t ht => ?_⟩
  obtain ⟨x, ns, h1, h2, h3, h4⟩ := h.each i t ht
  exact ⟨x, ns, h1, h2.grown hd (by decide) hg, h3, h4⟩
/-- one tree more -/
theorem Ots.more {w w3 : World} {base mm : Nat} {v v3 x : Value} {ts : List Tr} {vs : List Value} {t : Tr} {ns : List Nx} {ob : Obj} (h : Ots w base v ts vs) (hr : w3.ownsRow base 41 1 v3 (ts.length + 1) (vs ++ [x])) (hg : ((w.alloc ob).drewN mm).grownBy w3 v.ownBlock) (hx : Own w base x ns) (hn : ns.map Nx.nd = t.flat 0) (hl : ns.length ≤ 4096) : Ots w3 base v3 (ts ++ [t]) (vs ++ [x]) := by
  refine ⟨by rw [List.length_append]; exact hr, fun i u hu => ?_⟩
  have hvl : vs.length = ts.length := by have := h.row.1; omega
  by_cases hi : i < ts.length
  · rw [List.getElem?_append_left hi] at hu
    obtain ⟨y, ms, h1, h2, h3, h4⟩ := h.each i u hu
    exact ⟨y, ms, by rw [List.getElem?_append_left (by omega)]; exact h1, h2.grown h.row (by decide) hg, h3, h4⟩
  · rw [List.getElem?_append_right (by omega)] at hu
    have hi2 := (List.getElem?_eq_some_iff.1 hu).1
    have : i = ts.length := by simp at hi2; omega
    subst this
    simp at hu
    subst hu
    exact ⟨x, ns, by rw [← hvl]; simp, hx.grown h.row (by decide) hg, hn, hl⟩
theorem rowsT_at : ∀ (os : List Tk) (i : Nat) (o : Tk), os[i]? = some o → ∀ (j : Nat) (u : Value), o.row[j]? = some u → (rowsT os)[i * 5 + j]? = some u
  | [], i, o, h, j, u, hu => by simp at h
  | x :: os, 0, o, h, j, u, hu => by
    simp at h
    subst h
    have hj := (List.getElem?_eq_some_iff.1 hu).1
    rw [show rowsT (x :: os) = x.row ++ rowsT os from rfl, Nat.zero_mul, Nat.zero_add, List.getElem?_append_left hj]
    exact hu
  | x :: os, i + 1, o, h, j, u, hu => by
    rw [show rowsT (x :: os) = x.row ++ rowsT os from rfl, List.getElem?_append_right (by simp [Tk.row]; omega)]
    have hl : x.row.length = 5 := rfl
    rw [hl, show (i + 1) * 5 + j - 5 = i * 5 + j by omega]
    exact rowsT_at os i o (by simpa using h) j u hu
theorem own_dt0 {w : World} {base g n c : Nat} {doc : List Tk} (h : w.ownsRow base 53 5 (.slice (some ⟨g, 0, none⟩) n c) n (rowsT doc)) (hl : doc.length = n) (h0 : 0 < n) (hs : n ≤ 17592186043904) (hst : ∀ t ∈ doc, t.tx.size ≤ maxLen) : Dt0 w g 0 n doc where
  ts := fun i t hi j u hu => by
    have hi' := (List.getElem?_eq_some_iff.1 hi).1
    have hj := (List.getElem?_eq_some_iff.1 hu).1
    have hj5 : j < 5 := hj
    rw [Nat.zero_add, h.cellAt (i * 5 + j) (by omega)]
    exact rowsT_at doc i t hi j u hu
  str := hst
  len := hl
  small := hs
  glt := (h.lt g rfl).2
  some := h0
end Go.Proofs.Ytgododijnogegaa
