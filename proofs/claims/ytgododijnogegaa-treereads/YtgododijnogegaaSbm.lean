/-
  A tree's part in a list of nodes, as a plain function; a walker in memory.
-/
import Derived.Test.YtgododijnogegaaIsn
namespace Go.Proofs.Ytgododijnogegaa
open Go.RowKit
set_option linter.unusedVariables false
set_option linter.unusedSimpArgs false
def keysOf (l : List Nx) (ks : List Int) : List ByteArray := ks.map fun k => ((l[k.toNat]?).map Nx.key).getD ByteArray.empty
def keysOk (l : List Nx) (o : Nx) : Bool := if o.kd = 2 then decide (keysOf l o.ks).Nodup else decide (∀ b ∈ keysOf l o.ks, b = ByteArray.empty)
/-- the kids, one behind the other: the number behind the last, the height of the highest -/
def kidsT (S : Nat → Option (Nat × Nat)) : List Int → Nat → Nat → Option (Nat × Nat)
  | [], q, h => some (q, h)
  | k :: ks, q, h => if k = q then (match S q with | some (e, h') => kidsT S ks e (max h h') | none => none) else none
/-- a part: the number behind it, its height -/
def subT (l : List Nx) : Nat → Nat → Option (Nat × Nat)
  | 0, _ => none
  | f + 1, q => match l[q]? with
    | some o => if isN o = true then (match kidsT (subT l f) o.ks (q + 1) 0 with | some (e, h) => if keysOk l o = true then some (e, h + 1) else none | none => none) else none
    | none => none
/-- the blocks of a list of nodes lie below a line -/
structure Low (L : Nat) (a : Option Addr) (l : List Nx) : Prop where
  row : ∀ x, a = some x → l ≠ [] → x.block < L
  each : ∀ o ∈ l, ∀ x, o.a = some x → 0 < o.ks.length → x.block < L
theorem add_block (x : Addr) (j : Nat) : (x.add j).block = x.block := by unfold Addr.add; split <;> rfl
theorem Nums.kept {w w' : World} {a : Option Addr} {cs : List Int} (h : Nums w a cs) (hk : ∀ x, a = some x → 0 < cs.length → w'.heap[x.block]? = w.heap[x.block]?) : Nums w' a cs := by
  rcases h with h | ⟨x, rfl, hc⟩
  · exact .inl h
  · refine .inr ⟨x, rfl, fun j hj => ?_⟩
    rw [← hc j hj]
    exact World.cell?_of_block (w := w) (a := x.add j) (by rw [add_block]; exact hk x rfl (by omega))
theorem Ns.kept {w w' : World} {a : Option Addr} {l : List Nx} (h : Ns w a l) {L : Nat} (hl : Low L a l) (hk : ∀ k, k < L → k < w.heap.size → w'.heap[k]? = w.heap[k]?) : Ns w' a l := by
  refine ⟨fun o ho => ?_, ?_⟩
  · have hn := h.each o ho
    refine { hn with nums := hn.nums.kept fun x hx h0 => hk _ (hl.each o ho x hx h0) ?_ }
    rcases hn.nums with ⟨_, h1⟩ | ⟨y, hy, hc⟩
    · rw [h1] at h0; simp at h0
    · rw [hx] at hy; cases hy
      have := World.block_lt_of_cell? w _ (hc 0 h0)
      rwa [add_block] at this
  · rcases h.row with h0 | ⟨g, off, ha, hc⟩
    · exact .inl h0
    · refine .inr ⟨g, off, ha, fun i o hi j u hu => ?_⟩
      have h1 := hc i o hi j u hu
      rw [← h1]
      exact World.cell?_of_block (w := w) (a := ⟨g, off + i * 6 + j, none⟩) (hk g (hl.row _ ha (by rintro rfl; simp at hi)) (World.block_lt_of_cell? w _ h1))
/-- a walker: the list, the number that comes next, the deepest yet -/
structure Wk (w : World) (p : Nat) (a : Option Addr) (n cap : Nat) (l : List Nx) (q dp : Nat) : Prop where
  blk : w.heap[p]? = some (.cells #[.slice a n cap, .int .i64 q, .int .i64 dp] 70 (0, 0))
  ns : Ns w a l
  low : Low p a l
  len : l.length = n
  small : n ≤ 4096
  q : q ≤ n
  dp : dp ≤ 16
theorem Wk.cells {w : World} {p : Nat} {a : Option Addr} {n cap : Nat} {l : List Nx} {q dp : Nat} (h : Wk w p a n cap l q dp) : w.cell? ⟨p, 0, none⟩ = some (.slice a n cap) ∧ w.cell? ⟨p, 1, none⟩ = some (.int .i64 q) ∧ w.cell? ⟨p, 2, none⟩ = some (.int .i64 dp) := by
  simp [World.cell?, h.blk]
theorem Wk.lt {w : World} {p : Nat} {a : Option Addr} {n cap : Nat} {l : List Nx} {q dp : Nat} (h : Wk w p a n cap l q dp) : p < w.heap.size := (Array.getElem?_eq_some_iff.1 h.blk).1
theorem Wk.below {w w' : World} {p : Nat} {a : Option Addr} {n cap : Nat} {l : List Nx} {q dp : Nat} (h : Wk w p a n cap l q dp) (hb : Below w.heap.size w w') : Wk w' p a n cap l q dp :=
  { h with blk := (hb.block p h.lt).trans h.blk, ns := h.ns.kept h.low fun k hk _ => hb.block k (Nat.lt_trans hk h.lt) }
theorem subT_out {l : List Nx} {f q : Nat} (h : l.length ≤ q) : subT l f q = none := by
  cases f with
  | zero => rfl
  | succ f => simp [subT, List.getElem?_eq_none h]
end Go.Proofs.Ytgododijnogegaa
