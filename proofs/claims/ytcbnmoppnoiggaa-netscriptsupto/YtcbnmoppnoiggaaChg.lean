/-
  A connection that was changed, and the net about it.
-/
import Derived.Test.YtcbnmoppnoiggaaBuf
import Derived.Test.YtcbnmoppnoiggaaWriter
namespace Go.Proofs.Ytcbnmoppnoiggaa
open Go.RowKit
set_option linter.unusedVariables false
set_option linter.unusedSimpArgs false
structure Turn (w w' : World) (own : List Nat) : Prop where
  os : w'.os = w.os
  tape : w'.tape = w.tape
  output : w'.output = w.output
  size : w.heap.size ≤ w'.heap.size
  block : ∀ k, k < w.heap.size → k ∉ own → w'.heap[k]? = w.heap[k]?
theorem Turn.refl (w : World) (own : List Nat) : Turn w w own := ⟨rfl, rfl, rfl, Nat.le_refl _, fun _ _ _ => rfl⟩
theorem Turn.trans {w w1 w2 : World} {own own2 : List Nat} (h : Turn w w1 own) (h2 : Turn w1 w2 own2) (hs : ∀ k ∈ own2, k ∈ own ∨ w.heap.size ≤ k) : Turn w w2 own :=
  ⟨h2.os.trans h.os, h2.tape.trans h.tape, h2.output.trans h.output, Nat.le_trans h.size h2.size, fun k hk hn =>
    (h2.block k (Nat.lt_of_lt_of_le hk h.size) (fun hm => (hs k hm).elim hn (fun h => by omega))).trans (h.block k hk hn)⟩
theorem Turn.grown {w w' : World} {row : Option Nat} (h : w.grownBy w' row) : Turn w w' row.toList :=
  ⟨h.os, h.tape, h.output, h.size, fun k hk hn => h.block k hk (fun e => hn (by rw [← e]; simp))⟩
theorem Turn.setCell (w : World) (k o : Nat) (v : Value) : Turn w (w.setCell ⟨k, o, none⟩ v) [k] :=
  ⟨rfl, rfl, rfl, by simp, fun j hj hn => Below.heap_setCell w _ v j (fun e => hn (by simpa using e))⟩
theorem Turn.alloc (w : World) (o : Obj) : Turn w (w.alloc o) [] := ⟨rfl, rfl, rfl, by simp, fun k hk _ => Below.heap_alloc w o k hk⟩
theorem Turn.drew (w : World) : Turn w w.drew [] := ⟨rfl, rfl, rfl, Nat.le_refl _, fun k hk _ => rfl⟩
theorem Turn.mono {w w' : World} {own own' : List Nat} (h : Turn w w' own) (hs : ∀ k ∈ own, k ∈ own' ∨ w.heap.size ≤ k) : Turn w w' own' :=
  ⟨h.os, h.tape, h.output, h.size, fun k hk hn => h.block k hk (fun hm => (hs k hm).elim hn (fun h => by omega))⟩
theorem Turn.below {w w' : World} {own : List Nat} {B : Nat} (h : Turn w w' own) (hB : B ≤ w.heap.size) (hl : ∀ k ∈ own, B ≤ k) : Below B w w' :=
  ⟨h.os, h.tape, h.output, h.size, fun k hk => h.block k (by omega) (fun hm => by have := hl k hm; omega)⟩
theorem lt_of_block {w : World} {k : Nat} {o : Obj} (h : w.heap[k]? = some o) : k < w.heap.size := by
  rcases Nat.lt_or_ge k w.heap.size with hlt | hge
  · exact hlt
  · rw [Array.getElem?_eq_none hge] at h; cases h
theorem block_setCell {w : World} {k : Nat} {cs : Array Value} {t : TypeId} {fr : Nat × Nat} (h : w.heap[k]? = some (.cells cs t fr)) (o : Nat) (v : Value) :
    (w.setCell ⟨k, o, none⟩ v).heap[k]? = some (.cells (cs.setIfInBounds o v) t fr) := by
  rw [setCell_eq_setRow w k o cs t fr v h]
  unfold World.setRow
  simp [Array.getElem?_modify, h]
def ne2 (x y : Option Nat) : Prop := ∀ k, x = some k → y = some k → False
theorem nod4 (x y z t : Option Nat) : ((x.toList ++ y.toList) ++ (z.toList ++ t.toList)).Nodup ↔ (ne2 x y ∧ ne2 x z ∧ ne2 x t ∧ ne2 y z ∧ ne2 y t ∧ ne2 z t) := by
  cases x <;> cases y <;> cases z <;> cases t <;> simp [ne2] <;> omega
theorem Con.lt {w : World} {base : Nat} {c : Cn} (C : Con w base c) : ∀ k ∈ c.blocks, base ≤ k ∧ k < w.heap.size := by
  intro k hk
  simp only [Cn.blocks, Sd.blocks, List.mem_cons, List.mem_append, Option.mem_toList, Option.mem_def] at hk
  rcases hk with rfl | (h | h) | (h | h)
  · exact ⟨C.low, lt_of_block C.blk⟩
  · exact C.u0.low h
  · exact C.a0.low h
  · exact C.u1.low h
  · exact C.a1.low h
theorem Con.keep {w w' : World} {base : Nat} {c : Cn} (C : Con w base c) (h : ∀ k ∈ c.blocks, w'.heap[k]? = w.heap[k]?) : Con w' base c := by
  refine ⟨(h _ (by simp [Cn.blocks])).trans C.blk, C.low, C.u0.keep ?_, C.a0.keep ?_, C.u1.keep ?_, C.a1.keep ?_⟩
  all_goals
    intro k hk
    exact h k (by simp [Cn.blocks, Sd.blocks, hk])
theorem Buf.ne {w : World} {base : Nat} {v : Value} {zs : List Int} (h : Buf w base v zs) {k : Nat} {cs : Array Value} {t : TypeId} {fr : Nat × Nat} (hk : w.heap[k]? = some (.cells cs t fr)) (ht : t ≠ 5) : v.ownBlock ≠ some k := by
  intro e
  obtain ⟨cur, hg⟩ := h.typ e
  rw [hg] at hk
  cases hk
  exact ht rfl
theorem Con.nod {w : World} {base : Nat} {c : Cn} (C : Con w base c) : c.blocks.Nodup ↔ (ne2 c.s0.u.ownBlock c.s0.a.ownBlock ∧ ne2 c.s0.u.ownBlock c.s1.u.ownBlock ∧ ne2 c.s0.u.ownBlock c.s1.a.ownBlock ∧ ne2 c.s0.a.ownBlock c.s1.u.ownBlock ∧ ne2 c.s0.a.ownBlock c.s1.a.ownBlock ∧ ne2 c.s1.u.ownBlock c.s1.a.ownBlock) := by
  rw [← nod4]
  show (c.k :: _).Nodup ↔ _
  rw [List.nodup_cons]
  constructor
  · exact fun h => h.2
  · refine fun h => ⟨?_, h⟩
    have a := C.u0.ne C.blk (by decide); have b := C.a0.ne C.blk (by decide); have d := C.u1.ne C.blk (by decide); have e := C.a1.ne C.blk (by decide)
    simp only [Sd.blocks, List.mem_append, Option.mem_toList, Option.mem_def]
    rintro ((h | h) | (h | h)) <;> contradiction
structure Chg (w w' : World) (base : Nat) (c c' : Cn) : Prop where
  con : Con w' base c'
  k : c'.k = c.k
  turn : Turn w w' c.blocks
  nod : c'.blocks.Nodup
  sub : ∀ k ∈ c'.blocks, k ∈ c.blocks ∨ w.heap.size ≤ k
theorem Chg.trans {w w1 w2 : World} {base : Nat} {c c1 c2 : Cn} (h : Chg w w1 base c c1) (h2 : Chg w1 w2 base c1 c2) : Chg w w2 base c c2 :=
  ⟨h2.con, h2.k.trans h.k, h.turn.trans h2.turn h.sub, h2.nod, fun k hk => (h2.sub k hk).elim (h.sub k) (fun h' => .inr (Nat.le_trans h.turn.size h'))⟩
theorem nodup_swap {A B C C' : List Nat} {H : Nat} (h : (A ++ (C ++ B)).Nodup) (hlt : ∀ k ∈ A ++ (C ++ B), k < H) (hn : C'.Nodup) (hs : ∀ k ∈ C', k ∈ C ∨ H ≤ k) : (A ++ (C' ++ B)).Nodup := by
  simp only [List.nodup_append, List.mem_append] at h hlt ⊢
  obtain ⟨hA, ⟨hC, hB, hCB⟩, hACB⟩ := h
  refine ⟨hA, ⟨hn, hB, ?_⟩, ?_⟩
  · intro a ha b hb e
    rcases hs a ha with h | h
    · exact hCB a h b hb e
    · have := hlt b (.inr (.inr hb)); omega
  · intro a ha b hb e
    rcases hb with hb | hb
    · rcases hs b hb with h | h
      · exact hACB a ha b (.inl h) e
      · have := hlt a (.inl ha); omega
    · exact hACB a ha b (.inr hb) e
theorem Net.lt {w : World} {base b : Nat} {row mv : Value} {cs : List Cn} (h : Net w base b row mv cs) : ∀ k ∈ blocks b row cs, base ≤ k ∧ k < w.heap.size := by
  intro k hk
  simp only [blocks, List.mem_cons, List.mem_append, List.mem_flatMap, Option.mem_toList, Option.mem_def] at hk
  rcases hk with rfl | hk | ⟨c, hc, hk⟩
  · exact ⟨h.low, lt_of_block h.net⟩
  · rcases h.rw.2 with ⟨e, _⟩ | ⟨g, cap, cur, rfl, hb, hg, _⟩
    · rw [e] at hk; cases hk
    · cases hk; exact ⟨hb, lt_of_block hg⟩
  · exact (h.con c hc).lt k hk
theorem blocks_split (b : Nat) (row : Value) (l1 l2 : List Cn) (c : Cn) : blocks b row (l1 ++ c :: l2) = (b :: (row.ownBlock.toList ++ l1.flatMap Cn.blocks)) ++ (c.blocks ++ l2.flatMap Cn.blocks) := by
  simp [blocks, List.flatMap_append]
theorem set_split {cs : List Cn} {i : Nat} {c : Cn} (hc : cs[i]? = some c) : ∃ l1 l2, cs = l1 ++ c :: l2 ∧ l1.length = i ∧ ∀ c', cs.set i c' = l1 ++ c' :: l2 := by
  obtain ⟨hi, he⟩ := List.getElem?_eq_some_iff.1 hc
  refine ⟨cs.take i, cs.drop (i + 1), ?_, by simp; omega, fun c' => List.set_eq_take_append_cons_drop ▸ (by simp [hi])⟩
  rw [← he]
  simp
theorem Net.change {w w' : World} {base b : Nat} {row mv : Value} {cs : List Cn} {i : Nat} {c c' : Cn} (h : Net w base b row mv cs) (hc : cs[i]? = some c) (g : Chg w w' base c c') :
    Net w' base b row mv (cs.set i c') ∧ Turn w w' (blocks b row cs) ∧ (∀ k ∈ blocks b row (cs.set i c'), k ∈ blocks b row cs ∨ w.heap.size ≤ k) := by
  obtain ⟨l1, l2, rfl, hl, hset⟩ := set_split hc
  rw [hset]
  have hlt := h.lt
  have hnod := h.nod
  rw [blocks_split] at hlt hnod
  have hT : Turn w w' (blocks b row (l1 ++ c :: l2)) := g.turn.mono (fun k hk => .inl (by rw [blocks_split]; simp [hk]))
  have hdis := hnod
  rw [List.nodup_append] at hdis
  obtain ⟨h1, h2, h3⟩ := hdis
  rw [List.nodup_append] at h2
  obtain ⟨h4, h5, h6⟩ := h2
  have keepL : ∀ k, k ∈ (b :: (row.ownBlock.toList ++ l1.flatMap Cn.blocks)) → w'.heap[k]? = w.heap[k]? := fun k hk =>
    g.turn.block k (hlt k (by simp only [List.mem_append]; exact .inl hk)).2 (fun hm => h3 k hk k (by simp [hm]) rfl)
  have keepR : ∀ k, k ∈ l2.flatMap Cn.blocks → w'.heap[k]? = w.heap[k]? := fun k hk =>
    g.turn.block k (hlt k (by simp only [List.mem_append]; exact .inr (.inr hk))).2 (fun hm => h6 k hm k hk rfl)
  refine ⟨⟨(keepL b (by simp)).trans h.net, h.low, ?_, ?_, ?_, by simpa using h.few⟩, hT, ?_⟩
  · have := own_block h.rw (w' := w') (fun k hk => keepL k (by simp [hk]))
    simpa [g.k] using this
  · intro d hd
    simp only [List.mem_append, List.mem_cons] at hd
    rcases hd with hd | rfl | hd
    · exact (h.con d (by simp [hd])).keep fun k hk => keepL k (by
        simp only [List.mem_cons, List.mem_append, List.mem_flatMap]; exact .inr (.inr ⟨d, hd, hk⟩))
    · exact g.con
    · exact (h.con d (by simp [hd])).keep fun k hk => keepR k (List.mem_flatMap.2 ⟨d, hd, hk⟩)
  · rw [blocks_split]
    exact nodup_swap hnod (fun k hk => (hlt k hk).2) g.nod g.sub
  · intro k hk
    rw [blocks_split] at hk ⊢
    simp only [List.mem_append] at hk ⊢
    rcases hk with hk | hk | hk
    · exact .inl (.inl hk)
    · rcases g.sub k hk with h | h
      · exact .inl (.inr (.inl h))
      · exact .inr h
    · exact .inl (.inr (.inr hk))
end Go.Proofs.Ytcbnmoppnoiggaa
