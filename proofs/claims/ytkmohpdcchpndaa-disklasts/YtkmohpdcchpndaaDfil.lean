/-
  The directory in memory; what of it is turned.
-/
import Derived.Test.YtkmohpdcchpndaaDir2
import Derived.Test.YtkmohpdcchpndaaFchg
namespace Go.Proofs.Ytkmohpdcchpndaa
open Go.RowKit
set_option linter.unusedVariables false
set_option linter.unusedSimpArgs false
theorem Try.info88 : (Try.prog.info? 88).map (fun i => (i.zero, i.size, i.bytes)) = some (some (.agg #[.nilFunc, .int .i64 0, .bool false]), 3, 24) := by kernel_rfl
structure Ld where
  d : Value
  c : Dc
  ro : List Nat
def Ld.cells (x : Ld) : List Value := [x.d, .int .i64 0, .bool false]
def rowOfD (l : List Ld) : List Value := l.flatMap Ld.cells
theorem rowOfD_app (l : List Ld) (x : Ld) : rowOfD (l ++ [x]) = rowOfD l ++ x.cells := by simp [rowOfD]
theorem rowOfD_get (l : List Ld) (i : Nat) (x : Ld) (h : l[i]? = some x) : (rowOfD l)[i * 3]? = some x.d ∧ (rowOfD l)[i * 3 + 1]? = some (.int .i64 0) ∧ (rowOfD l)[i * 3 + 2]? = some (.bool false) := by
  induction l generalizing i with
  | nil => simp at h
  | cons y r ih =>
    have e : rowOfD (y :: r) = y.d :: .int .i64 0 :: .bool false :: rowOfD r := rfl
    rw [e]
    cases i with
    | zero => simp at h; subst h; exact ⟨rfl, rfl, rfl⟩
    | succ i =>
      have := ih i (by simpa using h)
      rw [show (i + 1) * 3 = i * 3 + 3 by omega]
      simpa using this
/-- it can be done with that map -/
def Dc.ok (c : Dc) (od : Option (DataW Unit)) : Prop :=
  match c with
  | .nm _ _ => True
  | _ => od ≠ none
def Rd (b : Option (DataW Unit)) : List Ld → Option (DataW Unit) → Prop
  | [], n => n = b
  | x :: r, n => x.c.ok b ∧ Rd (x.c.do b) r n
theorem Rd.app {b : Option (DataW Unit)} {l : List Ld} {n : Option (DataW Unit)} (h : Rd b l n) (x : Ld) (hx : x.c.ok n) : Rd b (l ++ [x]) (x.c.do n) := by
  induction l generalizing b with
  | nil => cases h; exact ⟨hx, rfl⟩
  | cons y r ih => exact ⟨h.1, ih h.2⟩
theorem Rd.at {b : Option (DataW Unit)} {l : List Ld} {n : Option (DataW Unit)} (h : Rd b l n) : ∀ i, i ≤ l.length → ∃ z, Rd b (l.take i) z ∧ Rd z (l.drop i) n := by
  induction l generalizing b with
  | nil => intro i hi; exact ⟨b, by simp [Rd], by simpa using h⟩
  | cons y r ih =>
    intro i hi
    cases i with
    | zero => exact ⟨b, by simp [Rd], h⟩
    | succ i =>
      obtain ⟨z, h1, h2⟩ := ih h.2 i (by simpa using hi)
      exact ⟨z, ⟨h.1, h1⟩, by simpa using h2⟩
theorem Rd.det {b : Option (DataW Unit)} {l : List Ld} {n m : Option (DataW Unit)} (h : Rd b l n) (g : Rd b l m) : n = m := by
  induction l generalizing b with
  | nil => rw [h, g]
  | cons y r ih => exact ih h.2 g.2
structure Dr where
  c0 : Value
  c1 : Value
  c2 : Value
  lv : Value
  lo : Value
  nv : Value
  c6 : Value
  c7 : Value
  last : Option (DataW Unit)
  bl : Nat
  ls : List Ld
  now : Option (DataW Unit)
  bn : Nat
def Dr.cells (f : Dr) : Array Value := #[f.c0, f.c1, f.c2, f.lv, f.lo, f.nv, f.c6, f.c7]
def Dr.mut (b : Nat) (f : Dr) : List Nat := b :: ((mblk f.lv).toList ++ ((mblk f.nv).toList ++ f.lo.ownBlock.toList))
structure Dir (w : World) (base b : Nat) (f : Dr) : Prop where
  blk : w.heap[b]? = some (.cells #[f.c0, f.c1, f.c2, f.lv, f.lo, f.nv, f.c6, f.c7] 69 (0, 0))
  low : base ≤ b
  last : Dm w base f.lv f.last f.bl
  now : Dm w base f.nv f.now f.bn
  row : w.ownsRow base 88 3 f.lo f.ls.length (rowOfD f.ls)
  chg : ∀ c ∈ f.ls, Dv w base c.c c.d c.ro
  nod : (f.mut b).Nodup
  ap : ∀ c ∈ f.ls, ∀ k ∈ c.ro, k ∉ f.mut b
theorem Dir.lt {w : World} {base b : Nat} {f : Dr} (h : Dir w base b f) : ∀ k ∈ f.mut b, base ≤ k ∧ k < w.heap.size := by
  intro k hk
  simp only [Dr.mut, List.mem_cons, List.mem_append, Option.mem_toList, Option.mem_def] at hk
  rcases hk with rfl | hk | hk | hk
  · exact ⟨h.low, lt_of_block h.blk⟩
  · exact h.last.low hk
  · exact h.now.low hk
  · exact h.row.lt k hk
theorem Dir.keep {w w' : World} {base b : Nat} {f : Dr} (h : Dir w base b f) (hk : ∀ k ∈ f.mut b, w'.heap[k]? = w.heap[k]?) (hr : ∀ c ∈ f.ls, ∀ k ∈ c.ro, w'.heap[k]? = w.heap[k]?) : Dir w' base b f := by
  have m := fun k (e : k ∈ f.mut b) => hk k e
  simp only [Dr.mut, List.mem_cons, List.mem_append, Option.mem_toList, Option.mem_def] at m
  exact ⟨(m b (.inl rfl)).trans h.blk, h.low, h.last.keep fun k e => m k (.inr (.inl e)), h.now.keep fun k e => m k (.inr (.inr (.inl e))), own_keep h.row fun k e => m k (.inr (.inr (.inr e))), fun c hc => (h.chg c hc).keep (hr c hc), h.nod, h.ap⟩
theorem mem_dmut {b k : Nat} {f : Dr} : k ∈ f.mut b ↔ k = b ∨ mblk f.lv = some k ∨ mblk f.nv = some k ∨ f.lo.ownBlock = some k := by simp [Dr.mut]
/-- what a file has is turned: the same blocks or new ones -/
structure Dt (w w' : World) (base b : Nat) (f f' : Dr) : Prop where
  fil : Dir w' base b f'
  turn : Turn w w' (f.mut b)
  sub : ∀ k ∈ f'.mut b, k ∈ f.mut b ∨ w.heap.size ≤ k
theorem Dt.refl {w : World} {base b : Nat} {f : Dr} (h : Dir w base b f) : Dt w w base b f f := ⟨h, Turn.refl _ _, fun _ h => .inl h⟩
theorem Dt.trans {w w1 w2 : World} {base b : Nat} {f f1 f2 : Dr} (h : Dt w w1 base b f f1) (g : Dt w1 w2 base b f1 f2) : Dt w w2 base b f f2 :=
  ⟨g.fil, h.turn.trans g.turn h.sub, fun k hk => (g.sub k hk).elim (h.sub k) (fun h' => .inr (Nat.le_trans h.turn.size h'))⟩
/-- the bytes of the file as they are now, turned -/
theorem dnow_turn {w w1 : World} {base b : Nat} {f : Dr} {v : Value} {z : Option (DataW Unit)} {bz : Nat} (h : Dir w base b f) (hB : Dm w1 base v z bz) (hg : w.grownBy w1 (mblk f.nv)) (hat : mblk v = mblk f.nv ∨ ∀ g, mblk v = some g → w.heap.size ≤ g) : Dt w (w1.setCell ⟨b, 5, none⟩ v) base b f { f with nv := v, now := z, bn := bz } := by
  obtain ⟨n1, n2, n3, n4, n5, n6⟩ := (nod3 b (mblk f.lv) (mblk f.nv) f.lo.ownBlock).1 h.nod
  have lt := h.lt
  have far : ∀ k, k < w.heap.size → mblk f.nv ≠ some k → w1.heap[k]? = w.heap[k]? := fun k hk hn => hg.block k hk (fun e => hn e.symm)
  have lb := lt_of_block h.blk
  have hb1 : w1.heap[b]? = some (.cells #[f.c0, f.c1, f.c2, f.lv, f.lo, f.nv, f.c6, f.c7] 69 (0, 0)) := (far b lb n2).trans h.blk
  have hvb : ∀ k, mblk v = some k → k ≠ b := fun k hk e => by
    subst e
    obtain ⟨es, ck, hc⟩ := hB.make hk
    rw [hb1] at hc; cases hc
  have new : ∀ k, mblk v = some k → mblk f.nv = some k ∨ w.heap.size ≤ k := fun k hk => hat.elim (fun e => .inl (e ▸ hk)) (fun h' => .inr (h' k hk))
  have oth : ∀ k, k < w.heap.size → mblk f.nv ≠ some k → k ≠ b → (w1.setCell ⟨b, 5, none⟩ v).heap[k]? = w.heap[k]? := fun k hk hn hkb => by
    rw [Below.heap_setCell _ _ _ _ (by simpa using hkb)]; exact far k hk hn
  have sub : ∀ k ∈ ({ f with nv := v, now := z, bn := bz } : Dr).mut b, k ∈ f.mut b ∨ w.heap.size ≤ k := fun k hk => by
    rw [mem_dmut] at hk
    rw [mem_dmut]
    rcases hk with h' | h' | h' | h'
    · exact .inl (.inl h')
    · exact .inl (.inr (.inl h'))
    · exact (new k h').imp (fun e => .inr (.inr (.inl e))) id
    · exact .inl (.inr (.inr (.inr h')))
  refine ⟨⟨?_, h.low, ?_, ?_, ?_, fun c hc => (h.chg c hc).keep fun k hk => ?_, ?_, fun c hc k hk hm => ?_⟩, ?_, sub⟩
  · rw [block_setCell hb1]; rfl
  · exact h.last.keep fun k hk => oth k (h.last.low hk).2 (fun e => n4 k hk e) (fun e => n1 (e ▸ hk))
  · exact hB.keep fun k hk => Below.heap_setCell _ _ _ _ (by simpa using hvb k hk)
  · exact own_keep h.row fun k hk => oth k (h.row.lt k hk).2 (fun e => n6 k e hk) (fun e => n3 (e ▸ hk))
  · have hkm := h.ap c hc k hk
    rw [mem_dmut] at hkm
    exact oth k ((h.chg c hc).lt k hk).2 (fun e => hkm (.inr (.inr (.inl e)))) (fun e => hkm (.inl e))
  · refine (nod3 b (mblk f.lv) (mblk v) f.lo.ownBlock).2 ⟨n1, fun e => hvb b e rfl, n3, fun k h1 h2 => ?_, n5, fun k h1 h2 => ?_⟩
    · rcases new k h2 with h' | h'
      · exact n4 k h1 h'
      · have := (h.last.low h1).2; omega
    · rcases new k h1 with h' | h'
      · exact n6 k h' h2
      · have := (h.row.lt k h2).2; omega
  · rcases sub k hm with h' | h'
    · exact h.ap c hc k hk h'
    · have := ((h.chg c hc).lt k hk).2; omega
  · refine ⟨hg.os, hg.tape, hg.output, by simpa using hg.size, fun k hk hn => ?_⟩
    rw [mem_dmut] at hn
    exact oth k hk (fun e => hn (.inr (.inr (.inl e)))) (fun e => hn (.inl e))
/-- what lasts, turned -/
theorem dlast_turn {w w1 : World} {base b : Nat} {f : Dr} {v : Value} {z : Option (DataW Unit)} {bz : Nat} (h : Dir w base b f) (hB : Dm w1 base v z bz) (hg : w.grownBy w1 (mblk f.lv)) (hat : mblk v = mblk f.lv ∨ ∀ g, mblk v = some g → w.heap.size ≤ g) : Dt w (w1.setCell ⟨b, 3, none⟩ v) base b f { f with lv := v, last := z, bl := bz } := by
  obtain ⟨n1, n2, n3, n4, n5, n6⟩ := (nod3 b (mblk f.lv) (mblk f.nv) f.lo.ownBlock).1 h.nod
  have lb := lt_of_block h.blk
  have far : ∀ k, k < w.heap.size → mblk f.lv ≠ some k → w1.heap[k]? = w.heap[k]? := fun k hk hn => hg.block k hk (fun e => hn e.symm)
  have hb1 : w1.heap[b]? = some (.cells #[f.c0, f.c1, f.c2, f.lv, f.lo, f.nv, f.c6, f.c7] 69 (0, 0)) := (far b lb n1).trans h.blk
  have hvb : ∀ k, mblk v = some k → k ≠ b := fun k hk e => by
    subst e
    obtain ⟨es, ck, hc⟩ := hB.make hk
    rw [hb1] at hc; cases hc
  have new : ∀ k, mblk v = some k → mblk f.lv = some k ∨ w.heap.size ≤ k := fun k hk => hat.elim (fun e => .inl (e ▸ hk)) (fun h' => .inr (h' k hk))
  have oth : ∀ k, k < w.heap.size → mblk f.lv ≠ some k → k ≠ b → (w1.setCell ⟨b, 3, none⟩ v).heap[k]? = w.heap[k]? := fun k hk hn hkb => by
    rw [Below.heap_setCell _ _ _ _ (by simpa using hkb)]; exact far k hk hn
  have sub : ∀ k ∈ ({ f with lv := v, last := z, bl := bz } : Dr).mut b, k ∈ f.mut b ∨ w.heap.size ≤ k := fun k hk => by
    rw [mem_dmut] at hk
    rw [mem_dmut]
    rcases hk with h' | h' | h' | h'
    · exact .inl (.inl h')
    · exact (new k h').imp (fun e => .inr (.inl e)) id
    · exact .inl (.inr (.inr (.inl h')))
    · exact .inl (.inr (.inr (.inr h')))
  refine ⟨⟨?_, h.low, ?_, ?_, ?_, fun c hc => (h.chg c hc).keep fun k hk => ?_, ?_, fun c hc k hk hm => ?_⟩, ?_, sub⟩
  · rw [block_setCell hb1]; rfl
  · exact hB.keep fun k hk => Below.heap_setCell _ _ _ _ (by simpa using hvb k hk)
  · exact h.now.keep fun k hk => oth k (h.now.low hk).2 (fun e => n4 k e hk) (fun e => n2 (e ▸ hk))
  · exact own_keep h.row fun k hk => oth k (h.row.lt k hk).2 (fun e => n5 k e hk) (fun e => n3 (e ▸ hk))
  · have hkm := h.ap c hc k hk
    rw [mem_dmut] at hkm
    exact oth k ((h.chg c hc).lt k hk).2 (fun e => hkm (.inr (.inl e))) (fun e => hkm (.inl e))
  · refine (nod3 b (mblk v) (mblk f.nv) f.lo.ownBlock).2 ⟨fun e => hvb b e rfl, n2, n3, fun k h1 h2 => ?_, fun k h1 h2 => ?_, n6⟩
    · rcases new k h1 with h' | h'
      · exact n4 k h' h2
      · have := (h.now.low h2).2; omega
    · rcases new k h1 with h' | h'
      · exact n5 k h' h2
      · have := (h.row.lt k h2).2; omega
  · rcases sub k hm with h' | h'
    · exact h.ap c hc k hk h'
    · have := ((h.chg c hc).lt k hk).2; omega
  · refine ⟨hg.os, hg.tape, hg.output, by simpa using hg.size, fun k hk hn => ?_⟩
    rw [mem_dmut] at hn
    exact oth k hk (fun e => hn (.inr (.inl e))) (fun e => hn (.inl e))
/-- the loose changes, turned -/
theorem dloose_turn {w w1 : World} {base b : Nat} {f : Dr} {v : Value} {ls : List Ld} (h : Dir w base b f) (hR : w1.ownsRow base 88 3 v ls.length (rowOfD ls)) (hg : w.grownBy w1 f.lo.ownBlock) (hat : v.ownBlock = f.lo.ownBlock ∨ ∀ g, v.ownBlock = some g → w.heap.size ≤ g)
    (hls : ∀ c ∈ ls, Dv w base c.c c.d c.ro ∧ ∀ k ∈ c.ro, k ∉ f.mut b) : Dt w (w1.setCell ⟨b, 4, none⟩ v) base b f { f with lo := v, ls := ls } := by
  obtain ⟨n1, n2, n3, n4, n5, n6⟩ := (nod3 b (mblk f.lv) (mblk f.nv) f.lo.ownBlock).1 h.nod
  have lb := lt_of_block h.blk
  have far : ∀ k, k < w.heap.size → f.lo.ownBlock ≠ some k → w1.heap[k]? = w.heap[k]? := fun k hk hn => hg.block k hk (fun e => hn e.symm)
  have hb1 : w1.heap[b]? = some (.cells #[f.c0, f.c1, f.c2, f.lv, f.lo, f.nv, f.c6, f.c7] 69 (0, 0)) := (far b lb n3).trans h.blk
  have hvb : ∀ k, v.ownBlock = some k → k ≠ b := fun k hk e => by
    subst e
    rcases hR.2 with ⟨e, _⟩ | ⟨g, cap, cur, e, _, hc, _⟩
    · rw [e] at hk; cases hk
    · rw [e] at hk; cases hk
      rw [hb1] at hc; cases hc
  have new : ∀ k, v.ownBlock = some k → f.lo.ownBlock = some k ∨ w.heap.size ≤ k := fun k hk => hat.elim (fun e => .inl (e ▸ hk)) (fun h' => .inr (h' k hk))
  have oth : ∀ k, k < w.heap.size → f.lo.ownBlock ≠ some k → k ≠ b → (w1.setCell ⟨b, 4, none⟩ v).heap[k]? = w.heap[k]? := fun k hk hn hkb => by
    rw [Below.heap_setCell _ _ _ _ (by simpa using hkb)]; exact far k hk hn
  have sub : ∀ k ∈ ({ f with lo := v, ls := ls } : Dr).mut b, k ∈ f.mut b ∨ w.heap.size ≤ k := fun k hk => by
    rw [mem_dmut] at hk
    rw [mem_dmut]
    rcases hk with h' | h' | h' | h'
    · exact .inl (.inl h')
    · exact .inl (.inr (.inl h'))
    · exact .inl (.inr (.inr (.inl h')))
    · exact (new k h').imp (fun e => .inr (.inr (.inr e))) id
  refine ⟨⟨?_, h.low, ?_, ?_, ?_, fun c hc => (hls c hc).1.keep fun k hk => ?_, ?_, fun c hc k hk hm => ?_⟩, ?_, sub⟩
  · rw [block_setCell hb1]; rfl
  · exact h.last.keep fun k hk => oth k (h.last.low hk).2 (fun e => n5 k hk e) (fun e => n1 (e ▸ hk))
  · exact h.now.keep fun k hk => oth k (h.now.low hk).2 (fun e => n6 k hk e) (fun e => n2 (e ▸ hk))
  · exact own_keep hR fun k hk => Below.heap_setCell _ _ _ _ (by simpa using hvb k hk)
  · have hkm := (hls c hc).2 k hk
    rw [mem_dmut] at hkm
    exact oth k ((hls c hc).1.lt k hk).2 (fun e => hkm (.inr (.inr (.inr e)))) (fun e => hkm (.inl e))
  · refine (nod3 b (mblk f.lv) (mblk f.nv) v.ownBlock).2 ⟨n1, n2, fun e => hvb b e rfl, n4, fun k h1 h2 => ?_, fun k h1 h2 => ?_⟩
    · rcases new k h2 with h' | h'
      · exact n5 k h1 h'
      · have := (h.last.low h1).2; omega
    · rcases new k h2 with h' | h'
      · exact n6 k h1 h'
      · have := (h.now.low h1).2; omega
  · rcases sub k hm with h' | h'
    · exact (hls c hc).2 k hk h'
    · have := ((hls c hc).1.lt k hk).2; omega
  · refine ⟨hg.os, hg.tape, hg.output, by simpa using hg.size, fun k hk hn => ?_⟩
    rw [mem_dmut] at hn
    exact oth k hk (fun e => hn (.inr (.inr (.inr e)))) (fun e => hn (.inl e))
end Go.Proofs.Ytkmohpdcchpndaa
