/-
  A file in memory; a change of it.
-/
import Derived.Test.YtkmohpdcchpndaaMake
namespace Go.Proofs.Ytkmohpdcchpndaa
open Go.RowKit
set_option linter.unusedVariables false
set_option linter.unusedSimpArgs false
theorem Try.info94 : (Try.prog.info? 94).map (fun i => (i.zero, i.size, i.bytes)) = some (some (.agg #[.nilFunc, .int .i64 0, .bool false]), 3, 24) := by kernel_rfl
structure Lc where
  d : Value
  c : Fc
  ro : List Nat
def Lc.cells (x : Lc) : List Value := [x.d, .int .i64 x.c.size, .bool x.c.tears]
def rowOf (l : List Lc) : List Value := l.flatMap Lc.cells
theorem rowOf_length (l : List Lc) : (rowOf l).length = l.length * 3 := by
  induction l with
  | nil => rfl
  | cons x r ih => simp only [rowOf, List.flatMap_cons, List.length_append, List.length_cons] at ih ⊢; rw [ih]; simp [Lc.cells]; omega
theorem rowOf_app (l : List Lc) (x : Lc) : rowOf (l ++ [x]) = rowOf l ++ x.cells := by simp [rowOf]
/-- the changes, done one behind the other -/
def Rp (b : List Int) : List Lc → List Int → Prop
  | [], n => n = b ∧ b.length ≤ 1099511627776
  | x :: r, n => (x.c.ok b ∧ b.length ≤ 1099511627776 ∧ x.c.size ≤ 1099511627776) ∧ Rp (x.c.do b x.c.size) r n
theorem Rp.app {b : List Int} {l : List Lc} {n : List Int} (h : Rp b l n) (x : Lc) (hx : x.c.ok n) (h1 : x.c.size ≤ 1099511627776) (h2 : (x.c.do n x.c.size).length ≤ 1099511627776) : Rp b (l ++ [x]) (x.c.do n x.c.size) := by
  induction l generalizing b with
  | nil => obtain ⟨rfl, h0⟩ := h; exact ⟨⟨hx, h0, h1⟩, rfl, h2⟩
  | cons y r ih => exact ⟨h.1, ih h.2⟩
theorem Rp.small {b : List Int} {l : List Lc} {n : List Int} (h : Rp b l n) : b.length ≤ 1099511627776 := by
  cases l with
  | nil => exact h.2
  | cons y r => exact h.1.2.1
/-- one after the other: where i of them are done -/
theorem Rp.at {b : List Int} {l : List Lc} {n : List Int} (h : Rp b l n) : ∀ i, i ≤ l.length → ∃ z, Rp b (l.take i) z ∧ Rp z (l.drop i) n := by
  induction l generalizing b with
  | nil => intro i hi; exact ⟨b, by simpa [Rp] using h.2, by simpa using h⟩
  | cons y r ih =>
    intro i hi
    cases i with
    | zero => exact ⟨b, by simpa [Rp] using h.1.2.1, h⟩
    | succ i =>
      obtain ⟨z, h1, h2⟩ := ih h.2 i (by simpa using hi)
      exact ⟨z, ⟨h.1, h1⟩, by simpa using h2⟩
theorem Rp.det {b : List Int} {l : List Lc} {n m : List Int} (h : Rp b l n) (g : Rp b l m) : n = m := by
  induction l generalizing b with
  | nil => rw [h.1, g.1]
  | cons y r ih => exact ih h.2 g.2
theorem rowOf_get (l : List Lc) (i : Nat) (x : Lc) (h : l[i]? = some x) : (rowOf l)[i * 3]? = some x.d ∧ (rowOf l)[i * 3 + 1]? = some (.int .i64 x.c.size) ∧ (rowOf l)[i * 3 + 2]? = some (.bool x.c.tears) := by
  induction l generalizing i with
  | nil => simp at h
  | cons y r ih =>
    have e : rowOf (y :: r) = y.d :: .int .i64 y.c.size :: .bool y.c.tears :: rowOf r := rfl
    rw [e]
    cases i with
    | zero => simp at h; subst h; exact ⟨rfl, rfl, rfl⟩
    | succ i =>
      have := ih i (by simpa using h)
      rw [show (i + 1) * 3 = i * 3 + 3 by omega]
      simpa using this
structure Fs where
  lv : Value
  lo : Value
  nv : Value
  last : List Int
  ls : List Lc
  now : List Int
def Fs.mut (b : Nat) (f : Fs) : List Nat := b :: (f.lv.ownBlock.toList ++ (f.nv.ownBlock.toList ++ f.lo.ownBlock.toList))
structure Fil (w : World) (base b : Nat) (f : Fs) : Prop where
  blk : w.heap[b]? = some (.cells #[f.lv, f.lo, f.nv] 75 (0, 0))
  low : base ≤ b
  last : Buf w base f.lv f.last
  now : Buf w base f.nv f.now
  row : w.ownsRow base 94 3 f.lo f.ls.length (rowOf f.ls)
  chg : ∀ c ∈ f.ls, Fv w base c.c c.d c.ro
  nod : (f.mut b).Nodup
  ap : ∀ c ∈ f.ls, ∀ k ∈ c.ro, k ∉ f.mut b
theorem Fil.lt {w : World} {base b : Nat} {f : Fs} (h : Fil w base b f) : ∀ k ∈ f.mut b, base ≤ k ∧ k < w.heap.size := by
  intro k hk
  simp only [Fs.mut, List.mem_cons, List.mem_append, Option.mem_toList, Option.mem_def] at hk
  rcases hk with rfl | hk | hk | hk
  · exact ⟨h.low, lt_of_block h.blk⟩
  · exact h.last.low hk
  · exact h.now.low hk
  · exact h.row.lt k hk
theorem own_keep {w w' : World} {base : Nat} {e : TypeId} {size : Nat} {v : Value} {n : Nat} {xs : List Value} (h : w.ownsRow base e size v n xs) (hb : ∀ k, v.ownBlock = some k → w'.heap[k]? = w.heap[k]?) : w'.ownsRow base e size v n xs := by
  refine ⟨h.1, ?_⟩
  rcases h.2 with h0 | ⟨g, cap, cur, rfl, hbg, hgg, rest⟩
  · exact .inl h0
  · exact .inr ⟨g, cap, cur, rfl, hbg, (hb g rfl).trans hgg, rest⟩
theorem Fil.keep {w w' : World} {base b : Nat} {f : Fs} (h : Fil w base b f) (hk : ∀ k ∈ f.mut b, w'.heap[k]? = w.heap[k]?) (hr : ∀ c ∈ f.ls, ∀ k ∈ c.ro, w'.heap[k]? = w.heap[k]?) : Fil w' base b f := by
  have m := fun k (e : k ∈ f.mut b) => hk k e
  simp only [Fs.mut, List.mem_cons, List.mem_append, Option.mem_toList, Option.mem_def] at m
  exact ⟨(m b (.inl rfl)).trans h.blk, h.low, h.last.keep fun k e => m k (.inr (.inl e)), h.now.keep fun k e => m k (.inr (.inr (.inl e))), own_keep h.row fun k e => m k (.inr (.inr (.inr e))), fun c hc => (h.chg c hc).keep (hr c hc), h.nod, h.ap⟩
def ne2 (x y : Option Nat) : Prop := ∀ k, x = some k → y = some k → False
theorem nod3 (b : Nat) (x y z : Option Nat) : (b :: (x.toList ++ (y.toList ++ z.toList))).Nodup ↔ (x ≠ some b ∧ y ≠ some b ∧ z ≠ some b ∧ ne2 x y ∧ ne2 x z ∧ ne2 y z) := by
  cases x <;> cases y <;> cases z <;> simp [ne2] <;> omega
theorem mem_mut {b k : Nat} {f : Fs} : k ∈ f.mut b ↔ k = b ∨ f.lv.ownBlock = some k ∨ f.nv.ownBlock = some k ∨ f.lo.ownBlock = some k := by simp [Fs.mut]
/-- what a file has is turned: the same blocks or new ones -/
structure Ft (w w' : World) (base b : Nat) (f f' : Fs) : Prop where
  fil : Fil w' base b f'
  turn : Turn w w' (f.mut b)
  sub : ∀ k ∈ f'.mut b, k ∈ f.mut b ∨ w.heap.size ≤ k
theorem Ft.refl {w : World} {base b : Nat} {f : Fs} (h : Fil w base b f) : Ft w w base b f f := ⟨h, Turn.refl _ _, fun _ h => .inl h⟩
theorem Ft.trans {w w1 w2 : World} {base b : Nat} {f f1 f2 : Fs} (h : Ft w w1 base b f f1) (g : Ft w1 w2 base b f1 f2) : Ft w w2 base b f f2 :=
  ⟨g.fil, h.turn.trans g.turn h.sub, fun k hk => (g.sub k hk).elim (h.sub k) (fun h' => .inr (Nat.le_trans h.turn.size h'))⟩
/-- the bytes of the file as they are now, turned -/
theorem now_turn {w w1 : World} {base b : Nat} {f : Fs} {v : Value} {z : List Int} (h : Fil w base b f) (hB : Buf w1 base v z) (hg : w.grownBy w1 f.nv.ownBlock) (hat : v.ownBlock = f.nv.ownBlock ∨ ∀ g, v.ownBlock = some g → w.heap.size ≤ g) : Ft w (w1.setCell ⟨b, 2, none⟩ v) base b f { f with nv := v, now := z } := by
  obtain ⟨n1, n2, n3, n4, n5, n6⟩ := (nod3 b f.lv.ownBlock f.nv.ownBlock f.lo.ownBlock).1 h.nod
  have lt := h.lt
  have far : ∀ k, k < w.heap.size → f.nv.ownBlock ≠ some k → w1.heap[k]? = w.heap[k]? := fun k hk hn => hg.block k hk (fun e => hn e.symm)
  have lb := lt_of_block h.blk
  have hb1 : w1.heap[b]? = some (.cells #[f.lv, f.lo, f.nv] 75 (0, 0)) := (far b lb n2).trans h.blk
  have hvb : ∀ k, v.ownBlock = some k → k ≠ b := fun k hk e => by
    subst e
    obtain ⟨cur, hc⟩ := hB.typ hk
    rw [hb1] at hc; cases hc
  have new : ∀ k, v.ownBlock = some k → f.nv.ownBlock = some k ∨ w.heap.size ≤ k := fun k hk => hat.elim (fun e => .inl (e ▸ hk)) (fun h' => .inr (h' k hk))
  have oth : ∀ k, k < w.heap.size → f.nv.ownBlock ≠ some k → k ≠ b → (w1.setCell ⟨b, 2, none⟩ v).heap[k]? = w.heap[k]? := fun k hk hn hkb => by
    rw [Below.heap_setCell _ _ _ _ (by simpa using hkb)]; exact far k hk hn
  have sub : ∀ k ∈ ({ f with nv := v, now := z } : Fs).mut b, k ∈ f.mut b ∨ w.heap.size ≤ k := fun k hk => by
    rw [mem_mut] at hk
    rw [mem_mut]
    rcases hk with h' | h' | h' | h'
    · exact .inl (.inl h')
    · exact .inl (.inr (.inl h'))
    · exact (new k h').imp (fun e => .inr (.inr (.inl e))) id
    · exact .inl (.inr (.inr (.inr h')))
  refine ⟨⟨?_, h.low, ?_, ?_, ?_, fun c hc => (h.chg c hc).keep fun k hk => ?_, ?_, fun c hc k hk hm => ?_⟩, ?_, sub⟩
  · rw [block_setCell hb1]; rfl
  · exact h.last.keep fun k hk => oth k (h.last.low hk).2 (fun e => n4 k hk e) (fun e => n1 (e ▸ hk))
  · exact hB.keep fun k hk => Below.heap_setCell _ _ _ _ (by simpa using hvb k hk)
  · exact own_keep h.row fun k hk => oth k (h.row.lt k hk).2 (fun e => n6 k e hk) (fun e => n3 (e ▸ hk))
  · have hkm := h.ap c hc k hk
    rw [mem_mut] at hkm
    exact oth k ((h.chg c hc).lt k hk).2 (fun e => hkm (.inr (.inr (.inl e)))) (fun e => hkm (.inl e))
  · refine (nod3 b f.lv.ownBlock v.ownBlock f.lo.ownBlock).2 ⟨n1, fun e => hvb b e rfl, n3, fun k h1 h2 => ?_, n5, fun k h1 h2 => ?_⟩
    · rcases new k h2 with h' | h'
      · exact n4 k h1 h'
      · have := (h.last.low h1).2; omega
    · rcases new k h1 with h' | h'
      · exact n6 k h' h2
      · have := (h.row.lt k h2).2; omega
  · rcases sub k hm with h' | h'
    · exact h.ap c hc k hk h'
    · have := ((h.chg c hc).lt k hk).2; omega
  · refine ⟨hg.os, hg.tape, hg.output, by simpa using hg.size, fun k hk hn => ?_⟩
    rw [mem_mut] at hn
    exact oth k hk (fun e => hn (.inr (.inr (.inl e)))) (fun e => hn (.inl e))
/-- what lasts, turned -/
theorem last_turn {w w1 : World} {base b : Nat} {f : Fs} {v : Value} {z : List Int} (h : Fil w base b f) (hB : Buf w1 base v z) (hg : w.grownBy w1 f.lv.ownBlock) (hat : v.ownBlock = f.lv.ownBlock ∨ ∀ g, v.ownBlock = some g → w.heap.size ≤ g) : Ft w (w1.setCell ⟨b, 0, none⟩ v) base b f { f with lv := v, last := z } := by
  obtain ⟨n1, n2, n3, n4, n5, n6⟩ := (nod3 b f.lv.ownBlock f.nv.ownBlock f.lo.ownBlock).1 h.nod
  have lb := lt_of_block h.blk
  have far : ∀ k, k < w.heap.size → f.lv.ownBlock ≠ some k → w1.heap[k]? = w.heap[k]? := fun k hk hn => hg.block k hk (fun e => hn e.symm)
  have hb1 : w1.heap[b]? = some (.cells #[f.lv, f.lo, f.nv] 75 (0, 0)) := (far b lb n1).trans h.blk
  have hvb : ∀ k, v.ownBlock = some k → k ≠ b := fun k hk e => by
    subst e
    obtain ⟨cur, hc⟩ := hB.typ hk
    rw [hb1] at hc; cases hc
  have new : ∀ k, v.ownBlock = some k → f.lv.ownBlock = some k ∨ w.heap.size ≤ k := fun k hk => hat.elim (fun e => .inl (e ▸ hk)) (fun h' => .inr (h' k hk))
  have oth : ∀ k, k < w.heap.size → f.lv.ownBlock ≠ some k → k ≠ b → (w1.setCell ⟨b, 0, none⟩ v).heap[k]? = w.heap[k]? := fun k hk hn hkb => by
    rw [Below.heap_setCell _ _ _ _ (by simpa using hkb)]; exact far k hk hn
  have sub : ∀ k ∈ ({ f with lv := v, last := z } : Fs).mut b, k ∈ f.mut b ∨ w.heap.size ≤ k := fun k hk => by
    rw [mem_mut] at hk
    rw [mem_mut]
    rcases hk with h' | h' | h' | h'
    · exact .inl (.inl h')
    · exact (new k h').imp (fun e => .inr (.inl e)) id
    · exact .inl (.inr (.inr (.inl h')))
    · exact .inl (.inr (.inr (.inr h')))
  refine ⟨⟨?_, h.low, ?_, ?_, ?_, fun c hc => (h.chg c hc).keep fun k hk => ?_, ?_, fun c hc k hk hm => ?_⟩, ?_, sub⟩
  · rw [block_setCell hb1]; rfl
  · exact hB.keep fun k hk => Below.heap_setCell _ _ _ _ (by simpa using hvb k hk)
  · exact h.now.keep fun k hk => oth k (h.now.low hk).2 (fun e => n4 k e hk) (fun e => n2 (e ▸ hk))
  · exact own_keep h.row fun k hk => oth k (h.row.lt k hk).2 (fun e => n5 k e hk) (fun e => n3 (e ▸ hk))
  · have hkm := h.ap c hc k hk
    rw [mem_mut] at hkm
    exact oth k ((h.chg c hc).lt k hk).2 (fun e => hkm (.inr (.inl e))) (fun e => hkm (.inl e))
  · refine (nod3 b v.ownBlock f.nv.ownBlock f.lo.ownBlock).2 ⟨fun e => hvb b e rfl, n2, n3, fun k h1 h2 => ?_, fun k h1 h2 => ?_, n6⟩
    · rcases new k h1 with h' | h'
      · exact n4 k h' h2
      · have := (h.now.low h2).2; omega
    · rcases new k h1 with h' | h'
      · exact n5 k h' h2
      · have := (h.row.lt k h2).2; omega
  · rcases sub k hm with h' | h'
    · exact h.ap c hc k hk h'
    · have := ((h.chg c hc).lt k hk).2; omega
  · refine ⟨hg.os, hg.tape, hg.output, by simpa using hg.size, fun k hk hn => ?_⟩
    rw [mem_mut] at hn
    exact oth k hk (fun e => hn (.inr (.inl e))) (fun e => hn (.inl e))
/-- the loose changes, turned -/
theorem loose_turn {w w1 : World} {base b : Nat} {f : Fs} {v : Value} {ls : List Lc} (h : Fil w base b f) (hR : w1.ownsRow base 94 3 v ls.length (rowOf ls)) (hg : w.grownBy w1 f.lo.ownBlock) (hat : v.ownBlock = f.lo.ownBlock ∨ ∀ g, v.ownBlock = some g → w.heap.size ≤ g)
    (hls : ∀ c ∈ ls, Fv w base c.c c.d c.ro ∧ ∀ k ∈ c.ro, k ∉ f.mut b) : Ft w (w1.setCell ⟨b, 1, none⟩ v) base b f { f with lo := v, ls := ls } := by
  obtain ⟨n1, n2, n3, n4, n5, n6⟩ := (nod3 b f.lv.ownBlock f.nv.ownBlock f.lo.ownBlock).1 h.nod
  have lb := lt_of_block h.blk
  have far : ∀ k, k < w.heap.size → f.lo.ownBlock ≠ some k → w1.heap[k]? = w.heap[k]? := fun k hk hn => hg.block k hk (fun e => hn e.symm)
  have hb1 : w1.heap[b]? = some (.cells #[f.lv, f.lo, f.nv] 75 (0, 0)) := (far b lb n3).trans h.blk
  have hvb : ∀ k, v.ownBlock = some k → k ≠ b := fun k hk e => by
    subst e
    rcases hR.2 with ⟨e, _⟩ | ⟨g, cap, cur, e, _, hc, _⟩
    · rw [e] at hk; cases hk
    · rw [e] at hk; cases hk
      rw [hb1] at hc; cases hc
  have new : ∀ k, v.ownBlock = some k → f.lo.ownBlock = some k ∨ w.heap.size ≤ k := fun k hk => hat.elim (fun e => .inl (e ▸ hk)) (fun h' => .inr (h' k hk))
  have oth : ∀ k, k < w.heap.size → f.lo.ownBlock ≠ some k → k ≠ b → (w1.setCell ⟨b, 1, none⟩ v).heap[k]? = w.heap[k]? := fun k hk hn hkb => by
    rw [Below.heap_setCell _ _ _ _ (by simpa using hkb)]; exact far k hk hn
  have sub : ∀ k ∈ ({ f with lo := v, ls := ls } : Fs).mut b, k ∈ f.mut b ∨ w.heap.size ≤ k := fun k hk => by
    rw [mem_mut] at hk
    rw [mem_mut]
    rcases hk with h' | h' | h' | h'
    · exact .inl (.inl h')
    · exact .inl (.inr (.inl h'))
    · exact .inl (.inr (.inr (.inl h')))
    · exact (new k h').imp (fun e => .inr (.inr (.inr e))) id
  refine ⟨⟨?_, h.low, ?_, ?_, ?_, fun c hc => (hls c hc).1.keep fun k hk => ?_, ?_, fun c hc k hk hm => ?_⟩, ?_, sub⟩
  · rw [block_setCell hb1]; rfl
  · exact h.last.keep fun k hk => oth k (h.last.low hk).2 (fun e => n5 k hk e) (fun e => n1 (e ▸ hk))
  · exact h.now.keep fun k hk => oth k (h.now.low hk).2 (fun e => n6 k hk e) (fun e => n2 (e ▸ hk))
  · exact own_keep hR fun k hk => Below.heap_setCell _ _ _ _ (by simpa using hvb k hk)
  · have hkm := (hls c hc).2 k hk
    rw [mem_mut] at hkm
    exact oth k ((hls c hc).1.lt k hk).2 (fun e => hkm (.inr (.inr (.inr e)))) (fun e => hkm (.inl e))
  · refine (nod3 b f.lv.ownBlock f.nv.ownBlock v.ownBlock).2 ⟨n1, n2, fun e => hvb b e rfl, n4, fun k h1 h2 => ?_, fun k h1 h2 => ?_⟩
    · rcases new k h2 with h' | h'
      · exact n5 k h1 h'
      · have := (h.last.low h1).2; omega
    · rcases new k h2 with h' | h'
      · exact n6 k h1 h'
      · have := (h.now.low h1).2; omega
  · rcases sub k hm with h' | h'
    · exact (hls c hc).2 k hk h'
    · have := ((hls c hc).1.lt k hk).2; omega
  · refine ⟨hg.os, hg.tape, hg.output, by simpa using hg.size, fun k hk hn => ?_⟩
    rw [mem_mut] at hn
    exact oth k hk (fun e => hn (.inr (.inr (.inr e)))) (fun e => hn (.inl e))
/-- a change's function, called -/
def DoCall (w : World) (base : Nat) (c : Fc) (d : Value) (ao : Option Addr) (cap : Nat) (b : List Int) (n : Nat) : Prop :=
  match c with
  | .wr _ _ => ∀ ab pb, d = .func (.func 66) #[] #[.pointer (some ⟨ab, 0, none⟩), .pointer (some ⟨pb, 0, none⟩)] → Calls Try.prog 66 #[.slice ao b.length cap, .int .i64 n, .pointer (some ⟨ab, 0, none⟩), .pointer (some ⟨pb, 0, none⟩)] w fun e w' => ∃ v', e = .returned v' ∧ Buf w' base v' (c.do b n) ∧ w.grownBy w' (Value.slice ao b.length cap).ownBlock ∧ (v'.ownBlock = (Value.slice ao b.length cap).ownBlock ∨ ∀ g, v'.ownBlock = some g → w.heap.size ≤ g)
  | .ct _ => ∀ ab, d = .func (.func 67) #[] #[.pointer (some ⟨ab, 0, none⟩)] → Calls Try.prog 67 #[.slice ao b.length cap, .int .i64 n, .pointer (some ⟨ab, 0, none⟩)] w fun e w' => ∃ v', e = .returned v' ∧ Buf w' base v' (c.do b n) ∧ w.grownBy w' (Value.slice ao b.length cap).ownBlock ∧ (v'.ownBlock = (Value.slice ao b.length cap).ownBlock ∨ ∀ g, v'.ownBlock = some g → w.heap.size ≤ g)
theorem do_any (w : World) (base : Nat) (c : Fc) (d : Value) (ro : List Nat) (ao : Option Addr) (cap : Nat) (b : List Int) (n : Nat) (hF : Fv w base c d ro) (hB : Buf w base (.slice ao b.length cap) b) (hok : c.ok b) (hn : n ≤ c.size) (hs : b.length + c.size ≤ 140737488355328) (hap : ∀ k, (Value.slice ao b.length cap).ownBlock = some k → k ∉ ro) (hbase : base ≤ w.heap.size) : DoCall w base c d ao cap b n := by
  cases c with
  | wr at_ p =>
    obtain ⟨ab, pb, ap, pc, rfl, h1, h2, h3, h4, h5, rfl⟩ := hF
    intro ab' pb' e
    cases e
    exact wr_do w base ao cap at_ n ab pb b p ap pc hB h3 hok hn hs h1 h2 (fun k hk he => hap k hk (by simp [he])) hbase
  | ct k =>
    obtain ⟨ab, rfl, h1, h2, rfl⟩ := hF
    intro ab' e
    cases e
    refine (cut_do w base ao cap k ab b n hB hok (by omega) (by simp [World.cell?, h1])).mono ?_
    rintro e w' ⟨rfl, rfl, hb⟩
    refine ⟨_, rfl, hb, World.grownBy.refl _ _, ?_⟩
    cases ao <;> exact .inl rfl
end Go.Proofs.Ytkmohpdcchpndaa
