/-
  Bytes put into a side.
-/
import Derived.Test.YtcbnmoppnoiggaaChg
namespace Go.Proofs.Ytcbnmoppnoiggaa
open Go.RowKit
set_option linter.unusedVariables false
set_option linter.unusedSimpArgs false
def Sd.putU (d : Sd) (v : Value) (zs : List Int) : Sd := { d with u := v, us := zs }
def Sd.putA (d : Sd) (v : Value) (zs : List Int) : Sd := { d with a := v, ar := zs }
theorem ne2_of {x y z : Option Nat} {H : Nat} (h : ne2 x y) (hx : z = x ∨ ∀ g, z = some g → H ≤ g) (hy : ∀ k, y = some k → k < H) : ne2 z y := by
  intro k h1 h2
  rcases hx with rfl | hx
  · exact h k h1 h2
  · have := hx k h1; have := hy k h2; omega
theorem ne2.symm {x y : Option Nat} (h : ne2 x y) : ne2 y x := fun k h1 h2 => h k h2 h1
theorem keep_of {w w1 : World} {base k o : Nat} {v v' : Value} {zs : List Int} {row : Option Nat} (hB : Buf w base v zs) (hg : w.grownBy w1 row) (hne : ne2 row v.ownBlock) (hk : v.ownBlock ≠ some k) : Buf (w1.setCell ⟨k, o, none⟩ v') base v zs :=
  hB.keep fun j hj => (Below.heap_setCell w1 _ v' j (fun e => hk (by rw [hj]; congr 1))).trans (hg.block j (hB.low hj).2 (fun e => hne j e.symm hj))
theorem new_of {w1 : World} {base k o : Nat} {v v' : Value} {zs : List Int} (hB : Buf w1 base v zs) (hk : v.ownBlock ≠ some k) : Buf (w1.setCell ⟨k, o, none⟩ v') base v zs :=
  hB.keep fun j hj => Below.heap_setCell w1 _ v' j (fun e => hk (by rw [hj]; congr 1))
theorem put_turn {w w1 : World} {k o : Nat} {v' : Value} {row : Option Nat} {own : List Nat} (hg : w.grownBy w1 row) (hr : ∀ g, row = some g → g ∈ own) (hk : k ∈ own) : Turn w (w1.setCell ⟨k, o, none⟩ v') own :=
  ((Turn.grown hg).mono (fun j hj => .inl (hr j (by simpa using hj)))).trans (Turn.setCell w1 k o v') (fun j hj => .inl (by simp at hj; rw [hj]; exact hk))
theorem chg_u {w w1 : World} {base : Nat} {c : Cn} (C : Con w base c) (hn : c.blocks.Nodup) (s : Bool) (v' : Value) (zs' : List Int) (hg : w.grownBy w1 (c.sd s).u.ownBlock) (hB : Buf w1 base v' zs')
    (hat : v'.ownBlock = (c.sd s).u.ownBlock ∨ ∀ g, v'.ownBlock = some g → w.heap.size ≤ g) : Chg w (w1.setCell ⟨c.k, sO s, none⟩ v') base c (c.set s ((c.sd s).putU v' zs')) := by
  obtain ⟨n1, n2, n3, n4, n5, n6⟩ := C.nod.1 hn
  have a := C.u0.ne C.blk (by decide); have b := C.a0.ne C.blk (by decide); have d := C.u1.ne C.blk (by decide); have e := C.a1.ne C.blk (by decide)
  have hlk := lt_of_block C.blk
  have f : v'.ownBlock ≠ some c.k := by
    intro h
    rcases hat with h' | h'
    · rw [h'] at h; cases s <;> contradiction
    · have := h' _ h; omega
  have l0 := fun k h => (C.u0.low (g := k) h).2
  have l1 := fun k h => (C.a0.low (g := k) h).2
  have l2 := fun k h => (C.u1.low (g := k) h).2
  have l3 := fun k h => (C.a1.low (g := k) h).2
  cases s
  all_goals
    simp only [Cn.sd, Cn.set, sO, if_true, if_false, reduceIte, Bool.false_eq_true, Sd.putU] at hg hat ⊢
    have hblk := (hg.block c.k hlk (fun h => by simp_all)).trans C.blk
  · have hcon : Con (w1.setCell ⟨c.k, 3, none⟩ v') base { c with s0 := { c.s0 with u := v', us := zs' } } :=
      ⟨(block_setCell hblk 3 v').trans rfl, C.low, new_of hB f, keep_of C.a0 hg n1 b, keep_of C.u1 hg n2 d, keep_of C.a1 hg n3 e⟩
    refine ⟨hcon, rfl, put_turn hg (fun g h => by simp [Cn.blocks, Sd.blocks, h]) (by simp [Cn.blocks]), hcon.nod.2 ⟨ne2_of n1 hat l1, ne2_of n2 hat l2, ne2_of n3 hat l3, n4, n5, n6⟩, ?_⟩
    intro k hk
    simp only [Cn.blocks, Sd.blocks, List.mem_cons, List.mem_append, Option.mem_toList, Option.mem_def] at hk ⊢
    rcases hk with h | (h | h) | (h | h)
    · simp [h]
    · rcases hat with h' | h'
      · rw [h'] at h; simp [h]
      · exact .inr (h' k h)
    all_goals simp [h]
  · have hcon : Con (w1.setCell ⟨c.k, 7, none⟩ v') base { c with s1 := { c.s1 with u := v', us := zs' } } :=
      ⟨(block_setCell hblk 7 v').trans rfl, C.low, keep_of C.u0 hg n2.symm a, keep_of C.a0 hg n4.symm b, new_of hB f, keep_of C.a1 hg n6 e⟩
    refine ⟨hcon, rfl, put_turn hg (fun g h => by simp [Cn.blocks, Sd.blocks, h]) (by simp [Cn.blocks]), hcon.nod.2 ⟨n1, (ne2_of n2.symm hat l0).symm, n3, (ne2_of n4.symm hat l1).symm, n5, ne2_of n6 hat l3⟩, ?_⟩
    intro k hk
    simp only [Cn.blocks, Sd.blocks, List.mem_cons, List.mem_append, Option.mem_toList, Option.mem_def] at hk ⊢
    rcases hk with h | (h | h) | (h | h)
    · simp [h]
    · simp [h]
    · simp [h]
    · rcases hat with h' | h'
      · rw [h'] at h; simp [h]
      · exact .inr (h' k h)
    · simp [h]
theorem chg_a {w w1 : World} {base : Nat} {c : Cn} (C : Con w base c) (hn : c.blocks.Nodup) (s : Bool) (v' : Value) (zs' : List Int) (hg : w.grownBy w1 (c.sd s).a.ownBlock) (hB : Buf w1 base v' zs')
    (hat : v'.ownBlock = (c.sd s).a.ownBlock ∨ ∀ g, v'.ownBlock = some g → w.heap.size ≤ g) : Chg w (w1.setCell ⟨c.k, sO s + 1, none⟩ v') base c (c.set s ((c.sd s).putA v' zs')) := by
  obtain ⟨n1, n2, n3, n4, n5, n6⟩ := C.nod.1 hn
  have a := C.u0.ne C.blk (by decide); have b := C.a0.ne C.blk (by decide); have d := C.u1.ne C.blk (by decide); have e := C.a1.ne C.blk (by decide)
  have hlk := lt_of_block C.blk
  have f : v'.ownBlock ≠ some c.k := by
    intro h
    rcases hat with h' | h'
    · rw [h'] at h; cases s <;> contradiction
    · have := h' _ h; omega
  have l0 := fun k h => (C.u0.low (g := k) h).2
  have l1 := fun k h => (C.a0.low (g := k) h).2
  have l2 := fun k h => (C.u1.low (g := k) h).2
  have l3 := fun k h => (C.a1.low (g := k) h).2
  cases s
  all_goals
    simp only [Cn.sd, Cn.set, sO, if_true, if_false, reduceIte, Bool.false_eq_true, Sd.putA] at hg hat ⊢
    have hblk := (hg.block c.k hlk (fun h => by simp_all)).trans C.blk
  · have hcon : Con (w1.setCell ⟨c.k, 4, none⟩ v') base { c with s0 := { c.s0 with a := v', ar := zs' } } :=
      ⟨(block_setCell hblk 4 v').trans rfl, C.low, keep_of C.u0 hg n1.symm a, new_of hB f, keep_of C.u1 hg n4 d, keep_of C.a1 hg n5 e⟩
    refine ⟨hcon, rfl, put_turn hg (fun g h => by simp [Cn.blocks, Sd.blocks, h]) (by simp [Cn.blocks]), hcon.nod.2 ⟨(ne2_of n1.symm hat l0).symm, n2, n3, ne2_of n4 hat l2, ne2_of n5 hat l3, n6⟩, ?_⟩
    intro k hk
    simp only [Cn.blocks, Sd.blocks, List.mem_cons, List.mem_append, Option.mem_toList, Option.mem_def] at hk ⊢
    rcases hk with h | (h | h) | (h | h)
    · simp [h]
    · simp [h]
    · rcases hat with h' | h'
      · rw [h'] at h; simp [h]
      · exact .inr (h' k h)
    all_goals simp [h]
  · have hcon : Con (w1.setCell ⟨c.k, 8, none⟩ v') base { c with s1 := { c.s1 with a := v', ar := zs' } } :=
      ⟨(block_setCell hblk 8 v').trans rfl, C.low, keep_of C.u0 hg n3.symm a, keep_of C.a0 hg n5.symm b, keep_of C.u1 hg n6.symm d, new_of hB f⟩
    refine ⟨hcon, rfl, put_turn hg (fun g h => by simp [Cn.blocks, Sd.blocks, h]) (by simp [Cn.blocks]), hcon.nod.2 ⟨n1, n2, (ne2_of n3.symm hat l0).symm, n4, (ne2_of n5.symm hat l1).symm, (ne2_of n6.symm hat l2).symm⟩, ?_⟩
    intro k hk
    simp only [Cn.blocks, Sd.blocks, List.mem_cons, List.mem_append, Option.mem_toList, Option.mem_def] at hk ⊢
    rcases hk with h | (h | h) | (h | h)
    · simp [h]
    · simp [h]
    · simp [h]
    · simp [h]
    · rcases hat with h' | h'
      · rw [h'] at h; simp [h]
      · exact .inr (h' k h)
theorem grown_refl (w : World) (row : Option Nat) : w.grownBy w row := ⟨rfl, rfl, rfl, Nat.le_refl _, fun _ _ _ => rfl⟩
/-- A mark that is set: closed (2) or told (3). -/
theorem chg_mark {w : World} {base : Nat} {c c' : Cn} (C : Con w base c) (hn : c.blocks.Nodup) (o : Nat) (v : Value) (hc : c.cells.setIfInBounds o v = c'.cells) (hk : c'.k = c.k) (h0 : c'.s0.u = c.s0.u ∧ c'.s0.us = c.s0.us ∧ c'.s0.a = c.s0.a ∧ c'.s0.ar = c.s0.ar) (h1 : c'.s1.u = c.s1.u ∧ c'.s1.us = c.s1.us ∧ c'.s1.a = c.s1.a ∧ c'.s1.ar = c.s1.ar) :
    Chg w (w.setCell ⟨c.k, o, none⟩ v) base c c' := by
  have a := C.u0.ne C.blk (by decide); have b := C.a0.ne C.blk (by decide); have d := C.u1.ne C.blk (by decide); have e := C.a1.ne C.blk (by decide)
  obtain ⟨p1, p2, p3, p4⟩ := h0
  obtain ⟨q1, q2, q3, q4⟩ := h1
  have hb : c'.blocks = c.blocks := by simp [Cn.blocks, Sd.blocks, p1, p3, q1, q3, hk]
  refine ⟨⟨?_, by rw [hk]; exact C.low, ?_, ?_, ?_, ?_⟩, hk, put_turn (grown_refl w none) (fun g h => by cases h) (by simp [Cn.blocks]), by rw [hb]; exact hn, fun k h => .inl (by rw [← hb]; exact h)⟩
  · rw [hk, block_setCell C.blk, hc]
  · rw [p1, p2]; exact new_of C.u0 a
  · rw [p3, p4]; exact new_of C.a0 b
  · rw [q1, q2]; exact new_of C.u1 d
  · rw [q3, q4]; exact new_of C.a1 e
end Go.Proofs.Ytcbnmoppnoiggaa
