/-
  Pass.
-/
import Derived.Test.YtcbnmoppnoiggaaWrite
import Derived.Deep.RegionLaw
namespace Go.Proofs.Ytcbnmoppnoiggaa
open Go.RowKit
set_option linter.unusedVariables false
set_option linter.unusedSimpArgs false
set_option maxHeartbeats 400000 in
theorem pass_bad (p : Option Addr) (i s most E : Int) (w : World) (h : Bad w p i s most E) (hE : E ≠ 0) :
    Calls Try.prog 15 #[.pointer p, .int .i64 i, .int .i64 s, .int .i64 most] w fun e w' => w' = w ∧ e = .returned (.tuple #[.int .i64 0, .int .i64 E]) := by
  go_enter Try.func15, Try.ntmps15
  go_wp2_with fail
  refine h.mono ?_
  rintro e w1 ⟨h1, rfl⟩
  subst h1
  go_wp2_with fail
  go_ret2
  exact ⟨rfl, rfl⟩
theorem Buf.take {w : World} {base : Nat} {ao : Option Addr} {n cap : Nat} {zs : List Int} (h : Buf w base (.slice ao n cap) zs) (k : Nat) (hk : k ≤ n) : Has w ao (zs.take k) ∧ (zs.take k).length = k := by
  obtain ⟨a', c', e, hb, hh, h1, h2⟩ := h.form
  cases e
  exact ⟨has_front hh k hk, by simp; omega⟩
def OwnAs (v u : Value) : Prop := v.ownBlock = u.ownBlock ∨ v.ownBlock = none
theorem OwnAs.ne2 {v u v' u' : Value} (h : OwnAs v u) (h' : OwnAs v' u') (n : ne2 u.ownBlock u'.ownBlock) : ne2 v.ownBlock v'.ownBlock := by
  intro k h1 h2
  rcases h with h | h
  · rcases h' with h' | h'
    · exact n k (h ▸ h1) (h' ▸ h2)
    · rw [h'] at h2; cases h2
  · rw [h] at h1; cases h1
theorem OwnAs.mem {v u : Value} (h : OwnAs v u) {k : Nat} (hk : v.ownBlock = some k) : u.ownBlock = some k := by
  rcases h with h | h
  · rw [← h]; exact hk
  · rw [h] at hk; cases hk
/-- The connection's own block written, its bytes the same or a part of them. -/
theorem chg_block {w w4 : World} {base : Nat} {c : Cn} (C : Con w base c) (hn : c.blocks.Nodup) (T : Turn w w4 [c.k]) (c' : Cn) (hk : c'.k = c.k) (hb : w4.heap[c.k]? = some (.cells c'.cells 75 (0, 0)))
    (b0 : Buf w base c'.s0.u c'.s0.us) (o0 : OwnAs c'.s0.u c.s0.u) (b1 : Buf w base c'.s0.a c'.s0.ar) (o1 : OwnAs c'.s0.a c.s0.a)
    (b2 : Buf w base c'.s1.u c'.s1.us) (o2 : OwnAs c'.s1.u c.s1.u) (b3 : Buf w base c'.s1.a c'.s1.ar) (o3 : OwnAs c'.s1.a c.s1.a) : Chg w w4 base c c' := by
  obtain ⟨n1, n2, n3, n4, n5, n6⟩ := C.nod.1 hn
  have far : ∀ {v : Value} {zs : List Int}, Buf w base v zs → Buf w4 base v zs := fun {v zs} h => h.keep fun k hk => T.block k (h.low hk).2 (fun hm => h.ne C.blk (by decide) (by simp at hm; rw [hk, hm]))
  have hcon : Con w4 base c' := ⟨by rw [hk]; exact hb, by rw [hk]; exact C.low, far b0, far b1, far b2, far b3⟩
  refine ⟨hcon, hk, T.mono (fun k hk => .inl (by simp at hk; simp [Cn.blocks, hk])), hcon.nod.2 ⟨o0.ne2 o1 n1, o0.ne2 o2 n2, o0.ne2 o3 n3, o1.ne2 o2 n4, o1.ne2 o3 n5, o2.ne2 o3 n6⟩, ?_⟩
  intro k hm
  simp only [Cn.blocks, Sd.blocks, List.mem_cons, List.mem_append, Option.mem_toList, Option.mem_def] at hm ⊢
  rcases hm with h | (h | h) | (h | h)
  · simp [h, hk]
  · simp [o0.mem h]
  · simp [o1.mem h]
  · simp [o2.mem h]
  · simp [o3.mem h]
theorem own_rfl (v : Value) : OwnAs v v := .inl rfl
theorem own_nil (v : Value) : OwnAs (.slice none 0 0) v := .inr rfl
theorem Buf.drop {w : World} {base : Nat} {ao : Option Addr} {n cap : Nat} {zs : List Int} (h : Buf w base (.slice ao n cap) zs) (k : Nat) (hk : k < n) (hc : ¬ cap = k) :
    Buf w base (.slice (Option.map (fun x => x.add k) ao) (n - k) (cap - k)) (zs.drop k) ∧ OwnAs (.slice (Option.map (fun x => x.add k) ao) (n - k) (cap - k)) (.slice ao n cap) := by
  rcases h.2 with ⟨e, rfl⟩ | ⟨g, off, cap', cur, e, hb, hg, h1, h2, h3, h4⟩
  · cases e; omega
  · cases e
    have e1 : (⟨g, off, none⟩ : Addr).add k = ⟨g, off + k, none⟩ := by rw [Addr.add_lit]
    refine ⟨⟨h.1.drop k, .inr ⟨g, off + k, cap - k, cur, by simp [e1], hb, hg, by simp; omega, by omega, by omega, fun j hj => ?_⟩⟩, .inl (by simp [Value.ownBlock, e1])⟩
    rw [Nat.add_assoc, h4 (k + j) (by simp at hj; omega)]
    simp [List.getD]
theorem turn3 (w : World) (k a b d : Nat) (x y z : Value) : Turn w (((w.setCell ⟨k, a, none⟩ x).setCell ⟨k, b, none⟩ y).setCell ⟨k, d, none⟩ z) [k] :=
  ((Turn.setCell w k a x).trans (Turn.setCell _ k b y) (fun _ h => .inl h)).trans (Turn.setCell _ k d z) (fun _ h => .inl h)
set_option maxHeartbeats 1000000 in
theorem pass_0 (base : Nat) (c : Cn) (p : Option Addr) (i : Int) (most : Int) (n k : Nat) (ao : Option Addr) (cap : Nat) (w : World) (h : Good w p i 0 most c.k) (C : Con w base c) (hnd : c.blocks.Nodup) (hu : c.s0.u = .slice ao n cap) (hm : 0 ≤ most) (hk : min most n = k) (hsm : c.s0.us.length + c.s1.ar.length ≤ 140737488355328) :
    Calls Try.prog 15 #[.pointer p, .int .i64 i, .int .i64 0, .int .i64 most] w fun e w' => e = .returned (.tuple #[.int .i64 k, .int .i64 0]) ∧
      ∃ v1 v2, Chg w w' base c { c with s0 := ⟨v1, c.s0.us.drop k, c.s0.a, c.s0.ar, c.s0.cl, if k = n then c.s0.cl else c.s0.to⟩, s1 := ⟨c.s1.u, c.s1.us, v2, c.s1.ar ++ c.s0.us.take k, c.s1.cl, c.s1.to⟩ } := by
  obtain ⟨i0, hi, hz0, hz1, hz2⟩ := info_parts Try.info5
  have f0 : w.cell? ⟨c.k, 3, none⟩ = some (.slice ao n cap) := by rw [← hu, C.cell]; rfl
  have t1 : w.cell? ⟨c.k, 8, none⟩ = some c.s1.a := by rw [C.cell]; rfl
  have z1 : w.frozen? ⟨c.k, 8, none⟩ = false := by simp [World.frozen?, C.blk]
  obtain ⟨a1, n1, c1, ha1⟩ := C.a1.sl
  rw [ha1] at t1
  have hkn : k ≤ n := by omega
  have hB1 : Hid (Buf w base (.slice a1 n1 c1) c.s1.ar) := by rw [← ha1]; exact C.a1
  have hne : (Value.slice a1 n1 c1).ownBlock ≠ some c.k := hB1.out.ne C.blk (by decide)
  have hlk := lt_of_block C.blk
  have hbase : base ≤ w.heap.size := Nat.le_trans C.low (Nat.le_of_lt hlk)
  have hu0 := C.u0
  rw [hu] at hu0
  have hT := hu0.take k hkn
  have hb0 : ao = none → cap = 0 := by obtain ⟨_, _, e, hb, _⟩ := hu0.form; cases e; exact hb
  have hnc : n ≤ cap := by obtain ⟨_, _, e, _, _, h, _⟩ := hu0.form; cases e; exact h
  have hkc : k ≤ cap := Nat.le_trans hkn hnc
  have hsm' : c.s1.ar.length + k ≤ 140737488355328 := by have := hT.2; simp at this; omega
  have ho := hu0.1.take k
  have HT := hT.1
  by_cases hmn : most ≤ n
  · obtain rfl : most = (k : Int) := by omega
    go_enter Try.func15, Try.ntmps15
    go_wp2_with fail
    refine h.mono ?_
    rintro e w1 ⟨h1, rfl⟩
    subst h1
    go_wp2_with fail
    go_region
    go_wp2_with fail
    go_region_law (refine step_append_buf _ rfl (.tmp 48) (.tmp 54) 32 rfl base i0 Try.underlying32 hi hz0 hz1 hz2 (.slice a1 n1 c1) c.s1.ar rfl (hB1.out.keep fun _ _ => rfl) ao k cap (c.s0.us.take k) rfl hT.2 hb0 HT ho hsm' hbase ?_; intro v' w2 hB2 hg2 hat2; obtain ⟨av, nv, cv, rfl⟩ := hB2.sl; have hcu2 : w2.cell? ⟨c.k, 8, none⟩ = some (.slice a1 n1 c1) := (hg2.cell_far _ hlk (fun e => hne e.symm)).trans t1; have hfz2 : w2.frozen? ⟨c.k, 8, none⟩ = false := (hg2.frozen_far _ hlk (fun e => hne e.symm)).trans z1)
    all_goals
      have g1 : Chg w1 (w2.setCell ⟨c.k, 8, none⟩ (.slice av nv cv)) base c (c.set true ((c.sd true).putA (.slice av nv cv) (c.s1.ar ++ c.s0.us.take k))) :=
        chg_a C hnd true _ _ (by show w1.grownBy w2 c.s1.a.ownBlock; rw [ha1]; exact ⟨hg2.os, hg2.tape, hg2.output, hg2.size, hg2.block⟩) hB2 (by show _ = c.s1.a.ownBlock ∨ _; rw [ha1]; exact hat2)
      obtain ⟨w3, hw3⟩ : ∃ W, w2.setCell ⟨c.k, 8, none⟩ (.slice av nv cv) = W := ⟨_, rfl⟩
      rw [hw3] at g1 ⊢
      have e0 : w3.cell? ⟨c.k, 3, none⟩ = some (.slice ao n cap) := by rw [← hu]; exact g1.con.cell 3
      have e2 : w3.cell? ⟨c.k, 5, none⟩ = some (.bool c.s0.cl) := g1.con.cell 5
      have e3 : w3.cell? ⟨c.k, 6, none⟩ = some (.bool c.s0.to) := g1.con.cell 6
      have y0 : w3.frozen? ⟨c.k, 3, none⟩ = false := by have := g1.con.blk; simp [World.frozen?, show w3.heap[c.k]? = _ from this]
      have y3 : w3.frozen? ⟨c.k, 6, none⟩ = false := by have := g1.con.blk; simp [World.frozen?, show w3.heap[c.k]? = _ from this]
      have G1 : Hid (Chg w1 w3 base c (c.set true ((c.sd true).putA (.slice av nv cv) (c.s1.ar ++ c.s0.us.take k)))) := g1
      have U3 : Hid (Buf w3 base (.slice ao n cap) c.s0.us) := by have := g1.con.u0; rw [← hu]; exact this
      clear g1 hw3 hat2 hB2 hcu2 hfz2 hg2 t1 z1 f0 HT hT
      by_cases hlast : k = n
      · subst hlast
        have ed : c.s0.us.drop k = [] := by
          obtain ⟨_, _, e, _⟩ := hu0.form
          cases e
          simp
        have FIN : ∀ X, Chg w1 (((w3.setCell ⟨c.k, 3, none⟩ X).setCell ⟨c.k, 3, none⟩ (.slice none 0 0)).setCell ⟨c.k, 6, none⟩ (.bool c.s0.cl)) base c { c with s0 := ⟨.slice none 0 0, c.s0.us.drop k, c.s0.a, c.s0.ar, c.s0.cl, c.s0.cl⟩, s1 := ⟨c.s1.u, c.s1.us, .slice av nv cv, c.s1.ar ++ c.s0.us.take k, c.s1.cl, c.s1.to⟩ } := fun X => by
          have g := G1.out
          refine g.trans (chg_block g.con g.nod (turn3 w3 c.k 3 3 6 _ _ _) _ rfl ((block_setCell (block_setCell (block_setCell g.con.blk 3 X) 3 _) 6 _).trans rfl) ?_ (own_nil _) g.con.a0 (own_rfl _) g.con.u1 (own_rfl _) g.con.a1 (own_rfl _))
          show Buf w3 base _ (c.s0.us.drop k)
          rw [ed]; exact Buf.nil _ _
        have FI : Hid (∀ X, Chg w1 (((w3.setCell ⟨c.k, 3, none⟩ X).setCell ⟨c.k, 3, none⟩ (.slice none 0 0)).setCell ⟨c.k, 6, none⟩ (.bool c.s0.cl)) base c { c with s0 := ⟨.slice none 0 0, c.s0.us.drop k, c.s0.a, c.s0.ar, c.s0.cl, c.s0.cl⟩, s1 := ⟨c.s1.u, c.s1.us, .slice av nv cv, c.s1.ar ++ c.s0.us.take k, c.s1.cl, c.s1.to⟩ }) := FIN
        clear FIN U3 G1 ed
        go_wp2_with fail
        all_goals
          go_ret2
          exact ⟨rfl, _, _, FI.out _⟩
      · have hck : ¬ cap = k := by omega
        have hDr := U3.out.drop k (by omega) hck
        have FIN : Chg w1 (w3.setCell ⟨c.k, 3, none⟩ (.slice (Option.map (fun x => x.add k) ao) (n - k) (cap - k))) base c { c with s0 := ⟨.slice (Option.map (fun x => x.add k) ao) (n - k) (cap - k), c.s0.us.drop k, c.s0.a, c.s0.ar, c.s0.cl, c.s0.to⟩, s1 := ⟨c.s1.u, c.s1.us, .slice av nv cv, c.s1.ar ++ c.s0.us.take k, c.s1.cl, c.s1.to⟩ } := by
          have g := G1.out
          exact g.trans (chg_block g.con g.nod (Turn.setCell w3 c.k 3 _) _ rfl ((block_setCell g.con.blk 3 _).trans rfl) hDr.1 (by have := hDr.2; rw [← hu] at this; exact this) g.con.a0 (own_rfl _) g.con.u1 (own_rfl _) g.con.a1 (own_rfl _))
        have FI : Hid (Chg w1 (w3.setCell ⟨c.k, 3, none⟩ (.slice (Option.map (fun x => x.add k) ao) (n - k) (cap - k))) base c { c with s0 := ⟨.slice (Option.map (fun x => x.add k) ao) (n - k) (cap - k), c.s0.us.drop k, c.s0.a, c.s0.ar, c.s0.cl, c.s0.to⟩, s1 := ⟨c.s1.u, c.s1.us, .slice av nv cv, c.s1.ar ++ c.s0.us.take k, c.s1.cl, c.s1.to⟩ }) := FIN
        clear FIN U3 G1 hDr
        go_wp2_with fail
        go_ret2
        simp only [if_neg hlast]
        exact ⟨rfl, _, _, FI.out⟩
  · have hkn2 : k = n := by omega
    subst hkn2
    go_enter Try.func15, Try.ntmps15
    go_wp2_with fail
    refine h.mono ?_
    rintro e w1 ⟨h1, rfl⟩
    subst h1
    go_wp2_with fail
    go_region
    go_wp2_with fail
    go_region_law (refine step_append_buf _ rfl (.tmp 48) (.tmp 54) 32 rfl base i0 Try.underlying32 hi hz0 hz1 hz2 (.slice a1 n1 c1) c.s1.ar rfl (hB1.out.keep fun _ _ => rfl) ao k cap (c.s0.us.take k) rfl hT.2 hb0 HT ho hsm' hbase ?_; intro v' w2 hB2 hg2 hat2; obtain ⟨av, nv, cv, rfl⟩ := hB2.sl; have hcu2 : w2.cell? ⟨c.k, 8, none⟩ = some (.slice a1 n1 c1) := (hg2.cell_far _ hlk (fun e => hne e.symm)).trans t1; have hfz2 : w2.frozen? ⟨c.k, 8, none⟩ = false := (hg2.frozen_far _ hlk (fun e => hne e.symm)).trans z1)
    all_goals
      have g1 : Chg w1 (w2.setCell ⟨c.k, 8, none⟩ (.slice av nv cv)) base c (c.set true ((c.sd true).putA (.slice av nv cv) (c.s1.ar ++ c.s0.us.take k))) :=
        chg_a C hnd true _ _ (by show w1.grownBy w2 c.s1.a.ownBlock; rw [ha1]; exact ⟨hg2.os, hg2.tape, hg2.output, hg2.size, hg2.block⟩) hB2 (by show _ = c.s1.a.ownBlock ∨ _; rw [ha1]; exact hat2)
      obtain ⟨w3, hw3⟩ : ∃ W, w2.setCell ⟨c.k, 8, none⟩ (.slice av nv cv) = W := ⟨_, rfl⟩
      rw [hw3] at g1 ⊢
      have e0 : w3.cell? ⟨c.k, 3, none⟩ = some (.slice ao k cap) := by rw [← hu]; exact g1.con.cell 3
      have e2 : w3.cell? ⟨c.k, 5, none⟩ = some (.bool c.s0.cl) := g1.con.cell 5
      have e3 : w3.cell? ⟨c.k, 6, none⟩ = some (.bool c.s0.to) := g1.con.cell 6
      have y0 : w3.frozen? ⟨c.k, 3, none⟩ = false := by have := g1.con.blk; simp [World.frozen?, show w3.heap[c.k]? = _ from this]
      have y3 : w3.frozen? ⟨c.k, 6, none⟩ = false := by have := g1.con.blk; simp [World.frozen?, show w3.heap[c.k]? = _ from this]
      have G1 : Hid (Chg w1 w3 base c (c.set true ((c.sd true).putA (.slice av nv cv) (c.s1.ar ++ c.s0.us.take k)))) := g1
      have U3 : Hid (Buf w3 base (.slice ao k cap) c.s0.us) := by have := g1.con.u0; rw [← hu]; exact this
      clear g1 hw3 hat2 hB2 hcu2 hfz2 hg2 t1 z1 f0 HT hT
      skip
      have ed : c.s0.us.drop k = [] := by
        obtain ⟨_, _, e, _⟩ := hu0.form
        cases e
        simp
      have FIN : ∀ X, Chg w1 (((w3.setCell ⟨c.k, 3, none⟩ X).setCell ⟨c.k, 3, none⟩ (.slice none 0 0)).setCell ⟨c.k, 6, none⟩ (.bool c.s0.cl)) base c { c with s0 := ⟨.slice none 0 0, c.s0.us.drop k, c.s0.a, c.s0.ar, c.s0.cl, c.s0.cl⟩, s1 := ⟨c.s1.u, c.s1.us, .slice av nv cv, c.s1.ar ++ c.s0.us.take k, c.s1.cl, c.s1.to⟩ } := fun X => by
        have g := G1.out
        refine g.trans (chg_block g.con g.nod (turn3 w3 c.k 3 3 6 _ _ _) _ rfl ((block_setCell (block_setCell (block_setCell g.con.blk 3 X) 3 _) 6 _).trans rfl) ?_ (own_nil _) g.con.a0 (own_rfl _) g.con.u1 (own_rfl _) g.con.a1 (own_rfl _))
        show Buf w3 base _ (c.s0.us.drop k)
        rw [ed]; exact Buf.nil _ _
      have FI : Hid (∀ X, Chg w1 (((w3.setCell ⟨c.k, 3, none⟩ X).setCell ⟨c.k, 3, none⟩ (.slice none 0 0)).setCell ⟨c.k, 6, none⟩ (.bool c.s0.cl)) base c { c with s0 := ⟨.slice none 0 0, c.s0.us.drop k, c.s0.a, c.s0.ar, c.s0.cl, c.s0.cl⟩, s1 := ⟨c.s1.u, c.s1.us, .slice av nv cv, c.s1.ar ++ c.s0.us.take k, c.s1.cl, c.s1.to⟩ }) := FIN
      clear FIN U3 G1 ed
      go_wp2_with fail
      all_goals
        go_ret2
        exact ⟨rfl, _, _, FI.out _⟩
set_option maxHeartbeats 1000000 in
theorem pass_1 (base : Nat) (c : Cn) (p : Option Addr) (i : Int) (most : Int) (n k : Nat) (ao : Option Addr) (cap : Nat) (w : World) (h : Good w p i 1 most c.k) (C : Con w base c) (hnd : c.blocks.Nodup) (hu : c.s1.u = .slice ao n cap) (hm : 0 ≤ most) (hk : min most n = k) (hsm : c.s1.us.length + c.s0.ar.length ≤ 140737488355328) :
    Calls Try.prog 15 #[.pointer p, .int .i64 i, .int .i64 1, .int .i64 most] w fun e w' => e = .returned (.tuple #[.int .i64 k, .int .i64 0]) ∧
      ∃ v1 v2, Chg w w' base c { c with s1 := ⟨v1, c.s1.us.drop k, c.s1.a, c.s1.ar, c.s1.cl, if k = n then c.s1.cl else c.s1.to⟩, s0 := ⟨c.s0.u, c.s0.us, v2, c.s0.ar ++ c.s1.us.take k, c.s0.cl, c.s0.to⟩ } := by
  obtain ⟨i0, hi, hz0, hz1, hz2⟩ := info_parts Try.info5
  have f0 : w.cell? ⟨c.k, 7, none⟩ = some (.slice ao n cap) := by rw [← hu, C.cell]; rfl
  have t1 : w.cell? ⟨c.k, 4, none⟩ = some c.s0.a := by rw [C.cell]; rfl
  have z1 : w.frozen? ⟨c.k, 4, none⟩ = false := by simp [World.frozen?, C.blk]
  obtain ⟨a1, n1, c1, ha1⟩ := C.a0.sl
  rw [ha1] at t1
  have hkn : k ≤ n := by omega
  have hB1 : Hid (Buf w base (.slice a1 n1 c1) c.s0.ar) := by rw [← ha1]; exact C.a0
  have hne : (Value.slice a1 n1 c1).ownBlock ≠ some c.k := hB1.out.ne C.blk (by decide)
  have hlk := lt_of_block C.blk
  have hbase : base ≤ w.heap.size := Nat.le_trans C.low (Nat.le_of_lt hlk)
  have hu0 := C.u1
  rw [hu] at hu0
  have hT := hu0.take k hkn
  have hb0 : ao = none → cap = 0 := by obtain ⟨_, _, e, hb, _⟩ := hu0.form; cases e; exact hb
  have hnc : n ≤ cap := by obtain ⟨_, _, e, _, _, h, _⟩ := hu0.form; cases e; exact h
  have hkc : k ≤ cap := Nat.le_trans hkn hnc
  have hsm' : c.s0.ar.length + k ≤ 140737488355328 := by have := hT.2; simp at this; omega
  have ho := hu0.1.take k
  have HT := hT.1
  by_cases hmn : most ≤ n
  · obtain rfl : most = (k : Int) := by omega
    go_enter Try.func15, Try.ntmps15
    go_wp2_with fail
    refine h.mono ?_
    rintro e w1 ⟨h1, rfl⟩
    subst h1
    go_wp2_with fail
    go_region
    go_wp2_with fail
    go_region_law (refine step_append_buf _ rfl (.tmp 48) (.tmp 54) 32 rfl base i0 Try.underlying32 hi hz0 hz1 hz2 (.slice a1 n1 c1) c.s0.ar rfl (hB1.out.keep fun _ _ => rfl) ao k cap (c.s1.us.take k) rfl hT.2 hb0 HT ho hsm' hbase ?_; intro v' w2 hB2 hg2 hat2; obtain ⟨av, nv, cv, rfl⟩ := hB2.sl; have hcu2 : w2.cell? ⟨c.k, 4, none⟩ = some (.slice a1 n1 c1) := (hg2.cell_far _ hlk (fun e => hne e.symm)).trans t1; have hfz2 : w2.frozen? ⟨c.k, 4, none⟩ = false := (hg2.frozen_far _ hlk (fun e => hne e.symm)).trans z1)
    all_goals
      have g1 : Chg w1 (w2.setCell ⟨c.k, 4, none⟩ (.slice av nv cv)) base c (c.set false ((c.sd false).putA (.slice av nv cv) (c.s0.ar ++ c.s1.us.take k))) :=
        chg_a C hnd false _ _ (by show w1.grownBy w2 c.s0.a.ownBlock; rw [ha1]; exact ⟨hg2.os, hg2.tape, hg2.output, hg2.size, hg2.block⟩) hB2 (by show _ = c.s0.a.ownBlock ∨ _; rw [ha1]; exact hat2)
      obtain ⟨w3, hw3⟩ : ∃ W, w2.setCell ⟨c.k, 4, none⟩ (.slice av nv cv) = W := ⟨_, rfl⟩
      rw [hw3] at g1 ⊢
      have e0 : w3.cell? ⟨c.k, 7, none⟩ = some (.slice ao n cap) := by rw [← hu]; exact g1.con.cell 7
      have e2 : w3.cell? ⟨c.k, 9, none⟩ = some (.bool c.s1.cl) := g1.con.cell 9
      have e3 : w3.cell? ⟨c.k, 10, none⟩ = some (.bool c.s1.to) := g1.con.cell 10
      have y0 : w3.frozen? ⟨c.k, 7, none⟩ = false := by have := g1.con.blk; simp [World.frozen?, show w3.heap[c.k]? = _ from this]
      have y3 : w3.frozen? ⟨c.k, 10, none⟩ = false := by have := g1.con.blk; simp [World.frozen?, show w3.heap[c.k]? = _ from this]
      have G1 : Hid (Chg w1 w3 base c (c.set false ((c.sd false).putA (.slice av nv cv) (c.s0.ar ++ c.s1.us.take k)))) := g1
      have U3 : Hid (Buf w3 base (.slice ao n cap) c.s1.us) := by have := g1.con.u1; rw [← hu]; exact this
      clear g1 hw3 hat2 hB2 hcu2 hfz2 hg2 t1 z1 f0 HT hT
      by_cases hlast : k = n
      · subst hlast
        have ed : c.s1.us.drop k = [] := by
          obtain ⟨_, _, e, _⟩ := hu0.form
          cases e
          simp
        have FIN : ∀ X, Chg w1 (((w3.setCell ⟨c.k, 7, none⟩ X).setCell ⟨c.k, 7, none⟩ (.slice none 0 0)).setCell ⟨c.k, 10, none⟩ (.bool c.s1.cl)) base c { c with s1 := ⟨.slice none 0 0, c.s1.us.drop k, c.s1.a, c.s1.ar, c.s1.cl, c.s1.cl⟩, s0 := ⟨c.s0.u, c.s0.us, .slice av nv cv, c.s0.ar ++ c.s1.us.take k, c.s0.cl, c.s0.to⟩ } := fun X => by
          have g := G1.out
          refine g.trans (chg_block g.con g.nod (turn3 w3 c.k 7 7 10 _ _ _) _ rfl ((block_setCell (block_setCell (block_setCell g.con.blk 7 X) 7 _) 10 _).trans rfl) g.con.u0 (own_rfl _) g.con.a0 (own_rfl _) ?_ (own_nil _) g.con.a1 (own_rfl _))
          show Buf w3 base _ (c.s1.us.drop k)
          rw [ed]; exact Buf.nil _ _
        have FI : Hid (∀ X, Chg w1 (((w3.setCell ⟨c.k, 7, none⟩ X).setCell ⟨c.k, 7, none⟩ (.slice none 0 0)).setCell ⟨c.k, 10, none⟩ (.bool c.s1.cl)) base c { c with s1 := ⟨.slice none 0 0, c.s1.us.drop k, c.s1.a, c.s1.ar, c.s1.cl, c.s1.cl⟩, s0 := ⟨c.s0.u, c.s0.us, .slice av nv cv, c.s0.ar ++ c.s1.us.take k, c.s0.cl, c.s0.to⟩ }) := FIN
        clear FIN U3 G1 ed
        go_wp2_with fail
        all_goals
          go_ret2
          exact ⟨rfl, _, _, FI.out _⟩
      · have hck : ¬ cap = k := by omega
        have hDr := U3.out.drop k (by omega) hck
        have FIN : Chg w1 (w3.setCell ⟨c.k, 7, none⟩ (.slice (Option.map (fun x => x.add k) ao) (n - k) (cap - k))) base c { c with s1 := ⟨.slice (Option.map (fun x => x.add k) ao) (n - k) (cap - k), c.s1.us.drop k, c.s1.a, c.s1.ar, c.s1.cl, c.s1.to⟩, s0 := ⟨c.s0.u, c.s0.us, .slice av nv cv, c.s0.ar ++ c.s1.us.take k, c.s0.cl, c.s0.to⟩ } := by
          have g := G1.out
          exact g.trans (chg_block g.con g.nod (Turn.setCell w3 c.k 7 _) _ rfl ((block_setCell g.con.blk 7 _).trans rfl) g.con.u0 (own_rfl _) g.con.a0 (own_rfl _) hDr.1 (by have := hDr.2; rw [← hu] at this; exact this) g.con.a1 (own_rfl _))
        have FI : Hid (Chg w1 (w3.setCell ⟨c.k, 7, none⟩ (.slice (Option.map (fun x => x.add k) ao) (n - k) (cap - k))) base c { c with s1 := ⟨.slice (Option.map (fun x => x.add k) ao) (n - k) (cap - k), c.s1.us.drop k, c.s1.a, c.s1.ar, c.s1.cl, c.s1.to⟩, s0 := ⟨c.s0.u, c.s0.us, .slice av nv cv, c.s0.ar ++ c.s1.us.take k, c.s0.cl, c.s0.to⟩ }) := FIN
        clear FIN U3 G1 hDr
        go_wp2_with fail
        go_ret2
        simp only [if_neg hlast]
        exact ⟨rfl, _, _, FI.out⟩
  · have hkn2 : k = n := by omega
    subst hkn2
    go_enter Try.func15, Try.ntmps15
    go_wp2_with fail
    refine h.mono ?_
    rintro e w1 ⟨h1, rfl⟩
    subst h1
    go_wp2_with fail
    go_region
    go_wp2_with fail
    go_region_law (refine step_append_buf _ rfl (.tmp 48) (.tmp 54) 32 rfl base i0 Try.underlying32 hi hz0 hz1 hz2 (.slice a1 n1 c1) c.s0.ar rfl (hB1.out.keep fun _ _ => rfl) ao k cap (c.s1.us.take k) rfl hT.2 hb0 HT ho hsm' hbase ?_; intro v' w2 hB2 hg2 hat2; obtain ⟨av, nv, cv, rfl⟩ := hB2.sl; have hcu2 : w2.cell? ⟨c.k, 4, none⟩ = some (.slice a1 n1 c1) := (hg2.cell_far _ hlk (fun e => hne e.symm)).trans t1; have hfz2 : w2.frozen? ⟨c.k, 4, none⟩ = false := (hg2.frozen_far _ hlk (fun e => hne e.symm)).trans z1)
    all_goals
      have g1 : Chg w1 (w2.setCell ⟨c.k, 4, none⟩ (.slice av nv cv)) base c (c.set false ((c.sd false).putA (.slice av nv cv) (c.s0.ar ++ c.s1.us.take k))) :=
        chg_a C hnd false _ _ (by show w1.grownBy w2 c.s0.a.ownBlock; rw [ha1]; exact ⟨hg2.os, hg2.tape, hg2.output, hg2.size, hg2.block⟩) hB2 (by show _ = c.s0.a.ownBlock ∨ _; rw [ha1]; exact hat2)
      obtain ⟨w3, hw3⟩ : ∃ W, w2.setCell ⟨c.k, 4, none⟩ (.slice av nv cv) = W := ⟨_, rfl⟩
      rw [hw3] at g1 ⊢
      have e0 : w3.cell? ⟨c.k, 7, none⟩ = some (.slice ao k cap) := by rw [← hu]; exact g1.con.cell 7
      have e2 : w3.cell? ⟨c.k, 9, none⟩ = some (.bool c.s1.cl) := g1.con.cell 9
      have e3 : w3.cell? ⟨c.k, 10, none⟩ = some (.bool c.s1.to) := g1.con.cell 10
      have y0 : w3.frozen? ⟨c.k, 7, none⟩ = false := by have := g1.con.blk; simp [World.frozen?, show w3.heap[c.k]? = _ from this]
      have y3 : w3.frozen? ⟨c.k, 10, none⟩ = false := by have := g1.con.blk; simp [World.frozen?, show w3.heap[c.k]? = _ from this]
      have G1 : Hid (Chg w1 w3 base c (c.set false ((c.sd false).putA (.slice av nv cv) (c.s0.ar ++ c.s1.us.take k)))) := g1
      have U3 : Hid (Buf w3 base (.slice ao k cap) c.s1.us) := by have := g1.con.u1; rw [← hu]; exact this
      clear g1 hw3 hat2 hB2 hcu2 hfz2 hg2 t1 z1 f0 HT hT
      skip
      have ed : c.s1.us.drop k = [] := by
        obtain ⟨_, _, e, _⟩ := hu0.form
        cases e
        simp
      have FIN : ∀ X, Chg w1 (((w3.setCell ⟨c.k, 7, none⟩ X).setCell ⟨c.k, 7, none⟩ (.slice none 0 0)).setCell ⟨c.k, 10, none⟩ (.bool c.s1.cl)) base c { c with s1 := ⟨.slice none 0 0, c.s1.us.drop k, c.s1.a, c.s1.ar, c.s1.cl, c.s1.cl⟩, s0 := ⟨c.s0.u, c.s0.us, .slice av nv cv, c.s0.ar ++ c.s1.us.take k, c.s0.cl, c.s0.to⟩ } := fun X => by
        have g := G1.out
        refine g.trans (chg_block g.con g.nod (turn3 w3 c.k 7 7 10 _ _ _) _ rfl ((block_setCell (block_setCell (block_setCell g.con.blk 7 X) 7 _) 10 _).trans rfl) g.con.u0 (own_rfl _) g.con.a0 (own_rfl _) ?_ (own_nil _) g.con.a1 (own_rfl _))
        show Buf w3 base _ (c.s1.us.drop k)
        rw [ed]; exact Buf.nil _ _
      have FI : Hid (∀ X, Chg w1 (((w3.setCell ⟨c.k, 7, none⟩ X).setCell ⟨c.k, 7, none⟩ (.slice none 0 0)).setCell ⟨c.k, 10, none⟩ (.bool c.s1.cl)) base c { c with s1 := ⟨.slice none 0 0, c.s1.us.drop k, c.s1.a, c.s1.ar, c.s1.cl, c.s1.cl⟩, s0 := ⟨c.s0.u, c.s0.us, .slice av nv cv, c.s0.ar ++ c.s1.us.take k, c.s0.cl, c.s0.to⟩ }) := FIN
      clear FIN U3 G1 ed
      go_wp2_with fail
      all_goals
        go_ret2
        exact ⟨rfl, _, _, FI.out _⟩
end Go.Proofs.Ytcbnmoppnoiggaa
