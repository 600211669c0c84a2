/-
  A call at both nets: Write.
-/
import Derived.Test.YtcbnmoppnoiggaaDoes2
import Derived.Deep.CutRange
namespace Go.Proofs.Ytcbnmoppnoiggaa
open Go.RowKit
set_option linter.unusedVariables false
set_option linter.unusedSimpArgs false
set_option maxRecDepth 100000
theorem buf_empty (w : World) (C : Obj) : Buf ((w.alloc C).alloc (.cells #[] 5 (0, 0))) (w.heap.size + 1) (.slice (some ⟨w.heap.size + 1, 0, none⟩) 0 0) [] := by
  refine ⟨Octets.nil, .inr ⟨w.heap.size + 1, 0, 0, #[], rfl, Nat.le_refl _, ?_, Nat.le_refl _, by decide, by simp, fun j hj => by simp at hj⟩⟩
  have := Go.heap_alloc_new (w.alloc C) (.cells #[] 5 (0, 0))
  simpa using this
/-- the bytes that were handed in, the first k of them written over -/
def Over (w1 W : World) (g off n : Nat) (zs : List Int) (k : Nat) : Prop := Turn w1 W [g] ∧ ∃ cur, W.heap[g]? = some (.cells cur 5 (0, 0)) ∧ ∀ j, k ≤ j → j < n → cur[off + j]? = some (.int .u8 (zs.getD j 0))
theorem Over.cell {w1 W : World} {g off n : Nat} {zs : List Int} {k : Nat} (h : Over w1 W g off n zs k) (hk : k < n) : W.cell? ⟨g, off + k, none⟩ = some (.int .u8 (zs.getD k 0)) ∧ W.frozen? ⟨g, off + k, none⟩ = false := by
  obtain ⟨_, cur, hb, hc⟩ := h
  exact ⟨by simpa [World.cell?, hb] using hc k (Nat.le_refl _) hk, by simp [World.frozen?, hb]⟩
theorem Over.step {w1 W : World} {g off n : Nat} {zs : List Int} {k : Nat} (h : Over w1 W g off n zs k) (v : Value) : Over w1 (W.setCell ⟨g, off + k, none⟩ v) g off n zs (k + 1) := by
  obtain ⟨ht, cur, hb, hc⟩ := h
  refine ⟨ht.trans (own2 := [g]) ⟨rfl, rfl, rfl, by simp, fun k' _ hn => Below.heap_setCell _ _ _ _ (fun e => hn (by simpa using e))⟩ (fun _ h => .inl h), cur.setIfInBounds (off + k) v, ?_, fun j hj hn => ?_⟩
  · rw [block_setCell hb]
  · rw [Array.getElem?_setIfInBounds]
    rw [if_neg (by omega)]
    exact hc j (by omega) hn
theorem over_start {w2 w1 : World} {base g off cap : Nat} {zs : List Int} (hB : Buf w2 base (.slice (some ⟨g, off, none⟩) zs.length cap) zs) (hk : w1.heap[g]? = w2.heap[g]?) : Over w1 w1 g off zs.length zs 0 := by
  obtain ⟨_, ⟨h, _⟩ | ⟨g', off', cap', cur, h, _, hb, _, _, _, hc⟩⟩ := hB
  · cases h
  · cases h
    refine ⟨Turn.refl _ _, cur, hk.trans hb, fun j _ hj => ?_⟩
    have := hc j hj
    simpa [World.cell?, hb] using this
def Rl (w3 W : World) (ai : Option Addr) (gc dn : Nat) (dz : List Int) (k : Nat) : Prop := Turn w3 W (Value.slice ai dn gc).ownBlock.toList ∧ (dn = 0 ∨ ∃ g off, ai = some ⟨g, off, none⟩ ∧ Over w3 W g off dn dz k)
theorem Rl.step {w3 W : World} {g off gc dn : Nat} {dz : List Int} {k : Nat} (h : Rl w3 W (some ⟨g, off, none⟩) gc dn dz k) (hk : k < dn) (v : Value) : Rl w3 (W.setCell ⟨g, off + k, none⟩ v) (some ⟨g, off, none⟩) gc dn dz (k + 1) := by
  obtain ⟨h1, h0 | ⟨g', off', e, ho⟩⟩ := h
  · omega
  · cases e
    have h2 := ho.step v
    exact ⟨h2.1, .inr ⟨g, off, rfl, h2⟩⟩
theorem Rl.drewN {w3 W : World} {ai : Option Addr} {gc dn : Nat} {dz : List Int} {k : Nat} (h : Rl w3 W ai gc dn dz k) (q : Nat) : Rl w3 (W.drewN q) ai gc dn dz k := by
  obtain ⟨h1, h0 | ⟨g', off', e, ho, cur, h3, h4⟩⟩ := h
  · exact ⟨⟨h1.os, h1.tape, h1.output, h1.size, h1.block⟩, .inl h0⟩
  · exact ⟨⟨h1.os, h1.tape, h1.output, h1.size, h1.block⟩, .inr ⟨g', off', e, ⟨ho.os, ho.tape, ho.output, ho.size, ho.block⟩, cur, h3, h4⟩⟩
theorem Rl.turn {w3 W : World} {ai : Option Addr} {gc dn : Nat} {dz : List Int} {k : Nat} (h : Rl w3 W ai gc dn dz k) : Turn w3 W.drew (Value.slice ai dn gc).ownBlock.toList := ⟨h.1.os, h.1.tape, h.1.output, h.1.size, h.1.block⟩
theorem rl_start {w2 w3 : World} {base gc dn : Nat} {ai : Option Addr} {dz : List Int} (hB : Buf w2 base (.slice ai dn gc) dz) (hl : dz.length = dn) (hk : ∀ g, (Value.slice ai dn gc).ownBlock = some g → w3.heap[g]? = w2.heap[g]?) : Rl w3 w3 ai gc dn dz 0 := by
  refine ⟨Turn.refl _ _, ?_⟩
  subst hl
  have hB' := hB
  obtain ⟨_, ⟨h, h0⟩ | ⟨g, off, cap, cur, h, _, hb, _⟩⟩ := hB'
  · exact .inl (by rw [h0]; rfl)
  · injection h with h1 h2 h3
    subst h1
    subst h3
    exact .inr ⟨g, off, rfl, over_start hB (hk g rfl)⟩
/-- behind the first call -/
structure Aft (w w2 w3 : World) (base : Nat) (o : Option St) (C : Obj) (ai : Option Addr) (gc dn : Nat) (dz : List Int) (da : Option Addr) : Prop where
  blk : w3.heap[w.heap.size]? = some C
  hi : Has w3 ai dz
  hd : Has w3 da dz
  rl : Rl w3 w3 ai gc dn dz 0
  fr : ∀ g ∈ (Value.slice ai dn gc).ownBlock.toList, w.heap.size < g
theorem aft_of {w w2 w3 : World} {base : Nat} {o : Option St} {D N : Nat} {c : Cl} {C : Obj} {ai : Option Addr} {gc : Nat} (h : Call1 w base o D N c) (hC : w2.heap[w.heap.size]? = some C) (hB : Buf w2 (w.heap.size + 1) (.slice ai c.d.n gc) c.d.zs) (hl : c.d.zs.length = c.d.n) (hW : Below w.heap.size w w2) (ht : Turn w2 w3 (oown o)) : Aft w w2 w3 base o C ai gc c.d.n c.d.zs c.d.a := by
  have lt := h.po.lt
  have far : ∀ k, w.heap.size ≤ k → k < w2.heap.size → w3.heap[k]? = w2.heap[k]? := fun k h1 h2 => ht.block k h2 (fun hm => by have := (lt k hm).2; omega)
  have hkg : ∀ g, (Value.slice ai c.d.n gc).ownBlock = some g → w3.heap[g]? = w2.heap[g]? := fun g hg => by have := hB.low hg; exact far g (by omega) this.2
  have hB3 := hB.keep hkg
  obtain ⟨ao, cap, hv, _, hp, _⟩ := hB3.form
  injection hv with hv1
  subst hv1
  have hbw : Below base w w3 := (hW.mono h.base).trans (ht.below (Nat.le_trans h.base hW.size) (fun k hk => (lt k hk).1))
  exact ⟨(far _ (Nat.le_refl _) (lt_of_block hC)).trans hC, hp, (h.bs w3 hbw).has, rl_start hB hl hkg, fun g hg => by have := hB.low (g := g) (by simpa using hg); omega⟩
theorem rl_blk {w w3 W : World} {C : Obj} {ai : Option Addr} {gc dn : Nat} {dz : List Int} {k : Nat} (h : Rl w3 W ai gc dn dz k) (hb : w3.heap[w.heap.size]? = some C) (hf : ∀ g ∈ (Value.slice ai dn gc).ownBlock.toList, w.heap.size < g) : W.heap[w.heap.size]? = some C :=
  (h.1.block _ (lt_of_block hb) (fun hm => by have := hf _ hm; omega)).trans hb
set_option maxHeartbeats 4000000 in
theorem does3 (c : Cl) (hk : c.kd = 3) : Does c := by
  intro w base o D N h
  obtain ⟨kd, nm, cn, sd, nn, ⟨da, dn, dc, dz⟩⟩ := c
  dsimp only at hk ⊢
  have hD := h.sz
  dsimp only at hD
  subst hk
  obtain ⟨i0, i0i, hz0, hz1, hz2⟩ := info_parts Try.info5
  obtain ⟨C, hC0⟩ : ∃ C, C = Obj.cells #[.int .i64 3, .string nm, .int .i64 cn, .int .i64 sd, .int .i64 nn, .slice da dn dc] 34 (0, 0) := ⟨_, rfl⟩
  have hbs := h.bs
  dsimp only at hbs
  have bW := hbs w (Below.refl _ _)
  have hB1 : Below w.heap.size w ((w.alloc C).alloc (.cells #[] 5 (0, 0))) := (bel_alloc w C).alloc (by simp) _
  have HP1 : Hid (Has ((w.alloc C).alloc (.cells #[] 5 (0, 0))) da dz) := (hbs _ (hB1.mono h.base)).has
  have HE0 : Hid (Buf ((w.alloc C).alloc (.cells #[] 5 (0, 0))) (w.heap.size + 1) (.slice (some ⟨w.heap.size + 1, 0, none⟩) 0 0) []) := buf_empty w C
  have hlen : Hid (dz.length = dn) := bW.len
  have hbare : Hid (da = none → dc = 0) := bW.bare
  have hoct : Hid (Octets dz) := bW.oct
  have q1 : Hid (([] : List Int).length + dn ≤ 140737488355328) := (by simp; omega : ([] : List Int).length + dn ≤ 140737488355328)
  have q2 : Hid (w.heap.size + 1 ≤ ((w.alloc C).alloc (.cells #[] 5 (0, 0))).heap.size) := (by simp : w.heap.size + 1 ≤ ((w.alloc C).alloc (.cells #[] 5 (0, 0))).heap.size)
  have HH : Hid (Call1 w base o D N ⟨3, nm, cn, sd, nn, ⟨da, dn, dc, dz⟩⟩) := h
  have HG : Hid (∀ v w2, Buf w2 (w.heap.size + 1) v ([] ++ dz) → ((w.alloc C).alloc (.cells #[] 5 (0, 0))).grownBy w2 (Value.slice (some ⟨w.heap.size + 1, 0, none⟩) 0 0).ownBlock → ∃ ai gc, v = .slice ai dn gc ∧ (ai = none → gc = 0) ∧ Has w2 ai dz ∧ Buf w2 (w.heap.size + 1) (.slice ai dn gc) dz ∧ w2.heap[w.heap.size]? = some C ∧ Below w.heap.size w w2) := by
    intro v w2 hb hg
    rw [List.nil_append] at hb
    obtain ⟨ai, gc, hv, hbi, hp, _⟩ := hb.form
    rw [bW.len] at hv
    subst hv
    have e1 : w2.heap[w.heap.size]? = some C := (hg.block _ (by simp; omega) (by simp [Value.ownBlock])).trans ((Below.heap_alloc _ _ _ (by simp)).trans (Go.heap_alloc_new w C))
    exact ⟨ai, gc, rfl, hbi, hp, hb, e1, hB1.grown hg (by simp; omega) (fun k e => by simp [Value.ownBlock] at e; omega)⟩
  clear h hbs bW hB1
  subst hC0
  go_enter Try.func8, Try.ntmps8
  go_upto_region 14 with (at_builtin; refine wpList_append_buf _ rfl (.tmp 97) (.tmp 99) 32 rfl (w.heap.size + 1) i0 Try.underlying32 i0i hz0 hz1 hz2 (.slice (some ⟨w.heap.size + 1, 0, none⟩) 0 0) [] rfl HE0.out da dn dc dz rfl hlen.out hbare.out HP1.out hoct.out q1.out q2.out ?_; intro v2 w2 hb2 hg2 _; obtain ⟨ai, gc, hv, hbi, hp2, hB2, hC2, hW2⟩ := HG.out v2 w2 hb2 hg2; subst hv; clear hb2 hg2)
  have hC' : ∃ E : Int, (0 ≤ E ∧ E ≤ 100) ∧ Calls Try.prog 14 #[.pointer (pn o), .int .i64 cn, .int .i64 sd, .slice ai dn gc] w2 fun e w1 => e = .returned (.int .i64 E) ∧ Aft w w2 w1 base o (Obj.cells #[.int .i64 3, .string nm, .int .i64 cn, .int .i64 sd, .int .i64 nn, .slice da dn dc] 34 (0, 0)) ai gc dn dz da ∧
      ∀ wx, Turn w1 wx (Value.slice ai dn gc).ownBlock.toList → Calls Try.prog 26 #[.pointer (pn' o), .int .i64 cn, .int .i64 sd, .slice da dn dc] wx fun e w2 => e = .returned (.int .i64 E) ∧ Turn wx w2 (oown o) ∧ ∃ o', Mv w w2 base o o' (D + dn) (N + 1) := by
    obtain ⟨E, hE, hC⟩ := write_o HH.out.po hW2 D N HH.out.ob cn sd ai gc (Value.slice ai dn gc).ownBlock.toList dn dz (fun g hg => by have := hB2.low (g := g) (by simpa using hg); omega) hlen.out hbi hp2 hoct.out hD da dc hbare.out (fun W hb => (HH.out.bs W hb).has)
    exact ⟨E, hE, hC.mono fun e w1 ⟨he, ht, hx⟩ => ⟨he, aft_of HH.out hC2 hB2 hlen.out hW2 ht, hx⟩⟩
  obtain ⟨E, hE, hC3⟩ := hC'
  have HE : Hid (0 ≤ E ∧ E ≤ 100) := hE
  have HC3 : Hid (Calls Try.prog 14 #[.pointer (pn o), .int .i64 cn, .int .i64 sd, .slice ai dn gc] w2 fun e w1 => e = .returned (.int .i64 E) ∧ Aft w w2 w1 base o (Obj.cells #[.int .i64 3, .string nm, .int .i64 cn, .int .i64 sd, .int .i64 nn, .slice da dn dc] 34 (0, 0)) ai gc dn dz da ∧
      ∀ wx, Turn w1 wx (Value.slice ai dn gc).ownBlock.toList → Calls Try.prog 26 #[.pointer (pn' o), .int .i64 cn, .int .i64 sd, .slice da dn dc] wx fun e w2 => e = .returned (.int .i64 E) ∧ Turn wx w2 (oown o) ∧ ∃ o', Mv w w2 base o o' (D + dn) (N + 1)) := hC3
  have hdn : dn ≤ 1048576 := by omega
  have HNo : Hid (w.heap.size ∉ oown o) := fun hm => by have := (HH.out.po.lt _ hm).2; omega
  have HS : Hid (dn ≤ 140737488355328) := (by omega : dn ≤ 140737488355328)
  obtain ⟨c0, c1, c2, c3, c4, c5⟩ := six_cells hC2
  clear hE hC3 hB2 hC2 hW2 hp2 hbi HG HE0 HP1 q1 q2 HH hD i0i hz0 hz1 hz2 c0 c1 c4
  go_wp2_with (first | (go_at_call 14; refine HC3.out.mono ?_; rintro e w3 ⟨rfl, hA, hx⟩; have HA : Hid (Aft w w2 w3 base o (Obj.cells #[.int .i64 3, .string nm, .int .i64 cn, .int .i64 sd, .int .i64 nn, .slice da dn dc] 34 (0, 0)) ai gc dn dz da) := hA; have HX : Hid (∀ wx, Turn w3 wx (Value.slice ai dn gc).ownBlock.toList → Calls Try.prog 26 #[.pointer (pn' o), .int .i64 cn, .int .i64 sd, .slice da dn dc] wx fun e w2 => e = .returned (.int .i64 E) ∧ Turn wx w2 (oown o) ∧ ∃ o', Mv w w2 base o o' (D + dn) (N + 1)) := hx; obtain ⟨x0, x1, x2, x3, x4, x5⟩ := six_cells hA.blk; clear hA hx) | (go_at_call 19; refine (same_any ai da dn gc dc dz w3 hlen.out HA.out.hi HA.out.hd HS.out).mono ?_; rintro e w4 ⟨rfl, q4, hw4⟩; have HR4 : Hid (Rl w3 w4 ai gc dn dz 0) := hw4 ▸ HA.out.rl.drewN q4; clear hw4))
  clear x0 x1 x2 x3 x4 x5 c2 c3 c5
  go_loopw [17] (fun t W => ∃ k : Nat, k ≤ dn ∧ t = .int .i64 k ∧ Rl w3 W ai gc dn dz k) (fun t _ => dn - (intOf t).toNat)
  case atStart => exact ⟨0, by omega, rfl, HR4.out⟩
  case round =>
    obtain ⟨k, hk', rfl, hR⟩ := hrel
    have k0 : (0 : Int) ≤ k := by omega
    by_cases hkd : k < dn
    · have hkk : (k : Int) < dn := by omega
      have HR : Hid (Rl w3 wr ai gc dn dz k) := hR
      obtain ⟨_, h0 | ⟨g, off, rfl, ho⟩⟩ := hR
      · omega
      · obtain ⟨y0, z0⟩ := ho.cell hkd
        clear ho
        go_wp2_with fail
        case roundEnd => exact ⟨⟨k + 1, by omega, rfl, HR.out.step hkd _⟩, by simp [intOf]; omega⟩
    · have hkk : ¬ (k : Int) < dn := by omega
      have HT : Hid (Turn w3 wr.drew (Value.slice ai dn gc).ownBlock.toList) := hR.turn
      have hbw := rl_blk hR HA.out.blk HA.out.fr
      have HN : Hid (w.heap.size < wr.drew.heap.size ∧ w.heap.size ∉ oown o ∧ wr.drew.heap[w.heap.size]? = some (Obj.cells #[.int .i64 3, .string nm, .int .i64 cn, .int .i64 sd, .int .i64 nn, .slice da dn dc] 34 (0, 0))) := ⟨lt_of_block hbw, HNo.out, hbw⟩
      obtain ⟨x0, x1, x2, x3, x4, x5⟩ := six_cells hbw
      clear hbw
      clear hR x0 x1 x4
      go_wp2_with fail
      go_region_held3 (fun w' => w'.cell? ⟨w.heap.size, 2, none⟩ = some (.int .i64 cn) ∧ w'.cell? ⟨w.heap.size, 3, none⟩ = some (.int .i64 sd) ∧ w'.cell? ⟨w.heap.size, 5, none⟩ = some (.slice da dn dc)) (go_keep) (first | (go_at_call 20; refine (num_any _ _ HE.out.1 HE.out.2).mono ?_; rintro e w5 ⟨rfl, hw⟩; have hw := hw.symm; subst hw) | (go_at_call 26; refine (HX.out _ HT.out).mono ?_; rintro e w6 ⟨rfl, ht6, hm⟩; have HM : Hid (∃ o', Mv w w6 base o o' (D + dn) (N + 1)) := hm; have HT6 : Hid (Turn wr.drew w6 (oown o)) := ht6; obtain ⟨y0, y1, y2, y3, y4, y5⟩ := six_cells ((HT6.out.block _ HN.out.1 HN.out.2.1).trans HN.out.2.2); clear hm ht6 y0 y1 y4))
      go_wp2_with fail
      go_ret
      exact ⟨rfl, HM.out⟩
end Go.Proofs.Ytcbnmoppnoiggaa
