/-
  A call at both nets.
-/
import Derived.Test.YtcbnmoppnoiggaaPairAny
import Derived.Test.YtcbnmoppnoiggaaCl
import Derived.Deep.RegionHeld3
namespace Go.Proofs.Ytcbnmoppnoiggaa
open Go.RowKit
set_option linter.unusedVariables false
set_option linter.unusedSimpArgs false
set_option maxRecDepth 100000
theorem num_any (e : Int) (w : World) (h0 : 0 ≤ e) (h1 : e ≤ 100) : Calls Try.prog 20 #[.int .i64 e] w fun r w' => r = .returned (.int .i64 e) ∧ w' = w := by
  go_enter Try.func20, Try.ntmps20
  go_wp2
  go_ret
  exact ⟨rfl, rfl⟩
/-- what a call is, and what is handed on -/
structure Call1 (w : World) (base : Nat) (o : Option St) (D N : Nat) (c : Cl) : Prop where
  po : Po w base o
  ob : Ob o D N
  few : N < 1000000000
  sz : D + c.d.n ≤ 1048576
  nm : c.nm.size ≤ maxLen
  wf : (Lit.int .i64 c.nn).wf = true
  nn : c.nn ≤ 9223372036854775807
  bs : ∀ W, Below base w W → Bs W c.d.a c.d.n c.d.cap c.d.zs
  base : base ≤ w.heap.size
abbrev Cl.obj (c : Cl) : Obj := .cells #[.int .i64 c.kd, .string c.nm, .int .i64 c.cn, .int .i64 c.sd, .int .i64 c.nn, .slice c.d.a c.d.n c.d.cap] 34 (0, 0)
theorem c_there {w w1 : World} {base : Nat} {o : Option St} {C : Obj} (h : Po w base o) (ht : Turn (w.alloc C) w1 (oown o)) : w1.heap[w.heap.size]? = some C :=
  (ht.block w.heap.size (by simp) (fun hm => by have := (h.lt _ hm).2; omega)).trans (Go.heap_alloc_new w C)
theorem c_there' {w w1 : World} {base : Nat} {o : Option St} {C : Obj} (h : Po w base o) (ht : Turn (w.alloc C).drew w1 (oown o)) : w1.heap[w.heap.size]? = some C :=
  c_there h ⟨ht.os, ht.tape, ht.output, ht.size, ht.block⟩
theorem six_cells {W : World} {b : Nat} {x0 x1 x2 x3 x4 x5 : Value} (h : W.heap[b]? = some (.cells #[x0, x1, x2, x3, x4, x5] 34 (0, 0))) : W.cell? ⟨b, 0, none⟩ = some x0 ∧ W.cell? ⟨b, 1, none⟩ = some x1 ∧ W.cell? ⟨b, 2, none⟩ = some x2 ∧ W.cell? ⟨b, 3, none⟩ = some x3 ∧ W.cell? ⟨b, 4, none⟩ = some x4 ∧ W.cell? ⟨b, 5, none⟩ = some x5 := by
  simp [World.cell?, h]
theorem bel_alloc (w : World) (C : Obj) : Below w.heap.size w (w.alloc C) := (Below.refl _ _).alloc (Nat.le_refl _) _
theorem Ob.mono {o : Option St} {D D' N N' : Nat} (h : Ob o D N) (hD : D ≤ D') (hN : N ≤ N') : Ob o D' N' := by
  cases o with
  | none => trivial
  | some s => exact ⟨fun r hr t => Nat.le_trans (h.1 r hr t) hD, Nat.le_trans h.2.1 hN, Nat.le_trans h.2.2 hN⟩
theorem Mv.mono {w w' : World} {base : Nat} {o o' : Option St} {D D' N N' : Nat} (h : Mv w w' base o o' D N) (hD : D ≤ D') (hN : N ≤ N') : Mv w w' base o o' D' N' := ⟨h.pr, h.turn, h.sub, h.e, h.e', h.ob.mono hD hN⟩
def Does (c : Cl) : Prop := ∀ (w : World) (base : Nat) (o : Option St) (D N : Nat), Call1 w base o D N c →
  Calls Try.prog 8 #[.pointer (pn o), .pointer (pn' o), .agg #[.int .i64 c.kd, .string c.nm, .int .i64 c.cn, .int .i64 c.sd, .int .i64 c.nn, .slice c.d.a c.d.n c.d.cap]] w fun e w' => e = .returned (.bool true) ∧ ∃ o', Mv w w' base o o' (D + c.d.n) (N + 1)
/-- both calls, behind the call's own block -/
theorem both_calls {w W0 : World} {base : Nat} {o : Option St} {C : Obj} {D N D' : Nat} {f1 f2 : Nat} {a1 a2 : Array Value} {R R' : Ending} (h : Po w base o) (hB : Below w.heap.size w W0) (hW : W0.heap[w.heap.size]? = some C) (hs : w.heap.size < W0.heap.size) (hD : D ≤ D')
    (hC : Calls Try.prog f1 a1 W0 fun e w1 => e = R ∧ Turn W0 w1 (oown o) ∧ ∀ wx, Same wx w1 → Calls Try.prog f2 a2 wx fun e w2 => e = R' ∧ ∃ o', Mv W0 w2 base o o' D (N + 1)) :
    Calls Try.prog f1 a1 W0 fun e w1 => e = R ∧ w1.heap[w.heap.size]? = some C ∧ Calls Try.prog f2 a2 w1 fun e w2 => e = R' ∧ w2.heap[w.heap.size]? = some C ∧ ∃ o', Mv w w2 base o o' D' (N + 1) := by
  have nin : w.heap.size ∉ oown o := fun hm => by have := (h.lt _ hm).2; omega
  exact hC.mono fun e w1 ⟨he, ht, hx⟩ => ⟨he, (ht.block _ hs nin).trans hW, (hx w1 (Same.refl w1)).mono fun e2 w2 ⟨he2, o', hM⟩ => ⟨he2, (hM.turn.block _ hs nin).trans hW, o', (hM.after hB).mono hD (Nat.le_refl _)⟩⟩
set_option maxHeartbeats 4000000 in
theorem does0 (c : Cl) (hk : c.kd = 0) : Does c := by
  intro w base o D N h
  obtain ⟨kd, nm, cn, sd, nn, ⟨da, dn, dc, dz⟩⟩ := c
  dsimp only at hk ⊢
  have hnn := h.wf
  have hD : D ≤ 1048576 := by have := h.sz; omega
  subst hk
  obtain ⟨C, hC0⟩ : ∃ C, C = Obj.cells #[.int .i64 0, .string nm, .int .i64 cn, .int .i64 sd, .int .i64 nn, .slice da dn dc] 34 (0, 0) := ⟨_, rfl⟩
  have hB : Below w.heap.size w (w.alloc C).drew := (bel_alloc w C).drew
  obtain ⟨E, hE, hC⟩ := refuse_o (h.po.below hB) D N h.ob h.few nm nn h.nm h.wf h.nn
  obtain ⟨f0, f1, f2, f3, f4, f5⟩ := six_cells (W := (w.alloc C).drew) (b := w.heap.size) ((Go.heap_alloc_new w C).trans (by rw [hC0]))
  have HC := both_calls (D' := D + dn) h.po hB (Go.heap_alloc_new w C) (by simp) (by omega) hC
  have hE0 := hE
  clear hC h hB
  subst hC0
  replace HC : Hid (Calls Try.prog 21 #[.pointer (pn o), .string nm, .int .i64 nn] ((w.alloc (Obj.cells #[.int .i64 0, .string nm, .int .i64 cn, .int .i64 sd, .int .i64 nn, .slice da dn dc] 34 (0, 0))).drew) fun e w1 => e = .returned (.int .i64 E) ∧ w1.heap[w.heap.size]? = some (Obj.cells #[.int .i64 0, .string nm, .int .i64 cn, .int .i64 sd, .int .i64 nn, .slice da dn dc] 34 (0, 0)) ∧ Calls Try.prog 22 #[.pointer (pn' o), .string nm, .int .i64 nn] w1 fun e w2 => e = .returned (.int .i64 E) ∧ w2.heap[w.heap.size]? = some (Obj.cells #[.int .i64 0, .string nm, .int .i64 cn, .int .i64 sd, .int .i64 nn, .slice da dn dc] 34 (0, 0)) ∧ ∃ o', Mv w w2 base o o' (D + dn) (N + 1)) := HC
  have HE : Hid (0 ≤ E ∧ E ≤ 100) := hE
  clear hE0
  clear hE
  go_enter Try.func8, Try.ntmps8
  go_wp2_with fail
  go_region_held3 (fun w' => w'.cell? ⟨w.heap.size, 1, none⟩ = some (.string nm) ∧ w'.cell? ⟨w.heap.size, 4, none⟩ = some (.int .i64 nn)) (go_keep) (first | (go_at_call 21; refine HC.out.mono ?_; rintro e w1 ⟨rfl, hb1, hc2⟩; have HC2 : Hid (Calls Try.prog 22 #[.pointer (pn' o), .string nm, .int .i64 nn] w1 fun e w2 => e = .returned (.int .i64 E) ∧ w2.heap[w.heap.size]? = some (Obj.cells #[.int .i64 0, .string nm, .int .i64 cn, .int .i64 sd, .int .i64 nn, .slice da dn dc] 34 (0, 0)) ∧ ∃ o', Mv w w2 base o o' (D + dn) (N + 1)) := hc2; have HB1 : Hid (w1.heap[w.heap.size]? = some (Obj.cells #[.int .i64 0, .string nm, .int .i64 cn, .int .i64 sd, .int .i64 nn, .slice da dn dc] 34 (0, 0))) := hb1; obtain ⟨x0, x1, x2, x3, x4, x5⟩ := six_cells HB1.out; clear hc2 hb1) | (go_at_call 20; refine (num_any _ _ HE.out.1 HE.out.2).mono ?_; rintro e w5 ⟨rfl, hw⟩; have hw := hw.symm; subst hw) | (go_at_call 22; refine HC2.out.mono ?_; rintro e w2 ⟨rfl, hb2, hm⟩; have HM : Hid (∃ o', Mv w w2 base o o' (D + dn) (N + 1)) := hm; have HB2 : Hid (w2.heap[w.heap.size]? = some (Obj.cells #[.int .i64 0, .string nm, .int .i64 cn, .int .i64 sd, .int .i64 nn, .slice da dn dc] 34 (0, 0))) := hb2; obtain ⟨y0, y1, y2, y3, y4, y5⟩ := six_cells HB2.out; clear hm hb2))
  go_wp2_with fail
  go_ret
  exact ⟨rfl, HM.out⟩
set_option maxHeartbeats 4000000 in
theorem does1 (c : Cl) (hk : c.kd = 1) : Does c := by
  intro w base o D N h
  obtain ⟨kd, nm, cn, sd, nn, ⟨da, dn, dc, dz⟩⟩ := c
  dsimp only at hk ⊢
  have hnn := h.wf
  have hD : D ≤ 1048576 := by have := h.sz; omega
  subst hk
  obtain ⟨C, hC0⟩ : ∃ C, C = Obj.cells #[.int .i64 1, .string nm, .int .i64 cn, .int .i64 sd, .int .i64 nn, .slice da dn dc] 34 (0, 0) := ⟨_, rfl⟩
  have hB : Below w.heap.size w (w.alloc C) := bel_alloc w C
  obtain ⟨K, E, hE, hC⟩ := dial_o (h.po.below hB) D N h.ob h.few nm h.nm
  obtain ⟨f0, f1, f2, f3, f4, f5⟩ := six_cells (W := (w.alloc C)) (b := w.heap.size) ((Go.heap_alloc_new w C).trans (by rw [hC0]))
  have HC := both_calls (D' := D + dn) h.po hB (Go.heap_alloc_new w C) (by simp) (by omega) hC
  have hE0 := hE
  clear hC h hB
  subst hC0
  replace HC : Hid (Calls Try.prog 13 #[.pointer (pn o), .string nm] ((w.alloc (Obj.cells #[.int .i64 1, .string nm, .int .i64 cn, .int .i64 sd, .int .i64 nn, .slice da dn dc] 34 (0, 0)))) fun e w1 => e = .returned (.tuple #[.int .i64 K, .int .i64 E]) ∧ w1.heap[w.heap.size]? = some (Obj.cells #[.int .i64 1, .string nm, .int .i64 cn, .int .i64 sd, .int .i64 nn, .slice da dn dc] 34 (0, 0)) ∧ Calls Try.prog 23 #[.pointer (pn' o), .string nm] w1 fun e w2 => e = .returned (.tuple #[.int .i64 K, .int .i64 E]) ∧ w2.heap[w.heap.size]? = some (Obj.cells #[.int .i64 1, .string nm, .int .i64 cn, .int .i64 sd, .int .i64 nn, .slice da dn dc] 34 (0, 0)) ∧ ∃ o', Mv w w2 base o o' (D + dn) (N + 1)) := HC
  have HE : Hid (0 ≤ E ∧ E ≤ 100) := hE
  clear hE0
  clear hE
  go_enter Try.func8, Try.ntmps8
  go_wp2_with (first | (go_at_call 13; refine HC.out.mono ?_; rintro e w1 ⟨rfl, hb1, hc2⟩; have HC2 : Hid (Calls Try.prog 23 #[.pointer (pn' o), .string nm] w1 fun e w2 => e = .returned (.tuple #[.int .i64 K, .int .i64 E]) ∧ w2.heap[w.heap.size]? = some (Obj.cells #[.int .i64 1, .string nm, .int .i64 cn, .int .i64 sd, .int .i64 nn, .slice da dn dc] 34 (0, 0)) ∧ ∃ o', Mv w w2 base o o' (D + dn) (N + 1)) := hc2; have HB1 : Hid (w1.heap[w.heap.size]? = some (Obj.cells #[.int .i64 1, .string nm, .int .i64 cn, .int .i64 sd, .int .i64 nn, .slice da dn dc] 34 (0, 0))) := hb1; obtain ⟨x0, x1, x2, x3, x4, x5⟩ := six_cells HB1.out; clear hc2 hb1) | (go_at_call 20; refine (num_any _ _ HE.out.1 HE.out.2).mono ?_; rintro e w5 ⟨rfl, hw⟩; have hw := hw.symm; subst hw) | (go_at_call 23; refine HC2.out.mono ?_; rintro e w2 ⟨rfl, hb2, hm⟩; have HM : Hid (∃ o', Mv w w2 base o o' (D + dn) (N + 1)) := hm; have HB2 : Hid (w2.heap[w.heap.size]? = some (Obj.cells #[.int .i64 1, .string nm, .int .i64 cn, .int .i64 sd, .int .i64 nn, .slice da dn dc] 34 (0, 0))) := hb2; obtain ⟨y0, y1, y2, y3, y4, y5⟩ := six_cells HB2.out; clear hm hb2))
  go_ret
  exact ⟨rfl, HM.out⟩
set_option maxHeartbeats 4000000 in
theorem does2 (c : Cl) (hk : c.kd = 2) : Does c := by
  intro w base o D N h
  obtain ⟨kd, nm, cn, sd, nn, ⟨da, dn, dc, dz⟩⟩ := c
  dsimp only at hk ⊢
  have hnn := h.wf
  have hD : D ≤ 1048576 := by have := h.sz; omega
  subst hk
  obtain ⟨C, hC0⟩ : ∃ C, C = Obj.cells #[.int .i64 2, .string nm, .int .i64 cn, .int .i64 sd, .int .i64 nn, .slice da dn dc] 34 (0, 0) := ⟨_, rfl⟩
  have hB : Below w.heap.size w (w.alloc C) := bel_alloc w C
  obtain ⟨K, q, hC⟩ := accept_o (h.po.below hB) D N h.ob nm
  obtain ⟨f0, f1, f2, f3, f4, f5⟩ := six_cells (W := (w.alloc C)) (b := w.heap.size) ((Go.heap_alloc_new w C).trans (by rw [hC0]))
  have HC := both_calls (D' := D + dn) h.po hB (Go.heap_alloc_new w C) (by simp) (by omega) hC
  have hE0 := True.intro
  clear hC h hB
  subst hC0
  replace HC : Hid (Calls Try.prog 24 #[.pointer (pn o), .string nm] ((w.alloc (Obj.cells #[.int .i64 2, .string nm, .int .i64 cn, .int .i64 sd, .int .i64 nn, .slice da dn dc] 34 (0, 0)))) fun e w1 => e = .returned (.tuple #[.int .i64 K, .bool q]) ∧ w1.heap[w.heap.size]? = some (Obj.cells #[.int .i64 2, .string nm, .int .i64 cn, .int .i64 sd, .int .i64 nn, .slice da dn dc] 34 (0, 0)) ∧ Calls Try.prog 25 #[.pointer (pn' o), .string nm] w1 fun e w2 => e = .returned (.tuple #[.int .i64 K, .bool q]) ∧ w2.heap[w.heap.size]? = some (Obj.cells #[.int .i64 2, .string nm, .int .i64 cn, .int .i64 sd, .int .i64 nn, .slice da dn dc] 34 (0, 0)) ∧ ∃ o', Mv w w2 base o o' (D + dn) (N + 1)) := HC
  clear hE0
  go_enter Try.func8, Try.ntmps8
  go_wp2_with (first | (go_at_call 24; refine HC.out.mono ?_; rintro e w1 ⟨rfl, hb1, hc2⟩; have HC2 : Hid (Calls Try.prog 25 #[.pointer (pn' o), .string nm] w1 fun e w2 => e = .returned (.tuple #[.int .i64 K, .bool q]) ∧ w2.heap[w.heap.size]? = some (Obj.cells #[.int .i64 2, .string nm, .int .i64 cn, .int .i64 sd, .int .i64 nn, .slice da dn dc] 34 (0, 0)) ∧ ∃ o', Mv w w2 base o o' (D + dn) (N + 1)) := hc2; have HB1 : Hid (w1.heap[w.heap.size]? = some (Obj.cells #[.int .i64 2, .string nm, .int .i64 cn, .int .i64 sd, .int .i64 nn, .slice da dn dc] 34 (0, 0))) := hb1; obtain ⟨x0, x1, x2, x3, x4, x5⟩ := six_cells HB1.out; clear hc2 hb1) | (go_at_call 25; refine HC2.out.mono ?_; rintro e w2 ⟨rfl, hb2, hm⟩; have HM : Hid (∃ o', Mv w w2 base o o' (D + dn) (N + 1)) := hm; have HB2 : Hid (w2.heap[w.heap.size]? = some (Obj.cells #[.int .i64 2, .string nm, .int .i64 cn, .int .i64 sd, .int .i64 nn, .slice da dn dc] 34 (0, 0))) := hb2; obtain ⟨y0, y1, y2, y3, y4, y5⟩ := six_cells HB2.out; clear hm hb2))
  go_ret
  exact ⟨rfl, HM.out⟩
set_option maxHeartbeats 4000000 in
theorem does4 (c : Cl) (hk : c.kd = 4) : Does c := by
  intro w base o D N h
  obtain ⟨kd, nm, cn, sd, nn, ⟨da, dn, dc, dz⟩⟩ := c
  dsimp only at hk ⊢
  have hnn := h.wf
  have hD : D ≤ 1048576 := by have := h.sz; omega
  subst hk
  obtain ⟨C, hC0⟩ : ∃ C, C = Obj.cells #[.int .i64 4, .string nm, .int .i64 cn, .int .i64 sd, .int .i64 nn, .slice da dn dc] 34 (0, 0) := ⟨_, rfl⟩
  have hB : Below w.heap.size w (w.alloc C).drew := (bel_alloc w C).drew
  obtain ⟨E, hE, hC⟩ := close_o (h.po.below hB) D N h.ob hD cn sd
  obtain ⟨f0, f1, f2, f3, f4, f5⟩ := six_cells (W := (w.alloc C).drew) (b := w.heap.size) ((Go.heap_alloc_new w C).trans (by rw [hC0]))
  have HC := both_calls (D' := D + dn) h.po hB (Go.heap_alloc_new w C) (by simp) (by omega) hC
  have hE0 := hE
  clear hC h hB
  subst hC0
  replace HC : Hid (Calls Try.prog 17 #[.pointer (pn o), .int .i64 cn, .int .i64 sd] ((w.alloc (Obj.cells #[.int .i64 4, .string nm, .int .i64 cn, .int .i64 sd, .int .i64 nn, .slice da dn dc] 34 (0, 0))).drew) fun e w1 => e = .returned (.int .i64 E) ∧ w1.heap[w.heap.size]? = some (Obj.cells #[.int .i64 4, .string nm, .int .i64 cn, .int .i64 sd, .int .i64 nn, .slice da dn dc] 34 (0, 0)) ∧ Calls Try.prog 27 #[.pointer (pn' o), .int .i64 cn, .int .i64 sd] w1 fun e w2 => e = .returned (.int .i64 E) ∧ w2.heap[w.heap.size]? = some (Obj.cells #[.int .i64 4, .string nm, .int .i64 cn, .int .i64 sd, .int .i64 nn, .slice da dn dc] 34 (0, 0)) ∧ ∃ o', Mv w w2 base o o' (D + dn) (N + 1)) := HC
  have HE : Hid (0 ≤ E ∧ E ≤ 100) := hE
  clear hE0
  clear hE
  go_enter Try.func8, Try.ntmps8
  go_wp2_with fail
  go_region_held3 (fun w' => w'.cell? ⟨w.heap.size, 2, none⟩ = some (.int .i64 cn) ∧ w'.cell? ⟨w.heap.size, 3, none⟩ = some (.int .i64 sd)) (go_keep) (first | (go_at_call 17; refine HC.out.mono ?_; rintro e w1 ⟨rfl, hb1, hc2⟩; have HC2 : Hid (Calls Try.prog 27 #[.pointer (pn' o), .int .i64 cn, .int .i64 sd] w1 fun e w2 => e = .returned (.int .i64 E) ∧ w2.heap[w.heap.size]? = some (Obj.cells #[.int .i64 4, .string nm, .int .i64 cn, .int .i64 sd, .int .i64 nn, .slice da dn dc] 34 (0, 0)) ∧ ∃ o', Mv w w2 base o o' (D + dn) (N + 1)) := hc2; have HB1 : Hid (w1.heap[w.heap.size]? = some (Obj.cells #[.int .i64 4, .string nm, .int .i64 cn, .int .i64 sd, .int .i64 nn, .slice da dn dc] 34 (0, 0))) := hb1; obtain ⟨x0, x1, x2, x3, x4, x5⟩ := six_cells HB1.out; clear hc2 hb1) | (go_at_call 20; refine (num_any _ _ HE.out.1 HE.out.2).mono ?_; rintro e w5 ⟨rfl, hw⟩; have hw := hw.symm; subst hw) | (go_at_call 27; refine HC2.out.mono ?_; rintro e w2 ⟨rfl, hb2, hm⟩; have HM : Hid (∃ o', Mv w w2 base o o' (D + dn) (N + 1)) := hm; have HB2 : Hid (w2.heap[w.heap.size]? = some (Obj.cells #[.int .i64 4, .string nm, .int .i64 cn, .int .i64 sd, .int .i64 nn, .slice da dn dc] 34 (0, 0))) := hb2; obtain ⟨y0, y1, y2, y3, y4, y5⟩ := six_cells HB2.out; clear hm hb2))
  go_wp2_with fail
  go_ret
  exact ⟨rfl, HM.out⟩
set_option maxHeartbeats 4000000 in
theorem does5 (c : Cl) (hk : c.kd = 5) : Does c := by
  intro w base o D N h
  obtain ⟨kd, nm, cn, sd, nn, ⟨da, dn, dc, dz⟩⟩ := c
  dsimp only at hk ⊢
  have hnn := h.wf
  have hD : D ≤ 1048576 := by have := h.sz; omega
  subst hk
  obtain ⟨C, hC0⟩ : ∃ C, C = Obj.cells #[.int .i64 5, .string nm, .int .i64 cn, .int .i64 sd, .int .i64 nn, .slice da dn dc] 34 (0, 0) := ⟨_, rfl⟩
  have hB : Below w.heap.size w (w.alloc C) := bel_alloc w C
  obtain ⟨K, E, hE, hC⟩ := pass_o (h.po.below hB) D N h.ob hD cn sd nn
  obtain ⟨f0, f1, f2, f3, f4, f5⟩ := six_cells (W := (w.alloc C)) (b := w.heap.size) ((Go.heap_alloc_new w C).trans (by rw [hC0]))
  have HC := both_calls (D' := D + dn) h.po hB (Go.heap_alloc_new w C) (by simp) (by omega) hC
  have hE0 := hE
  clear hC h hB
  subst hC0
  replace HC : Hid (Calls Try.prog 15 #[.pointer (pn o), .int .i64 cn, .int .i64 sd, .int .i64 nn] ((w.alloc (Obj.cells #[.int .i64 5, .string nm, .int .i64 cn, .int .i64 sd, .int .i64 nn, .slice da dn dc] 34 (0, 0)))) fun e w1 => e = .returned (.tuple #[.int .i64 K, .int .i64 E]) ∧ w1.heap[w.heap.size]? = some (Obj.cells #[.int .i64 5, .string nm, .int .i64 cn, .int .i64 sd, .int .i64 nn, .slice da dn dc] 34 (0, 0)) ∧ Calls Try.prog 28 #[.pointer (pn' o), .int .i64 cn, .int .i64 sd, .int .i64 nn] w1 fun e w2 => e = .returned (.tuple #[.int .i64 K, .int .i64 E]) ∧ w2.heap[w.heap.size]? = some (Obj.cells #[.int .i64 5, .string nm, .int .i64 cn, .int .i64 sd, .int .i64 nn, .slice da dn dc] 34 (0, 0)) ∧ ∃ o', Mv w w2 base o o' (D + dn) (N + 1)) := HC
  have HE : Hid (0 ≤ E ∧ E ≤ 100) := hE
  clear hE0
  clear hE
  go_enter Try.func8, Try.ntmps8
  go_wp2_with (first | (go_at_call 15; refine HC.out.mono ?_; rintro e w1 ⟨rfl, hb1, hc2⟩; have HC2 : Hid (Calls Try.prog 28 #[.pointer (pn' o), .int .i64 cn, .int .i64 sd, .int .i64 nn] w1 fun e w2 => e = .returned (.tuple #[.int .i64 K, .int .i64 E]) ∧ w2.heap[w.heap.size]? = some (Obj.cells #[.int .i64 5, .string nm, .int .i64 cn, .int .i64 sd, .int .i64 nn, .slice da dn dc] 34 (0, 0)) ∧ ∃ o', Mv w w2 base o o' (D + dn) (N + 1)) := hc2; have HB1 : Hid (w1.heap[w.heap.size]? = some (Obj.cells #[.int .i64 5, .string nm, .int .i64 cn, .int .i64 sd, .int .i64 nn, .slice da dn dc] 34 (0, 0))) := hb1; obtain ⟨x0, x1, x2, x3, x4, x5⟩ := six_cells HB1.out; clear hc2 hb1) | (go_at_call 20; refine (num_any _ _ HE.out.1 HE.out.2).mono ?_; rintro e w5 ⟨rfl, hw⟩; have hw := hw.symm; subst hw) | (go_at_call 28; refine HC2.out.mono ?_; rintro e w2 ⟨rfl, hb2, hm⟩; have HM : Hid (∃ o', Mv w w2 base o o' (D + dn) (N + 1)) := hm; have HB2 : Hid (w2.heap[w.heap.size]? = some (Obj.cells #[.int .i64 5, .string nm, .int .i64 cn, .int .i64 sd, .int .i64 nn, .slice da dn dc] 34 (0, 0))) := hb2; obtain ⟨y0, y1, y2, y3, y4, y5⟩ := six_cells HB2.out; clear hm hb2))
  go_ret
  exact ⟨rfl, HM.out⟩
set_option maxHeartbeats 4000000 in
theorem does7 (c : Cl) (hk : c.kd = 7) : Does c := by
  intro w base o D N h
  obtain ⟨kd, nm, cn, sd, nn, ⟨da, dn, dc, dz⟩⟩ := c
  dsimp only at hk ⊢
  have hnn := h.wf
  have hD : D ≤ 1048576 := by have := h.sz; omega
  subst hk
  obtain ⟨C, hC0⟩ : ∃ C, C = Obj.cells #[.int .i64 7, .string nm, .int .i64 cn, .int .i64 sd, .int .i64 nn, .slice da dn dc] 34 (0, 0) := ⟨_, rfl⟩
  have hB : Below w.heap.size w (w.alloc C).drew := (bel_alloc w C).drew
  obtain ⟨E, hE, hC⟩ := cut_o (h.po.below hB) D N h.ob cn
  obtain ⟨f0, f1, f2, f3, f4, f5⟩ := six_cells (W := (w.alloc C).drew) (b := w.heap.size) ((Go.heap_alloc_new w C).trans (by rw [hC0]))
  have HC := both_calls (D' := D + dn) h.po hB (Go.heap_alloc_new w C) (by simp) (by omega) hC
  have hE0 := hE
  clear hC h hB
  subst hC0
  replace HC : Hid (Calls Try.prog 18 #[.pointer (pn o), .int .i64 cn] ((w.alloc (Obj.cells #[.int .i64 7, .string nm, .int .i64 cn, .int .i64 sd, .int .i64 nn, .slice da dn dc] 34 (0, 0))).drew) fun e w1 => e = .returned (.int .i64 E) ∧ w1.heap[w.heap.size]? = some (Obj.cells #[.int .i64 7, .string nm, .int .i64 cn, .int .i64 sd, .int .i64 nn, .slice da dn dc] 34 (0, 0)) ∧ Calls Try.prog 30 #[.pointer (pn' o), .int .i64 cn] w1 fun e w2 => e = .returned (.int .i64 E) ∧ w2.heap[w.heap.size]? = some (Obj.cells #[.int .i64 7, .string nm, .int .i64 cn, .int .i64 sd, .int .i64 nn, .slice da dn dc] 34 (0, 0)) ∧ ∃ o', Mv w w2 base o o' (D + dn) (N + 1)) := HC
  have HE : Hid (0 ≤ E ∧ E ≤ 100) := hE
  clear hE0
  clear hE
  go_enter Try.func8, Try.ntmps8
  go_wp2_with fail
  go_region_held3 (fun w' => w'.cell? ⟨w.heap.size, 2, none⟩ = some (.int .i64 cn)) (go_keep) (first | (go_at_call 18; refine HC.out.mono ?_; rintro e w1 ⟨rfl, hb1, hc2⟩; have HC2 : Hid (Calls Try.prog 30 #[.pointer (pn' o), .int .i64 cn] w1 fun e w2 => e = .returned (.int .i64 E) ∧ w2.heap[w.heap.size]? = some (Obj.cells #[.int .i64 7, .string nm, .int .i64 cn, .int .i64 sd, .int .i64 nn, .slice da dn dc] 34 (0, 0)) ∧ ∃ o', Mv w w2 base o o' (D + dn) (N + 1)) := hc2; have HB1 : Hid (w1.heap[w.heap.size]? = some (Obj.cells #[.int .i64 7, .string nm, .int .i64 cn, .int .i64 sd, .int .i64 nn, .slice da dn dc] 34 (0, 0))) := hb1; obtain ⟨x0, x1, x2, x3, x4, x5⟩ := six_cells HB1.out; clear hc2 hb1) | (go_at_call 20; refine (num_any _ _ HE.out.1 HE.out.2).mono ?_; rintro e w5 ⟨rfl, hw⟩; have hw := hw.symm; subst hw) | (go_at_call 30; refine HC2.out.mono ?_; rintro e w2 ⟨rfl, hb2, hm⟩; have HM : Hid (∃ o', Mv w w2 base o o' (D + dn) (N + 1)) := hm; have HB2 : Hid (w2.heap[w.heap.size]? = some (Obj.cells #[.int .i64 7, .string nm, .int .i64 cn, .int .i64 sd, .int .i64 nn, .slice da dn dc] 34 (0, 0))) := hb2; obtain ⟨y0, y1, y2, y3, y4, y5⟩ := six_cells HB2.out; clear hm hb2))
  go_wp2_with fail
  go_ret
  exact ⟨rfl, HM.out⟩
end Go.Proofs.Ytcbnmoppnoiggaa
