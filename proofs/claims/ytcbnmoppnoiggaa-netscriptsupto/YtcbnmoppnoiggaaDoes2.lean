/-
  A call at both nets: Read, Write, and any other kind.
-/
import Derived.Test.YtcbnmoppnoiggaaDoes
namespace Go.Proofs.Ytcbnmoppnoiggaa
open Go.RowKit
set_option linter.unusedVariables false
set_option linter.unusedSimpArgs false
set_option maxRecDepth 100000
theorem Mv.drewN {w w' : World} {base : Nat} {o o' : Option St} {D N : Nat} (h : Mv w w' base o o' D N) (q : Nat) : Mv w (w'.drewN q) base o o' D N :=
  ⟨h.pr.far fun _ _ => rfl, ⟨h.turn.os, h.turn.tape, h.turn.output, h.turn.size, h.turn.block⟩, h.sub, h.e, h.e', h.ob⟩
set_option maxHeartbeats 4000000 in
theorem does8 (c : Cl) (hk : c.kd ≠ 0 ∧ c.kd ≠ 1 ∧ c.kd ≠ 2 ∧ c.kd ≠ 3 ∧ c.kd ≠ 4 ∧ c.kd ≠ 5 ∧ c.kd ≠ 6 ∧ c.kd ≠ 7) : Does c := by
  intro w base o D N h
  obtain ⟨kd, nm, cn, sd, nn, ⟨da, dn, dc, dz⟩⟩ := c
  dsimp only at hk ⊢
  obtain ⟨n0, n1, n2, n3, n4, n5, n6, n7⟩ := hk
  have HM : Hid (∃ o', Mv w (w.alloc (Obj.cells #[.int .i64 kd, .string nm, .int .i64 cn, .int .i64 sd, .int .i64 nn, .slice da dn dc] 34 (0, 0))) base o o' (D + dn) (N + 1)) := by
    have hB := bel_alloc w (Obj.cells #[.int .i64 kd, .string nm, .int .i64 cn, .int .i64 sd, .int .i64 nn, .slice da dn dc] 34 (0, 0))
    exact ⟨o, h.po.below hB, ⟨hB.os, hB.tape, hB.output, hB.size, fun k hk _ => hB.block k hk⟩, fun k hk => .inl hk, rfl, rfl, h.ob.mono (by omega) (by omega)⟩
  clear h
  go_enter Try.func8, Try.ntmps8
  go_wp2_with fail
  go_ret
  exact ⟨rfl, HM.out⟩
set_option maxHeartbeats 4000000 in
theorem does6 (c : Cl) (hk : c.kd = 6) : Does c := by
  intro w base o D N h
  obtain ⟨kd, nm, cn, sd, nn, ⟨da, dn, dc, dz⟩⟩ := c
  dsimp only at hk ⊢
  have hD : D ≤ 1048576 := by have := h.sz; omega
  subst hk
  obtain ⟨C, hC0⟩ : ∃ C, C = Obj.cells #[.int .i64 6, .string nm, .int .i64 cn, .int .i64 sd, .int .i64 nn, .slice da dn dc] 34 (0, 0) := ⟨_, rfl⟩
  have hB : Below w.heap.size w (w.alloc C) := bel_alloc w C
  obtain ⟨E, q, zs, hE, hz, hC⟩ := read_o (h.po.below hB) D N h.ob hD cn sd
  have nin : w.heap.size ∉ oown o := fun hm => by have := (h.po.lt _ hm).2; omega
  have HC : Calls Try.prog 16 #[.pointer (pn o), .int .i64 cn, .int .i64 sd] (w.alloc C) fun e w1 => ∃ av cv, e = .returned (.tuple #[.slice av zs.length cv, .bool q, .int .i64 E]) ∧ w1.heap[w.heap.size]? = some C ∧
      Calls Try.prog 29 #[.pointer (pn' o), .int .i64 cn, .int .i64 sd] w1 fun e w2 => ∃ av' cv', e = .returned (.tuple #[.slice av' zs.length cv', .bool q, .int .i64 E]) ∧ Has w2 av zs ∧ Has w2 av' zs ∧ ∃ o', Mv w w2 base o o' (D + dn) (N + 1) :=
    hC.mono fun e w1 ⟨av, cv, he, ht, hx⟩ => ⟨av, cv, he, (ht.block _ (by simp) nin).trans (Go.heap_alloc_new w C), (hx w1 (Same.refl w1)).mono fun e2 w2 ⟨av', cv', he2, h1, h2, o', hM⟩ => ⟨av', cv', he2, h1, h2, o', (hM.after hB).mono (by omega) (Nat.le_refl _)⟩⟩
  obtain ⟨Z, hZ⟩ : ∃ Z, zs.length = Z := ⟨_, rfl⟩
  rw [hZ] at HC
  have HZ : Hid (zs.length = Z ∧ Z ≤ 140737488355328) := ⟨hZ, by omega⟩
  have HE : Hid (0 ≤ E ∧ E ≤ 100) := hE
  clear hC h hB hE hZ hz nin
  subst hC0
  have HC : Hid (Calls Try.prog 16 #[.pointer (pn o), .int .i64 cn, .int .i64 sd] (w.alloc (Obj.cells #[.int .i64 6, .string nm, .int .i64 cn, .int .i64 sd, .int .i64 nn, .slice da dn dc] 34 (0, 0))) fun e w1 => ∃ av cv, e = .returned (.tuple #[.slice av Z cv, .bool q, .int .i64 E]) ∧ w1.heap[w.heap.size]? = some (Obj.cells #[.int .i64 6, .string nm, .int .i64 cn, .int .i64 sd, .int .i64 nn, .slice da dn dc] 34 (0, 0)) ∧
      Calls Try.prog 29 #[.pointer (pn' o), .int .i64 cn, .int .i64 sd] w1 fun e w2 => ∃ av' cv', e = .returned (.tuple #[.slice av' Z cv', .bool q, .int .i64 E]) ∧ Has w2 av zs ∧ Has w2 av' zs ∧ ∃ o', Mv w w2 base o o' (D + dn) (N + 1)) := HC
  go_enter Try.func8, Try.ntmps8
  go_wp2_with (first | (go_at_call 16; refine HC.out.mono ?_; rintro e w1 ⟨av, cv, rfl, hb1, hc2⟩; have HC2 : Hid (Calls Try.prog 29 #[.pointer (pn' o), .int .i64 cn, .int .i64 sd] w1 fun e w2 => ∃ av' cv', e = .returned (.tuple #[.slice av' Z cv', .bool q, .int .i64 E]) ∧ Has w2 av zs ∧ Has w2 av' zs ∧ ∃ o', Mv w w2 base o o' (D + dn) (N + 1)) := hc2; obtain ⟨x0, x1, x2, x3, x4, x5⟩ := six_cells hb1; clear hc2 hb1) | (go_at_call 29; refine HC2.out.mono ?_; rintro e w2 ⟨av', cv', rfl, h1, h2, hm⟩; have HM : Hid (∃ o', Mv w w2 base o o' (D + dn) (N + 1)) := hm; have HH : Hid (Has w2 av zs ∧ Has w2 av' zs) := ⟨h1, h2⟩; clear hm h1 h2) | (go_at_call 19; refine (same_any av av' Z cv cv' zs w2 HZ.out.1 HH.out.1 HH.out.2 HZ.out.2).mono ?_; rintro e w3 ⟨rfl, q3, hw3⟩; have HW3 : Hid (w3 = w2.drewN q3) := hw3; clear hw3) | (go_at_call 20; refine (num_any _ _ HE.out.1 HE.out.2).mono ?_; rintro e w5 ⟨rfl, hw⟩; have hw := hw.symm; subst hw))
  go_ret
  obtain ⟨o', hM⟩ := HM.out
  refine ⟨rfl, o', ?_⟩
  rw [HW3.out]
  exact hM.drewN q3
end Go.Proofs.Ytcbnmoppnoiggaa
