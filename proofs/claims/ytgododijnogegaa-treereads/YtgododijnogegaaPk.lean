/-
  The document's block: refusals, a scalar.
-/
import Derived.Test.YtgododijnogegaaPb
namespace Go.Proofs.Ytgododijnogegaa
open Go.RowKit
set_option linter.unusedVariables false
set_option linter.unusedSimpArgs false
set_option maxRecDepth 100000
theorem blkM_deep {L : List Tk} {f q made : Nat} {t : Tk} (ht : L[q]? = some t) (h : f = 0 ∨ made = 4096) : blkM L f q made = .bad t.line 92 q made := by
  cases f with
  | zero => rw [blkM, ht]
  | succ f =>
    rw [blkM, ht]
    dsimp only
    rw [if_pos (h.resolve_left (by omega))]
theorem blkM_scalar {L : List Tk} {f q made : Nat} {t : Tk} (ht : L[q]? = some t) (h : ¬ made = 4096) (hk : t.kd = 4) : blkM L (f + 1) q made = .ok (.node 1 ByteArray.empty t.tx t.quo t.line []) (q + 1) (made + 1) := by
  rw [blkM, ht]
  dsimp only
  rw [if_neg h, if_pos hk]
/-- a scalar, in memory -/
theorem leaf_in2 {w w' : World} {rp : Nat} {a : Option Addr} {n cap : Nat} {L : List Tk} {q made : Nat} {ln : Int} {tx : ByteArray} {quo : Bool} {X : World} (hX : Rg X rp a n cap L q 0 0 made) (hb : But rp w X) (hw : w' = X.alloc (.cells #[.int .i64 1, .string ⟨#[]⟩, .string tx, .bool quo, .int .i64 ln, .slice none 0 0] 68)) : RrE w rp a n cap L (.ok (.node 1 ByteArray.empty tx quo ln []) q made) (.returned (.pointer (some ⟨X.heap.size, 0, none⟩))) w' := by
  subst hw
  have hs : (X.alloc (.cells #[.int .i64 1, .string ⟨#[]⟩, .string tx, .bool quo, .int .i64 ln, .slice none 0 0] 68)).heap.size = X.heap.size + 1 := by simp
  have hbl : Below X.heap.size X (X.alloc (.cells #[.int .i64 1, .string ⟨#[]⟩, .string tx, .bool quo, .int .i64 ln, .slice none 0 0] 68)) := (Below.refl _ _).alloc (Nat.le_refl _) _
  refine ⟨X.heap.size, rfl, ?_, hX.below hbl, hb.trans (But.of_below hbl)⟩
  rw [TrIn]
  refine ⟨⟨hb.size, by omega⟩, by decide, .slice none 0 0, [], Go.heap_alloc_new _ _, (fun r h => by cases h), ⟨by simp [ptrs], .inl ⟨rfl, rfl⟩⟩, by rw [TrsIn]⟩
set_option maxHeartbeats 16000000 in
theorem block_few (w : World) (rp : Nat) (a : Option Addr) (n cap : Nat) (L : List Tk) (t : Tk) (q made d f : Nat) (hd : d + f = 17) (h : Rg w rp a n cap L q 0 0 made) (ht : L[q]? = some t) (hc : f = 0 ∨ made = 4096 ∨ t.kd = 4) :
    Calls Try.prog 38 #[.pointer (some ⟨rp, 0, none⟩), .int .i64 d] w (RrE w rp a n cap L (blkM L f q made)) := by
  have hqn : q < n := by have := (List.getElem?_eq_some_iff.1 ht).1; have := h.len; omega
  have hqn' : (q : Int) < n := by omega
  have q0 : (0 : Int) ≤ q := by omega
  have hsm := h.small
  have hmd := h.made
  have hrp := h.lt
  have HXS : Hid (t.tx.size ≤ maxLen) := h.ts.str t (List.mem_of_getElem? ht)
  have HDP := hideL (fun hx => blkM_deep (f := f) (made := made) ht hx)
  have HSC : Hid (∀ g, f = g + 1 → ¬ made = 4096 → t.kd = 4 → blkM L f q made = .ok (.node 1 ByteArray.empty t.tx t.quo t.line []) (q + 1) (made + 1)) := fun g hg h1 h2 => by subst hg; exact blkM_scalar ht h1 h2
  obtain ⟨z0, z1, z2, z3, z4⟩ := h.cells
  rcases h.ts.row with hx | ⟨g, off, rfl, hcc⟩
  · rw [hx] at ht; simp at ht
  have n0 := hcc q t ht 0 _ rfl
  have n1 := hcc q t ht 1 _ rfl
  have n2 := hcc q t ht 2 _ rfl
  have n3 := hcc q t ht 3 _ rfl
  have n4 := hcc q t ht 4 _ rfl
  rw [Nat.add_zero] at n0
  have HR := hideL h
  have HCC := hideL hc
  obtain ⟨R, hR⟩ : ∃ R, blkM L f q made = R := ⟨_, rfl⟩
  rw [hR] at HDP HSC ⊢
  obtain ⟨kt, lt, ct, xt, qt⟩ := t
  dsimp only at n0 n1 n2 n3 n4 HXS HDP HSC
  clear h ht hcc hc hR
  go_enter Try.func38, Try.ntmps38
  go_wp2_with fail
  go_region_held3 (fun w' => w'.cell? ⟨rp, 0, none⟩ = some (.slice (some ⟨g, off, none⟩) n cap) ∧ w'.cell? ⟨rp, 1, none⟩ = some (.int .i64 q) ∧ w'.cell? ⟨g, off + q * 5, none⟩ = some (.int .i64 kt) ∧ w'.cell? ⟨g, off + q * 5 + 1, none⟩ = some (.int .i64 lt) ∧ w'.cell? ⟨g, off + q * 5 + 2, none⟩ = some (.int .i64 ct) ∧ w'.cell? ⟨g, off + q * 5 + 3, none⟩ = some (.string xt) ∧ w'.cell? ⟨g, off + q * 5 + 4, none⟩ = some (.bool qt)) (go_keep) (fail)
  obtain ⟨W3, hW3⟩ : ∃ W3, (w.alloc (Obj.cells #[.int .i64 kt, .int .i64 lt, .int .i64 ct, .string xt, .bool qt] 53)).drew = W3 := ⟨_, rfl⟩
  have hb3 : Below w.heap.size w W3 := by
    rw [← hW3]
    exact ((Below.refl _ _).alloc (Nat.le_refl _) _).trans ⟨rfl, rfl, rfl, Nat.le_refl _, fun _ _ => rfl⟩
  have hk3 : W3.heap[w.heap.size]? = some (.cells #[.int .i64 kt, .int .i64 lt, .int .i64 ct, .string xt, .bool qt] 53 (0, 0)) := by rw [← hW3]; exact Go.heap_alloc_new w _
  have hR3 := HR.out.below hb3
  have HR3 := hideL hR3
  have HB3 := hideL hb3
  obtain ⟨z0', z1', z2', z3', z4'⟩ := hR3.cells
  have f1 := hR3.free 1
  have f4 := hR3.free 4
  obtain ⟨b2, hb2e⟩ : ∃ b2, w.heap.size = b2 := ⟨_, rfl⟩
  rw [hb2e] at hk3 hrp
  have x0 : W3.cell? ⟨b2, 0, none⟩ = some (.int .i64 kt) := by rw [cell_block hk3]; rfl
  have x1 : W3.cell? ⟨b2, 1, none⟩ = some (.int .i64 lt) := by rw [cell_block hk3]; rfl
  have x3 : W3.cell? ⟨b2, 3, none⟩ = some (.string xt) := by rw [cell_block hk3]; rfl
  have x4 : W3.cell? ⟨b2, 4, none⟩ = some (.bool qt) := by rw [cell_block hk3]; rfl
  rw [hW3, hb2e]
  clear z0 z1 z2 z3 z4 n0 n1 n2 n3 n4 hW3 hb3 hR3
  by_cases hf : f = 0
  · have hd16 : (16 : Int) < d := by omega
    have HQ := hideL (HDP.out (.inl hf))
    go_wp2_with fail
    refine (fail_any _ rp _ n cap L q 0 _ lt 92 HR3.out).mono ?_
    rintro e w4 ⟨rfl, hR4, hB4⟩
    go_wp2
    go_ret
    rw [HQ.out]
    exact ⟨rfl, hR4, (But.of_below HB3.out).trans hB4⟩
  have hd16 : ¬ (16 : Int) < d := by omega
  by_cases hm : made = 4096
  · have hmb : ((made : Int) == 4096) = true := by rw [beq_iff_eq]; omega
    have HQ := hideL (HDP.out (.inr hm))
    clear hm
    go_wp2_with fail
    refine (fail_any _ rp _ n cap L q 0 _ lt 92 HR3.out).mono ?_
    rintro e w4 ⟨rfl, hR4, hB4⟩
    go_wp2
    go_ret
    rw [HQ.out]
    exact ⟨rfl, hR4, (But.of_below HB3.out).trans hB4⟩
  have hm' : ((made : Int) == 4096) = false := by rw [beq_eq_false_iff_ne]; omega
  have hk4 : kt = 4 := by
    rcases HCC.out with h1 | h1 | h1
    · exact absurd h1 hf
    · exact absurd h1 hm
    · exact h1
  obtain ⟨f', hf'⟩ : ∃ f', f = f' + 1 := ⟨f - 1, by omega⟩
  have HQ := hideL (HSC.out f' hf' hm hk4)
  subst hk4
  have hX4 := HR3.out.set.2.2.2 (made + 1) (by omega)
  have hX1 := hX4.set.1 (q + 1) (by omega)
  have HX1 := hideL hX1
  have HBX : Hid (But rp w ((W3.setCell ⟨rp, 4, none⟩ (.int .i64 ((made + 1 : Nat) : Int))).setCell ⟨rp, 1, none⟩ (.int .i64 ((q + 1 : Nat) : Int)))) := ((But.of_below HB3.out).trans (But.set 4 _)).trans (But.set 1 _)
  have e41 := hX4.cells.2.1
  have e4f := hX4.free 1
  have oth : ∀ j u, W3.cell? ⟨b2, j, none⟩ = some u → (W3.setCell ⟨rp, 4, none⟩ (.int .i64 ((made : Int) + 1))).cell? ⟨b2, j, none⟩ = some u ∧ ((W3.setCell ⟨rp, 4, none⟩ (.int .i64 ((made : Int) + 1))).setCell ⟨rp, 1, none⟩ (.int .i64 ((q : Int) + 1))).cell? ⟨b2, j, none⟩ = some u := fun j u hu => by
    refine ⟨?_, ?_⟩ <;> rw [← hu]
    · exact World.cell?_of_block (w := W3) (a := ⟨b2, j, none⟩) (Below.heap_setCell _ _ _ _ (by show b2 ≠ rp; omega))
    · exact World.cell?_of_block (w := W3) (a := ⟨b2, j, none⟩) (by rw [Below.heap_setCell _ _ _ _ (by show b2 ≠ rp; omega), Below.heap_setCell _ _ _ _ (by show b2 ≠ rp; omega)])
  obtain ⟨o0, p0⟩ := oth 0 _ x0
  obtain ⟨o1, p1⟩ := oth 1 _ x1
  obtain ⟨o3, p3⟩ := oth 3 _ x3
  obtain ⟨o4, p4⟩ := oth 4 _ x4
  have c41 : (W3.setCell ⟨rp, 4, none⟩ (.int .i64 ((made : Int) + 1))).cell? ⟨rp, 1, none⟩ = some (.int .i64 q) := e41
  have c4f : (W3.setCell ⟨rp, 4, none⟩ (.int .i64 ((made : Int) + 1))).frozen? ⟨rp, 1, none⟩ = false := e4f
  clear oth hX4 hX1 e41 e4f
  go_wp2
  go_ret
  have hxs : ((W3.setCell ⟨rp, 4, none⟩ (.int .i64 ((made + 1 : Nat) : Int))).setCell ⟨rp, 1, none⟩ (.int .i64 ((q + 1 : Nat) : Int))).heap.size = W3.heap.size := by simp
  have hL := leaf_in2 (tx := xt) (quo := qt) (ln := lt) HX1.out HBX.out rfl
  rw [hxs] at hL
  rw [HQ.out]
  exact hL
end Go.Proofs.Ytgododijnogegaa
