/-
  awake.
-/
import Derived.Test.YtjmgngocpokpgaaDoorScx
import Derived.Lib.SlBytesConst
namespace Go.Proofs.YtjmgngocpokpgaaDoor
open Go.RowKit
set_option linter.unusedVariables false
set_option linter.unusedSimpArgs false
def HasM (w : World) : Prop := ∃ m, w.cell? ⟨0, 0, none⟩ = some (.int .i64 m)
theorem HasM.below {w w' : World} {B : Nat} (h : HasM w) (hb : Below B w w') (hB : 0 < B) : HasM w' := by
  obtain ⟨m, hm⟩ := h
  exact ⟨m, (hb.cell (p := ⟨0, 0, none⟩) hB).trans hm⟩
theorem HasM.lt {w : World} (h : HasM w) : 0 < w.heap.size := by
  obtain ⟨m, hm⟩ := h
  exact World.block_lt_of_cell? w _ hm
set_option maxRecDepth 100000 in
set_option maxHeartbeats 4000000 in
theorem awake_any (w : World) (hm : HasM w) : Calls Tryd.prog 21 #[] w fun e w' => e = .returned (.bool true) ∧ Below w.heap.size w w' := by
  have kc := fun (w : World) (C : Array Value) (n c : Nat) => Lib.run_convert_bytes_const (P := Tryd.prog) w 22 5 C n c Tryd.underlying22 Tryd.underlying5
  go_enter Tryd.func21, Tryd.ntmps21
  go_wp2_with fail
  have hw0 := hm.lt
  have b1 : Below w.heap.size w (w.alloc (.cells #[.int .u8 97, .int .u8 58, .int .u8 32, .int .u8 98, .int .u8 10] 5 (5, 6))) := (Below.refl _ w).alloc (Nat.le_refl _) _
  have HH : Has (w.alloc (.cells #[.int .u8 97, .int .u8 58, .int .u8 32, .int .u8 98, .int .u8 10] 5 (5, 6))) (some ⟨w.heap.size, 0, none⟩) (zL [97, 58, 32, 98, 10]) := Has.of_block (zs := [97, 58, 32, 98, 10]) (Go.heap_alloc_new w _)
  have hs1 : (w.alloc (.cells #[.int .u8 97, .int .u8 58, .int .u8 32, .int .u8 98, .int .u8 10] 5 (5, 6))).heap.size = w.heap.size + 1 := by simp
  obtain ⟨w1, hw1⟩ : ∃ W, w.alloc (.cells #[.int .u8 97, .int .u8 58, .int .u8 32, .int .u8 98, .int .u8 10] 5 (5, 6)) = W := ⟨_, rfl⟩
  rw [hw1] at b1 HH hs1 ⊢
  clear hw1
  have hc := scan_any (some ⟨w.heap.size, 0, none⟩) 5 5 [97, 58, 32, 98, 10] w1 rfl HH (by decide) (hm.below b1 hw0)
  rw [told_good] at hc
  refine hc.mono ?_
  rintro e w2 ⟨tv, rfl, hrow, b2⟩
  clear hc HH
  have hrow' : w2.ownsRow w1.heap.size 39 5 tv 2 ([⟨3, 1, 0, [97], false⟩, ⟨4, 1, 3, [98], false⟩].flatMap Tk.row) := hrow
  obtain ⟨g, cv, rfl, _⟩ := hrow'.form (by decide)
  have c0 := row_cell hrow' 0 _ rfl 0 _ (by decide) rfl
  have c3 := row_cell hrow' 0 _ rfl 3 _ (by decide) rfl
  have c5 := row_cell hrow' 1 _ rfl 0 _ (by decide) rfl
  have c8 := row_cell hrow' 1 _ rfl 3 _ (by decide) rfl
  have hg := (hrow'.lt g rfl).2
  have B2 : Below w.heap.size w w2 := b1.trans (b2.mono b1.size)
  have HB2 := hide2 B2
  clear hrow hrow' b1 b2 B2
  have ef : fltOf [okT ⟨3, 1, 0, [97], false⟩, okT ⟨4, 1, 3, [98], false⟩] = (0, 0, 0) := by kernel_rfl
  rw [ef]
  clear ef
  dsimp only at c0 c3 c5 c8 ⊢
  have kc2 := kc (w2.alloc (.cells #[.int .i64 0, .int .i64 0, .int .i64 0] 32)) #[.int .u8 97, .int .u8 58, .int .u8 32, .int .u8 42, .int .u8 10] 5 5
  rw [World.size_alloc] at kc2
  clear kc
  go_wp2_with fail
  have b3 : Below w2.heap.size w2 ((w2.alloc (.cells #[.int .i64 0, .int .i64 0, .int .i64 0] 32)).alloc (.cells #[.int .u8 97, .int .u8 58, .int .u8 32, .int .u8 42, .int .u8 10] 5 (5, 6))) := ((Below.refl _ w2).alloc (Nat.le_refl _) _).alloc (by simp) _
  have hf3 : ((w2.alloc (.cells #[.int .i64 0, .int .i64 0, .int .i64 0] 32)).alloc (.cells #[.int .u8 97, .int .u8 58, .int .u8 32, .int .u8 42, .int .u8 10] 5 (5, 6))).heap[w2.heap.size]? = some (.cells #[.int .i64 0, .int .i64 0, .int .i64 0] 32 (0, 0)) := (Go.heap_alloc_old _ _ (by simp)).trans (Go.heap_alloc_new w2 _)
  have HH : Has ((w2.alloc (.cells #[.int .i64 0, .int .i64 0, .int .i64 0] 32)).alloc (.cells #[.int .u8 97, .int .u8 58, .int .u8 32, .int .u8 42, .int .u8 10] 5 (5, 6))) (some ⟨w2.heap.size + 1, 0, none⟩) (zL [97, 58, 32, 42, 10]) := by
    have := Has.of_block (zs := [97, 58, 32, 42, 10]) (Go.heap_alloc_new (w2.alloc (.cells #[.int .i64 0, .int .i64 0, .int .i64 0] 32)) (.cells #[.int .u8 97, .int .u8 58, .int .u8 32, .int .u8 42, .int .u8 10] 5 (5, 6)))
    rw [World.size_alloc] at this
    exact this
  have hs3 : ((w2.alloc (.cells #[.int .i64 0, .int .i64 0, .int .i64 0] 32)).alloc (.cells #[.int .u8 97, .int .u8 58, .int .u8 32, .int .u8 42, .int .u8 10] 5 (5, 6))).heap.size = w2.heap.size + 2 := by simp
  obtain ⟨w3, hw3⟩ : ∃ W, (w2.alloc (.cells #[.int .i64 0, .int .i64 0, .int .i64 0] 32)).alloc (.cells #[.int .u8 97, .int .u8 58, .int .u8 32, .int .u8 42, .int .u8 10] 5 (5, 6)) = W := ⟨_, rfl⟩
  rw [hw3] at b3 hf3 HH hs3 ⊢
  clear hw3 kc2
  have hc := scan_any (some ⟨w2.heap.size + 1, 0, none⟩) 5 5 [97, 58, 32, 42, 10] w3 rfl HH (by decide) ((hm.below HB2.out hw0).below b3 (by omega))
  rw [told_bad] at hc
  refine hc.mono ?_
  rintro e w4 ⟨tv, rfl, hrow, b4⟩
  clear hc HH
  have B4 : Below w2.heap.size w2 w4 := b3.trans (b4.mono b3.size)
  have f2 : w4.cell? ⟨w2.heap.size, 2, none⟩ = some (.int .i64 0) := cell_of ((b4.block _ (by omega)).trans hf3) 2 _ rfl
  replace c0 := (B4.cell (p := ⟨g, _, none⟩) hg).trans c0
  replace c3 := (B4.cell (p := ⟨g, _, none⟩) hg).trans c3
  replace c5 := (B4.cell (p := ⟨g, _, none⟩) hg).trans c5
  replace c8 := (B4.cell (p := ⟨g, _, none⟩) hg).trans c8
  have hl4 : w2.heap.size + 2 ≤ w4.heap.size := by have := b4.size; omega
  have hg4 : g < w4.heap.size := by omega
  have hl5 : w2.heap.size < w4.heap.size := by omega
  have n1 : ¬ w4.heap.size = g := by omega
  have n2 : ¬ w4.heap.size = w2.heap.size := by omega
  have HB4 := hide2 (HB2.out.trans (B4.mono HB2.out.size))
  clear B4 b4 b3 hf3 hrow HB2
  have ef : fltOf [⟨zTk, 0, 1, 83⟩] = (0, 1, 83) := by kernel_rfl
  rw [ef]
  clear ef
  simp only [Nat.zero_mul, Nat.zero_add, Nat.one_mul, Nat.add_zero] at c0 c3 c5 c8
  go_wp2

  go_ret
  exact ⟨rfl, HB4.out.alloc HB4.out.size _⟩
end Go.Proofs.YtjmgngocpokpgaaDoor
