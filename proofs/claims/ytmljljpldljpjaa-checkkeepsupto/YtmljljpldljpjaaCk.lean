/-
  Check.
-/
import Derived.Test.YtmljljpldljpjaaFo
namespace Go.Proofs.Ytmljljpldljpjaa
open Go.RowKit
set_option linter.unusedVariables false
set_option linter.unusedSimpArgs false
set_option maxRecDepth 100000
theorem f3_cells {W : World} {b : Nat} {x0 x1 x2 : Value} {t : TypeId} (h : W.heap[b]? = some (.cells #[x0, x1, x2] t (0, 0))) : W.cell? ⟨b, 0, none⟩ = some x0 ∧ W.cell? ⟨b, 1, none⟩ = some x1 ∧ W.cell? ⟨b, 2, none⟩ = some x2 := by
  refine ⟨?_, ?_, ?_⟩ <;> (rw [cell_block h]; rfl)
/-- what Check tells of a fault -/
def ChB (w : World) (x : Nat × Nat × Int) (e : Ending) (w' : World) : Prop := e = .returned (.tuple #[.slice none 0 0, fltV x]) ∧ Below w.heap.size w w'
set_option maxHeartbeats 16000000 in
theorem check_bad (w : World) (a : Option Addr) (n c : Nat) (x : Nat × Nat × Int) (hx : x.2.2 ≠ 0)
    (hF : ∀ W, Below w.heap.size w W → Calls Try.prog 31 #[.slice a n c] W fun e w' => FaE W (fltV x) e w') :
    Calls Try.prog 14 #[.slice a n c] w fun e w' => ChB w x e w' := by
  have HF := hideL hF
  obtain ⟨i, k, x⟩ := x
  unfold fltV at HF
  unfold ChB fltV
  dsimp only at HF hx ⊢
  have hx' : (x != 0) = true := by simpa using hx
  obtain ⟨w1, hw1⟩ : ∃ X, w.alloc f0 = X := ⟨_, rfl⟩
  have HB1 : Hid (Below w.heap.size w w1) := by rw [← hw1]; exact (Gr.alloc _ _).below
  have HX1 : Hid (w1.heap[w.heap.size]? = some f0) := by rw [← hw1]; exact heap_alloc_new w _
  unfold f0 at hw1
  obtain ⟨B, hB⟩ : ∃ B, w.heap.size = B := ⟨_, rfl⟩
  rw [hB] at HX1
  clear hF hx
  go_enter Try.func14, Try.ntmps14
  go_wp2_with fail
  refine (HF.out w1 HB1.out).mono ?_
  rintro e w2 ⟨rfl, hb2⟩
  have HX2 := hideL (hb2.cells HX1.out)
  have HB2 := hideL (HB1.out.trans (hb2.mono HB1.out.size))
  clear hb2 hw1 HX1
  go_wp2_with fail
  obtain ⟨w3, hw3⟩ : ∃ X, w2.alloc (.cells #[.int .i64 i, .int .i64 k, .int .i64 x] 33 (0, 0)) = X := ⟨_, rfl⟩
  rw [hw3]
  have HB3 : Hid (Below w.heap.size w w3) := by rw [← hw3]; exact HB2.out.trans ((Gr.alloc _ _).below.mono HB2.out.size)
  have HX3 : Hid (w3.heap[B]? = some f0) := by rw [← hw3]; exact (Gr.alloc _ _).below.cells HX2.out
  obtain ⟨z0, z1, z2⟩ : w3.cell? ⟨w2.heap.size, 0, none⟩ = some (.int .i64 i) ∧ w3.cell? ⟨w2.heap.size, 1, none⟩ = some (.int .i64 k) ∧ w3.cell? ⟨w2.heap.size, 2, none⟩ = some (.int .i64 x) := by
    rw [← hw3]; exact f3_cells (heap_alloc_new w2 _)
  clear hw3
  obtain ⟨⟨f0, f1, f2⟩, ⟨g0, g1, g2⟩, ⟨k0, k1, k2⟩, hbut, -⟩ := set3 HX3.out (.int .i64 i) (.int .i64 k) (.int .i64 x)
  have HBT := hideL hbut
  clear hbut
  go_region
  go_wp2
  refine bodyPost_ret (v := .tuple #[.slice none 0 0, .agg #[.int .i64 i, .int .i64 k, .int .i64 x]]) (by simp [results, Try.results14, go_sem, k0, k1, k2]) rfl ⟨rfl, ?_⟩
  exact (HB3.out.trans (HBT.out.below HB3.out.size (by omega))).trans ((Gr.drewN _ 1).below.mono (HB3.out.trans (HBT.out.below HB3.out.size (by omega))).size)
end Go.Proofs.Ytmljljpldljpjaa
