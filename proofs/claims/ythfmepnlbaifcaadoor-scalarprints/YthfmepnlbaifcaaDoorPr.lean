/-
  The program's Read.
-/
import Derived.Test.YthfmepnlbaifcaaDoorPp
namespace Go.Proofs.YthfmepnlbaifcaaDoor
open Go.RowKit
set_option linter.unusedVariables false
set_option linter.unusedSimpArgs false
/-- two variables of five cells behind a call that leaves what was there -/
theorem aft55 {w W0 W : World} {y0 y1 y2 y3 y4 x0 x1 x2 x3 x4 : Value} {t s : TypeId} (h0 : W0.heap[w.heap.size]? = some (.cells #[y0, y1, y2, y3, y4] s (0, 0))) (h1 : W0.heap[w.heap.size + 1]? = some (.cells #[x0, x1, x2, x3, x4] t (0, 0))) (hw : Below w.heap.size w W0) (hb : Below W0.heap.size W0 W) :
    (W.heap[w.heap.size]? = some (.cells #[y0, y1, y2, y3, y4] s (0, 0)) ∧ W.heap[w.heap.size + 1]? = some (.cells #[x0, x1, x2, x3, x4] t (0, 0)) ∧ Below w.heap.size w W) ∧
    (W.cell? ⟨w.heap.size, 0, none⟩ = some y0 ∧ W.frozen? ⟨w.heap.size, 0, none⟩ = false) ∧
    (W.cell? ⟨w.heap.size, 1, none⟩ = some y1 ∧ W.frozen? ⟨w.heap.size, 1, none⟩ = false) ∧
    (W.cell? ⟨w.heap.size, 2, none⟩ = some y2 ∧ W.frozen? ⟨w.heap.size, 2, none⟩ = false) ∧
    (W.cell? ⟨w.heap.size, 3, none⟩ = some y3 ∧ W.frozen? ⟨w.heap.size, 3, none⟩ = false) ∧
    (W.cell? ⟨w.heap.size, 4, none⟩ = some y4 ∧ W.frozen? ⟨w.heap.size, 4, none⟩ = false) ∧
    (W.cell? ⟨w.heap.size + 1, 0, none⟩ = some x0 ∧ W.frozen? ⟨w.heap.size + 1, 0, none⟩ = false) ∧
    (W.cell? ⟨w.heap.size + 1, 1, none⟩ = some x1 ∧ W.frozen? ⟨w.heap.size + 1, 1, none⟩ = false) ∧
    (W.cell? ⟨w.heap.size + 1, 2, none⟩ = some x2 ∧ W.frozen? ⟨w.heap.size + 1, 2, none⟩ = false) ∧
    (W.cell? ⟨w.heap.size + 1, 3, none⟩ = some x3 ∧ W.frozen? ⟨w.heap.size + 1, 3, none⟩ = false) ∧
    (W.cell? ⟨w.heap.size + 1, 4, none⟩ = some x4 ∧ W.frozen? ⟨w.heap.size + 1, 4, none⟩ = false) := by
  have e0 := hb.cells h0
  have e1 := hb.cells h1
  refine ⟨⟨e0, e1, hw.trans (hb.mono hw.size)⟩, ?_⟩
  refine ⟨⟨?_, ?_⟩, ⟨?_, ?_⟩, ⟨?_, ?_⟩, ⟨?_, ?_⟩, ⟨?_, ?_⟩, ⟨?_, ?_⟩, ⟨?_, ?_⟩, ⟨?_, ?_⟩, ⟨?_, ?_⟩, ⟨?_, ?_⟩⟩ <;> simp [World.cell?, World.frozen?, e0, e1]
theorem plain_at (l : List UInt8) (x0 x1 x2 x3 x4 : Value) (hx : scV [] (plainF l) = #[x0, x1, x2, x3, x4]) (w : World) (hs : l.length ≤ 2 ^ 47) (hE : Errs w) :
    Calls Tryd.prog 21 #[.string ⟨l.toArray⟩] w fun e w' => e = .returned (.agg #[x0, x1, x2, x3, x4]) ∧ Below w.heap.size w w' := by
  rw [← hx]
  exact plain_any l w hs hE
theorem cl_at (l : List UInt8) (w : World) (hs : l.length ≤ 2 ^ 47) :
    Calls Tryd.prog 22 #[.string ⟨l.toArray⟩] w fun e w' => e = .returned (.string ⟨l.toArray⟩) ∧ Below w.heap.size w w' := by
  have hz : (ByteArray.mk l.toArray).size = l.length := rfl
  exact clone_any ⟨l.toArray⟩ w (by omega)
theorem two_below (w : World) (a b : Obj) : Below w.heap.size w ((w.alloc a).alloc b) := ((Below.refl _ w).alloc (Nat.le_refl _) _).alloc (by simp) _
theorem other1 {W : World} {g h : Nat} {o : Obj} (e : W.heap[g]? = some o) (hne : g ≠ h) (i : Nat) (v : Value) : (W.setCell ⟨h, i, none⟩ v).heap[g]? = some o := by
  rw [Below.heap_setCell _ _ _ _ (by show g ≠ h; exact hne)]
  exact e
theorem other5 {W : World} {g h : Nat} {o : Obj} (e : W.heap[g]? = some o) (hne : g ≠ h) (v0 v1 v2 v3 v4 : Value) :
    (((((W.setCell ⟨h, 0, none⟩ v0).setCell ⟨h, 1, none⟩ v1).setCell ⟨h, 2, none⟩ v2).setCell ⟨h, 3, none⟩ v3).setCell ⟨h, 4, none⟩ v4).heap[g]? = some o :=
  other1 (other1 (other1 (other1 (other1 e hne _ _) hne _ _) hne _ _) hne _ _) hne _ _
theorem read_q (l : List UInt8) (w : World) (hs : l.length ≤ 2 ^ 47) :
    Calls Tryd.prog 9 #[.string ⟨l.toArray⟩, .bool true] w fun e w' => e = .returned (.agg (scV l .text)) ∧ Below w.heap.size w w' := by
  have st := st_float
  go_enter Tryd.func9, Tryd.ntmps9
  go_wp2_with (go_at_call 22; refine (cl_at l _ hs).mono ?_; rintro e w' ⟨rfl, hb⟩; obtain ⟨HB, ⟨a0, f0⟩, ⟨a1, f1⟩, ⟨a2, f2⟩, ⟨a3, f3⟩, ⟨a4, f4⟩, ⟨b0, g0⟩, ⟨b1, g1⟩, ⟨b2, g2⟩, ⟨b3, g3⟩, ⟨b4, g4⟩⟩ := aft55 (heap_alloc2_old w _ _) (heap_alloc2_new w _ _) (two_below w _ _) hb; have HB := hide2 HB; clear hb)
  refine bodyPost_ret (res25 rfl _ _ w.heap.size _ rfl (set5 (other1 HB.out.1 (by omega) 4 _) _ _ _ _ _) rfl) rfl ?_
  exact ⟨rfl, set5_below (below_set HB.out.2.2 (by omega) _ _) (Nat.le_refl _) _ _ _ _ _⟩
theorem read_text (l : List UInt8) (w : World) (hs : l.length ≤ 2 ^ 47) (hE : Errs w) (hp : plainF l = .text) :
    Calls Tryd.prog 9 #[.string ⟨l.toArray⟩, .bool false] w fun e w' => e = .returned (.agg (scV l .text)) ∧ Below w.heap.size w w' := by
  have st := st_float
  have hx : scV [] (plainF l) = #[.int .i64 5, .bool false, .int .i64 0, .float .f64 0, .string ⟨#[]⟩] := by rw [hp]; rfl
  clear hp
  go_enter Tryd.func9, Tryd.ntmps9
  go_wp2_with (first
    | (go_at_call 21; refine (plain_at l _ _ _ _ _ hx _ hs ((hE.alloc _).alloc _)).mono ?_; rintro e w' ⟨rfl, hb⟩; obtain ⟨HB, ⟨a0, f0⟩, ⟨a1, f1⟩, ⟨a2, f2⟩, ⟨a3, f3⟩, ⟨a4, f4⟩, ⟨b0, g0⟩, ⟨b1, g1⟩, ⟨b2, g2⟩, ⟨b3, g3⟩, ⟨b4, g4⟩⟩ := aft55 (heap_alloc2_old w _ _) (heap_alloc2_new w _ _) (two_below w _ _) hb; have HB := hide2 HB; clear hb)
    | (go_at_call 22; refine (cl_at l _ hs).mono ?_; rintro e w' ⟨rfl, hb⟩; have HB2 := hide2 (aft55 (other5 HB.out.1 (by omega) _ _ _ _ _) (set5 HB.out.2.1 _ _ _ _ _) (set5_below HB.out.2.2 (by omega) _ _ _ _ _) hb).1; clear a0 f0 b0 g0 a1 f1 b1 g1 a2 f2 b2 g2 a3 f3 b3 g3 a4 f4 b4 g4 HB; obtain ⟨⟨a0, f0⟩, ⟨a1, f1⟩, ⟨a2, f2⟩, ⟨a3, f3⟩, ⟨a4, f4⟩⟩ := facts5 HB2.out.1; obtain ⟨⟨b0, g0⟩, ⟨b1, g1⟩, ⟨b2, g2⟩, ⟨b3, g3⟩, ⟨b4, g4⟩⟩ := facts5 HB2.out.2.1; clear hb))
  refine bodyPost_ret (res25 rfl _ _ w.heap.size _ rfl (set5 (other1 HB2.out.1 (by omega) 4 _) _ _ _ _ _) rfl) rfl ?_
  exact ⟨rfl, set5_below (below_set HB2.out.2.2 (by omega) _ _) (Nat.le_refl _) _ _ _ _ _⟩
theorem read_else (l : List UInt8) (w : World) (hs : l.length ≤ 2 ^ 47) (hE : Errs w) (k : Int) (b : Bool) (i : Int) (x : Nat) (hx : scV [] (plainF l) = #[.int .i64 k, .bool b, .int .i64 i, .float .f64 x, .string ⟨#[]⟩]) (hk : ¬ k = 5) :
    Calls Tryd.prog 9 #[.string ⟨l.toArray⟩, .bool false] w fun e w' => e = .returned (.agg #[.int .i64 k, .bool b, .int .i64 i, .float .f64 x, .string ⟨#[]⟩]) ∧ Below w.heap.size w w' := by
  have st := st_float
  go_enter Tryd.func9, Tryd.ntmps9
  go_wp2_with (first
    | (go_at_call 21; refine (plain_at l _ _ _ _ _ hx _ hs ((hE.alloc _).alloc _)).mono ?_; rintro e w' ⟨rfl, hb⟩; obtain ⟨HB, ⟨a0, f0⟩, ⟨a1, f1⟩, ⟨a2, f2⟩, ⟨a3, f3⟩, ⟨a4, f4⟩, ⟨b0, g0⟩, ⟨b1, g1⟩, ⟨b2, g2⟩, ⟨b3, g3⟩, ⟨b4, g4⟩⟩ := aft55 (heap_alloc2_old w _ _) (heap_alloc2_new w _ _) (two_below w _ _) hb; have HB := hide2 HB; clear hb))
  refine bodyPost_ret (res25 rfl _ _ w.heap.size _ rfl (set5 (other5 HB.out.1 (by omega) _ _ _ _ _) _ _ _ _ _) rfl) rfl ?_
  exact ⟨rfl, set5_below (set5_below HB.out.2.2 (by omega) _ _ _ _ _) (Nat.le_refl _) _ _ _ _ _⟩
theorem read_any (l : List UInt8) (q : Bool) (w : World) (hs : l.length ≤ 2 ^ 47) (hE : Errs w) :
    Calls Tryd.prog 9 #[.string ⟨l.toArray⟩, .bool q] w fun e w' => e = .returned (.agg (scV l (if q = true then .text else plainF l))) ∧ Below w.heap.size w w' := by
  cases q with
  | true => exact read_q l w hs
  | false =>
    rw [if_neg (by decide)]
    rcases hp : plainF l with _ | b | i | x | _
    · exact read_else l w hs hE 1 false 0 0 (by rw [hp]; rfl) (by decide)
    · exact read_else l w hs hE 2 b 0 0 (by rw [hp]; rfl) (by decide)
    · exact read_else l w hs hE 3 false i 0 (by rw [hp]; rfl) (by decide)
    · exact read_else l w hs hE 4 false 0 x (by rw [hp]; rfl) (by decide)
    · exact read_text l w hs hE hp
end Go.Proofs.YthfmepnlbaifcaaDoor
