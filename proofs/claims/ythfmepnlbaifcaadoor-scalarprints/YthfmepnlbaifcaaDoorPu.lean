/-
  A text printed.
-/
import Derived.Test.YthfmepnlbaifcaaDoorPt
namespace Go.Proofs.YthfmepnlbaifcaaDoor
open Go.RowKit
set_option linter.unusedVariables false
set_option linter.unusedSimpArgs false
def box5 (l : List UInt8) : Obj := .cells #[.int .i64 5, .bool false, .int .i64 0, .float .f64 0, .string ⟨l.toArray⟩] 25
/-- Print's own copy of a text's value, in a world that has only grown -/
structure Gp (l : List UInt8) (w W : World) : Prop where
  cell : W.heap[w.heap.size]? = some (box5 l)
  below : Below w.heap.size w W
  errs : Errs W
theorem Gp.step {l : List UInt8} {w W W' : World} (h : Gp l w W) (hb : Below W.heap.size W W') : Gp l w W' :=
  ⟨hb.cells h.cell, h.below.trans (hb.mono h.below.size), h.errs.below hb⟩
theorem Gp.drewN {l : List UInt8} {w W : World} (h : Gp l w W) (n : Nat) : Gp l w (W.drewN n) :=
  ⟨h.cell, below_drewN h.below n, h.errs⟩
theorem field0 (kk : Int) (b1 : Bool) (i2 : Int) (f3 : Nat) (s : ByteArray) (W : World) : (Instr.field 25 (.agg #[.int .i64 kk, .bool b1, .int .i64 i2, .float .f64 f3, .string s]) 0).run Tryd.prog W = .ok (.int .i64 kk) W := by
  unfold Instr.field
  simp [run_underlying Tryd.underlying25, asAgg, part, isAgg, run_underlying Tryd.underlying3]
set_option maxRecDepth 100000 in
set_option maxHeartbeats 4000000 in
theorem print_text (l : List UInt8) (kk : Int) (b1 : Bool) (i2 : Int) (f3 : Nat) (hx : scV [] (plainF l) = #[.int .i64 kk, .bool b1, .int .i64 i2, .float .f64 f3, .string ⟨#[]⟩]) (w : World) (hs : l.length ≤ 2 ^ 47) (hE : Errs w) :
    Calls Tryd.prog 11 #[.agg #[.int .i64 5, .bool false, .int .i64 0, .float .f64 0, .string ⟨l.toArray⟩]] w fun e w' => e = .returned (.tuple #[.string ⟨l.toArray⟩, .bool (kk != 5), .int .i64 0]) ∧ Below w.heap.size w w' := by
  have HG : Hid (Gp l w (w.alloc (box5 l))) := ⟨heap_alloc_new w _, (Below.refl _ w).alloc (Nat.le_refl _) _, hE.alloc _⟩
  have fr := field0 kk b1 i2 f3 ⟨#[]⟩
  go_enter Tryd.func11, Tryd.ntmps11
  go_wp2
  go_region_with (first
    | (go_at_call 22; refine (cl_at l _ hs).mono ?_; rintro e w1 ⟨rfl, hb⟩; have HG := hide2 (Gp.step (by first | exact HG.out | exact HG.out.drewN 1 | exact HG.out.drewN 2 | exact HG.out.drewN 3) hb); obtain ⟨⟨c0, f0⟩, ⟨c1, f1⟩, ⟨c2, f2⟩, ⟨c3, f3⟩, ⟨c4, f4⟩⟩ := facts5 HG.out.cell; clear hb)
    | (go_at_call 21; refine (plain_at l _ _ _ _ _ hx _ hs (Gp.errs (l := l) (w := w) (by first | exact HG.out | exact HG.out.drewN 1 | exact HG.out.drewN 2 | exact HG.out.drewN 3))).mono ?_; rintro e w1 ⟨rfl, hb⟩; have HG := hide2 (Gp.step (by first | exact HG.out | exact HG.out.drewN 1 | exact HG.out.drewN 2 | exact HG.out.drewN 3) hb); obtain ⟨⟨c0, f0⟩, ⟨c1, f1⟩, ⟨c2, f2⟩, ⟨c3, f3⟩, ⟨c4, f4⟩⟩ := facts5 HG.out.cell; clear hb))
  all_goals
    go_wp2
    go_ret3
    exact ⟨rfl, HG.out.below⟩
end Go.Proofs.YthfmepnlbaifcaaDoor
