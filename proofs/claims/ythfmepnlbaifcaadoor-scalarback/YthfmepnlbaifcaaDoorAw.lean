/-
  awake.
-/
import Derived.Test.YthfmepnlbaifcaaDoorPu
namespace Go.Proofs.YthfmepnlbaifcaaDoor
open Go.RowKit
set_option linter.unusedVariables false
set_option linter.unusedSimpArgs false
theorem read_at (l : List UInt8) (q : Bool) (sc : Sc) (hsc : (if q = true then .text else plainF l) = sc) (cs : Array Value) (hcs : scV l sc = cs) (w : World) (hs : l.length ≤ 2 ^ 47) (hE : Errs w) :
    Calls Tryd.prog 9 #[.string ⟨l.toArray⟩, .bool q] w fun e w' => e = .returned (.agg cs) ∧ Below w.heap.size w w' := by
  subst hsc hcs
  exact read_any l q w hs hE
theorem pf1 : plainF [45, 49, 50] = .int (-12) := by kernel_rfl
theorem pf2 : plainF [48, 48, 55] = .text := by kernel_rfl
theorem pf3 : plainF [49, 46, 53, 101, 45, 51] = .real X0 := by kernel_rfl
theorem pf4 : plainF [49, 50] = .int 12 := by kernel_rfl
theorem stp {n : Nat} {w W W' : World} (h : n ≤ W.heap.size ∧ Below n w W ∧ Errs W) (hb : Below W.heap.size W W') : n ≤ W'.heap.size ∧ Below n w W' ∧ Errs W' :=
  ⟨Nat.le_trans h.1 hb.size, h.2.1.trans (hb.mono h.1), h.2.2.below hb⟩
theorem pr_all (kk : Int) (x : Nat) (t : ByteArray) (E : Ending)
    (h : (kk = 5 ∧ x = 0 ∧ t = ⟨#[49, 50]⟩ ∧ E = .returned (.tuple #[.string ⟨#[49, 50]⟩, .bool true, .int .i64 0])) ∨ (kk = 4 ∧ x = X0 ∧ t = ⟨#[]⟩ ∧ E = .returned (.tuple #[.string ⟨#[48, 46, 48, 48, 49, 53]⟩, .bool false, .int .i64 0])) ∨ (kk = 9 ∧ x = 0 ∧ t = ⟨#[]⟩ ∧ E = .returned (.tuple #[.string ⟨#[]⟩, .bool false, .int .i64 2])))
    (w : World) (hE : Errs w) :
    Calls Tryd.prog 11 #[.agg #[.int .i64 kk, .bool false, .int .i64 0, .float .f64 x, .string t]] w fun e w' => e = E ∧ Below w.heap.size w w' := by
  rcases h with ⟨rfl, rfl, rfl, rfl⟩ | ⟨rfl, rfl, rfl, rfl⟩ | ⟨rfl, rfl, rfl, rfl⟩
  · exact print_text [49, 50] 3 false 12 0 (by rw [pf4]; rfl) w (by decide) hE
  · exact print_real w
  · exact print_nine w
theorem rd_all (t : ByteArray) (E : Ending)
    (h : (t = ⟨#[45, 49, 50]⟩ ∧ E = .returned (.agg #[.int .i64 3, .bool false, .int .i64 (-12), .float .f64 0, .string ⟨#[]⟩])) ∨ (t = ⟨#[48, 48, 55]⟩ ∧ E = .returned (.agg #[.int .i64 5, .bool false, .int .i64 0, .float .f64 0, .string ⟨#[48, 48, 55]⟩])) ∨ (t = ⟨#[49, 46, 53, 101, 45, 51]⟩ ∧ E = .returned (.agg #[.int .i64 4, .bool false, .int .i64 0, .float .f64 X0, .string ⟨#[]⟩])))
    (w : World) (hE : Errs w) :
    Calls Tryd.prog 9 #[.string t, .bool false] w fun e w' => e = E ∧ Below w.heap.size w w' := by
  rcases h with ⟨rfl, rfl⟩ | ⟨rfl, rfl⟩ | ⟨rfl, rfl⟩
  · exact read_at [45, 49, 50] false _ pf1 _ rfl w (by decide) hE
  · exact read_at [48, 48, 55] false _ pf2 _ rfl w (by decide) hE
  · exact read_at [49, 46, 53, 101, 45, 51] false _ pf3 _ rfl w (by decide) hE
theorem eqf' (n x y : Nat) (W : World) : (Op.equalIn (n + 1) 23 (.float .f64 x) (.float .f64 y)).run Tryd.prog W = .ok (FloatKind.f64.format.order x y == some .eq) W := by
  unfold Op.equalIn
  simp only [Sem.run_bind, run_underlying Tryd.underlying23, Result.andThen_ok]
  rfl
theorem eqf (x y : Nat) (W : World) : (Op.equalIn 9999 23 (.float .f64 x) (.float .f64 y)).run Tryd.prog W = .ok (FloatKind.f64.format.order x y == some .eq) W := eqf' 9998 x y W
set_option maxRecDepth 100000 in
set_option maxHeartbeats 4000000 in
theorem awake_any (w : World) (hE : Errs w) : Calls Tryd.prog 16 #[] w fun e w' => e = .returned (.bool true) ∧ Below w.heap.size w w' := by
  have HW : Hid (w.heap.size ≤ w.heap.size ∧ Below w.heap.size w w ∧ Errs w) := ⟨Nat.le_refl _, Below.refl _ _, hE⟩
  have fr := field0 5 false 0 0 ⟨#[48, 48, 55]⟩
  have e0 : ∀ W : World, (Op.equalIn 9999 23 (.float .f64 0) (.float .f64 0)).run Tryd.prog W = .ok true W := fun W => (eqf 0 0 W).trans (by rw [show (FloatKind.f64.format.order 0 0 == some .eq) = true by decide +kernel])
  have e1 : ∀ W : World, (Op.equalIn 9999 23 (.float .f64 4564560351926583034) (.float .f64 4564560351926583034)).run Tryd.prog W = .ok true W := fun W => (eqf _ _ W).trans (by rw [show (FloatKind.f64.format.order 4564560351926583034 4564560351926583034 == some .eq) = true by decide +kernel])
  clear hE
  go_enter Tryd.func16, Tryd.ntmps16
  go_wp2_with (first
    | (go_at_call 11; refine (pr_all _ _ _ _ (by first | exact .inl ⟨rfl, rfl, rfl, rfl⟩ | exact .inr (.inl ⟨rfl, rfl, rfl, rfl⟩) | exact .inr (.inr ⟨rfl, rfl, rfl, rfl⟩)) _ HW.out.2.2).mono ?_; rintro e w1 ⟨rfl, hb⟩; have HW := hide2 (stp HW.out hb); clear hb)
    | (go_at_call 9; refine (rd_all _ _ (by first | exact .inl ⟨rfl, rfl⟩ | exact .inr (.inl ⟨rfl, rfl⟩) | exact .inr (.inr ⟨rfl, rfl⟩)) _ HW.out.2.2).mono ?_; rintro e w1 ⟨rfl, hb⟩; have HW := hide2 (stp HW.out hb); clear hb))
  go_ret
  exact ⟨rfl, HW.out.2.1⟩
end Go.Proofs.YthfmepnlbaifcaaDoor
