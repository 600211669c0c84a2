/-
  PathsPatterns: the walk.
-/
import Derived.Test.YtplbdnndpgfljaaPf
namespace Go.Proofs.Ytplbdnndpgfljaa
open Go.RowKit
set_option linter.unusedVariables false
set_option linter.unusedSimpArgs false
set_option maxRecDepth 100000
theorem at_below {f : Nat} {args : Array Value} {w : World} {b : Bool} (h : Calls Try.prog f args w fun e w' => e = .returned (.bool b) ∧ w' = w) : Calls Try.prog f args w fun e w' => e = .returned (.bool b) ∧ Below w.heap.size w w' :=
  h.mono fun e w' ⟨h1, h2⟩ => ⟨h1, by rw [h2]; exact Below.refl _ _⟩
theorem below_two {w w1 w2 : World} (h : Below w.heap.size w w1) (h2 : Below w1.heap.size w1 w2) : Below w.heap.size w w2 := h.trans (h2.mono h.size)
set_option maxHeartbeats 4000000 in
theorem patterns_any (l : List UInt8) (w : World) (hs : l.length ≤ 2 ^ 62) : Calls Try.prog 3 #[.string ⟨l.toArray⟩] w fun e w' => e = .returned (.bool true) ∧ Below w.heap.size w w' := by
  have h9 := fun w => fold_any l w hs
  have h10 := fun w => rfold_any l w hs
  have h11 := fun w => hostPattern_any l w hs
  have h12 := fun w => rhostPattern_any l w hs
  have h13 := fun w => at_below (pathPattern_any l w hs)
  have h14 := fun w => at_below (rpathPattern_any l w hs)
  have h15 := fun w => at_below (methodPattern_any l w hs)
  have h16 := fun w => at_below (rmethodPattern_any l w hs)
  generalize fdF l = t at h9 h10
  generalize hostB l = b at h9 h10
  generalize hpB l = b1 at h11 h12
  generalize ppB l = b2 at h13 h14
  generalize mpB l = b3 at h15 h16
  have HB := hide2 (Below.refl w.heap.size w)
  go_enter Try.func3, Try.ntmps3
  go_wp2_with fail
  refine (h9 _).mono ?_; rintro e w1 ⟨rfl, hb⟩
  replace HB := hide2 (below_two HB.out hb)
  clear hb
  go_wp2_with fail
  refine (h10 _).mono ?_; rintro e w2 ⟨rfl, hb⟩
  replace HB := hide2 (below_two HB.out hb)
  clear hb
  go_wp2_with fail
  refine (h11 _).mono ?_; rintro e w3 ⟨rfl, hb⟩
  replace HB := hide2 (below_two HB.out hb)
  clear hb
  go_wp2_with fail
  refine (h12 _).mono ?_; rintro e w4 ⟨rfl, hb⟩
  replace HB := hide2 (below_two HB.out hb)
  clear hb
  go_wp2_with fail
  refine (h13 _).mono ?_; rintro e w5 ⟨rfl, hb⟩
  replace HB := hide2 (below_two HB.out hb)
  clear hb
  go_wp2_with fail
  refine (h14 _).mono ?_; rintro e w6 ⟨rfl, hb⟩
  replace HB := hide2 (below_two HB.out hb)
  clear hb
  go_wp2_with fail
  refine (h15 _).mono ?_; rintro e w7 ⟨rfl, hb⟩
  replace HB := hide2 (below_two HB.out hb)
  clear hb
  go_wp2_with fail
  refine (h16 _).mono ?_; rintro e w8 ⟨rfl, hb⟩
  replace HB := hide2 (below_two HB.out hb)
  clear hb
  go_wp2
  go_ret
  exact ⟨rfl, HB.out⟩
end Go.Proofs.Ytplbdnndpgfljaa
