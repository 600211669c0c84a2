/-
  PathsChain: the walk.
-/
import Derived.Test.YtplbdnndpgfljaaPq
namespace Go.Proofs.Ytplbdnndpgfljaa
open Go.RowKit
set_option linter.unusedVariables false
set_option linter.unusedSimpArgs false
set_option maxRecDepth 100000
theorem cov_zero {a b : List UInt8} (h1 : covM a b = true) (h2 : covM b a = true) : ordM a b = 0 := by
  have := cov_eq (pat_of a) (pat_of b) h1 h2
  rw [ordM, this]; exact cmp_refl _
theorem cov_both {a b : List UInt8} (h1 : covM a b = true) : hpB a = true ∧ hpB b = true := by
  rw [covM, cov_iff] at h1
  rw [hp_iff, hp_iff]; exact ⟨h1.1, h1.2.1⟩
set_option maxHeartbeats 8000000 in
theorem chain_law (a b c : List UInt8) (w : World) (g1 : a.length ≤ 2 ^ 61) (g2 : b.length ≤ 2 ^ 61) (g3 : c.length ≤ 2 ^ 61) : Calls Try.prog 8 #[.string ⟨a.toArray⟩, .string ⟨b.toArray⟩, .string ⟨c.toArray⟩] w fun e w' => e = .returned (.bool true) ∧ Below w.heap.size w w' := by
  have h1 : a.length ≤ 2 ^ 62 := by omega
  have h2 : b.length ≤ 2 ^ 62 := by omega
  have h3 : c.length ≤ 2 ^ 62 := by omega
  have k0 := fun w => awake_any w
  have kaa := fun w => coversHost_any a a w h1 h1
  have ku := fun w => hostPattern_any a w h1
  have kv := fun w => hostPattern_any b w h2
  have paa := fun w => at_below (coversPath_any a a w h1 h1)
  have pu := fun w => at_below (pathPattern_any a w h1)
  have maa := fun w => at_below (coversMethod_any a a w h1)
  have mu := fun w => at_below (methodPattern_any a w h1)
  rw [cov_refl] at kaa
  rw [cp_refl] at paa
  rw [cm_refl] at maa
  have kx1 := fun w => coversHost_any a b w h1 h2
  have kx2 := fun w => coversHost_any b c w h2 h3
  have kx3 := fun w => coversHost_any a c w h1 h3
  have kx4 := fun w => coversHost_any b a w h2 h1
  have ko := fun w => order_any a b w h1 h2
  have ky1 := fun w => at_below (coversPath_any a b w h1 h2)
  have ky2 := fun w => at_below (coversPath_any b c w h2 h3)
  have ky3 := fun w => at_below (coversPath_any a c w h1 h3)
  have ky4 := fun w => at_below (coversPath_any b a w h2 h1)
  have F1 := hide2 (@cov_trans a b c)
  have F2 := hide2 (@cp_trans a b c)
  have F3 := hide2 (@cov_zero a b)
  have F4 := hide2 (@cp_anti a b)
  have F5 := hide2 (@cov_both a b)
  generalize covM a b = x1 at kx1 F1 F3 F5
  generalize covM b c = x2 at kx2 F1
  generalize covM a c = x3 at kx3 F1
  generalize covM b a = x4 at kx4 F3
  generalize ordM a b = o at ko F3
  generalize cpM a b = y1 at ky1 F2 F4
  generalize cpM b c = y2 at ky2 F2
  generalize cpM a c = y3 at ky3 F2
  generalize cpM b a = y4 at ky4 F4
  generalize hpB a = u at kaa ku F5
  generalize hpB b = v at kv F5
  generalize ppB a = pb at paa pu
  generalize mpB a = mb at maa mu
  have HB := hide2 (Below.refl w.heap.size w)
  go_enter Try.func8, Try.ntmps8
  go_wp2_with fail
  refine (k0 _).mono ?_; rintro e w1 ⟨rfl, hb⟩
  replace HB := hide2 (below_two HB.out hb)
  clear hb
  go_wp2_with fail
  refine (kaa _).mono ?_; rintro e w1 ⟨rfl, hb⟩
  replace HB := hide2 (below_two HB.out hb)
  clear hb
  go_wp2_with fail
  refine (ku _).mono ?_; rintro e w1 ⟨rfl, hb⟩
  replace HB := hide2 (below_two HB.out hb)
  clear hb
  go_wp2_with fail
  refine (paa _).mono ?_; rintro e w1 ⟨rfl, hb⟩
  replace HB := hide2 (below_two HB.out hb)
  clear hb
  go_wp2_with fail
  refine (pu _).mono ?_; rintro e w1 ⟨rfl, hb⟩
  replace HB := hide2 (below_two HB.out hb)
  clear hb
  go_wp2_with fail
  refine (maa _).mono ?_; rintro e w1 ⟨rfl, hb⟩
  replace HB := hide2 (below_two HB.out hb)
  clear hb
  go_wp2_with fail
  refine (mu _).mono ?_; rintro e w1 ⟨rfl, hb⟩
  replace HB := hide2 (below_two HB.out hb)
  clear hb
  cases x1 with
  | false =>
    go_wp2_with fail
    refine (kx1 _).mono ?_; rintro e w1 ⟨rfl, hb⟩
    replace HB := hide2 (below_two HB.out hb)
    clear hb
    cases y1 with
    | false =>
      go_wp2_with fail
      refine (ky1 _).mono ?_; rintro e w1 ⟨rfl, hb⟩
      replace HB := hide2 (below_two HB.out hb)
      clear hb
      go_wp2_with fail
      refine (kx1 _).mono ?_; rintro e w1 ⟨rfl, hb⟩
      replace HB := hide2 (below_two HB.out hb)
      clear hb
      go_wp2_with fail
      refine (ky1 _).mono ?_; rintro e w1 ⟨rfl, hb⟩
      replace HB := hide2 (below_two HB.out hb)
      clear hb
      go_wp2_with fail
      refine (kx1 _).mono ?_; rintro e w1 ⟨rfl, hb⟩
      replace HB := hide2 (below_two HB.out hb)
      clear hb
      go_wp2
      go_ret
      exact ⟨rfl, HB.out⟩
    | true =>
      go_wp2_with fail
      refine (ky1 _).mono ?_; rintro e w1 ⟨rfl, hb⟩
      replace HB := hide2 (below_two HB.out hb)
      clear hb
      cases y2 with
      | false =>
        go_wp2_with fail
        refine (ky2 _).mono ?_; rintro e w1 ⟨rfl, hb⟩
        replace HB := hide2 (below_two HB.out hb)
        clear hb
        go_wp2_with fail
        refine (kx1 _).mono ?_; rintro e w1 ⟨rfl, hb⟩
        replace HB := hide2 (below_two HB.out hb)
        clear hb
        go_wp2_with fail
        refine (ky1 _).mono ?_; rintro e w1 ⟨rfl, hb⟩
        replace HB := hide2 (below_two HB.out hb)
        clear hb
        cases y4 with
        | false =>
          go_wp2_with fail
          refine (ky4 _).mono ?_; rintro e w1 ⟨rfl, hb⟩
          replace HB := hide2 (below_two HB.out hb)
          clear hb
          go_wp2_with fail
          refine (kx1 _).mono ?_; rintro e w1 ⟨rfl, hb⟩
          replace HB := hide2 (below_two HB.out hb)
          clear hb
          go_wp2
          go_ret
          exact ⟨rfl, HB.out⟩
        | true =>
          go_wp2_with fail
          refine (ky4 _).mono ?_; rintro e w1 ⟨rfl, hb⟩
          replace HB := hide2 (below_two HB.out hb)
          clear hb
          have hab : (a == b) = true := by rw [F4.out (by first | rfl | trivial) (by first | rfl | trivial)]; simp
          go_wp2_with fail
          refine (kx1 _).mono ?_; rintro e w1 ⟨rfl, hb⟩
          replace HB := hide2 (below_two HB.out hb)
          clear hb
          go_wp2
          go_ret
          exact ⟨rfl, HB.out⟩
      | true =>
        go_wp2_with fail
        refine (ky2 _).mono ?_; rintro e w1 ⟨rfl, hb⟩
        replace HB := hide2 (below_two HB.out hb)
        clear hb
        obtain rfl : y3 = true := F2.out (by first | rfl | trivial) (by first | rfl | trivial)
        go_wp2_with fail
        refine (ky3 _).mono ?_; rintro e w1 ⟨rfl, hb⟩
        replace HB := hide2 (below_two HB.out hb)
        clear hb
        go_wp2_with fail
        refine (kx1 _).mono ?_; rintro e w1 ⟨rfl, hb⟩
        replace HB := hide2 (below_two HB.out hb)
        clear hb
        go_wp2_with fail
        refine (ky1 _).mono ?_; rintro e w1 ⟨rfl, hb⟩
        replace HB := hide2 (below_two HB.out hb)
        clear hb
        cases y4 with
        | false =>
          go_wp2_with fail
          refine (ky4 _).mono ?_; rintro e w1 ⟨rfl, hb⟩
          replace HB := hide2 (below_two HB.out hb)
          clear hb
          go_wp2_with fail
          refine (kx1 _).mono ?_; rintro e w1 ⟨rfl, hb⟩
          replace HB := hide2 (below_two HB.out hb)
          clear hb
          go_wp2
          go_ret
          exact ⟨rfl, HB.out⟩
        | true =>
          go_wp2_with fail
          refine (ky4 _).mono ?_; rintro e w1 ⟨rfl, hb⟩
          replace HB := hide2 (below_two HB.out hb)
          clear hb
          have hab : (a == b) = true := by rw [F4.out (by first | rfl | trivial) (by first | rfl | trivial)]; simp
          go_wp2_with fail
          refine (kx1 _).mono ?_; rintro e w1 ⟨rfl, hb⟩
          replace HB := hide2 (below_two HB.out hb)
          clear hb
          go_wp2
          go_ret
          exact ⟨rfl, HB.out⟩
  | true =>
    go_wp2_with fail
    refine (kx1 _).mono ?_; rintro e w1 ⟨rfl, hb⟩
    replace HB := hide2 (below_two HB.out hb)
    clear hb
    cases x2 with
    | false =>
      go_wp2_with fail
      refine (kx2 _).mono ?_; rintro e w1 ⟨rfl, hb⟩
      replace HB := hide2 (below_two HB.out hb)
      clear hb
      cases y1 with
      | false =>
        go_wp2_with fail
        refine (ky1 _).mono ?_; rintro e w1 ⟨rfl, hb⟩
        replace HB := hide2 (below_two HB.out hb)
        clear hb
        go_wp2_with fail
        refine (kx1 _).mono ?_; rintro e w1 ⟨rfl, hb⟩
        replace HB := hide2 (below_two HB.out hb)
        clear hb
        cases x4 with
        | false =>
          go_wp2_with fail
          refine (kx4 _).mono ?_; rintro e w1 ⟨rfl, hb⟩
          replace HB := hide2 (below_two HB.out hb)
          clear hb
          go_wp2_with fail
          refine (ky1 _).mono ?_; rintro e w1 ⟨rfl, hb⟩
          replace HB := hide2 (below_two HB.out hb)
          clear hb
          go_wp2_with fail
          refine (kx1 _).mono ?_; rintro e w1 ⟨rfl, hb⟩
          replace HB := hide2 (below_two HB.out hb)
          clear hb
          obtain ⟨e1, e2⟩ := F5.out (by first | rfl | trivial)
          subst e1
          subst e2
          go_wp2_with fail
          refine (ku _).mono ?_; rintro e w1 ⟨rfl, hb⟩
          replace HB := hide2 (below_two HB.out hb)
          clear hb
          go_wp2_with fail
          refine (kv _).mono ?_; rintro e w1 ⟨rfl, hb⟩
          replace HB := hide2 (below_two HB.out hb)
          clear hb
          go_wp2
          go_ret
          exact ⟨rfl, HB.out⟩
        | true =>
          go_wp2_with fail
          refine (kx4 _).mono ?_; rintro e w1 ⟨rfl, hb⟩
          replace HB := hide2 (below_two HB.out hb)
          clear hb
          obtain rfl : o = 0 := F3.out (by first | rfl | trivial) (by first | rfl | trivial)
          go_wp2_with fail
          refine (ko _).mono ?_; rintro e w1 ⟨rfl, hb⟩
          replace HB := hide2 (below_two HB.out hb)
          clear hb
          go_wp2_with fail
          refine (ky1 _).mono ?_; rintro e w1 ⟨rfl, hb⟩
          replace HB := hide2 (below_two HB.out hb)
          clear hb
          go_wp2_with fail
          refine (kx1 _).mono ?_; rintro e w1 ⟨rfl, hb⟩
          replace HB := hide2 (below_two HB.out hb)
          clear hb
          obtain ⟨e1, e2⟩ := F5.out (by first | rfl | trivial)
          subst e1
          subst e2
          go_wp2_with fail
          refine (ku _).mono ?_; rintro e w1 ⟨rfl, hb⟩
          replace HB := hide2 (below_two HB.out hb)
          clear hb
          go_wp2_with fail
          refine (kv _).mono ?_; rintro e w1 ⟨rfl, hb⟩
          replace HB := hide2 (below_two HB.out hb)
          clear hb
          go_wp2
          go_ret
          exact ⟨rfl, HB.out⟩
      | true =>
        go_wp2_with fail
        refine (ky1 _).mono ?_; rintro e w1 ⟨rfl, hb⟩
        replace HB := hide2 (below_two HB.out hb)
        clear hb
        cases y2 with
        | false =>
          go_wp2_with fail
          refine (ky2 _).mono ?_; rintro e w1 ⟨rfl, hb⟩
          replace HB := hide2 (below_two HB.out hb)
          clear hb
          go_wp2_with fail
          refine (kx1 _).mono ?_; rintro e w1 ⟨rfl, hb⟩
          replace HB := hide2 (below_two HB.out hb)
          clear hb
          cases x4 with
          | false =>
            go_wp2_with fail
            refine (kx4 _).mono ?_; rintro e w1 ⟨rfl, hb⟩
            replace HB := hide2 (below_two HB.out hb)
            clear hb
            go_wp2_with fail
            refine (ky1 _).mono ?_; rintro e w1 ⟨rfl, hb⟩
            replace HB := hide2 (below_two HB.out hb)
            clear hb
            cases y4 with
            | false =>
              go_wp2_with fail
              refine (ky4 _).mono ?_; rintro e w1 ⟨rfl, hb⟩
              replace HB := hide2 (below_two HB.out hb)
              clear hb
              go_wp2_with fail
              refine (kx1 _).mono ?_; rintro e w1 ⟨rfl, hb⟩
              replace HB := hide2 (below_two HB.out hb)
              clear hb
              obtain ⟨e1, e2⟩ := F5.out (by first | rfl | trivial)
              subst e1
              subst e2
              go_wp2_with fail
              refine (ku _).mono ?_; rintro e w1 ⟨rfl, hb⟩
              replace HB := hide2 (below_two HB.out hb)
              clear hb
              go_wp2_with fail
              refine (kv _).mono ?_; rintro e w1 ⟨rfl, hb⟩
              replace HB := hide2 (below_two HB.out hb)
              clear hb
              go_wp2
              go_ret
              exact ⟨rfl, HB.out⟩
            | true =>
              go_wp2_with fail
              refine (ky4 _).mono ?_; rintro e w1 ⟨rfl, hb⟩
              replace HB := hide2 (below_two HB.out hb)
              clear hb
              have hab : (a == b) = true := by rw [F4.out (by first | rfl | trivial) (by first | rfl | trivial)]; simp
              go_wp2_with fail
              refine (kx1 _).mono ?_; rintro e w1 ⟨rfl, hb⟩
              replace HB := hide2 (below_two HB.out hb)
              clear hb
              obtain ⟨e1, e2⟩ := F5.out (by first | rfl | trivial)
              subst e1
              subst e2
              go_wp2_with fail
              refine (ku _).mono ?_; rintro e w1 ⟨rfl, hb⟩
              replace HB := hide2 (below_two HB.out hb)
              clear hb
              go_wp2_with fail
              refine (kv _).mono ?_; rintro e w1 ⟨rfl, hb⟩
              replace HB := hide2 (below_two HB.out hb)
              clear hb
              go_wp2
              go_ret
              exact ⟨rfl, HB.out⟩
          | true =>
            go_wp2_with fail
            refine (kx4 _).mono ?_; rintro e w1 ⟨rfl, hb⟩
            replace HB := hide2 (below_two HB.out hb)
            clear hb
            obtain rfl : o = 0 := F3.out (by first | rfl | trivial) (by first | rfl | trivial)
            go_wp2_with fail
            refine (ko _).mono ?_; rintro e w1 ⟨rfl, hb⟩
            replace HB := hide2 (below_two HB.out hb)
            clear hb
            go_wp2_with fail
            refine (ky1 _).mono ?_; rintro e w1 ⟨rfl, hb⟩
            replace HB := hide2 (below_two HB.out hb)
            clear hb
            cases y4 with
            | false =>
              go_wp2_with fail
              refine (ky4 _).mono ?_; rintro e w1 ⟨rfl, hb⟩
              replace HB := hide2 (below_two HB.out hb)
              clear hb
              go_wp2_with fail
              refine (kx1 _).mono ?_; rintro e w1 ⟨rfl, hb⟩
              replace HB := hide2 (below_two HB.out hb)
              clear hb
              obtain ⟨e1, e2⟩ := F5.out (by first | rfl | trivial)
              subst e1
              subst e2
              go_wp2_with fail
              refine (ku _).mono ?_; rintro e w1 ⟨rfl, hb⟩
              replace HB := hide2 (below_two HB.out hb)
              clear hb
              go_wp2_with fail
              refine (kv _).mono ?_; rintro e w1 ⟨rfl, hb⟩
              replace HB := hide2 (below_two HB.out hb)
              clear hb
              go_wp2
              go_ret
              exact ⟨rfl, HB.out⟩
            | true =>
              go_wp2_with fail
              refine (ky4 _).mono ?_; rintro e w1 ⟨rfl, hb⟩
              replace HB := hide2 (below_two HB.out hb)
              clear hb
              have hab : (a == b) = true := by rw [F4.out (by first | rfl | trivial) (by first | rfl | trivial)]; simp
              go_wp2_with fail
              refine (kx1 _).mono ?_; rintro e w1 ⟨rfl, hb⟩
              replace HB := hide2 (below_two HB.out hb)
              clear hb
              obtain ⟨e1, e2⟩ := F5.out (by first | rfl | trivial)
              subst e1
              subst e2
              go_wp2_with fail
              refine (ku _).mono ?_; rintro e w1 ⟨rfl, hb⟩
              replace HB := hide2 (below_two HB.out hb)
              clear hb
              go_wp2_with fail
              refine (kv _).mono ?_; rintro e w1 ⟨rfl, hb⟩
              replace HB := hide2 (below_two HB.out hb)
              clear hb
              go_wp2
              go_ret
              exact ⟨rfl, HB.out⟩
        | true =>
          go_wp2_with fail
          refine (ky2 _).mono ?_; rintro e w1 ⟨rfl, hb⟩
          replace HB := hide2 (below_two HB.out hb)
          clear hb
          obtain rfl : y3 = true := F2.out (by first | rfl | trivial) (by first | rfl | trivial)
          go_wp2_with fail
          refine (ky3 _).mono ?_; rintro e w1 ⟨rfl, hb⟩
          replace HB := hide2 (below_two HB.out hb)
          clear hb
          go_wp2_with fail
          refine (kx1 _).mono ?_; rintro e w1 ⟨rfl, hb⟩
          replace HB := hide2 (below_two HB.out hb)
          clear hb
          cases x4 with
          | false =>
            go_wp2_with fail
            refine (kx4 _).mono ?_; rintro e w1 ⟨rfl, hb⟩
            replace HB := hide2 (below_two HB.out hb)
            clear hb
            go_wp2_with fail
            refine (ky1 _).mono ?_; rintro e w1 ⟨rfl, hb⟩
            replace HB := hide2 (below_two HB.out hb)
            clear hb
            cases y4 with
            | false =>
              go_wp2_with fail
              refine (ky4 _).mono ?_; rintro e w1 ⟨rfl, hb⟩
              replace HB := hide2 (below_two HB.out hb)
              clear hb
              go_wp2_with fail
              refine (kx1 _).mono ?_; rintro e w1 ⟨rfl, hb⟩
              replace HB := hide2 (below_two HB.out hb)
              clear hb
              obtain ⟨e1, e2⟩ := F5.out (by first | rfl | trivial)
              subst e1
              subst e2
              go_wp2_with fail
              refine (ku _).mono ?_; rintro e w1 ⟨rfl, hb⟩
              replace HB := hide2 (below_two HB.out hb)
              clear hb
              go_wp2_with fail
              refine (kv _).mono ?_; rintro e w1 ⟨rfl, hb⟩
              replace HB := hide2 (below_two HB.out hb)
              clear hb
              go_wp2
              go_ret
              exact ⟨rfl, HB.out⟩
            | true =>
              go_wp2_with fail
              refine (ky4 _).mono ?_; rintro e w1 ⟨rfl, hb⟩
              replace HB := hide2 (below_two HB.out hb)
              clear hb
              have hab : (a == b) = true := by rw [F4.out (by first | rfl | trivial) (by first | rfl | trivial)]; simp
              go_wp2_with fail
              refine (kx1 _).mono ?_; rintro e w1 ⟨rfl, hb⟩
              replace HB := hide2 (below_two HB.out hb)
              clear hb
              obtain ⟨e1, e2⟩ := F5.out (by first | rfl | trivial)
              subst e1
              subst e2
              go_wp2_with fail
              refine (ku _).mono ?_; rintro e w1 ⟨rfl, hb⟩
              replace HB := hide2 (below_two HB.out hb)
              clear hb
              go_wp2_with fail
              refine (kv _).mono ?_; rintro e w1 ⟨rfl, hb⟩
              replace HB := hide2 (below_two HB.out hb)
              clear hb
              go_wp2
              go_ret
              exact ⟨rfl, HB.out⟩
          | true =>
            go_wp2_with fail
            refine (kx4 _).mono ?_; rintro e w1 ⟨rfl, hb⟩
            replace HB := hide2 (below_two HB.out hb)
            clear hb
            obtain rfl : o = 0 := F3.out (by first | rfl | trivial) (by first | rfl | trivial)
            go_wp2_with fail
            refine (ko _).mono ?_; rintro e w1 ⟨rfl, hb⟩
            replace HB := hide2 (below_two HB.out hb)
            clear hb
            go_wp2_with fail
            refine (ky1 _).mono ?_; rintro e w1 ⟨rfl, hb⟩
            replace HB := hide2 (below_two HB.out hb)
            clear hb
            cases y4 with
            | false =>
              go_wp2_with fail
              refine (ky4 _).mono ?_; rintro e w1 ⟨rfl, hb⟩
              replace HB := hide2 (below_two HB.out hb)
              clear hb
              go_wp2_with fail
              refine (kx1 _).mono ?_; rintro e w1 ⟨rfl, hb⟩
              replace HB := hide2 (below_two HB.out hb)
              clear hb
              obtain ⟨e1, e2⟩ := F5.out (by first | rfl | trivial)
              subst e1
              subst e2
              go_wp2_with fail
              refine (ku _).mono ?_; rintro e w1 ⟨rfl, hb⟩
              replace HB := hide2 (below_two HB.out hb)
              clear hb
              go_wp2_with fail
              refine (kv _).mono ?_; rintro e w1 ⟨rfl, hb⟩
              replace HB := hide2 (below_two HB.out hb)
              clear hb
              go_wp2
              go_ret
              exact ⟨rfl, HB.out⟩
            | true =>
              go_wp2_with fail
              refine (ky4 _).mono ?_; rintro e w1 ⟨rfl, hb⟩
              replace HB := hide2 (below_two HB.out hb)
              clear hb
              have hab : (a == b) = true := by rw [F4.out (by first | rfl | trivial) (by first | rfl | trivial)]; simp
              go_wp2_with fail
              refine (kx1 _).mono ?_; rintro e w1 ⟨rfl, hb⟩
              replace HB := hide2 (below_two HB.out hb)
              clear hb
              obtain ⟨e1, e2⟩ := F5.out (by first | rfl | trivial)
              subst e1
              subst e2
              go_wp2_with fail
              refine (ku _).mono ?_; rintro e w1 ⟨rfl, hb⟩
              replace HB := hide2 (below_two HB.out hb)
              clear hb
              go_wp2_with fail
              refine (kv _).mono ?_; rintro e w1 ⟨rfl, hb⟩
              replace HB := hide2 (below_two HB.out hb)
              clear hb
              go_wp2
              go_ret
              exact ⟨rfl, HB.out⟩
    | true =>
      go_wp2_with fail
      refine (kx2 _).mono ?_; rintro e w1 ⟨rfl, hb⟩
      replace HB := hide2 (below_two HB.out hb)
      clear hb
      obtain rfl : x3 = true := F1.out (by first | rfl | trivial) (by first | rfl | trivial)
      go_wp2_with fail
      refine (kx3 _).mono ?_; rintro e w1 ⟨rfl, hb⟩
      replace HB := hide2 (below_two HB.out hb)
      clear hb
      cases y1 with
      | false =>
        go_wp2_with fail
        refine (ky1 _).mono ?_; rintro e w1 ⟨rfl, hb⟩
        replace HB := hide2 (below_two HB.out hb)
        clear hb
        go_wp2_with fail
        refine (kx1 _).mono ?_; rintro e w1 ⟨rfl, hb⟩
        replace HB := hide2 (below_two HB.out hb)
        clear hb
        cases x4 with
        | false =>
          go_wp2_with fail
          refine (kx4 _).mono ?_; rintro e w1 ⟨rfl, hb⟩
          replace HB := hide2 (below_two HB.out hb)
          clear hb
          go_wp2_with fail
          refine (ky1 _).mono ?_; rintro e w1 ⟨rfl, hb⟩
          replace HB := hide2 (below_two HB.out hb)
          clear hb
          go_wp2_with fail
          refine (kx1 _).mono ?_; rintro e w1 ⟨rfl, hb⟩
          replace HB := hide2 (below_two HB.out hb)
          clear hb
          obtain ⟨e1, e2⟩ := F5.out (by first | rfl | trivial)
          subst e1
          subst e2
          go_wp2_with fail
          refine (ku _).mono ?_; rintro e w1 ⟨rfl, hb⟩
          replace HB := hide2 (below_two HB.out hb)
          clear hb
          go_wp2_with fail
          refine (kv _).mono ?_; rintro e w1 ⟨rfl, hb⟩
          replace HB := hide2 (below_two HB.out hb)
          clear hb
          go_wp2
          go_ret
          exact ⟨rfl, HB.out⟩
        | true =>
          go_wp2_with fail
          refine (kx4 _).mono ?_; rintro e w1 ⟨rfl, hb⟩
          replace HB := hide2 (below_two HB.out hb)
          clear hb
          obtain rfl : o = 0 := F3.out (by first | rfl | trivial) (by first | rfl | trivial)
          go_wp2_with fail
          refine (ko _).mono ?_; rintro e w1 ⟨rfl, hb⟩
          replace HB := hide2 (below_two HB.out hb)
          clear hb
          go_wp2_with fail
          refine (ky1 _).mono ?_; rintro e w1 ⟨rfl, hb⟩
          replace HB := hide2 (below_two HB.out hb)
          clear hb
          go_wp2_with fail
          refine (kx1 _).mono ?_; rintro e w1 ⟨rfl, hb⟩
          replace HB := hide2 (below_two HB.out hb)
          clear hb
          obtain ⟨e1, e2⟩ := F5.out (by first | rfl | trivial)
          subst e1
          subst e2
          go_wp2_with fail
          refine (ku _).mono ?_; rintro e w1 ⟨rfl, hb⟩
          replace HB := hide2 (below_two HB.out hb)
          clear hb
          go_wp2_with fail
          refine (kv _).mono ?_; rintro e w1 ⟨rfl, hb⟩
          replace HB := hide2 (below_two HB.out hb)
          clear hb
          go_wp2
          go_ret
          exact ⟨rfl, HB.out⟩
      | true =>
        go_wp2_with fail
        refine (ky1 _).mono ?_; rintro e w1 ⟨rfl, hb⟩
        replace HB := hide2 (below_two HB.out hb)
        clear hb
        cases y2 with
        | false =>
          go_wp2_with fail
          refine (ky2 _).mono ?_; rintro e w1 ⟨rfl, hb⟩
          replace HB := hide2 (below_two HB.out hb)
          clear hb
          go_wp2_with fail
          refine (kx1 _).mono ?_; rintro e w1 ⟨rfl, hb⟩
          replace HB := hide2 (below_two HB.out hb)
          clear hb
          cases x4 with
          | false =>
            go_wp2_with fail
            refine (kx4 _).mono ?_; rintro e w1 ⟨rfl, hb⟩
            replace HB := hide2 (below_two HB.out hb)
            clear hb
            go_wp2_with fail
            refine (ky1 _).mono ?_; rintro e w1 ⟨rfl, hb⟩
            replace HB := hide2 (below_two HB.out hb)
            clear hb
            cases y4 with
            | false =>
              go_wp2_with fail
              refine (ky4 _).mono ?_; rintro e w1 ⟨rfl, hb⟩
              replace HB := hide2 (below_two HB.out hb)
              clear hb
              go_wp2_with fail
              refine (kx1 _).mono ?_; rintro e w1 ⟨rfl, hb⟩
              replace HB := hide2 (below_two HB.out hb)
              clear hb
              obtain ⟨e1, e2⟩ := F5.out (by first | rfl | trivial)
              subst e1
              subst e2
              go_wp2_with fail
              refine (ku _).mono ?_; rintro e w1 ⟨rfl, hb⟩
              replace HB := hide2 (below_two HB.out hb)
              clear hb
              go_wp2_with fail
              refine (kv _).mono ?_; rintro e w1 ⟨rfl, hb⟩
              replace HB := hide2 (below_two HB.out hb)
              clear hb
              go_wp2
              go_ret
              exact ⟨rfl, HB.out⟩
            | true =>
              go_wp2_with fail
              refine (ky4 _).mono ?_; rintro e w1 ⟨rfl, hb⟩
              replace HB := hide2 (below_two HB.out hb)
              clear hb
              have hab : (a == b) = true := by rw [F4.out (by first | rfl | trivial) (by first | rfl | trivial)]; simp
              go_wp2_with fail
              refine (kx1 _).mono ?_; rintro e w1 ⟨rfl, hb⟩
              replace HB := hide2 (below_two HB.out hb)
              clear hb
              obtain ⟨e1, e2⟩ := F5.out (by first | rfl | trivial)
              subst e1
              subst e2
              go_wp2_with fail
              refine (ku _).mono ?_; rintro e w1 ⟨rfl, hb⟩
              replace HB := hide2 (below_two HB.out hb)
              clear hb
              go_wp2_with fail
              refine (kv _).mono ?_; rintro e w1 ⟨rfl, hb⟩
              replace HB := hide2 (below_two HB.out hb)
              clear hb
              go_wp2
              go_ret
              exact ⟨rfl, HB.out⟩
          | true =>
            go_wp2_with fail
            refine (kx4 _).mono ?_; rintro e w1 ⟨rfl, hb⟩
            replace HB := hide2 (below_two HB.out hb)
            clear hb
            obtain rfl : o = 0 := F3.out (by first | rfl | trivial) (by first | rfl | trivial)
            go_wp2_with fail
            refine (ko _).mono ?_; rintro e w1 ⟨rfl, hb⟩
            replace HB := hide2 (below_two HB.out hb)
            clear hb
            go_wp2_with fail
            refine (ky1 _).mono ?_; rintro e w1 ⟨rfl, hb⟩
            replace HB := hide2 (below_two HB.out hb)
            clear hb
            cases y4 with
            | false =>
              go_wp2_with fail
              refine (ky4 _).mono ?_; rintro e w1 ⟨rfl, hb⟩
              replace HB := hide2 (below_two HB.out hb)
              clear hb
              go_wp2_with fail
              refine (kx1 _).mono ?_; rintro e w1 ⟨rfl, hb⟩
              replace HB := hide2 (below_two HB.out hb)
              clear hb
              obtain ⟨e1, e2⟩ := F5.out (by first | rfl | trivial)
              subst e1
              subst e2
              go_wp2_with fail
              refine (ku _).mono ?_; rintro e w1 ⟨rfl, hb⟩
              replace HB := hide2 (below_two HB.out hb)
              clear hb
              go_wp2_with fail
              refine (kv _).mono ?_; rintro e w1 ⟨rfl, hb⟩
              replace HB := hide2 (below_two HB.out hb)
              clear hb
              go_wp2
              go_ret
              exact ⟨rfl, HB.out⟩
            | true =>
              go_wp2_with fail
              refine (ky4 _).mono ?_; rintro e w1 ⟨rfl, hb⟩
              replace HB := hide2 (below_two HB.out hb)
              clear hb
              have hab : (a == b) = true := by rw [F4.out (by first | rfl | trivial) (by first | rfl | trivial)]; simp
              go_wp2_with fail
              refine (kx1 _).mono ?_; rintro e w1 ⟨rfl, hb⟩
              replace HB := hide2 (below_two HB.out hb)
              clear hb
              obtain ⟨e1, e2⟩ := F5.out (by first | rfl | trivial)
              subst e1
              subst e2
              go_wp2_with fail
              refine (ku _).mono ?_; rintro e w1 ⟨rfl, hb⟩
              replace HB := hide2 (below_two HB.out hb)
              clear hb
              go_wp2_with fail
              refine (kv _).mono ?_; rintro e w1 ⟨rfl, hb⟩
              replace HB := hide2 (below_two HB.out hb)
              clear hb
              go_wp2
              go_ret
              exact ⟨rfl, HB.out⟩
        | true =>
          go_wp2_with fail
          refine (ky2 _).mono ?_; rintro e w1 ⟨rfl, hb⟩
          replace HB := hide2 (below_two HB.out hb)
          clear hb
          obtain rfl : y3 = true := F2.out (by first | rfl | trivial) (by first | rfl | trivial)
          go_wp2_with fail
          refine (ky3 _).mono ?_; rintro e w1 ⟨rfl, hb⟩
          replace HB := hide2 (below_two HB.out hb)
          clear hb
          go_wp2_with fail
          refine (kx1 _).mono ?_; rintro e w1 ⟨rfl, hb⟩
          replace HB := hide2 (below_two HB.out hb)
          clear hb
          cases x4 with
          | false =>
            go_wp2_with fail
            refine (kx4 _).mono ?_; rintro e w1 ⟨rfl, hb⟩
            replace HB := hide2 (below_two HB.out hb)
            clear hb
            go_wp2_with fail
            refine (ky1 _).mono ?_; rintro e w1 ⟨rfl, hb⟩
            replace HB := hide2 (below_two HB.out hb)
            clear hb
            cases y4 with
            | false =>
              go_wp2_with fail
              refine (ky4 _).mono ?_; rintro e w1 ⟨rfl, hb⟩
              replace HB := hide2 (below_two HB.out hb)
              clear hb
              go_wp2_with fail
              refine (kx1 _).mono ?_; rintro e w1 ⟨rfl, hb⟩
              replace HB := hide2 (below_two HB.out hb)
              clear hb
              obtain ⟨e1, e2⟩ := F5.out (by first | rfl | trivial)
              subst e1
              subst e2
              go_wp2_with fail
              refine (ku _).mono ?_; rintro e w1 ⟨rfl, hb⟩
              replace HB := hide2 (below_two HB.out hb)
              clear hb
              go_wp2_with fail
              refine (kv _).mono ?_; rintro e w1 ⟨rfl, hb⟩
              replace HB := hide2 (below_two HB.out hb)
              clear hb
              go_wp2
              go_ret
              exact ⟨rfl, HB.out⟩
            | true =>
              go_wp2_with fail
              refine (ky4 _).mono ?_; rintro e w1 ⟨rfl, hb⟩
              replace HB := hide2 (below_two HB.out hb)
              clear hb
              have hab : (a == b) = true := by rw [F4.out (by first | rfl | trivial) (by first | rfl | trivial)]; simp
              go_wp2_with fail
              refine (kx1 _).mono ?_; rintro e w1 ⟨rfl, hb⟩
              replace HB := hide2 (below_two HB.out hb)
              clear hb
              obtain ⟨e1, e2⟩ := F5.out (by first | rfl | trivial)
              subst e1
              subst e2
              go_wp2_with fail
              refine (ku _).mono ?_; rintro e w1 ⟨rfl, hb⟩
              replace HB := hide2 (below_two HB.out hb)
              clear hb
              go_wp2_with fail
              refine (kv _).mono ?_; rintro e w1 ⟨rfl, hb⟩
              replace HB := hide2 (below_two HB.out hb)
              clear hb
              go_wp2
              go_ret
              exact ⟨rfl, HB.out⟩
          | true =>
            go_wp2_with fail
            refine (kx4 _).mono ?_; rintro e w1 ⟨rfl, hb⟩
            replace HB := hide2 (below_two HB.out hb)
            clear hb
            obtain rfl : o = 0 := F3.out (by first | rfl | trivial) (by first | rfl | trivial)
            go_wp2_with fail
            refine (ko _).mono ?_; rintro e w1 ⟨rfl, hb⟩
            replace HB := hide2 (below_two HB.out hb)
            clear hb
            go_wp2_with fail
            refine (ky1 _).mono ?_; rintro e w1 ⟨rfl, hb⟩
            replace HB := hide2 (below_two HB.out hb)
            clear hb
            cases y4 with
            | false =>
              go_wp2_with fail
              refine (ky4 _).mono ?_; rintro e w1 ⟨rfl, hb⟩
              replace HB := hide2 (below_two HB.out hb)
              clear hb
              go_wp2_with fail
              refine (kx1 _).mono ?_; rintro e w1 ⟨rfl, hb⟩
              replace HB := hide2 (below_two HB.out hb)
              clear hb
              obtain ⟨e1, e2⟩ := F5.out (by first | rfl | trivial)
              subst e1
              subst e2
              go_wp2_with fail
              refine (ku _).mono ?_; rintro e w1 ⟨rfl, hb⟩
              replace HB := hide2 (below_two HB.out hb)
              clear hb
              go_wp2_with fail
              refine (kv _).mono ?_; rintro e w1 ⟨rfl, hb⟩
              replace HB := hide2 (below_two HB.out hb)
              clear hb
              go_wp2
              go_ret
              exact ⟨rfl, HB.out⟩
            | true =>
              go_wp2_with fail
              refine (ky4 _).mono ?_; rintro e w1 ⟨rfl, hb⟩
              replace HB := hide2 (below_two HB.out hb)
              clear hb
              have hab : (a == b) = true := by rw [F4.out (by first | rfl | trivial) (by first | rfl | trivial)]; simp
              go_wp2_with fail
              refine (kx1 _).mono ?_; rintro e w1 ⟨rfl, hb⟩
              replace HB := hide2 (below_two HB.out hb)
              clear hb
              obtain ⟨e1, e2⟩ := F5.out (by first | rfl | trivial)
              subst e1
              subst e2
              go_wp2_with fail
              refine (ku _).mono ?_; rintro e w1 ⟨rfl, hb⟩
              replace HB := hide2 (below_two HB.out hb)
              clear hb
              go_wp2_with fail
              refine (kv _).mono ?_; rintro e w1 ⟨rfl, hb⟩
              replace HB := hide2 (below_two HB.out hb)
              clear hb
              go_wp2
              go_ret
              exact ⟨rfl, HB.out⟩
end Go.Proofs.Ytplbdnndpgfljaa
