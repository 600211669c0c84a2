/-
  PathsWithin: the walk.
-/
import Derived.Test.YtplbdnndpgfljaaPq
namespace Go.Proofs.Ytplbdnndpgfljaa
open Go.RowKit
set_option linter.unusedVariables false
set_option linter.unusedSimpArgs false
set_option maxRecDepth 100000
set_option maxHeartbeats 8000000 in
theorem within_law (a b s : List UInt8) (w : World) (g1 : a.length ≤ 2 ^ 61) (g2 : b.length ≤ 2 ^ 61) (g3 : s.length ≤ 2 ^ 61) : Calls Try.prog 7 #[.string ⟨a.toArray⟩, .string ⟨b.toArray⟩, .string ⟨s.toArray⟩] w fun e w' => e = .returned (.bool true) ∧ Below w.heap.size w w' := by
  have h1 : a.length ≤ 2 ^ 62 := by omega
  have h2 : b.length ≤ 2 ^ 62 := by omega
  have h3 : s.length ≤ 2 ^ 62 := by omega
  have k0 := fun w => awake_any w
  have k1 := fun w => coversHost_any a b w h1 h2
  have k2 := fun w => host_any b s w g2 g3
  have k3 := fun w => host_any a s w g1 g3
  have k4 := fun w => at_below (coversPath_any a b w h1 h2)
  have k5 := fun w => at_below (path_any b s w h2 h3)
  have k6 := fun w => at_below (path_any a s w h1 h3)
  have k7 := fun w => at_below (coversMethod_any a b w h2)
  have k8 := fun w => at_below (method_any b s w h3)
  have k9 := fun w => at_below (method_any a s w h3)
  have W1 := hide2 (within_host a b s)
  have W2 := hide2 (within_path a b s)
  have W3 := hide2 (within_meth a b s)
  generalize covM a b = c1 at k1 W1
  generalize hostM b s = c2 at k2 W1
  generalize hostM a s = c3 at k3 W1
  generalize cpM a b = c4 at k4 W2
  generalize pathM b s = c5 at k5 W2
  generalize pathM a s = c6 at k6 W2
  generalize cmM a b = c7 at k7 W3
  generalize methM b s = c8 at k8 W3
  generalize methM a s = c9 at k9 W3
  have HB := hide2 (Below.refl w.heap.size w)
  go_enter Try.func7, Try.ntmps7
  go_wp2_with fail
  refine (k0 _).mono ?_; rintro e w1 ⟨rfl, hb⟩
  replace HB := hide2 (below_two HB.out hb)
  clear hb
  cases c1 with
  | false =>
    go_wp2_with fail
    refine (k1 _).mono ?_; rintro e w1 ⟨rfl, hb⟩
    replace HB := hide2 (below_two HB.out hb)
    clear hb
    cases c4 with
    | false =>
      go_wp2_with fail
      refine (k4 _).mono ?_; rintro e w1 ⟨rfl, hb⟩
      replace HB := hide2 (below_two HB.out hb)
      clear hb
      cases c7 with
      | false =>
        go_wp2_with fail
        refine (k7 _).mono ?_; rintro e w1 ⟨rfl, hb⟩
        replace HB := hide2 (below_two HB.out hb)
        clear hb
        go_wp2
        go_ret
        exact ⟨rfl, HB.out⟩
      | true =>
        go_wp2_with fail
        refine (k7 _).mono ?_; rintro e w1 ⟨rfl, hb⟩
        replace HB := hide2 (below_two HB.out hb)
        clear hb
        cases c8 with
        | false =>
          go_wp2_with fail
          refine (k8 _).mono ?_; rintro e w1 ⟨rfl, hb⟩
          replace HB := hide2 (below_two HB.out hb)
          clear hb
          go_wp2
          go_ret
          exact ⟨rfl, HB.out⟩
        | true =>
          obtain rfl : c9 = true := W3.out (by first | rfl | trivial) (by first | rfl | trivial)
          go_wp2_with fail
          refine (k8 _).mono ?_; rintro e w1 ⟨rfl, hb⟩
          replace HB := hide2 (below_two HB.out hb)
          clear hb
          go_wp2_with fail
          refine (k9 _).mono ?_; rintro e w1 ⟨rfl, hb⟩
          replace HB := hide2 (below_two HB.out hb)
          clear hb
          go_wp2
          go_ret
          exact ⟨rfl, HB.out⟩
    | true =>
      go_wp2_with fail
      refine (k4 _).mono ?_; rintro e w1 ⟨rfl, hb⟩
      replace HB := hide2 (below_two HB.out hb)
      clear hb
      cases c5 with
      | false =>
        go_wp2_with fail
        refine (k5 _).mono ?_; rintro e w1 ⟨rfl, hb⟩
        replace HB := hide2 (below_two HB.out hb)
        clear hb
        cases c7 with
        | false =>
          go_wp2_with fail
          refine (k7 _).mono ?_; rintro e w1 ⟨rfl, hb⟩
          replace HB := hide2 (below_two HB.out hb)
          clear hb
          go_wp2
          go_ret
          exact ⟨rfl, HB.out⟩
        | true =>
          go_wp2_with fail
          refine (k7 _).mono ?_; rintro e w1 ⟨rfl, hb⟩
          replace HB := hide2 (below_two HB.out hb)
          clear hb
          cases c8 with
          | false =>
            go_wp2_with fail
            refine (k8 _).mono ?_; rintro e w1 ⟨rfl, hb⟩
            replace HB := hide2 (below_two HB.out hb)
            clear hb
            go_wp2
            go_ret
            exact ⟨rfl, HB.out⟩
          | true =>
            obtain rfl : c9 = true := W3.out (by first | rfl | trivial) (by first | rfl | trivial)
            go_wp2_with fail
            refine (k8 _).mono ?_; rintro e w1 ⟨rfl, hb⟩
            replace HB := hide2 (below_two HB.out hb)
            clear hb
            go_wp2_with fail
            refine (k9 _).mono ?_; rintro e w1 ⟨rfl, hb⟩
            replace HB := hide2 (below_two HB.out hb)
            clear hb
            go_wp2
            go_ret
            exact ⟨rfl, HB.out⟩
      | true =>
        obtain rfl : c6 = true := W2.out (by first | rfl | trivial) (by first | rfl | trivial)
        go_wp2_with fail
        refine (k5 _).mono ?_; rintro e w1 ⟨rfl, hb⟩
        replace HB := hide2 (below_two HB.out hb)
        clear hb
        go_wp2_with fail
        refine (k6 _).mono ?_; rintro e w1 ⟨rfl, hb⟩
        replace HB := hide2 (below_two HB.out hb)
        clear hb
        cases c7 with
        | false =>
          go_wp2_with fail
          refine (k7 _).mono ?_; rintro e w1 ⟨rfl, hb⟩
          replace HB := hide2 (below_two HB.out hb)
          clear hb
          go_wp2
          go_ret
          exact ⟨rfl, HB.out⟩
        | true =>
          go_wp2_with fail
          refine (k7 _).mono ?_; rintro e w1 ⟨rfl, hb⟩
          replace HB := hide2 (below_two HB.out hb)
          clear hb
          cases c8 with
          | false =>
            go_wp2_with fail
            refine (k8 _).mono ?_; rintro e w1 ⟨rfl, hb⟩
            replace HB := hide2 (below_two HB.out hb)
            clear hb
            go_wp2
            go_ret
            exact ⟨rfl, HB.out⟩
          | true =>
            obtain rfl : c9 = true := W3.out (by first | rfl | trivial) (by first | rfl | trivial)
            go_wp2_with fail
            refine (k8 _).mono ?_; rintro e w1 ⟨rfl, hb⟩
            replace HB := hide2 (below_two HB.out hb)
            clear hb
            go_wp2_with fail
            refine (k9 _).mono ?_; rintro e w1 ⟨rfl, hb⟩
            replace HB := hide2 (below_two HB.out hb)
            clear hb
            go_wp2
            go_ret
            exact ⟨rfl, HB.out⟩
  | true =>
    go_wp2_with fail
    refine (k1 _).mono ?_; rintro e w1 ⟨rfl, hb⟩
    replace HB := hide2 (below_two HB.out hb)
    clear hb
    cases c2 with
    | false =>
      go_wp2_with fail
      refine (k2 _).mono ?_; rintro e w1 ⟨rfl, hb⟩
      replace HB := hide2 (below_two HB.out hb)
      clear hb
      cases c4 with
      | false =>
        go_wp2_with fail
        refine (k4 _).mono ?_; rintro e w1 ⟨rfl, hb⟩
        replace HB := hide2 (below_two HB.out hb)
        clear hb
        cases c7 with
        | false =>
          go_wp2_with fail
          refine (k7 _).mono ?_; rintro e w1 ⟨rfl, hb⟩
          replace HB := hide2 (below_two HB.out hb)
          clear hb
          go_wp2
          go_ret
          exact ⟨rfl, HB.out⟩
        | true =>
          go_wp2_with fail
          refine (k7 _).mono ?_; rintro e w1 ⟨rfl, hb⟩
          replace HB := hide2 (below_two HB.out hb)
          clear hb
          cases c8 with
          | false =>
            go_wp2_with fail
            refine (k8 _).mono ?_; rintro e w1 ⟨rfl, hb⟩
            replace HB := hide2 (below_two HB.out hb)
            clear hb
            go_wp2
            go_ret
            exact ⟨rfl, HB.out⟩
          | true =>
            obtain rfl : c9 = true := W3.out (by first | rfl | trivial) (by first | rfl | trivial)
            go_wp2_with fail
            refine (k8 _).mono ?_; rintro e w1 ⟨rfl, hb⟩
            replace HB := hide2 (below_two HB.out hb)
            clear hb
            go_wp2_with fail
            refine (k9 _).mono ?_; rintro e w1 ⟨rfl, hb⟩
            replace HB := hide2 (below_two HB.out hb)
            clear hb
            go_wp2
            go_ret
            exact ⟨rfl, HB.out⟩
      | true =>
        go_wp2_with fail
        refine (k4 _).mono ?_; rintro e w1 ⟨rfl, hb⟩
        replace HB := hide2 (below_two HB.out hb)
        clear hb
        cases c5 with
        | false =>
          go_wp2_with fail
          refine (k5 _).mono ?_; rintro e w1 ⟨rfl, hb⟩
          replace HB := hide2 (below_two HB.out hb)
          clear hb
          cases c7 with
          | false =>
            go_wp2_with fail
            refine (k7 _).mono ?_; rintro e w1 ⟨rfl, hb⟩
            replace HB := hide2 (below_two HB.out hb)
            clear hb
            go_wp2
            go_ret
            exact ⟨rfl, HB.out⟩
          | true =>
            go_wp2_with fail
            refine (k7 _).mono ?_; rintro e w1 ⟨rfl, hb⟩
            replace HB := hide2 (below_two HB.out hb)
            clear hb
            cases c8 with
            | false =>
              go_wp2_with fail
              refine (k8 _).mono ?_; rintro e w1 ⟨rfl, hb⟩
              replace HB := hide2 (below_two HB.out hb)
              clear hb
              go_wp2
              go_ret
              exact ⟨rfl, HB.out⟩
            | true =>
              obtain rfl : c9 = true := W3.out (by first | rfl | trivial) (by first | rfl | trivial)
              go_wp2_with fail
              refine (k8 _).mono ?_; rintro e w1 ⟨rfl, hb⟩
              replace HB := hide2 (below_two HB.out hb)
              clear hb
              go_wp2_with fail
              refine (k9 _).mono ?_; rintro e w1 ⟨rfl, hb⟩
              replace HB := hide2 (below_two HB.out hb)
              clear hb
              go_wp2
              go_ret
              exact ⟨rfl, HB.out⟩
        | true =>
          obtain rfl : c6 = true := W2.out (by first | rfl | trivial) (by first | rfl | trivial)
          go_wp2_with fail
          refine (k5 _).mono ?_; rintro e w1 ⟨rfl, hb⟩
          replace HB := hide2 (below_two HB.out hb)
          clear hb
          go_wp2_with fail
          refine (k6 _).mono ?_; rintro e w1 ⟨rfl, hb⟩
          replace HB := hide2 (below_two HB.out hb)
          clear hb
          cases c7 with
          | false =>
            go_wp2_with fail
            refine (k7 _).mono ?_; rintro e w1 ⟨rfl, hb⟩
            replace HB := hide2 (below_two HB.out hb)
            clear hb
            go_wp2
            go_ret
            exact ⟨rfl, HB.out⟩
          | true =>
            go_wp2_with fail
            refine (k7 _).mono ?_; rintro e w1 ⟨rfl, hb⟩
            replace HB := hide2 (below_two HB.out hb)
            clear hb
            cases c8 with
            | false =>
              go_wp2_with fail
              refine (k8 _).mono ?_; rintro e w1 ⟨rfl, hb⟩
              replace HB := hide2 (below_two HB.out hb)
              clear hb
              go_wp2
              go_ret
              exact ⟨rfl, HB.out⟩
            | true =>
              obtain rfl : c9 = true := W3.out (by first | rfl | trivial) (by first | rfl | trivial)
              go_wp2_with fail
              refine (k8 _).mono ?_; rintro e w1 ⟨rfl, hb⟩
              replace HB := hide2 (below_two HB.out hb)
              clear hb
              go_wp2_with fail
              refine (k9 _).mono ?_; rintro e w1 ⟨rfl, hb⟩
              replace HB := hide2 (below_two HB.out hb)
              clear hb
              go_wp2
              go_ret
              exact ⟨rfl, HB.out⟩
    | true =>
      obtain rfl : c3 = true := W1.out (by first | rfl | trivial) (by first | rfl | trivial)
      go_wp2_with fail
      refine (k2 _).mono ?_; rintro e w1 ⟨rfl, hb⟩
      replace HB := hide2 (below_two HB.out hb)
      clear hb
      go_wp2_with fail
      refine (k3 _).mono ?_; rintro e w1 ⟨rfl, hb⟩
      replace HB := hide2 (below_two HB.out hb)
      clear hb
      cases c4 with
      | false =>
        go_wp2_with fail
        refine (k4 _).mono ?_; rintro e w1 ⟨rfl, hb⟩
        replace HB := hide2 (below_two HB.out hb)
        clear hb
        cases c7 with
        | false =>
          go_wp2_with fail
          refine (k7 _).mono ?_; rintro e w1 ⟨rfl, hb⟩
          replace HB := hide2 (below_two HB.out hb)
          clear hb
          go_wp2
          go_ret
          exact ⟨rfl, HB.out⟩
        | true =>
          go_wp2_with fail
          refine (k7 _).mono ?_; rintro e w1 ⟨rfl, hb⟩
          replace HB := hide2 (below_two HB.out hb)
          clear hb
          cases c8 with
          | false =>
            go_wp2_with fail
            refine (k8 _).mono ?_; rintro e w1 ⟨rfl, hb⟩
            replace HB := hide2 (below_two HB.out hb)
            clear hb
            go_wp2
            go_ret
            exact ⟨rfl, HB.out⟩
          | true =>
            obtain rfl : c9 = true := W3.out (by first | rfl | trivial) (by first | rfl | trivial)
            go_wp2_with fail
            refine (k8 _).mono ?_; rintro e w1 ⟨rfl, hb⟩
            replace HB := hide2 (below_two HB.out hb)
            clear hb
            go_wp2_with fail
            refine (k9 _).mono ?_; rintro e w1 ⟨rfl, hb⟩
            replace HB := hide2 (below_two HB.out hb)
            clear hb
            go_wp2
            go_ret
            exact ⟨rfl, HB.out⟩
      | true =>
        go_wp2_with fail
        refine (k4 _).mono ?_; rintro e w1 ⟨rfl, hb⟩
        replace HB := hide2 (below_two HB.out hb)
        clear hb
        cases c5 with
        | false =>
          go_wp2_with fail
          refine (k5 _).mono ?_; rintro e w1 ⟨rfl, hb⟩
          replace HB := hide2 (below_two HB.out hb)
          clear hb
          cases c7 with
          | false =>
            go_wp2_with fail
            refine (k7 _).mono ?_; rintro e w1 ⟨rfl, hb⟩
            replace HB := hide2 (below_two HB.out hb)
            clear hb
            go_wp2
            go_ret
            exact ⟨rfl, HB.out⟩
          | true =>
            go_wp2_with fail
            refine (k7 _).mono ?_; rintro e w1 ⟨rfl, hb⟩
            replace HB := hide2 (below_two HB.out hb)
            clear hb
            cases c8 with
            | false =>
              go_wp2_with fail
              refine (k8 _).mono ?_; rintro e w1 ⟨rfl, hb⟩
              replace HB := hide2 (below_two HB.out hb)
              clear hb
              go_wp2
              go_ret
              exact ⟨rfl, HB.out⟩
            | true =>
              obtain rfl : c9 = true := W3.out (by first | rfl | trivial) (by first | rfl | trivial)
              go_wp2_with fail
              refine (k8 _).mono ?_; rintro e w1 ⟨rfl, hb⟩
              replace HB := hide2 (below_two HB.out hb)
              clear hb
              go_wp2_with fail
              refine (k9 _).mono ?_; rintro e w1 ⟨rfl, hb⟩
              replace HB := hide2 (below_two HB.out hb)
              clear hb
              go_wp2
              go_ret
              exact ⟨rfl, HB.out⟩
        | true =>
          obtain rfl : c6 = true := W2.out (by first | rfl | trivial) (by first | rfl | trivial)
          go_wp2_with fail
          refine (k5 _).mono ?_; rintro e w1 ⟨rfl, hb⟩
          replace HB := hide2 (below_two HB.out hb)
          clear hb
          go_wp2_with fail
          refine (k6 _).mono ?_; rintro e w1 ⟨rfl, hb⟩
          replace HB := hide2 (below_two HB.out hb)
          clear hb
          cases c7 with
          | false =>
            go_wp2_with fail
            refine (k7 _).mono ?_; rintro e w1 ⟨rfl, hb⟩
            replace HB := hide2 (below_two HB.out hb)
            clear hb
            go_wp2
            go_ret
            exact ⟨rfl, HB.out⟩
          | true =>
            go_wp2_with fail
            refine (k7 _).mono ?_; rintro e w1 ⟨rfl, hb⟩
            replace HB := hide2 (below_two HB.out hb)
            clear hb
            cases c8 with
            | false =>
              go_wp2_with fail
              refine (k8 _).mono ?_; rintro e w1 ⟨rfl, hb⟩
              replace HB := hide2 (below_two HB.out hb)
              clear hb
              go_wp2
              go_ret
              exact ⟨rfl, HB.out⟩
            | true =>
              obtain rfl : c9 = true := W3.out (by first | rfl | trivial) (by first | rfl | trivial)
              go_wp2_with fail
              refine (k8 _).mono ?_; rintro e w1 ⟨rfl, hb⟩
              replace HB := hide2 (below_two HB.out hb)
              clear hb
              go_wp2_with fail
              refine (k9 _).mono ?_; rintro e w1 ⟨rfl, hb⟩
              replace HB := hide2 (below_two HB.out hb)
              clear hb
              go_wp2
              go_ret
              exact ⟨rfl, HB.out⟩
end Go.Proofs.Ytplbdnndpgfljaa
