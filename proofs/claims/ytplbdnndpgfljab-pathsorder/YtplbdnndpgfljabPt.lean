/-
  PathsOrder: the walk.
-/
import Derived.Test.YtplbdnndpgfljabPq
namespace Go.Proofs.Ytplbdnndpgfljab
open Go.RowKit
set_option linter.unusedVariables false
set_option linter.unusedSimpArgs false
set_option maxRecDepth 100000
theorem ord_behind {a b : List UInt8} (h1 : hpB a = true) (h2 : hpB b = false) : ordM a b = -1 := by
  have hb : (srtF b).1 = 3 := by
    have := srt_low b
    simp only [hpB, decide_eq_false_iff_not] at h2
    omega
  exact none_behind (pat_of a) ((hp_iff a).1 h1) hb
set_option maxHeartbeats 8000000 in
theorem order_law (a b c : List UInt8) (w : World) (g1 : a.length ≤ 2 ^ 61) (g2 : b.length ≤ 2 ^ 61) (g3 : c.length ≤ 2 ^ 61) : Calls Try.prog 3 #[.string ⟨a.toArray⟩, .string ⟨b.toArray⟩, .string ⟨c.toArray⟩] w fun e w' => e = .returned (.bool true) ∧ Below w.heap.size w w' := by
  have h1 : a.length ≤ 2 ^ 62 := by omega
  have h2 : b.length ≤ 2 ^ 62 := by omega
  have h3 : c.length ≤ 2 ^ 62 := by omega
  have k0 := fun w => awake_any w
  have kab := fun w => order_any a b w h1 h2
  have kba := fun w => order_any b a w h2 h1
  have kaa := fun w => order_any a a w h1 h1
  have kbc := fun w => order_any b c w h2 h3
  have kac := fun w => order_any a c w h1 h3
  have ku := fun w => hostPattern_any a w h1
  have kv := fun w => hostPattern_any b w h2
  have kx := fun w => coversHost_any a b w h1 h2
  have f0 : ordM a a = 0 := cmp_refl _
  have f1 : ordM a b = - ordM b a := cmp_neg _ _
  have fbd : -1 ≤ ordM b a ∧ ordM b a ≤ 1 := cmp_bd _ _
  have bbc : -1 ≤ ordM b c ∧ ordM b c ≤ 1 := cmp_bd _ _
  have bac : -1 ≤ ordM a c ∧ ordM a c ≤ 1 := cmp_bd _ _
  have F2 : Hid (ordM a b ≤ 0 → ordM b c ≤ 0 → ordM a c ≤ 0) := hide2 (fun x y => cmp_trans x y)
  have F3 := hide2 (@ord_behind a b)
  have F4 : Hid (covM a b = true → ordM b a ≤ 0) := hide2 (fun h => cov_order (pat_of a) (pat_of b) h)
  rw [f0] at kaa
  rw [f1] at kab F2 F3
  generalize ordM b a = p at *
  generalize ordM b c = q at *
  generalize ordM a c = r at *
  generalize hpB a = u at ku F3
  generalize hpB b = v at kv F3
  generalize covM a b = x at kx F4
  clear f0 f1
  have HB := hide2 (Below.refl w.heap.size w)
  rcases (by omega : p = -1 ∨ p = 0 ∨ p = 1) with rfl | rfl | rfl
  · have bp : True := trivial
    clear fbd
    go_enter Try.func3, Try.ntmps3
    go_wp2_with fail
    refine (k0 _).mono ?_; rintro e w1 ⟨rfl, hb⟩
    replace HB := hide2 (below_two HB.out hb)
    clear hb
    go_wp2_with fail
    refine (kab _).mono ?_; rintro e w1 ⟨rfl, hb⟩
    replace HB := hide2 (below_two HB.out hb)
    clear hb
    go_wp2_with fail
    refine (kba _).mono ?_; rintro e w1 ⟨rfl, hb⟩
    replace HB := hide2 (below_two HB.out hb)
    clear hb
    go_wp2_with fail
    refine (kaa _).mono ?_; rintro e w1 ⟨rfl, hb⟩
    replace HB := hide2 (below_two HB.out hb)
    clear hb
    go_wp2_with fail
    refine (kab _).mono ?_; rintro e w1 ⟨rfl, hb⟩
    replace HB := hide2 (below_two HB.out hb)
    clear hb
    cases u with
    | false =>
      go_wp2_with fail
      refine (ku _).mono ?_; rintro e w1 ⟨rfl, hb⟩
      replace HB := hide2 (below_two HB.out hb)
      clear hb
      cases x with
      | false =>
        go_wp2_with fail
        refine (kx _).mono ?_; rintro e w1 ⟨rfl, hb⟩
        replace HB := hide2 (below_two HB.out hb)
        clear hb
        go_wp2
        go_ret
        exact ⟨rfl, HB.out⟩
      | true =>
        go_wp2_with fail
        refine (kx _).mono ?_; rintro e w1 ⟨rfl, hb⟩
        replace HB := hide2 (below_two HB.out hb)
        clear hb
        go_wp2_with fail
        refine (kba _).mono ?_; rintro e w1 ⟨rfl, hb⟩
        replace HB := hide2 (below_two HB.out hb)
        clear hb
        go_wp2
        go_ret
        exact ⟨rfl, HB.out⟩
    | true =>
      cases v with
      | true =>
        go_wp2_with fail
        refine (ku _).mono ?_; rintro e w1 ⟨rfl, hb⟩
        replace HB := hide2 (below_two HB.out hb)
        clear hb
        go_wp2_with fail
        refine (kv _).mono ?_; rintro e w1 ⟨rfl, hb⟩
        replace HB := hide2 (below_two HB.out hb)
        clear hb
        cases x with
        | false =>
          go_wp2_with fail
          refine (kx _).mono ?_; rintro e w1 ⟨rfl, hb⟩
          replace HB := hide2 (below_two HB.out hb)
          clear hb
          go_wp2
          go_ret
          exact ⟨rfl, HB.out⟩
        | true =>
          go_wp2_with fail
          refine (kx _).mono ?_; rintro e w1 ⟨rfl, hb⟩
          replace HB := hide2 (below_two HB.out hb)
          clear hb
          go_wp2_with fail
          refine (kba _).mono ?_; rintro e w1 ⟨rfl, hb⟩
          replace HB := hide2 (below_two HB.out hb)
          clear hb
          go_wp2
          go_ret
          exact ⟨rfl, HB.out⟩
      | false =>
        exact absurd (F3.out (by first | rfl | trivial) (by first | rfl | trivial)) (by decide)
  · have bp : True := trivial
    clear fbd
    go_enter Try.func3, Try.ntmps3
    go_wp2_with fail
    refine (k0 _).mono ?_; rintro e w1 ⟨rfl, hb⟩
    replace HB := hide2 (below_two HB.out hb)
    clear hb
    go_wp2_with fail
    refine (kab _).mono ?_; rintro e w1 ⟨rfl, hb⟩
    replace HB := hide2 (below_two HB.out hb)
    clear hb
    go_wp2_with fail
    refine (kba _).mono ?_; rintro e w1 ⟨rfl, hb⟩
    replace HB := hide2 (below_two HB.out hb)
    clear hb
    go_wp2_with fail
    refine (kaa _).mono ?_; rintro e w1 ⟨rfl, hb⟩
    replace HB := hide2 (below_two HB.out hb)
    clear hb
    go_wp2_with fail
    refine (kab _).mono ?_; rintro e w1 ⟨rfl, hb⟩
    replace HB := hide2 (below_two HB.out hb)
    clear hb
    by_cases hq : q ≤ 0
    · have hr : ¬ 0 < r := by have := F2.out (by decide) hq; omega
      go_wp2_with fail
      refine (kbc _).mono ?_; rintro e w1 ⟨rfl, hb⟩
      replace HB := hide2 (below_two HB.out hb)
      clear hb
      go_wp2_with fail
      refine (kac _).mono ?_; rintro e w1 ⟨rfl, hb⟩
      replace HB := hide2 (below_two HB.out hb)
      clear hb
      cases u with
      | false =>
        go_wp2_with fail
        refine (ku _).mono ?_; rintro e w1 ⟨rfl, hb⟩
        replace HB := hide2 (below_two HB.out hb)
        clear hb
        cases x with
        | false =>
          go_wp2_with fail
          refine (kx _).mono ?_; rintro e w1 ⟨rfl, hb⟩
          replace HB := hide2 (below_two HB.out hb)
          clear hb
          go_wp2
          go_ret
          exact ⟨rfl, HB.out⟩
        | true =>
          go_wp2_with fail
          refine (kx _).mono ?_; rintro e w1 ⟨rfl, hb⟩
          replace HB := hide2 (below_two HB.out hb)
          clear hb
          go_wp2_with fail
          refine (kba _).mono ?_; rintro e w1 ⟨rfl, hb⟩
          replace HB := hide2 (below_two HB.out hb)
          clear hb
          go_wp2
          go_ret
          exact ⟨rfl, HB.out⟩
      | true =>
        cases v with
        | true =>
          go_wp2_with fail
          refine (ku _).mono ?_; rintro e w1 ⟨rfl, hb⟩
          replace HB := hide2 (below_two HB.out hb)
          clear hb
          go_wp2_with fail
          refine (kv _).mono ?_; rintro e w1 ⟨rfl, hb⟩
          replace HB := hide2 (below_two HB.out hb)
          clear hb
          cases x with
          | false =>
            go_wp2_with fail
            refine (kx _).mono ?_; rintro e w1 ⟨rfl, hb⟩
            replace HB := hide2 (below_two HB.out hb)
            clear hb
            go_wp2
            go_ret
            exact ⟨rfl, HB.out⟩
          | true =>
            go_wp2_with fail
            refine (kx _).mono ?_; rintro e w1 ⟨rfl, hb⟩
            replace HB := hide2 (below_two HB.out hb)
            clear hb
            go_wp2_with fail
            refine (kba _).mono ?_; rintro e w1 ⟨rfl, hb⟩
            replace HB := hide2 (below_two HB.out hb)
            clear hb
            go_wp2
            go_ret
            exact ⟨rfl, HB.out⟩
        | false =>
          exact absurd (F3.out (by first | rfl | trivial) (by first | rfl | trivial)) (by decide)
    · go_wp2_with fail
      refine (kbc _).mono ?_; rintro e w1 ⟨rfl, hb⟩
      replace HB := hide2 (below_two HB.out hb)
      clear hb
      cases u with
      | false =>
        go_wp2_with fail
        refine (ku _).mono ?_; rintro e w1 ⟨rfl, hb⟩
        replace HB := hide2 (below_two HB.out hb)
        clear hb
        cases x with
        | false =>
          go_wp2_with fail
          refine (kx _).mono ?_; rintro e w1 ⟨rfl, hb⟩
          replace HB := hide2 (below_two HB.out hb)
          clear hb
          go_wp2
          go_ret
          exact ⟨rfl, HB.out⟩
        | true =>
          go_wp2_with fail
          refine (kx _).mono ?_; rintro e w1 ⟨rfl, hb⟩
          replace HB := hide2 (below_two HB.out hb)
          clear hb
          go_wp2_with fail
          refine (kba _).mono ?_; rintro e w1 ⟨rfl, hb⟩
          replace HB := hide2 (below_two HB.out hb)
          clear hb
          go_wp2
          go_ret
          exact ⟨rfl, HB.out⟩
      | true =>
        cases v with
        | true =>
          go_wp2_with fail
          refine (ku _).mono ?_; rintro e w1 ⟨rfl, hb⟩
          replace HB := hide2 (below_two HB.out hb)
          clear hb
          go_wp2_with fail
          refine (kv _).mono ?_; rintro e w1 ⟨rfl, hb⟩
          replace HB := hide2 (below_two HB.out hb)
          clear hb
          cases x with
          | false =>
            go_wp2_with fail
            refine (kx _).mono ?_; rintro e w1 ⟨rfl, hb⟩
            replace HB := hide2 (below_two HB.out hb)
            clear hb
            go_wp2
            go_ret
            exact ⟨rfl, HB.out⟩
          | true =>
            go_wp2_with fail
            refine (kx _).mono ?_; rintro e w1 ⟨rfl, hb⟩
            replace HB := hide2 (below_two HB.out hb)
            clear hb
            go_wp2_with fail
            refine (kba _).mono ?_; rintro e w1 ⟨rfl, hb⟩
            replace HB := hide2 (below_two HB.out hb)
            clear hb
            go_wp2
            go_ret
            exact ⟨rfl, HB.out⟩
        | false =>
          exact absurd (F3.out (by first | rfl | trivial) (by first | rfl | trivial)) (by decide)
  · have bp : True := trivial
    clear fbd
    go_enter Try.func3, Try.ntmps3
    go_wp2_with fail
    refine (k0 _).mono ?_; rintro e w1 ⟨rfl, hb⟩
    replace HB := hide2 (below_two HB.out hb)
    clear hb
    go_wp2_with fail
    refine (kab _).mono ?_; rintro e w1 ⟨rfl, hb⟩
    replace HB := hide2 (below_two HB.out hb)
    clear hb
    go_wp2_with fail
    refine (kba _).mono ?_; rintro e w1 ⟨rfl, hb⟩
    replace HB := hide2 (below_two HB.out hb)
    clear hb
    go_wp2_with fail
    refine (kaa _).mono ?_; rintro e w1 ⟨rfl, hb⟩
    replace HB := hide2 (below_two HB.out hb)
    clear hb
    go_wp2_with fail
    refine (kab _).mono ?_; rintro e w1 ⟨rfl, hb⟩
    replace HB := hide2 (below_two HB.out hb)
    clear hb
    by_cases hq : q ≤ 0
    · have hr : ¬ 0 < r := by have := F2.out (by decide) hq; omega
      go_wp2_with fail
      refine (kbc _).mono ?_; rintro e w1 ⟨rfl, hb⟩
      replace HB := hide2 (below_two HB.out hb)
      clear hb
      go_wp2_with fail
      refine (kac _).mono ?_; rintro e w1 ⟨rfl, hb⟩
      replace HB := hide2 (below_two HB.out hb)
      clear hb
      cases u with
      | false =>
        go_wp2_with fail
        refine (ku _).mono ?_; rintro e w1 ⟨rfl, hb⟩
        replace HB := hide2 (below_two HB.out hb)
        clear hb
        cases x with
        | false =>
          go_wp2_with fail
          refine (kx _).mono ?_; rintro e w1 ⟨rfl, hb⟩
          replace HB := hide2 (below_two HB.out hb)
          clear hb
          go_wp2
          go_ret
          exact ⟨rfl, HB.out⟩
        | true =>
          exact absurd (F4.out (by first | rfl | trivial)) (by decide)
      | true =>
        cases v with
        | true =>
          go_wp2_with fail
          refine (ku _).mono ?_; rintro e w1 ⟨rfl, hb⟩
          replace HB := hide2 (below_two HB.out hb)
          clear hb
          go_wp2_with fail
          refine (kv _).mono ?_; rintro e w1 ⟨rfl, hb⟩
          replace HB := hide2 (below_two HB.out hb)
          clear hb
          cases x with
          | false =>
            go_wp2_with fail
            refine (kx _).mono ?_; rintro e w1 ⟨rfl, hb⟩
            replace HB := hide2 (below_two HB.out hb)
            clear hb
            go_wp2
            go_ret
            exact ⟨rfl, HB.out⟩
          | true =>
            exact absurd (F4.out (by first | rfl | trivial)) (by decide)
        | false =>
          go_wp2_with fail
          refine (ku _).mono ?_; rintro e w1 ⟨rfl, hb⟩
          replace HB := hide2 (below_two HB.out hb)
          clear hb
          go_wp2_with fail
          refine (kv _).mono ?_; rintro e w1 ⟨rfl, hb⟩
          replace HB := hide2 (below_two HB.out hb)
          clear hb
          go_wp2_with fail
          refine (kab _).mono ?_; rintro e w1 ⟨rfl, hb⟩
          replace HB := hide2 (below_two HB.out hb)
          clear hb
          cases x with
          | false =>
            go_wp2_with fail
            refine (kx _).mono ?_; rintro e w1 ⟨rfl, hb⟩
            replace HB := hide2 (below_two HB.out hb)
            clear hb
            go_wp2
            go_ret
            exact ⟨rfl, HB.out⟩
          | true =>
            exact absurd (F4.out (by first | rfl | trivial)) (by decide)
    · go_wp2_with fail
      refine (kbc _).mono ?_; rintro e w1 ⟨rfl, hb⟩
      replace HB := hide2 (below_two HB.out hb)
      clear hb
      cases u with
      | false =>
        go_wp2_with fail
        refine (ku _).mono ?_; rintro e w1 ⟨rfl, hb⟩
        replace HB := hide2 (below_two HB.out hb)
        clear hb
        cases x with
        | false =>
          go_wp2_with fail
          refine (kx _).mono ?_; rintro e w1 ⟨rfl, hb⟩
          replace HB := hide2 (below_two HB.out hb)
          clear hb
          go_wp2
          go_ret
          exact ⟨rfl, HB.out⟩
        | true =>
          exact absurd (F4.out (by first | rfl | trivial)) (by decide)
      | true =>
        cases v with
        | true =>
          go_wp2_with fail
          refine (ku _).mono ?_; rintro e w1 ⟨rfl, hb⟩
          replace HB := hide2 (below_two HB.out hb)
          clear hb
          go_wp2_with fail
          refine (kv _).mono ?_; rintro e w1 ⟨rfl, hb⟩
          replace HB := hide2 (below_two HB.out hb)
          clear hb
          cases x with
          | false =>
            go_wp2_with fail
            refine (kx _).mono ?_; rintro e w1 ⟨rfl, hb⟩
            replace HB := hide2 (below_two HB.out hb)
            clear hb
            go_wp2
            go_ret
            exact ⟨rfl, HB.out⟩
          | true =>
            exact absurd (F4.out (by first | rfl | trivial)) (by decide)
        | false =>
          go_wp2_with fail
          refine (ku _).mono ?_; rintro e w1 ⟨rfl, hb⟩
          replace HB := hide2 (below_two HB.out hb)
          clear hb
          go_wp2_with fail
          refine (kv _).mono ?_; rintro e w1 ⟨rfl, hb⟩
          replace HB := hide2 (below_two HB.out hb)
          clear hb
          go_wp2_with fail
          refine (kab _).mono ?_; rintro e w1 ⟨rfl, hb⟩
          replace HB := hide2 (below_two HB.out hb)
          clear hb
          cases x with
          | false =>
            go_wp2_with fail
            refine (kx _).mono ?_; rintro e w1 ⟨rfl, hb⟩
            replace HB := hide2 (below_two HB.out hb)
            clear hb
            go_wp2
            go_ret
            exact ⟨rfl, HB.out⟩
          | true =>
            exact absurd (F4.out (by first | rfl | trivial)) (by decide)
end Go.Proofs.Ytplbdnndpgfljab
