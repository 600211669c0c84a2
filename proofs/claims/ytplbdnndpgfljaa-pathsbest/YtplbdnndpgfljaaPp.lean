/-
  Some patterns: awake.
-/
import Derived.Test.YtplbdnndpgfljaaPo
namespace Go.Proofs.Ytplbdnndpgfljaa
open Go.RowKit
set_option linter.unusedVariables false
set_option linter.unusedSimpArgs false
set_option maxRecDepth 100000
theorem best_any (w : World) (a : Option Addr) (n cap : Nat) (ds : List (List UInt8)) (s : List UInt8) (hn : ds.length = n) (hl : n ≤ 140737488351232) (hS : Strs w a ds) (hs : ∀ d ∈ ds, d.length ≤ 2 ^ 61) (h2 : s.length ≤ 2 ^ 61) :
    Calls Try.prog 31 #[.slice a n cap, .string ⟨s.toArray⟩] w fun e w' => e = .returned (.tuple #[.int .i64 (if hostB s then (bstS (fldF s) ds n).1 else 0), .bool (hostB s && !((bstS (fldF s) ds n).2.1 == 3))]) ∧ Below w.heap.size w w' := by
  cases h : hostB s with
  | true =>
    refine (best_ok w a n cap ds s hn hl hS hs h2 h).mono ?_
    rintro e w' ⟨rfl, hb⟩
    exact ⟨rfl, hb⟩
  | false =>
    refine (best_no w a n cap s (by omega) h).mono ?_
    rintro e w' ⟨rfl, hb⟩
    exact ⟨rfl, hb⟩
theorem strs3 (W : World) (x y z : List UInt8) : Strs (W.alloc (.cells #[.string ⟨x.toArray⟩, .string ⟨y.toArray⟩, .string ⟨z.toArray⟩] 9 (0, 0))) (some ⟨W.heap.size, 0, none⟩) [x, y, z] := by
  refine .inr ⟨_, rfl, fun j d hd => ?_⟩
  refine World.news_of_block (heap_alloc_new W _) j _ ?_
  rcases j with _ | _ | _ | j
  · simp at hd; subst hd; rfl
  · simp at hd; subst hd; rfl
  · simp at hd; subst hd; rfl
  · simp at hd
set_option maxHeartbeats 4000000 in
theorem awake_any (w : World) : Calls Try.prog 33 #[] w fun e w' => e = .returned (.bool true) ∧ Below w.heap.size w w' := by
  have c9 : ∀ w, Calls Try.prog 9 #[.string ⟨[83, 104, 111, 112, 46, 69, 120, 97, 109, 112, 108, 101].toArray⟩] w fun e w' => e = .returned (.tuple #[.string ⟨[115, 104, 111, 112, 46, 101, 120, 97, 109, 112, 108, 101].toArray⟩, .bool true]) ∧ Below w.heap.size w w' := fun w => by
    have := fold_any [83, 104, 111, 112, 46, 69, 120, 97, 109, 112, 108, 101] w (by decide)
    rwa [show fdF [83, 104, 111, 112, 46, 69, 120, 97, 109, 112, 108, 101] = [115, 104, 111, 112, 46, 101, 120, 97, 109, 112, 108, 101] by decide +kernel, show hostB [83, 104, 111, 112, 46, 69, 120, 97, 109, 112, 108, 101] = true by decide +kernel] at this
  have c31 : ∀ W : World, Calls Try.prog 31 #[.slice (some ⟨W.heap.size, 0, none⟩) 3 3, .string ⟨[120, 46, 98, 46, 97].toArray⟩] (W.alloc (.cells #[.string ⟨[42].toArray⟩, .string ⟨[42, 46, 97].toArray⟩, .string ⟨[42, 46, 98, 46, 97].toArray⟩] 9 (0, 0))) fun e w' => e = .returned (.tuple #[.int .i64 2, .bool true]) ∧ Below (W.alloc (.cells #[.string ⟨[42].toArray⟩, .string ⟨[42, 46, 97].toArray⟩, .string ⟨[42, 46, 98, 46, 97].toArray⟩] 9 (0, 0))).heap.size (W.alloc (.cells #[.string ⟨[42].toArray⟩, .string ⟨[42, 46, 97].toArray⟩, .string ⟨[42, 46, 98, 46, 97].toArray⟩] 9 (0, 0))) w' := fun W => by
    have := best_any _ _ 3 3 _ [120, 46, 98, 46, 97] rfl (by decide) (strs3 W [42] [42, 46, 97] [42, 46, 98, 46, 97]) (by intro d hd; simp at hd; rcases hd with rfl | rfl | rfl <;> decide) (by decide)
    rwa [show (if hostB [120, 46, 98, 46, 97] then (bstS (fldF [120, 46, 98, 46, 97]) [[42], [42, 46, 97], [42, 46, 98, 46, 97]] 3).1 else 0) = 2 by decide +kernel, show (hostB [120, 46, 98, 46, 97] && !((bstS (fldF [120, 46, 98, 46, 97]) [[42], [42, 46, 97], [42, 46, 98, 46, 97]] 3).2.1 == 3)) = true by decide +kernel] at this
  have d1 : ∀ w, Calls Try.prog 11 #[.string ⟨[42, 46, 97].toArray⟩] w fun e w' => e = .returned (.bool true) ∧ Below w.heap.size w w' := fun w => by
    have := hostPattern_any [42, 46, 97] w (by decide)
    rwa [show hpB [42, 46, 97] = true by decide +kernel] at this
  have d2 : ∀ w, Calls Try.prog 11 #[.string ⟨[42, 97].toArray⟩] w fun e w' => e = .returned (.bool false) ∧ Below w.heap.size w w' := fun w => by
    have := hostPattern_any [42, 97] w (by decide)
    rwa [show hpB [42, 97] = false by decide +kernel] at this
  have d3 : ∀ w, Calls Try.prog 19 #[.string ⟨[47, 97, 42].toArray⟩, .string ⟨[47, 97, 98].toArray⟩] w fun e w' => e = .returned (.bool true) ∧ Below w.heap.size w w' := fun w => by
    have := at_below (path_any [47, 97, 42] [47, 97, 98] w (by decide) (by decide))
    rwa [show pathM [47, 97, 42] [47, 97, 98] = true by decide +kernel] at this
  have d4 : ∀ w, Calls Try.prog 19 #[.string ⟨[47, 97].toArray⟩, .string ⟨[47, 97, 47].toArray⟩] w fun e w' => e = .returned (.bool false) ∧ Below w.heap.size w w' := fun w => by
    have := at_below (path_any [47, 97] [47, 97, 47] w (by decide) (by decide))
    rwa [show pathM [47, 97] [47, 97, 47] = false by decide +kernel] at this
  have d5 : ∀ w, Calls Try.prog 17 #[.string ⟨[42, 46, 65].toArray⟩, .string ⟨[120, 46, 97].toArray⟩] w fun e w' => e = .returned (.bool true) ∧ Below w.heap.size w w' := fun w => by
    have := host_any [42, 46, 65] [120, 46, 97] w (by decide) (by decide)
    rwa [show hostM [42, 46, 65] [120, 46, 97] = true by decide +kernel] at this
  have d6 : ∀ w, Calls Try.prog 17 #[.string ⟨[42, 46, 97].toArray⟩, .string ⟨[97].toArray⟩] w fun e w' => e = .returned (.bool false) ∧ Below w.heap.size w w' := fun w => by
    have := host_any [42, 46, 97] [97] w (by decide) (by decide)
    rwa [show hostM [42, 46, 97] [97] = false by decide +kernel] at this
  have d7 : ∀ w, Calls Try.prog 23 #[.string ⟨[42, 46, 97].toArray⟩, .string ⟨[42, 46, 98, 46, 97].toArray⟩] w fun e w' => e = .returned (.bool true) ∧ Below w.heap.size w w' := fun w => by
    have := coversHost_any [42, 46, 97] [42, 46, 98, 46, 97] w (by decide) (by decide)
    rwa [show covM [42, 46, 97] [42, 46, 98, 46, 97] = true by decide +kernel] at this
  have d8 : ∀ w, Calls Try.prog 29 #[.string ⟨[98].toArray⟩, .string ⟨[42, 46, 122].toArray⟩] w fun e w' => e = .returned (.int .i64 (-1)) ∧ Below w.heap.size w w' := fun w => by
    have := order_any [98] [42, 46, 122] w (by decide) (by decide)
    rwa [show ordM [98] [42, 46, 122] = (-1) by decide +kernel] at this
  have HB := hide2 (Below.refl w.heap.size w)
  go_enter Try.func33, Try.ntmps33
  go_wp2_with fail
  refine (c9 _).mono ?_; rintro e w1 ⟨rfl, hb⟩
  replace HB := hide2 (below_two HB.out hb)
  clear hb
  go_wp2_with fail
  refine (c31 _).mono ?_; rintro e w2 ⟨rfl, hb⟩
  replace HB := hide2 (below_two (HB.out.alloc HB.out.size _) hb)
  clear hb
  go_wp2_with fail
  refine (d1 _).mono ?_; rintro e w3 ⟨rfl, hb⟩
  replace HB := hide2 (below_two HB.out hb)
  clear hb
  go_wp2_with fail
  refine (d2 _).mono ?_; rintro e w4 ⟨rfl, hb⟩
  replace HB := hide2 (below_two HB.out hb)
  clear hb
  go_wp2_with fail
  refine (d3 _).mono ?_; rintro e w5 ⟨rfl, hb⟩
  replace HB := hide2 (below_two HB.out hb)
  clear hb
  go_wp2_with fail
  refine (d4 _).mono ?_; rintro e w6 ⟨rfl, hb⟩
  replace HB := hide2 (below_two HB.out hb)
  clear hb
  go_wp2_with fail
  refine (d5 _).mono ?_; rintro e w7 ⟨rfl, hb⟩
  replace HB := hide2 (below_two HB.out hb)
  clear hb
  go_wp2_with fail
  refine (d6 _).mono ?_; rintro e w8 ⟨rfl, hb⟩
  replace HB := hide2 (below_two HB.out hb)
  clear hb
  go_wp2_with fail
  refine (d7 _).mono ?_; rintro e w9 ⟨rfl, hb⟩
  replace HB := hide2 (below_two HB.out hb)
  clear hb
  go_wp2_with fail
  refine (d8 _).mono ?_; rintro e w10 ⟨rfl, hb⟩
  replace HB := hide2 (below_two HB.out hb)
  clear hb
  go_wp2
  go_ret
  exact ⟨rfl, HB.out⟩
end Go.Proofs.Ytplbdnndpgfljaa
