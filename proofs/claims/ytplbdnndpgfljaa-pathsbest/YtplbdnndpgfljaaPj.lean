/-
  Whether a pattern of hosts covers another one; how two of them stand.
-/
import Derived.Test.YtplbdnndpgfljaaPi
import Derived.Deep.RegionHeld3
namespace Go.Proofs.Ytplbdnndpgfljaa
open Go.RowKit
set_option linter.unusedVariables false
set_option linter.unusedSimpArgs false
set_option maxRecDepth 100000
/-- covers, of two sorted patterns -/
def covF (p q : Int × List UInt8) : Bool := !(p.1 == 3) && !(q.1 == 3) && ((p.1 == 2) || (p == q) || ((p.1 == 1) && belF q.2 p.2))
theorem two_alloc {w : World} (o1 o2 : Obj) : Below w.heap.size w ((w.alloc o1).alloc o2) := ((Below.refl _ w).alloc (Nat.le_refl _) _).alloc (by simp) _
set_option maxHeartbeats 4000000 in
theorem covers_any (n m : Int) (t u : List UInt8) (w : World) (hn : n = 0 ∨ n = 1 ∨ n = 2 ∨ n = 3) (hm : m = 0 ∨ m = 1 ∨ m = 2 ∨ m = 3) (h1 : t.length ≤ 2 ^ 62) (h2 : u.length ≤ 2 ^ 62) : Calls Try.prog 48 #[patV (n, t), patV (m, u)] w fun e w' => e = .returned (.bool (covF (n, t) (m, u))) ∧ Below w.heap.size w w' := by
  have hB := fun w => isBelow_any u t w h2 h1
  unfold patV
  rcases hn with rfl | rfl | rfl | rfl <;> rcases hm with rfl | rfl | rfl | rfl
  all_goals
    go_enter Try.func48, Try.ntmps48
    go_wp2_with (go_at_call 57; refine (hB _).mono ?_; rintro e w1 ⟨rfl, hw⟩; have hw := hw.symm; subst hw)
    all_goals
      go_ret
      refine ⟨ret_bool ?_, two_alloc _ _⟩
      first | rfl | (simp [covF]; done) | (simp_all [covF]; done)
theorem compareS_any (x y : Int) (w : World) : Calls Try.prog 61 #[.int .i64 x, .int .i64 y] w fun e w' => e = .returned (.int .i64 (Lib.compareInt x y)) ∧ w' = w := by
  unfold Lib.compareInt
  by_cases h1 : x < y
  · rw [if_pos h1]
    go_enter Try.func61, Try.ntmps61
    go_wp2
    go_ret
    exact ⟨rfl, rfl⟩
  · rw [if_neg h1]
    by_cases h2 : x > y
    · rw [if_pos h2]
      have h3 : y < x := h2
      go_enter Try.func61, Try.ntmps61
      go_wp2
      go_ret
      exact ⟨rfl, rfl⟩
    · rw [if_neg h2]
      have h3 : ¬ y < x := h2
      go_enter Try.func61, Try.ntmps61
      go_wp2
      go_ret
      exact ⟨rfl, rfl⟩
theorem orInt_any (a b c : Int) (w : World) (g : Nat) (h0 : w.cell? ⟨g, 0, none⟩ = some (.int .i64 a)) (h1 : w.cell? ⟨g, 1, none⟩ = some (.int .i64 b)) (h2 : w.cell? ⟨g, 2, none⟩ = some (.int .i64 c)) :
    Calls Try.prog 60 #[.slice (some ⟨g, 0, none⟩) 3 3] w fun e w' => e = .returned (.int .i64 (if a = 0 then if b = 0 then c else b else a)) ∧ w' = w := by
  by_cases ha : a = 0
  · subst ha
    by_cases hb : b = 0
    · subst hb
      by_cases hc : c = 0
      · subst hc
        go_enter Try.func60, Try.ntmps60
        go_wp2
        refine wp_loop_rounds 4 ?_
        iterate 4 (rw [rounds_succ]; go_wp2)
        go_ret
        exact ⟨rfl, rfl⟩
      · have hc' : (c == 0) = false := by simpa using hc
        go_enter Try.func60, Try.ntmps60
        go_wp2
        refine wp_loop_rounds 4 ?_
        iterate 3 (rw [rounds_succ]; go_wp2)
        go_ret
        exact ⟨ret_int (by simp), rfl⟩
    · have hb' : (b == 0) = false := by simpa using hb
      go_enter Try.func60, Try.ntmps60
      go_wp2
      refine wp_loop_rounds 4 ?_
      iterate 2 (rw [rounds_succ]; go_wp2)
      go_ret
      exact ⟨ret_int (by simp [hb]), rfl⟩
  · have ha' : (a == 0) = false := by simpa using ha
    go_enter Try.func60, Try.ntmps60
    go_wp2
    refine wp_loop_rounds 4 ?_
    rw [rounds_succ]
    go_wp2
    go_ret
    exact ⟨ret_int (by simp [ha]), rfl⟩
/-- how two sorted patterns stand -/
def cmpF (p q : Int × List UInt8) : Int :=
  let a := Lib.compareInt p.1 q.1
  let b := if p.1 = 1 then Lib.compareInt q.2.length p.2.length else 0
  if a = 0 then if b = 0 then Lib.compareBytes p.2 q.2 else b else a
end Go.Proofs.Ytplbdnndpgfljaa
