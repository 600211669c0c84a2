/-
  The contracts of same, kept, step, both, num: what is the same is told to be.
-/
import Derived.Test.YtnbhadfhgecajaaREncode
import Derived.Deep.QuietTactic
import Derived.BigQuiet
namespace Go.Proofs.Ytnbhadfhgecajaa
open Go.RowKit
set_option linter.unusedVariables false

theorem drew_two (w : World) (p q : Nat) : (w.drewN p).drewN q = w.drewN (p + q) := by
  simp [World.drewN, Nat.add_assoc]

set_option maxHeartbeats 1000000 in
theorem same_some (b1 o1 b2 o2 n c1 c2 : Nat) (zs : List Int) (w : World) (hn : zs.length = n) (hl : n ≤ 140737488355328)
    (e1 : ∀ i, i < n → w.cell? ⟨b1, o1 + i, none⟩ = some (.int .u8 (zs.getD i 0))) (e2 : ∀ i, i < n → w.cell? ⟨b2, o2 + i, none⟩ = some (.int .u8 (zs.getD i 0))) :
    Calls Try.prog 21 #[.slice (some ⟨b1, o1, none⟩) n c1, .slice (some ⟨b2, o2, none⟩) n c2] w fun e w' => e = .returned (.bool true) ∧ ∃ q, w' = w.drewN q := by
  go_enter Try.func21, Try.ntmps21
  go_wp2
  go_loopw [5] (fun t wr => ∃ k q : Nat, k ≤ n ∧ t = .int .i64 k ∧ wr = w.drewN q) (fun t _ => n - (intOf t).toNat)
  case atStart => exact ⟨0, 0, by omega, rfl, by simp [World.drewN]⟩
  case round =>
    obtain ⟨k, q, hk, rfl, rfl⟩ := hrel
    by_cases hlt : k < n
    · have h1 : w.cell? ⟨b1, o1 + k, none⟩ = some (.int .u8 (zs.getD k 0)) := e1 k hlt
      have h2 : w.cell? ⟨b2, o2 + k, none⟩ = some (.int .u8 (zs.getD k 0)) := e2 k hlt
      obtain ⟨z, hz⟩ : ∃ z, zs.getD k 0 = z := ⟨_, rfl⟩
      rw [hz] at h1 h2
      have k0 : (0 : Int) ≤ k := by omega
      have k1 : (k : Int) < n := by omega
      clear hz e1 e2
      go_wp2_with fail
      go_quiet (fail)
      go_wp2
      go_roundw
      case rel => exact ⟨k + 1, q + nq, by omega, by go_num, rfl⟩
      case measure => simp [intOf]; omega
    · go_wp2
      go_ret
      exact ⟨rfl, q, rfl⟩
set_option maxHeartbeats 400000 in
theorem same_empty (a1 a2 : Option Addr) (c1 c2 : Nat) (w : World) :
    Calls Try.prog 21 #[.slice a1 0 c1, .slice a2 0 c2] w fun e w' => e = .returned (.bool true) ∧ ∃ q, w' = w.drewN q := by
  go_enter Try.func21, Try.ntmps21
  go_wp2
  refine wp_loop_rounds 1 ?_
  rw [rounds_succ]
  go_wp2
  go_ret
  exact ⟨rfl, 0, by simp [World.drewN]⟩

theorem same_any (a1 a2 : Option Addr) (n c1 c2 : Nat) (zs : List Int) (w : World) (hn : zs.length = n) (h1 : Has w a1 zs) (h2 : Has w a2 zs) (hl : n ≤ 140737488355328) :
    Calls Try.prog 21 #[.slice a1 n c1, .slice a2 n c2] w fun e w' => e = .returned (.bool true) ∧ ∃ q, w' = w.drewN q := by
  by_cases h0 : zs.length = 0
  · obtain rfl : n = 0 := by omega
    exact same_empty a1 a2 c1 c2 w
  · rcases h1 with ⟨_, h⟩ | ⟨x1, rfl, e1⟩
    · rw [h] at h0; simp at h0
    rcases h2 with ⟨_, h⟩ | ⟨x2, rfl, e2⟩
    · rw [h] at h0; simp at h0
    obtain ⟨b1, o1, rfl, f1⟩ := ints_at (k := .u8) e1 (by omega)
    obtain ⟨b2, o2, rfl, f2⟩ := ints_at (k := .u8) e2 (by omega)
    exact same_some b1 o1 b2 o2 n c1 c2 zs w hn hl (fun i hi => f1 i (by omega)) (fun i hi => f2 i (by omega))

set_option maxHeartbeats 1000000 in
theorem kept_any (base g n cap : Nat) (a2 : Option Addr) (cap2 : Nat) (zs : List Int) (w : World) (hR : Row w base g n cap zs) (hB : Has w a2 zs) :
    Calls Try.prog 15 #[.slice (some ⟨g, 0, none⟩) n cap, .slice a2 n cap2] w fun e w' => e = .returned (.bool true) ∧ ∃ q, w' = w.drewN q := by
  obtain ⟨m1, m2⟩ := hR.marks
  obtain ⟨c1, c2⟩ := hR.cap
  have c3 := hR.small
  unfold maxLen at c2
  have k1 : (0 : Int) ≤ n := by omega
  have k2 : (n : Int) + 2 ≤ cap := by omega
  have HR : Hid (Row w base g n cap zs) := hR
  have HB : Hid (Has w a2 zs) := hB
  clear hR hB
  go_enter Try.func15, Try.ntmps15
  go_wp2_with fail
  refine (same_any (some ⟨g, 0, none⟩) a2 n cap cap2 zs _ HR.out.len HR.out.has HB.out (by omega)).mono ?_
  rintro e w1 ⟨rfl, q, rfl⟩
  go_wp2
  go_ret
  exact ⟨rfl, q, rfl⟩

theorem has_drewN {w : World} {a : Option Addr} {zs : List Int} (h : Has w a zs) (q : Nat) : Has (w.drewN q) a zs := by
  rcases h with h | ⟨x, hx, hc⟩
  · exact .inl h
  · exact .inr ⟨x, hx, fun j hj => hc j hj⟩
theorem below_drewN {B : Nat} {w w' : World} (h : Below B w w') (q : Nat) : Below B w (w'.drewN q) := h.trans ⟨rfl, rfl, rfl, Nat.le_refl _, fun _ _ => rfl⟩

set_option maxHeartbeats 1000000 in
theorem step_any (op x y at0 : Int) (a1 a2 : Option Addr) (n c1 c2 : Nat) (zs : List Int) (w : World) (hn : zs.length = n) (h1 : Has w a1 zs) (h2 : Has w a2 zs) (hl : n ≤ 140737488355328) :
    Calls Try.prog 13 #[.agg #[.int .i64 op, .int .i64 x, .int .i64 y, .slice a1 n c1], .agg #[.int .i64 op, .int .i64 x, .int .i64 y, .slice a2 n c2, .int .i64 at0]] w fun e w' => e = .returned (.bool true) ∧ Below w.heap.size w w' := by
  have HN : Hid (zs.length = n) := hn
  have B : Hid (Below w.heap.size w ((w.alloc (.cells #[.int .i64 op, .int .i64 x, .int .i64 y, .slice a1 n c1] 32)).alloc (.cells #[.int .i64 op, .int .i64 x, .int .i64 y, .slice a2 n c2, .int .i64 at0] 34))) := ((Below.refl _ _).alloc (Nat.le_refl _) _).alloc (by simp) _
  have H1 : Hid (Has w a1 zs) := h1
  have H2 : Hid (Has w a2 zs) := h2
  clear hn h1 h2
  go_enter Try.func13, Try.ntmps13
  go_wp2_with fail
  refine (same_any a1 a2 n c1 c2 zs _ HN.out (H1.out.of_below B.out) (H2.out.of_below B.out) hl).mono ?_
  rintro e w1 ⟨rfl, q, rfl⟩
  go_wp2
  go_ret
  exact ⟨rfl, below_drewN B.out q⟩
set_option maxHeartbeats 1000000 in
theorem both_any (op x y : Int) (a1 a2 : Option Addr) (n c1 c2 : Nat) (zs : List Int) (w : World) (hn : zs.length = n) (h1 : Has w a1 zs) (h2 : Has w a2 zs) (hl : n ≤ 140737488355328) :
    Calls Try.prog 23 #[.agg #[.int .i64 op, .int .i64 x, .int .i64 y, .slice a1 n c1], .agg #[.int .i64 op, .int .i64 x, .int .i64 y, .slice a2 n c2]] w fun e w' => e = .returned (.bool true) ∧ Below w.heap.size w w' := by
  have HN : Hid (zs.length = n) := hn
  have B : Hid (Below w.heap.size w ((w.alloc (.cells #[.int .i64 op, .int .i64 x, .int .i64 y, .slice a1 n c1] 32)).alloc (.cells #[.int .i64 op, .int .i64 x, .int .i64 y, .slice a2 n c2] 32))) := ((Below.refl _ _).alloc (Nat.le_refl _) _).alloc (by simp) _
  have H1 : Hid (Has w a1 zs) := h1
  have H2 : Hid (Has w a2 zs) := h2
  clear hn h1 h2
  go_enter Try.func23, Try.ntmps23
  go_wp2_with fail
  refine (same_any a1 a2 n c1 c2 zs _ HN.out (H1.out.of_below B.out) (H2.out.of_below B.out) hl).mono ?_
  rintro e w1 ⟨rfl, q, rfl⟩
  go_wp2
  go_ret
  exact ⟨rfl, below_drewN B.out q⟩
set_option maxHeartbeats 400000 in
theorem num_any (e : Int) (w : World) (h0 : 0 ≤ e) (h1 : e ≤ 100) : Calls Try.prog 20 #[.int .i64 e] w fun r w' => r = .returned (.int .i64 e) ∧ w' = w := by
  go_enter Try.func20, Try.ntmps20
  go_wp2
  go_ret
  exact ⟨rfl, rfl⟩
end Go.Proofs.Ytnbhadfhgecajaa
