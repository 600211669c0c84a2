/- The calls of no log; the walk of LogNil. -/
import Derived.Test.YtijnoeabiceedaaGreatDoorBase
namespace Go.Proofs.YtijnoeabiceedaaGreatDoor
open Go.RowKit
set_option linter.unusedVariables false
set_option linter.unusedSimpArgs false
theorem refuses_nil (v : Value) (w : World) : Calls Tryz.prog 40 #[.pointer none, v] w fun e w' => e = .returned (.int .i64 1) ∧ w' = w := by
  go_enter Tryz.func40, Tryz.ntmps40
  go_wp2_with fail
  go_ret
  exact ⟨rfl, rfl⟩
theorem open_nil (n : Int) (w : World) : Calls Tryz.prog 10 #[.pointer none, .int .i64 n] w fun e w' => e = .returned (.tuple #[.pointer none, .int .i64 1]) ∧ Below w.heap.size w w' := by
  have hb : Below w.heap.size w ((w.alloc (.cells #[.pointer none] 25 (0, 0))).alloc (.cells #[.int .i64 1] 26 (0, 0))) := ((Below.refl _ _).alloc (Nat.le_refl _) _).alloc (by simp) _
  go_enter Tryz.func10, Tryz.ntmps10
  go_wp2_with fail
  refine bodyPost_ret (v := .tuple #[.pointer none, .int .i64 1]) (by simp [results, Tryz.results10, go_sem]) rfl ⟨rfl, hb⟩
theorem append_nil (v : Value) (w : World) : Calls Tryz.prog 11 #[.pointer none, v] w fun e w' => e = .returned (.tuple #[.int .i64 (-1), .int .i64 1]) ∧ Below w.heap.size w w' := by
  have hb : Below w.heap.size w (((w.alloc (.cells #[.pointer none] 25 (0, 0))).alloc (.cells #[.int .i64 (-1)] 3 (0, 0))).alloc (.cells #[.int .i64 1] 26 (0, 0))) := (((Below.refl _ _).alloc (Nat.le_refl _) _).alloc (by simp) _).alloc (by simp; omega) _
  go_enter Tryz.func11, Tryz.ntmps11
  go_wp2_with (first | (go_at_call 40; refine (refuses_nil _ _).mono ?_; rintro e w1 ⟨rfl, rfl⟩))
  refine bodyPost_ret (v := .tuple #[.int .i64 (-1), .int .i64 1]) (by simp [results, Tryz.results11, go_sem]) rfl ⟨rfl, hb⟩
theorem sync_nil (w : World) : Calls Tryz.prog 15 #[.pointer none] w fun e w' => e = .returned (.int .i64 1) ∧ Below w.heap.size w w' := by
  have hb : Below w.heap.size w ((w.alloc (.cells #[.pointer none] 25 (0, 0))).alloc (.cells #[.int .i64 1] 26 (0, 0))) := ((Below.refl _ _).alloc (Nat.le_refl _) _).alloc (by simp) _
  go_enter Tryz.func15, Tryz.ntmps15
  go_wp2_with (first | (go_at_call 40; refine (refuses_nil _ _).mono ?_; rintro e w1 ⟨rfl, rfl⟩))
  refine bodyPost_ret (v := .int .i64 1) (by simp [results, Tryz.results15, go_sem]) rfl ⟨rfl, hb⟩
theorem drop_nil (n : Int) (w : World) : Calls Tryz.prog 16 #[.pointer none, .int .i64 n] w fun e w' => e = .returned (.int .i64 1) ∧ Below w.heap.size w w' := by
  go_enter Tryz.func16, Tryz.ntmps16
  go_wp2_with (first | (go_at_call 40; refine (refuses_nil _ _).mono ?_; rintro e w1 ⟨rfl, rfl⟩))
  refine bodyPost_ret (v := .int .i64 1) (by simp [results, Tryz.results16, go_sem]) rfl ⟨rfl, (((Below.refl _ _).alloc (Nat.le_refl _) _).alloc (by simp) _).alloc (by simp; omega) _⟩
theorem trim_nil (n : Int) (w : World) : Calls Tryz.prog 18 #[.pointer none, .int .i64 n] w fun e w' => e = .returned (.int .i64 1) ∧ Below w.heap.size w w' := by
  go_enter Tryz.func18, Tryz.ntmps18
  go_wp2_with (first | (go_at_call 40; refine (refuses_nil _ _).mono ?_; rintro e w1 ⟨rfl, rfl⟩))
  refine bodyPost_ret (v := .int .i64 1) (by simp [results, Tryz.results18, go_sem]) rfl ⟨rfl, (((Below.refl _ _).alloc (Nat.le_refl _) _).alloc (by simp) _).alloc (by simp; omega) _⟩
theorem get_nil (n : Int) (w : World) : Calls Tryz.prog 20 #[.pointer none, .int .i64 n] w fun e w' => e = .returned (.tuple #[.slice none 0 0, .bool false]) ∧ Below w.heap.size w w' := by
  go_enter Tryz.func20, Tryz.ntmps20
  go_wp2_with fail
  go_ret2
  exact ⟨rfl, Below.refl _ _⟩
theorem first_nil (w : World) : Calls Tryz.prog 22 #[.pointer none] w fun e w' => e = .returned (.int .i64 0) ∧ Below w.heap.size w w' := by
  go_enter Tryz.func22, Tryz.ntmps22
  go_wp2_with fail
  go_ret
  exact ⟨rfl, Below.refl _ _⟩
theorem last_nil (w : World) : Calls Tryz.prog 52 #[.pointer none] w fun e w' => e = .returned (.pointer none) ∧ w' = w := by
  go_enter Tryz.func52, Tryz.ntmps52
  go_wp2_with fail
  go_ret
  exact ⟨rfl, rfl⟩
theorem next_nil (w : World) : Calls Tryz.prog 23 #[.pointer none] w fun e w' => e = .returned (.int .i64 0) ∧ Below w.heap.size w w' := by
  go_enter Tryz.func23, Tryz.ntmps23
  go_wp2_with (first | (go_at_call 52; refine (last_nil _).mono ?_; rintro e w1 ⟨rfl, rfl⟩))
  go_ret
  exact ⟨rfl, Below.refl _ _⟩
theorem dead_nil (w : World) : Calls Tryz.prog 24 #[.pointer none] w fun e w' => e = .returned (.bool false) ∧ Below w.heap.size w w' := by
  go_enter Tryz.func24, Tryz.ntmps24
  go_wp2_with fail
  go_ret
  exact ⟨rfl, Below.refl _ _⟩
theorem all_nil (w : World) : Calls Tryz.prog 26 #[.pointer none] w fun e w' => e = .returned (.slice none 0 0) ∧ Below w.heap.size w w' := by
  go_enter Tryz.func26, Tryz.ntmps26
  go_wp2_with fail
  go_ret
  exact ⟨rfl, Below.refl _ _⟩
theorem logNil_walk (limit n : Int) (v : Value) (w : World) : Calls Tryz.prog 4 #[.int .i64 limit, .int .i64 n, v] w fun e w' => e = .returned (.bool true) ∧ Below w.heap.size w w' := by
  have HB0 : Hid (Below w.heap.size w w) := Below.refl _ _
  go_enter Tryz.func4, Tryz.ntmps4
  go_wp2_with (first | (go_at_call 10; refine (open_nil _ _).mono ?_; rintro e w1 ⟨rfl, h1⟩; have HB1 : Hid (Below w.heap.size w w1) := h1; clear h1) | (go_at_call 11; refine (append_nil _ _).mono ?_; rintro e w2 ⟨rfl, h2⟩; have HB2 : Hid (Below w.heap.size w w2) := HB1.out.trans (h2.mono HB1.out.size); clear h2) | (go_at_call 20; refine (get_nil _ _).mono ?_; rintro e w3 ⟨rfl, h3⟩; have HB3 : Hid (Below w.heap.size w w3) := HB2.out.trans (h3.mono HB2.out.size); clear h3) | (go_at_call 15; refine (sync_nil _).mono ?_; rintro e w4 ⟨rfl, h4⟩; have HB4 : Hid (Below w.heap.size w w4) := HB3.out.trans (h4.mono HB3.out.size); clear h4) | (go_at_call 16; refine (drop_nil _ _).mono ?_; rintro e w5 ⟨rfl, h5⟩; have HB5 : Hid (Below w.heap.size w w5) := HB4.out.trans (h5.mono HB4.out.size); clear h5) | (go_at_call 18; refine (trim_nil _ _).mono ?_; rintro e w6 ⟨rfl, h6⟩; have HB6 : Hid (Below w.heap.size w w6) := HB5.out.trans (h6.mono HB5.out.size); clear h6) | (go_at_call 22; refine (first_nil _).mono ?_; rintro e w7 ⟨rfl, h7⟩; have HB7 : Hid (Below w.heap.size w w7) := HB6.out.trans (h7.mono HB6.out.size); clear h7) | (go_at_call 23; refine (next_nil _).mono ?_; rintro e w8 ⟨rfl, h8⟩; have HB8 : Hid (Below w.heap.size w w8) := HB7.out.trans (h8.mono HB7.out.size); clear h8) | (go_at_call 26; refine (all_nil _).mono ?_; rintro e w9 ⟨rfl, h9⟩; have HB9 : Hid (Below w.heap.size w w9) := HB8.out.trans (h9.mono HB8.out.size); clear h9) | (go_at_call 24; refine (dead_nil _).mono ?_; rintro e w10 ⟨rfl, h10⟩; have HB10 : Hid (Below w.heap.size w w10) := HB9.out.trans (h10.mono HB9.out.size); clear h10))
  go_ret
  exact ⟨rfl, HB10.out⟩
end Go.Proofs.YtijnoeabiceedaaGreatDoor
