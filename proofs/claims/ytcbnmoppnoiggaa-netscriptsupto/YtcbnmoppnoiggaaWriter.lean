/-
  reach and writer, in short; Under, Close.
-/
import Derived.Test.YtcbnmoppnoiggaaNet
namespace Go.Proofs.Ytcbnmoppnoiggaa
open Go.RowKit
set_option linter.unusedVariables false
set_option linter.unusedSimpArgs false
def Bad (w : World) (p : Option Addr) (i s m E : Int) : Prop := Calls Try.prog 31 #[.pointer p, .int .i64 i, .int .i64 s, .int .i64 m] w fun e w' => w' = w ∧ e = .returned (.tuple #[.pointer none, .int .i64 E])
def Good (w : World) (p : Option Addr) (i s m : Int) (k : Nat) : Prop := Calls Try.prog 31 #[.pointer p, .int .i64 i, .int .i64 s, .int .i64 m] w fun e w' => w' = w ∧ e = .returned (.tuple #[.pointer (some ⟨k, 0, none⟩), .int .i64 0])
def sI (s : Bool) : Int := if s then 1 else 0
def Cn.sd (c : Cn) (s : Bool) : Sd := if s then c.s1 else c.s0
def Cn.set (c : Cn) (s : Bool) (d : Sd) : Cn := if s then { c with s1 := d } else { c with s0 := d }
def sO (s : Bool) : Nat := if s then 7 else 3

set_option maxHeartbeats 400000 in
theorem writer_bad (p : Option Addr) (i s m E : Int) (w : World) (h : Bad w p i s m E) (hE : E ≠ 0) :
    Calls Try.prog 34 #[.pointer p, .int .i64 i, .int .i64 s, .int .i64 m] w fun e w' => w' = w ∧ e = .returned (.tuple #[.pointer none, .int .i64 E]) := by
  go_enter Try.func34, Try.ntmps34
  go_wp2_with fail
  refine wp_scope_once 0 rfl ?_
  go_wp2_with fail
  refine h.mono ?_
  rintro e w1 ⟨h1, rfl⟩
  subst h1
  go_wp2_with fail
  go_step3
  refine ⟨rfl, ?_⟩
  go_wp2_with fail
  rw [Exit.noGoto_ret]
  go_ret2
  exact ⟨rfl, rfl⟩

theorem Con.cell {w : World} {base : Nat} {c : Cn} (C : Con w base c) (o : Nat) : w.cell? ⟨c.k, o, none⟩ = c.cells[o]? := cell_block C.blk o

set_option maxHeartbeats 400000 in
theorem writer_ended (base : Nat) (c : Cn) (p : Option Addr) (i m : Int) (s : Bool) (w : World) (h : Good w p i (sI s) m c.k) (C : Con w base c) (hcl : (c.sd s).cl = true) :
    Calls Try.prog 34 #[.pointer p, .int .i64 i, .int .i64 (sI s), .int .i64 m] w fun e w' => w' = w ∧ e = .returned (.tuple #[.pointer none, .int .i64 42]) := by
  have hcc : w.cell? ⟨c.k, sO s + 2, none⟩ = some (.bool true) := by rw [C.cell, ← hcl]; cases s <;> rfl
  clear C hcl
  cases s <;> simp only [sO, sI] at hcc h ⊢ <;> simp only [if_true, if_false, reduceIte, Bool.false_eq_true] at hcc h ⊢
  all_goals
    go_enter Try.func34, Try.ntmps34
    go_wp2_with fail
    refine wp_scope_once 0 rfl ?_
    go_wp2_with fail
    refine h.mono ?_
    rintro e w1 ⟨h1, rfl⟩
    subst h1
    go_wp2_with fail
    go_step3
    refine ⟨rfl, ?_⟩
    go_wp2_with fail
    rw [Exit.noGoto_ret]
    go_ret2
    exact ⟨rfl, rfl⟩
set_option maxHeartbeats 400000 in
theorem writer_ok (base : Nat) (c : Cn) (p : Option Addr) (i m : Int) (s : Bool) (w : World) (h : Good w p i (sI s) m c.k) (C : Con w base c) (hcl : (c.sd s).cl = false) (ao : Option Addr) (n cap : Nat) (hu : (c.sd s).u = .slice ao n cap) (hn : n ≤ 1048576) (hm : m ≤ 1048576 - (n : Int)) :
    Calls Try.prog 34 #[.pointer p, .int .i64 i, .int .i64 (sI s), .int .i64 m] w fun e w' => w' = w ∧ e = .returned (.tuple #[.pointer (some ⟨c.k, sO s, none⟩), .int .i64 0]) := by
  have hcc : w.cell? ⟨c.k, sO s + 2, none⟩ = some (.bool false) := by rw [C.cell, ← hcl]; cases s <;> rfl
  have hcu : w.cell? ⟨c.k, sO s, none⟩ = some (.slice ao n cap) := by rw [C.cell, ← hu]; cases s <;> rfl
  clear C hcl hu
  cases s <;> simp only [sO, sI] at hcc hcu h ⊢ <;> simp only [if_true, if_false, reduceIte, Bool.false_eq_true] at hcc hcu h ⊢
  all_goals
    go_enter Try.func34, Try.ntmps34
    go_wp2_with fail
    refine wp_scope_once 0 rfl ?_
    go_wp2_with fail
    refine h.mono ?_
    rintro e w1 ⟨h1, rfl⟩
    subst h1
    go_wp2_with fail
    refine jump_ret ?_
    go_ret2
    exact ⟨rfl, rfl⟩
set_option maxHeartbeats 400000 in
theorem writer_long (base : Nat) (c : Cn) (p : Option Addr) (i m : Int) (s : Bool) (w : World) (h : Good w p i (sI s) m c.k) (C : Con w base c) (hcl : (c.sd s).cl = false) (ao : Option Addr) (n cap : Nat) (hu : (c.sd s).u = .slice ao n cap) (hn : n ≤ 1048576) (hm : ¬ m ≤ 1048576 - (n : Int)) :
    Calls Try.prog 34 #[.pointer p, .int .i64 i, .int .i64 (sI s), .int .i64 m] w fun e w' => w' = w ∧ e = .returned (.tuple #[.pointer none, .int .i64 3]) := by
  have hcc : w.cell? ⟨c.k, sO s + 2, none⟩ = some (.bool false) := by rw [C.cell, ← hcl]; cases s <;> rfl
  have hcu : w.cell? ⟨c.k, sO s, none⟩ = some (.slice ao n cap) := by rw [C.cell, ← hu]; cases s <;> rfl
  clear C hcl hu
  cases s <;> simp only [sO, sI] at hcc hcu h ⊢ <;> simp only [if_true, if_false, reduceIte, Bool.false_eq_true] at hcc hcu h ⊢
  all_goals
    go_enter Try.func34, Try.ntmps34
    go_wp2_with fail
    refine wp_scope_once 0 rfl ?_
    go_wp2_with fail
    refine h.mono ?_
    rintro e w1 ⟨h1, rfl⟩
    subst h1
    go_wp2_with fail
    go_step3
    refine ⟨rfl, ?_⟩
    go_wp2_with fail
    rw [Exit.noGoto_ret]
    go_ret2
    exact ⟨rfl, rfl⟩

set_option maxHeartbeats 400000 in
theorem under_bad (p : Option Addr) (i s E : Int) (w : World) (h : Bad w p i s 0 E) (hE : E ≠ 0) :
    Calls Try.prog 9 #[.pointer p, .int .i64 i, .int .i64 s] w fun e w' => w' = w ∧ e = .returned (.int .i64 0) := by
  go_enter Try.func9, Try.ntmps9
  go_wp2_with fail
  refine h.mono ?_
  rintro e w1 ⟨h1, rfl⟩
  subst h1
  go_wp2_with fail
  go_ret
  exact ⟨rfl, rfl⟩
set_option maxHeartbeats 400000 in
theorem under_ok (base : Nat) (c : Cn) (p : Option Addr) (i : Int) (s : Bool) (w : World) (h : Good w p i (sI s) 0 c.k) (C : Con w base c) (ao : Option Addr) (n cap : Nat) (hu : (c.sd s).u = .slice ao n cap) :
    Calls Try.prog 9 #[.pointer p, .int .i64 i, .int .i64 (sI s)] w fun e w' => w' = w ∧ e = .returned (.int .i64 n) := by
  have hcu : w.cell? ⟨c.k, sO s, none⟩ = some (.slice ao n cap) := by rw [C.cell, ← hu]; cases s <;> rfl
  clear C hu
  cases s <;> simp only [sO, sI] at hcu h ⊢ <;> simp only [if_true, if_false, reduceIte, Bool.false_eq_true] at hcu h ⊢
  all_goals
    go_enter Try.func9, Try.ntmps9
    go_wp2_with fail
    refine h.mono ?_
    rintro e w1 ⟨h1, rfl⟩
    subst h1
    go_wp2_with fail
    go_ret
    exact ⟨rfl, rfl⟩
set_option maxHeartbeats 400000 in
theorem close_bad (p : Option Addr) (i s E : Int) (w : World) (h : Calls Try.prog 34 #[.pointer p, .int .i64 i, .int .i64 s, .int .i64 0] w fun e w' => w' = w ∧ e = .returned (.tuple #[.pointer none, .int .i64 E])) (hE : E ≠ 0) :
    Calls Try.prog 17 #[.pointer p, .int .i64 i, .int .i64 s] w fun e w' => w' = w ∧ e = .returned (.int .i64 E) := by
  go_enter Try.func17, Try.ntmps17
  go_wp2_with fail
  refine h.mono ?_
  rintro e w1 ⟨h1, rfl⟩
  subst h1
  go_wp2_with fail
  go_ret
  exact ⟨rfl, rfl⟩
set_option maxHeartbeats 400000 in
theorem close_ok (base : Nat) (c : Cn) (p : Option Addr) (i : Int) (s : Bool) (w : World) (C : Con w base c) (h : Calls Try.prog 34 #[.pointer p, .int .i64 i, .int .i64 (sI s), .int .i64 0] w fun e w' => w' = w ∧ e = .returned (.tuple #[.pointer (some ⟨c.k, sO s, none⟩), .int .i64 0])) :
    Calls Try.prog 17 #[.pointer p, .int .i64 i, .int .i64 (sI s)] w fun e w' => w' = w.setCell ⟨c.k, sO s + 2, none⟩ (.bool true) ∧ e = .returned (.int .i64 0) := by
  have hcu : w.cell? ⟨c.k, sO s + 2, none⟩ = some (.bool (c.sd s).cl) := by rw [C.cell]; cases s <;> rfl
  have hfz : w.frozen? ⟨c.k, sO s + 2, none⟩ = false := by simp [World.frozen?, C.blk]
  clear C
  cases s <;> simp only [sO, sI] at hcu hfz h ⊢ <;> simp only [if_true, if_false, reduceIte, Bool.false_eq_true] at hcu hfz h ⊢
  all_goals
    go_enter Try.func17, Try.ntmps17
    go_wp2_with fail
    refine h.mono ?_
    rintro e w1 ⟨h1, rfl⟩
    subst h1
    go_wp2_with fail
    go_ret
    exact ⟨rfl, rfl⟩
end Go.Proofs.Ytcbnmoppnoiggaa
