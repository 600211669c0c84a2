/-
  A grower's isNext and giveUp; hasBlock and isValue.
-/
import Derived.Test.YtgododijnogegaaGm
import Derived.Test.YtgododijnogegaaPv
import Derived.RegionDies
namespace Go.Proofs.Ytgododijnogegaa
open Go.RowKit
set_option linter.unusedVariables false
set_option linter.unusedSimpArgs false
set_option maxRecDepth 100000
/-- is the next token of that kind, in that column? -/
def nxB (L : List Tk) (q : Nat) (kd col : Int) : Bool := match L[q]? with
  | some t => decide (t.kd = kd) && decide (t.col = col)
  | none => false
theorem isNext_any (w : World) (base gp : Nat) (doc : Int) (g off n cap : Nat) (L : List Tk) (q : Nat) (v : Value) (os : List Nx) (k0 c0 : Int) (h : Gs w base gp doc g off n cap L q v os) :
    Calls Try.prog 52 #[.pointer (some ⟨gp, 0, none⟩), .int .i64 k0, .int .i64 c0] w fun e w' => e = .returned (.bool (nxB L q k0 c0)) ∧ w' = w := by
  obtain ⟨oq, hblk, hoq⟩ := h.blk
  have z1 : w.cell? ⟨gp, 1, none⟩ = some (.slice (some ⟨g, oq, none⟩) (n - q) (cap - q)) := by rw [cell_block hblk]; rfl
  unfold nxB
  obtain ⟨m, hm⟩ : ∃ m, n - q = m := ⟨_, rfl⟩
  obtain ⟨c, hc⟩ : ∃ c, cap - q = c := ⟨_, rfl⟩
  rw [hm, hc] at z1
  rcases ht : L[q]? with _ | t
  · have hq : n ≤ q := by have := List.getElem?_eq_none_iff.1 ht; have := h.len; omega
    have hm0 : m = 0 := by omega
    subst hm0
    simp only
    clear h hm hc hblk hoq ht hq
    go_enter Try.func52, Try.ntmps52
    go_wp2
    go_ret
    exact ⟨rfl, rfl⟩
  · have hq : q < n := by have := (List.getElem?_eq_some_iff.1 ht).1; have := h.len; omega
    obtain ⟨y0, y1, y2, y3, y4⟩ := h.tok ht
    rw [← hoq hq] at y0 y1 y2 y3 y4
    have i2 : (0 : Int) < (m : Int) := by omega
    have m1 : 1 ≤ m := by omega
    simp only
    obtain ⟨kd, line, col, tx, quo⟩ := t
    dsimp only at *
    clear h hm hc hblk hoq ht hq
    by_cases hk : kd = k0
    · have hk2 : (kd == k0) = true := by rw [beq_iff_eq]; exact hk
      rw [decide_eq_true hk, Bool.true_and]
      clear hk
      go_enter Try.func52, Try.ntmps52
      go_wp2
      go_ret
      exact ⟨rfl, rfl⟩
    · have hk2 : (kd == k0) = false := by rw [beq_eq_false_iff_ne]; exact hk
      rw [decide_eq_false hk, Bool.false_and]
      clear hk
      go_enter Try.func52, Try.ntmps52
      go_wp2
      go_ret
      exact ⟨rfl, rfl⟩
/-- given up -/
def wrongE (doc l e : Int) : Ending := .panicked [{ v := .iface 74 (.agg #[.int .i64 doc, .int .i64 l, .int .i64 e]), recovered := false }]
theorem giveUp_any (w : World) (base gp : Nat) (doc : Int) (g off n cap : Nat) (L : List Tk) (q : Nat) (v : Value) (os : List Nx) (t : Tk) (er : Int) (h : Gs w base gp doc g off n cap L q v os) :
    Calls Try.prog 37 #[.pointer (some ⟨gp, 0, none⟩), tokV t, .int .i64 er] w fun e w' => e = wrongE doc t.line er ∧ Below w.heap.size w w' := by
  obtain ⟨oq, hblk, hoq⟩ := h.blk
  have z0 : w.cell? ⟨gp, 0, none⟩ = some (.int .i64 doc) := by rw [cell_block hblk]; rfl
  have z0a := cell_al z0
  unfold tokV
  obtain ⟨kd, line, col, tx, quo⟩ := t
  dsimp only at *
  clear h hblk hoq
  go_enter Try.func37, Try.ntmps37
  go_wp2
  go_region_dies
  all_goals (try go_wp2)
  all_goals exact ⟨rfl, rfl, below_drewN ((Below.refl _ w).alloc (Nat.le_refl _) _) 1⟩
/-- has a token a block? -/
def hbB (t : Tk) : Bool := decide (t.kd = 3) || decide (t.kd = 2) || decide (t.kd = 4)
theorem hasBlock_any (t : Tk) (w : World) : Calls Try.prog 56 #[tokV t] w fun e w' => e = .returned (.bool (hbB t)) ∧ Below w.heap.size w w' := by
  obtain ⟨kd, line, col, tx, quo⟩ := t
  unfold tokV hbB
  dsimp only
  by_cases h3 : kd = 3
  · subst h3
    go_enter Try.func56, Try.ntmps56
    go_wp2
    go_ret
    exact ⟨rfl, (Below.refl _ w).alloc (Nat.le_refl _) _⟩
  have b3 : (kd == 3) = false := beq_eq_false_iff_ne.2 h3
  by_cases h2 : kd = 2
  · subst h2
    go_enter Try.func56, Try.ntmps56
    go_wp2
    go_ret
    exact ⟨rfl, (Below.refl _ w).alloc (Nat.le_refl _) _⟩
  have b2 : (kd == 2) = false := beq_eq_false_iff_ne.2 h2
  rw [decide_eq_false h3, decide_eq_false h2]
  clear h3 h2
  go_enter Try.func56, Try.ntmps56
  go_wp2
  go_ret
  exact ⟨by rw [Bool.false_or]; rfl, (Below.refl _ w).alloc (Nat.le_refl _) _⟩
end Go.Proofs.Ytgododijnogegaa
