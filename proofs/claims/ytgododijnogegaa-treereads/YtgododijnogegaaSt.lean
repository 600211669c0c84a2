/-
  The law's own: tokens that stay, faults that are the same.
-/
import Derived.Test.YtgododijnogegaaDc
namespace Go.Proofs.Ytgododijnogegaa
open Go.RowKit
set_option linter.unusedVariables false
set_option linter.unusedSimpArgs false
set_option maxRecDepth 100000
/-- the same fault -/
theorem fault_same (w : World) (d l e : Int) :
    Calls Try.prog 9 #[.agg #[.int .i64 d, .int .i64 l, .int .i64 e], .agg #[.int .i64 d, .int .i64 l, .int .i64 e]] w fun en w' => en = .returned (.bool true) ∧ Below w.heap.size w w' := by
  go_enter Try.func9, Try.ntmps9
  go_wp2_with (fail)
  go_ret
  exact ⟨rfl, ((Below.refl _ w).alloc (Nat.le_refl _) _).alloc (by simp) _⟩
set_option maxHeartbeats 4000000 in
/-- tokens are as they were lent, the mark too -/
theorem stay_same (w : World) (g c1 : Nat) (b : Option Addr) (n c2 : Nat) (L : List Tk) (hn : L.length = n) (hl : n ≤ 17592186043904) (hc : n + 1 ≤ c1) (h1 : Ts w (some ⟨g, 0, none⟩) L) (h2 : Ts w b L) (hm : w.cell? ⟨g, n * 5, none⟩ = some (.int .i64 (-77))) :
    Calls Try.prog 10 #[.slice (some ⟨g, 0, none⟩) n c1, .slice b n c2] w fun e w' => e = .returned (.bool true) ∧ Below w.heap.size w w' := by
  have HN := hideL hn
  have H1 := hideL h1
  have H2 := hideL h2
  have a1 : (0 : Int) ≤ ((n + 1 : Nat) : Int) := by omega
  have a2 : ((n + 1 : Nat) : Int) ≤ (c1 : Int) := by omega
  have a3 : (n : Int) < ((n + 1 : Nat) : Int) := by omega
  have a4 : (0 : Int) ≤ (n : Int) := by omega
  clear hn h1 h2
  go_enter Try.func10, Try.ntmps10
  go_wp2_with (fail)
  go_loopw [5] (fun t wr => ∃ (i : Nat), t = .int .i64 i ∧ i ≤ n ∧ Below w.heap.size w wr) (fun t _ => n - (intOf t).toNat)
  case atStart => exact ⟨0, rfl, by omega, Below.refl _ _⟩
  case round =>
    obtain ⟨i, rfl, hi, hb⟩ := hrel
    have i0 : (0 : Int) ≤ i := by omega
    have HB := hideL hb
    by_cases h3 : i < n
    · have h3' : (i : Int) < n := by omega
      rcases hki : L[i]? with _ | o
      · have := List.getElem?_eq_none_iff.1 hki; have := HN.out; omega
      have h1 := H1.out.keep fun x hx hne => hb.block _ (H1.out.lt x hx hne)
      have h2 := H2.out.keep fun x hx hne => hb.block _ (H2.out.lt x hx hne)
      rcases h1.row with hx | ⟨g1, off1, ha, hcc⟩
      · rw [hx] at hki; simp at hki
      cases ha
      rcases h2.row with hx | ⟨g2, off2, rfl, hc2⟩
      · rw [hx] at hki; simp at hki
      have c0 := hcc i _ hki 0 _ rfl
      have c1 := hcc i _ hki 1 _ rfl
      have c2 := hcc i _ hki 2 _ rfl
      have c3 := hcc i _ hki 3 _ rfl
      have c4 := hcc i _ hki 4 _ rfl
      rw [Nat.add_zero] at c0
      rw [Nat.zero_add] at c0 c1 c2 c3 c4
      have e0 := hc2 i _ hki 0 _ rfl
      have e1 := hc2 i _ hki 1 _ rfl
      have e2 := hc2 i _ hki 2 _ rfl
      have e3 := hc2 i _ hki 3 _ rfl
      have e4 := hc2 i _ hki 4 _ rfl
      rw [Nat.add_zero] at e0
      obtain ⟨kd, line, col, tx, quo⟩ := o
      dsimp only at *
      have E0 := fun X => cell_al e0 X
      have E1 := fun X => cell_al e1 X
      have E2 := fun X => cell_al e2 X
      have E3 := fun X => cell_al e3 X
      have E4 := fun X => cell_al e4 X
      clear h1 h2 hcc hc2 hki hb hm
      go_wp2_with fail
      refine ⟨⟨i + 1, by go_num, by omega, ?_⟩, by simp [intOf]; omega⟩
      have hsz := HB.out.size
      exact HB.out.trans (((Below.refl _ wr).alloc hsz _).alloc (by simp; omega) _)
    · have h3' : ¬ (i : Int) < n := by omega
      go_wp2
      go_ret
      exact ⟨rfl, HB.out⟩
end Go.Proofs.Ytgododijnogegaa
