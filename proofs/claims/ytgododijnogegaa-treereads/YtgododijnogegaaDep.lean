/-
  Depth, May: given what is said of unlikeKeys and noKeys.
-/
import Derived.Test.YtgododijnogegaaSba
namespace Go.Proofs.Ytgododijnogegaa
open Go.RowKit
set_option linter.unusedVariables false
set_option linter.unusedSimpArgs false
set_option maxRecDepth 100000
/-- the height of a whole tree -/
def depR (l : List Nx) : Nat := match subT l 16 0 with | some (e, h) => if e = l.length then h else 0 | none => 0
/-- what Depth answers -/
def depF (l : List Nx) : Nat := match l[0]? with
  | none => 0
  | some o => if l.length ≤ 4096 ∧ o.key = ByteArray.empty then depR l else 0
set_option maxHeartbeats 4000000 in
theorem depth_in (w : World) (a : Option Addr) (n cap : Nat) (l : List Nx) (o : Nx) (ho : l[0]? = some o) (hn : l.length = n) (hl : n ≤ 4096) (hS : Ns w a l) (hL : Low w.heap.size a l) (hk : o.key = ByteArray.empty) (h42 : C42 w.heap.size a n cap l) (h43 : C43 w.heap.size a n cap l) :
    Calls Try.prog 17 #[.slice a n cap] w fun e w' => e = .returned (.int .i64 (depR l)) ∧ Below w.heap.size w w' := by
  have hpos : 0 < n := by have := (List.getElem?_eq_some_iff.1 ho).1; omega
  have hpos' : (0 : Int) < n := by omega
  have hl' : ¬ (4096 : Int) < n := by omega
  have hl2 : decide ((4096 : Int) < n) = false := by simp; omega
  rcases hS.row with hx | ⟨g, off, rfl, hc⟩
  · rw [hx] at ho; simp at ho
  have c1 := hc 0 _ ho 1 _ rfl
  rw [hk, Nat.zero_mul, Nat.add_zero] at c1
  have hWk : Wk (w.alloc (.cells #[.slice (some ⟨g, off, none⟩) n cap, .int .i64 (0 : Nat), .int .i64 (0 : Nat)] 70 (0, 0))) w.heap.size (some ⟨g, off, none⟩) n cap l 0 0 :=
    ⟨Go.heap_alloc_new w _, hS.kept hL fun k _ hk => Below.heap_alloc _ _ _ hk, hL, hn, hl, by omega, by omega⟩
  have HC := hideL (sub_any h42 h43 16 1 rfl _ _ _ hWk)
  have HB0 : Hid (Below w.heap.size w (w.alloc (.cells #[.slice (some ⟨g, off, none⟩) n cap, .int .i64 (0 : Nat), .int .i64 (0 : Nat)] 70 (0, 0)))) := (Below.refl _ _).alloc (Nat.le_refl _) _
  clear hWk h42 h43 hS hL hc ho
  go_enter Try.func17, Try.ntmps17
  go_wp2_with fail
  refine HC.out.mono ?_
  rintro e w1 ⟨hbt, hE⟩
  have HB1 : Hid (Below w.heap.size w w1) := HB0.out.trans (hbt.below (by simp) (Nat.le_refl _))
  clear hbt HC HB0
  rcases hs : subT l 16 0 with _ | ⟨e', h2⟩
  · rw [hs] at hE
    dsimp only at hE
    subst hE
    have HR : Hid (depR l = 0) := by show depR l = 0; unfold depR; rw [hs]
    clear hs
    go_wp2_with fail
    go_ret
    rw [HR.out]
    exact ⟨rfl, HB1.out⟩
  · rw [hs] at hE
    dsimp only at hE
    obtain ⟨rfl, hw1⟩ := hE
    obtain ⟨z0, z1, z2⟩ := hw1.cells
    have hq := hw1.q
    have e1 : max 0 (1 + h2 - 1) = h2 := by omega
    rw [e1] at z2
    have HR : Hid (depR l = if e' = n then h2 else 0) := by show depR l = _; unfold depR; rw [hs, hn]
    clear hs hw1 e1
    by_cases he : e' = n
    · subst he
      have hx : ¬ (e' : Int) < e' := by omega
      go_wp2_with fail
      go_ret
      rw [HR.out, if_pos trivial]
      exact ⟨rfl, HB1.out⟩
    · have hx : (e' : Int) < n := by omega
      have HE := hideL he
      clear he
      go_wp2_with fail
      go_ret
      rw [HR.out, if_neg HE.out]
      exact ⟨rfl, HB1.out⟩
set_option maxHeartbeats 4000000 in
theorem depth_out (w : World) (a : Option Addr) (n cap : Nat) (l : List Nx) (hn : l.length = n) (hb : n ≤ 140737488351232) (hS : Ns w a l) (h : n = 0 ∨ 4096 < n ∨ ∃ o, l[0]? = some o ∧ ¬ o.key = ByteArray.empty) :
    Calls Try.prog 17 #[.slice a n cap] w fun e w' => e = .returned (.int .i64 0) ∧ w' = w := by
  by_cases h0 : n = 0
  · subst h0
    clear h hS hn
    go_enter Try.func17, Try.ntmps17
    go_wp2
    go_ret
    exact ⟨rfl, rfl⟩
  · have hpos : (0 : Int) < n := by omega
    by_cases h1 : 4096 < n
    · have h1' : (4096 : Int) < n := by omega
      clear h hS hn
      go_enter Try.func17, Try.ntmps17
      go_wp2
      go_ret
      exact ⟨rfl, rfl⟩
    · obtain ⟨o, ho, hk⟩ := (h.resolve_left h0).resolve_left h1
      have hl' : ¬ (4096 : Int) < n := by omega
      rcases hS.row with hx | ⟨g, off, rfl, hc⟩
      · rw [hx] at ho; simp at ho
      have c1 := hc 0 _ ho 1 _ rfl
      rw [Nat.zero_mul, Nat.add_zero] at c1
      have h4' : o.key.toList.isEmpty = false := by
        rw [Bool.eq_false_iff]
        intro hh
        have := ba_ne hk
        rw [List.isEmpty_iff.1 hh] at this
        simp [ByteArray.toList_eq] at this
      clear h hS hn hc ho
      go_enter Try.func17, Try.ntmps17
      go_wp2
      go_ret
      exact ⟨rfl, rfl⟩
theorem depth_any (w : World) (a : Option Addr) (n cap : Nat) (l : List Nx) (hn : l.length = n) (hb : n ≤ 140737488351232) (hS : Ns w a l) (hL : Low w.heap.size a l) (h42 : C42 w.heap.size a n cap l) (h43 : C43 w.heap.size a n cap l) :
    Calls Try.prog 17 #[.slice a n cap] w fun e w' => e = .returned (.int .i64 (depF l)) ∧ Below w.heap.size w w' := by
  rcases ho : l[0]? with _ | o
  · have h0 := List.getElem?_eq_none_iff.1 ho
    have hd : depF l = 0 := by unfold depF; rw [ho]
    rw [hd]
    exact (depth_out w a n cap l hn hb hS (.inl (by omega))).mono fun e w' ⟨he, hw⟩ => ⟨he, hw ▸ Below.refl _ _⟩
  · by_cases h1 : l.length ≤ 4096 ∧ o.key = ByteArray.empty
    · have hd : depF l = depR l := by unfold depF; rw [ho]; exact if_pos h1
      rw [hd]
      exact depth_in w a n cap l o ho hn (by omega) hS hL h1.2 h42 h43
    · have hd : depF l = 0 := by unfold depF; rw [ho]; exact if_neg h1
      rw [hd]
      refine (depth_out w a n cap l hn hb hS (.inr ?_)).mono fun e w' ⟨he, hw⟩ => ⟨he, hw ▸ Below.refl _ _⟩
      by_cases h2 : 4096 < n
      · exact .inl h2
      · exact .inr ⟨o, ho, fun hk => h1 ⟨by omega, hk⟩⟩
theorem may_any (w : World) (a : Option Addr) (n cap : Nat) (l : List Nx) (hn : l.length = n) (hb : n ≤ 140737488351232) (hS : Ns w a l) (hL : Low w.heap.size a l) (h42 : C42 w.heap.size a n cap l) (h43 : C43 w.heap.size a n cap l) :
    Calls Try.prog 15 #[.slice a n cap] w fun e w' => e = .returned (.bool (decide (0 < depF l))) ∧ Below w.heap.size w w' := by
  have HC := hideL (depth_any w a n cap l hn hb hS hL h42 h43)
  clear hS hL h42 h43
  go_enter Try.func15, Try.ntmps15
  go_wp2_with fail
  refine HC.out.mono ?_
  rintro e w1 ⟨rfl, hb1⟩
  have HB1 := hideL hb1
  clear hb1
  go_wp2_with fail
  go_ret
  refine ⟨?_, HB1.out⟩
  simp
end Go.Proofs.Ytgododijnogegaa
