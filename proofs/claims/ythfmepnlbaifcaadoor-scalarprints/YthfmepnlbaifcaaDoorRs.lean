/-
  The document's Read, whole.
-/
import Derived.Test.YthfmepnlbaifcaaDoorRr
import Derived.Test.YthfmepnlbaifcaaDoorTurn
namespace Go.Proofs.YthfmepnlbaifcaaDoor
open Go.RowKit
set_option linter.unusedVariables false
set_option linter.unusedSimpArgs false
theorem plainF_ways {l : List UInt8} (h : NoW l) : plainF l = match intD l with | some i => .int i | none => match decD l with | some x => .real x | none => .text := by
  rw [plainF_no h, scan_ways, intD, decD]
  rcases hi : intP l with _ | n
  · simp only
    rcases hd : decP l with _ | n
    · rfl
    · simp only
      rw [numS, if_neg (decP_rest hd)]
      cases realV n <;> rfl
  · simp only
    rw [numS, if_pos (intP_rest hi)]
    cases hv : intV n with
    | some i => rfl
    | none =>
      simp only
      have : decP l = none := by
        rcases hd : decP l with _ | m
        · rfl
        · have h1 := scan_ways l
          rw [hi] at h1
          rw [(decP_shape hd).scan] at h1
          have h2 := decP_rest hd
          have h3 := intP_rest hi
          have h4 : m = n := Option.some.inj h1
          rw [h4] at h2
          exact absurd h3 h2
      rw [this]
theorem int_some (l : List UInt8) (i : Int) (hr : intD l = some i) (w : World) (hs : l.length ≤ 2 ^ 47) :
    Calls Tryd.prog 25 #[.string ⟨l.toArray⟩] w fun e w' => e = .returned (.tuple #[.int .i64 i, .bool true]) ∧ w' = w := by
  have := integer_any l w hs
  rwa [hr] at this
theorem int_none (l : List UInt8) (hr : intD l = none) (w : World) (hs : l.length ≤ 2 ^ 47) :
    Calls Tryd.prog 25 #[.string ⟨l.toArray⟩] w fun e w' => e = .returned (.tuple #[.int .i64 0, .bool false]) ∧ w' = w := by
  have := integer_any l w hs
  rwa [hr] at this
theorem dec_some (l : List UInt8) (x : Nat) (hr : decD l = some x) (w : World) (hs : l.length ≤ 2 ^ 47) :
    Calls Tryd.prog 26 #[.string ⟨l.toArray⟩] w fun e w' => e = .returned (.tuple #[.float .f64 x, .bool true]) ∧ ∃ q, w' = w.drewN q := by
  have := decimal_any l w hs
  rwa [hr] at this
theorem dec_none (l : List UInt8) (hr : decD l = none) (w : World) (hs : l.length ≤ 2 ^ 47) :
    Calls Tryd.prog 26 #[.string ⟨l.toArray⟩] w fun e w' => e = .returned (.tuple #[.float .f64 0, .bool false]) ∧ ∃ q, w' = w.drewN q := by
  have := decimal_any l w hs
  rwa [hr] at this
theorem set5 {W : World} {g : Nat} {a b c d e : Value} {t : TypeId} {fr : Nat × Nat} (h : W.heap[g]? = some (.cells #[a, b, c, d, e] t fr)) (v0 v1 v2 v3 v4 : Value) :
    (((((W.setCell ⟨g, 0, none⟩ v0).setCell ⟨g, 1, none⟩ v1).setCell ⟨g, 2, none⟩ v2).setCell ⟨g, 3, none⟩ v3).setCell ⟨g, 4, none⟩ v4).heap[g]? = some (.cells #[v0, v1, v2, v3, v4] t fr) :=
  block_setCell (block_setCell (block_setCell (block_setCell (block_setCell h 0 v0) 1 v1) 2 v2) 3 v3) 4 v4
theorem set5_below {n : Nat} {w W : World} {g : Nat} (h : Below n w W) (hg : n ≤ g) (v0 v1 v2 v3 v4 : Value) :
    Below n w (((((W.setCell ⟨g, 0, none⟩ v0).setCell ⟨g, 1, none⟩ v1).setCell ⟨g, 2, none⟩ v2).setCell ⟨g, 3, none⟩ v3).setCell ⟨g, 4, none⟩ v4) := by
  have e : ∀ (A : World) (o : Nat) (v : Value), (A.setCell ⟨g, o, none⟩ v).heap.size = A.heap.size := fun A o v => by simp [World.setCell]
  have one : ∀ (A : World) (o : Nat) (v : Value), Below n w A → Below n w (A.setCell ⟨g, o, none⟩ v) := fun A o v hA => hA.trans ⟨rfl, rfl, rfl, by rw [e]; exact Nat.le_refl _, fun k hk => Below.heap_setCell _ _ _ _ (by show k ≠ g; omega)⟩
  exact one _ 4 v4 (one _ 3 v3 (one _ 2 v2 (one _ 1 v1 (one _ 0 v0 h))))
theorem rread_no (l : List UInt8) (w : World) (hs : l.length ≤ 2 ^ 47) (h : NoW l) :
    Calls Tryd.prog 10 #[.string ⟨l.toArray⟩, .bool false] w fun e w' => e = .returned (.agg (scV l (plainF l))) ∧ Below w.heap.size w w' := by
  rw [plainF_ways h]
  obtain ⟨h1, h2, h3, h4, h5, h6, h7, h8⟩ := h
  replace h1 := beq_no h1
  replace h2 := beq_no h2
  replace h3 := beq_no h3
  replace h4 := beq_no h4
  replace h5 := beq_no h5
  replace h6 := beq_no h6
  replace h7 := beq_no h7
  replace h8 := beq_no h8
  have st := st_float
  rcases hi : intD l with _ | i
  · rcases hd : decD l with _ | x
    · simp only
      go_enter Tryd.func10, Tryd.ntmps10
      go_wp2_with (first
        | (go_at_call 25; refine (int_none l hi _ hs).mono ?_; rintro e w' ⟨rfl, rfl⟩)
        | (go_at_call 26; refine (dec_none l hd _ hs).mono ?_; rintro e w' ⟨rfl, q, rfl⟩))
      refine bodyPost_ret (res10 _ _ w.heap.size _ rfl (set5 (heap_alloc_new w _) _ _ _ _ _) rfl) rfl ?_
      exact ⟨rfl, set5_below (below_drewN ((Below.refl _ w).alloc (Nat.le_refl _) _) q) (Nat.le_refl _) _ _ _ _ _⟩
    · simp only
      go_enter Tryd.func10, Tryd.ntmps10
      go_wp2_with (first
        | (go_at_call 25; refine (int_none l hi _ hs).mono ?_; rintro e w' ⟨rfl, rfl⟩)
        | (go_at_call 26; refine (dec_some l x hd _ hs).mono ?_; rintro e w' ⟨rfl, q, rfl⟩))
      refine bodyPost_ret (res10 _ _ w.heap.size _ rfl (set5 (heap_alloc_new w _) _ _ _ _ _) rfl) rfl ?_
      exact ⟨rfl, set5_below (below_drewN ((Below.refl _ w).alloc (Nat.le_refl _) _) q) (Nat.le_refl _) _ _ _ _ _⟩
  · simp only
    go_enter Tryd.func10, Tryd.ntmps10
    go_wp2_with (first
      | (go_at_call 25; refine (int_some l i hi _ hs).mono ?_; rintro e w' ⟨rfl, rfl⟩))
    refine bodyPost_ret (res10 _ _ w.heap.size _ rfl (heap_alloc_new _ _) rfl) rfl ?_
    exact ⟨rfl, (Below.refl _ w).alloc (Nat.le_refl _) _⟩
theorem rread_any (l : List UInt8) (q : Bool) (w : World) (hs : l.length ≤ 2 ^ 47) :
    Calls Tryd.prog 10 #[.string ⟨l.toArray⟩, .bool q] w fun e w' => e = .returned (.agg (scV l (if q = true then .text else plainF l))) ∧ Below w.heap.size w w' := by
  cases q with
  | true => exact rread_q l w hs
  | false =>
    rw [if_neg (by decide)]
    by_cases h : NoW l
    · exact rread_no l w hs h
    · rcases plainF_yes h with rfl | rfl | rfl | rfl | rfl | rfl | rfl | rfl
      · exact rread_nil w
      · exact rread_tilde w
      · exact rread_null w
      · exact rread_true w
      · exact rread_false w
      · exact rread_nan w
      · exact rread_inf w
      · exact rread_ninf w
end Go.Proofs.YthfmepnlbaifcaaDoor
