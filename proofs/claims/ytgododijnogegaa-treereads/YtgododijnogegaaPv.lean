/-
  The document's value: of a Key or an Item that was taken.
-/
import Derived.Test.YtgododijnogegaaPm
import Derived.BigQuiet
import Derived.Deep.RegionHeld3
namespace Go.Proofs.Ytgododijnogegaa
open Go.RowKit
set_option linter.unusedVariables false
set_option linter.unusedSimpArgs false
set_option maxRecDepth 100000
/-- what block and value answer -/
def RrE (w : World) (rp : Nat) (a : Option Addr) (n cap : Nat) (L : List Tk) (r : Rr) (e : Ending) (w' : World) : Prop := match r with
  | .ok t q m => ∃ p, e = .returned (.pointer (some ⟨p, 0, none⟩)) ∧ TrIn w' (fun k => w.heap.size ≤ k ∧ k < w'.heap.size) t p ∧ Rg w' rp a n cap L q 0 0 m ∧ But rp w w'
  | .bad l er q m => e = .returned (.pointer none) ∧ Rg w' rp a n cap L q l er m ∧ But rp w w'
/-- the same, from a later world on -/
theorem RrE.later {w w1 w' : World} {rp : Nat} {a : Option Addr} {n cap : Nat} {L : List Tk} {r : Rr} {e : Ending} (h : RrE w1 rp a n cap L r e w') (hb : But rp w w1) : RrE w rp a n cap L r e w' := by
  cases r with
  | ok t q m =>
    obtain ⟨p, h1, h2, h3, h4⟩ := h
    exact ⟨p, h1, TrIn.turn (fun k hk => ⟨Nat.le_trans hb.size hk.1, hk.2⟩) (fun k hk => rfl) t p h2, h3, hb.trans h4⟩
  | bad l er q m =>
    obtain ⟨h1, h2, h3⟩ := h
    exact ⟨h1, h2, hb.trans h3⟩
theorem nxtV_at {L : List Tk} {u t : Tk} {q : Nat} (ht : L[q]? = some t) : nxtV L u q = isVal u t := by unfold nxtV; rw [ht]
theorem valM_yes {B : Nat → Nat → Rr} {dead : Bool} {L : List Tk} {u t : Tk} {q made : Nat} (ht : L[q]? = some t) (h : isVal u t = true) : valM B dead L u q made = B q made := by
  unfold valM; rw [nxtV_at ht, h]; simp
theorem valM_bad {B : Nat → Nat → Rr} {dead : Bool} {L : List Tk} {u : Tk} {q made : Nat} (h : nxtV L u q = false) (hd : dead = true ∨ made = 4096) : valM B dead L u q made = .bad u.line 92 q made := by
  unfold valM; rw [h]; simp [hd]
theorem valM_leaf {B : Nat → Nat → Rr} {dead : Bool} {L : List Tk} {u : Tk} {q made : Nat} (h : nxtV L u q = false) (hd : ¬ (dead = true ∨ made = 4096)) : valM B dead L u q made = .ok (leafT u.line) q (made + 1) := by
  unfold valM; rw [h, if_neg (by decide), if_neg hd]
/-- a scalar without a token, in memory -/
theorem leaf_in {w w' : World} {rp : Nat} {a : Option Addr} {n cap : Nat} {L : List Tk} {q made : Nat} {ln : Int} {X : World} (hX : Rg X rp a n cap L q 0 0 (made + 1)) (hb : But rp w X) (hw : w' = X.alloc (.cells #[.int .i64 1, .string ⟨#[]⟩, .string ⟨#[]⟩, .bool false, .int .i64 ln, .slice none 0 0] 68)) : RrE w rp a n cap L (.ok (leafT ln) q (made + 1)) (.returned (.pointer (some ⟨X.heap.size, 0, none⟩))) w' := by
  subst hw
  have hs : (X.alloc (.cells #[.int .i64 1, .string ⟨#[]⟩, .string ⟨#[]⟩, .bool false, .int .i64 ln, .slice none 0 0] 68)).heap.size = X.heap.size + 1 := by simp
  have hbl : Below X.heap.size X (X.alloc (.cells #[.int .i64 1, .string ⟨#[]⟩, .string ⟨#[]⟩, .bool false, .int .i64 ln, .slice none 0 0] 68)) := (Below.refl _ _).alloc (Nat.le_refl _) _
  refine ⟨X.heap.size, rfl, ?_, hX.below hbl, hb.trans (But.of_below hbl)⟩
  rw [leafT, TrIn]
  refine ⟨⟨hb.size, by omega⟩, by decide, .slice none 0 0, [], Go.heap_alloc_new _ _, (fun r h => by cases h), ⟨by simp [ptrs], .inl ⟨rfl, rfl⟩⟩, by rw [TrsIn]⟩
set_option maxHeartbeats 8000000 in
/-- behind the last token: a scalar without one -/
theorem value_end (w : World) (rp : Nat) (a : Option Addr) (n cap : Nat) (L : List Tk) (u : Tk) (made d f : Nat) (hd : d + f = 17) (B : Nat → Nat → Rr) (h : Rg w rp a n cap L n 0 0 made) :
    Calls Try.prog 48 #[.pointer (some ⟨rp, 0, none⟩), .agg u.row.toArray, .int .i64 d] w (RrE w rp a n cap L (valM B (decide (f = 0)) L u n made)) := by
  have hno : nxtV L u n = false := by unfold nxtV; rw [List.getElem?_eq_none (by have := h.len; omega)]
  have HNO := hideL hno
  have hsm := h.small
  have hmd := h.made
  obtain ⟨kd, line, col, tx, quo⟩ := u
  obtain ⟨W1, hW1⟩ : ∃ W1, w.alloc (.cells #[.int .i64 kd, .int .i64 line, .int .i64 col, .string tx, .bool quo] 53) = W1 := ⟨_, rfl⟩
  have h1 : Below w.heap.size w W1 := by rw [← hW1]; exact (Below.refl _ _).alloc (Nat.le_refl _) _
  obtain ⟨z0, z1, z2, z3, z4⟩ := (h.below h1).cells
  have HR := hideL (h.below h1)
  have f4 := (h.below h1).free 4
  have HB1 := hideL h1
  have b1 : W1.cell? ⟨w.heap.size, 1, none⟩ = some (.int .i64 line) := by rw [← hW1, cell_block (Go.heap_alloc_new w _)]; rfl
  have HW1 := hideL hW1
  have hrp := h.lt
  clear hno h h1 hW1
  show Calls Try.prog 48 #[.pointer (some ⟨rp, 0, none⟩), .agg #[.int .i64 kd, .int .i64 line, .int .i64 col, .string tx, .bool quo], .int .i64 d] w _
  go_enter Try.func48, Try.ntmps48
  go_wp2_with fail
  rw [HW1.out]
  go_quiet (fail)
  by_cases hf : f = 0
  · have hd16 : (16 : Int) < d := by omega
    go_wp2_with fail
    refine (fail_any _ rp a n cap L n 0 made line 92 (HR.out.below (below_drewN (Below.refl _ _) _))).mono ?_
    rintro e w2 ⟨rfl, hR2, hB2⟩
    go_wp2
    go_ret
    rw [valM_bad HNO.out (.inl (by simpa using hf))]
    exact ⟨rfl, hR2, (But.of_below (below_drewN HB1.out _)).trans hB2⟩
  · have hd16 : ¬ (16 : Int) < d := by omega
    by_cases hm : made = 4096
    · subst hm
      go_wp2_with fail
      refine (fail_any _ rp a n cap L n 0 4096 line 92 (HR.out.below (below_drewN (Below.refl _ _) _))).mono ?_
      rintro e w2 ⟨rfl, hR2, hB2⟩
      go_wp2
      go_ret
      rw [valM_bad HNO.out (.inr rfl)]
      exact ⟨rfl, hR2, (But.of_below (below_drewN HB1.out _)).trans hB2⟩
    · have hm' : ((made : Int) == 4096) = false := by rw [beq_eq_false_iff_ne]; omega
      have b1x : ((W1.drewN nq).setCell ⟨rp, 4, none⟩ (.int .i64 ((made : Int) + 1))).cell? ⟨w.heap.size, 1, none⟩ = some (.int .i64 line) := by
        rw [← b1]
        exact World.cell?_of_block (w := W1) (a := ⟨w.heap.size, 1, none⟩) (Below.heap_setCell _ _ _ _ (by show w.heap.size ≠ rp; omega))
      have HX : Hid (Rg ((W1.drewN nq).setCell ⟨rp, 4, none⟩ (.int .i64 ((made : Int) + 1))) rp a n cap L n 0 0 (made + 1)) := by
        have := (HR.out.below (below_drewN (Below.refl _ _) nq)).set.2.2.2 (made + 1) (by omega)
        exact this
      go_wp2
      go_ret
      rw [valM_leaf HNO.out (by simp [hf]; omega)]
      have hxs : ((W1.drewN nq).setCell ⟨rp, 4, none⟩ (.int .i64 ((made : Int) + 1))).heap.size = W1.heap.size := by simp
      have hL := leaf_in (ln := line) HX.out ((But.of_below (below_drewN HB1.out nq)).trans (But.set 4 _)) rfl
      rw [hxs] at hL
      exact hL
end Go.Proofs.Ytgododijnogegaa
