/-
  A new file's number.
-/
import Derived.Test.YtkmohpdcchpndaaOps1
import Derived.Test.YtkmohpdcchpndaaDfail
namespace Go.Proofs.Ytkmohpdcchpndaa
open Go.RowKit
set_option linter.unusedVariables false
set_option linter.unusedSimpArgs false
set_option maxRecDepth 100000
theorem fmap_eql (mo : Option Nat) (w : World) : (binOp .eql 67 (.map mo) (.map none)).run Try.prog w = .ok (.bool mo.isNone) w := by
  have := run_equal_map_nil (P := Try.prog) (w := w) 67 3 70 mo Try.underlying67
  cases mo <;> simp [binOp, this, Result.andThen]
abbrev newFile : Obj := .cells #[.slice none 0 0, .slice none 0 0, .slice none 0 0] 75 (0, 0)
theorem add_some (d m k : Nat) (w w2 : World) (h6 : w.cell? ⟨d, 6, none⟩ = some (.map (some m))) (h7 : w.cell? ⟨d, 7, none⟩ = some (.int .i64 k)) (hz7 : w.frozen? ⟨d, 7, none⟩ = false) (hk : k < 1000000) (hd : d < w.heap.size)
    (hup : (Instr.mapUpdate 67 (.map (some m)) (.int .i64 (k + 1)) (.pointer (some ⟨w.heap.size, 0, none⟩))).run Try.prog ((w.setCell ⟨d, 7, none⟩ (.int .i64 (k + 1))).alloc (.cells #[.slice none 0 0, .slice none 0 0, .slice none 0 0] 75 (0, 0))).drew = .ok () w2)
    (h2 : w2.cell? ⟨d, 7, none⟩ = some (.int .i64 (k + 1))) :
    Calls Try.prog 44 #[.pointer (some ⟨d, 0, none⟩)] w fun e w' => e = .returned (.int .i64 (k + 1)) ∧ w' = w2 := by
  have hmeq := fmap_eql (some m)
  have hdn : ¬ d = w.heap.size := by omega
  go_enter Try.func44, Try.ntmps44
  go_wp2_with fail
  go_region_with fail
  all_goals go_wp2_with fail
  all_goals go_ret
  all_goals exact ⟨rfl, rfl⟩
theorem add_nil (d k : Nat) (w w2 : World) (h6 : w.cell? ⟨d, 6, none⟩ = some (.map none)) (h7 : w.cell? ⟨d, 7, none⟩ = some (.int .i64 k)) (hz6 : w.frozen? ⟨d, 6, none⟩ = false) (hz7 : w.frozen? ⟨d, 7, none⟩ = false) (hk : k < 1000000) (hd : d < w.heap.size)
    (hup : (Instr.mapUpdate 67 (.map (some w.heap.size)) (.int .i64 (k + 1)) (.pointer (some ⟨w.heap.size + 1, 0, none⟩))).run Try.prog ((((w.setCell ⟨d, 6, none⟩ (.map (some w.heap.size))).setCell ⟨d, 7, none⟩ (.int .i64 (k + 1))).alloc (.map #[] 0)).alloc (.cells #[.slice none 0 0, .slice none 0 0, .slice none 0 0] 75 (0, 0))).drew = .ok () w2)
    (h2 : w2.cell? ⟨d, 7, none⟩ = some (.int .i64 (k + 1))) :
    Calls Try.prog 44 #[.pointer (some ⟨d, 0, none⟩)] w fun e w' => e = .returned (.int .i64 (k + 1)) ∧ w' = w2 := by
  have hmeq := fmap_eql none
  have hdn : ¬ d = w.heap.size := by omega
  have hdn1 : ¬ d = w.heap.size + 1 := by omega
  have hmm := @run_makeMap Try.prog
  go_enter Try.func44, Try.ntmps44
  go_wp2_with fail
  go_region_with fail
  all_goals go_wp2_with fail
  all_goals go_ret
  all_goals exact ⟨rfl, rfl⟩
theorem alloc_new {w : World} {o : Obj} {k : Nat} (h : k = w.heap.size) : (w.alloc o).heap[k]? = some o := by
  subst h; exact Array.getElem?_push_size
/-- what add leaves -/
structure Added (w w' : World) (base d : Nat) (c0 c1 c2 c3 c4 c5 mv : Value) (od : Option (DataW Unit)) (n k : Nat) (mv' : Value) (fb : Nat) : Prop where
  turn : Turn w w' (d :: (mblk mv).toList)
  fm : Fm w' base mv' (some ((od.getD (.map [])).put (fkey (k + 1)) (.lit (.int .i64 fb)))) (n + 1)
  blk : w'.heap[d]? = some (.cells #[c0, c1, c2, c3, c4, c5, mv', .int .i64 (k + 1 : Nat)] 69 (0, 0))
  file : w'.heap[fb]? = some newFile
  new : w.heap.size ≤ fb
  at_ : mblk mv' = mblk mv ∨ ∃ m, mblk mv' = some m ∧ w.heap.size ≤ m
theorem add_any (w : World) (base d : Nat) (c0 c1 c2 c3 c4 c5 mv : Value) (od : Option (DataW Unit)) (n k : Nat) (hb : w.heap[d]? = some (.cells #[c0, c1, c2, c3, c4, c5, mv, .int .i64 k] 69 (0, 0))) (hF : Fm w base mv od n) (hap : mblk mv ≠ some d) (hn : n < 1000000) (hk : k < 1000000) (hbase : base ≤ w.heap.size) :
    Calls Try.prog 44 #[.pointer (some ⟨d, 0, none⟩)] w fun e w' => e = .returned (.int .i64 (k + 1)) ∧ ∃ mv' fb, Added w w' base d c0 c1 c2 c3 c4 c5 mv od n k mv' fb := by
  have hd := lt_of_block hb
  have hbm : n < maxLen := by have : (1000000 : Nat) ≤ maxLen := by decide
                              omega
  have h7 : w.cell? ⟨d, 7, none⟩ = some (.int .i64 k) := by rw [cell_block hb]; rfl
  have h6 : w.cell? ⟨d, 6, none⟩ = some mv := by rw [cell_block hb]; rfl
  have hz6 : w.frozen? ⟨d, 6, none⟩ = false := by simp [World.frozen?, hb]
  have hz7 : w.frozen? ⟨d, 7, none⟩ = false := by simp [World.frozen?, hb]
  have hkey : Go.keyOf Try.prog 3 (.int .i64 ((k : Int) + 1)) = some (fkey (k + 1)) := Go.Maps.keyOf_int_mk (P := Try.prog) Try.underlying3 (wf_num (num := k + 1) (by omega))
  rcases hF with ⟨rfl, rfl⟩ | ⟨m, D, rfl, rfl, h1, h2, h3⟩
  · obtain ⟨w1, hw1⟩ : ∃ w1, w1 = ((((w.setCell ⟨d, 6, none⟩ (.map (some w.heap.size))).setCell ⟨d, 7, none⟩ (.int .i64 (k + 1))).alloc (.map #[] 0)).alloc (.cells #[.slice none 0 0, .slice none 0 0, .slice none 0 0] 75 (0, 0))).drew := ⟨_, rfl⟩
    have q1 : ((w.setCell ⟨d, 6, none⟩ (.map (some w.heap.size))).setCell ⟨d, 7, none⟩ (.int .i64 (k + 1))).heap[d]? = some (.cells #[c0, c1, c2, c3, c4, c5, .map (some w.heap.size), .int .i64 (k + 1 : Nat)] 69 (0, 0)) := by
      rw [block_setCell (block_setCell hb 6 _) 7 _]; rfl
    have s0 : ((w.setCell ⟨d, 6, none⟩ (.map (some w.heap.size))).setCell ⟨d, 7, none⟩ (.int .i64 (k + 1))).heap.size = w.heap.size := by simp
    have oth : ∀ j, j < w.heap.size → j ≠ d → w1.heap[j]? = w.heap[j]? := fun j hj hjd => by
      subst hw1
      refine (Below.heap_alloc _ _ j (by simp; omega)).trans ((Below.heap_alloc _ _ j (by simp; omega)).trans ?_)
      rw [Below.heap_setCell _ _ _ _ (by simpa using hjd), Below.heap_setCell _ _ _ _ (by simpa using hjd)]
    have qd : w1.heap[d]? = some (.cells #[c0, c1, c2, c3, c4, c5, .map (some w.heap.size), .int .i64 (k + 1 : Nat)] 69 (0, 0)) := by
      subst hw1
      exact (Below.heap_alloc _ _ d (by simp; omega)).trans ((Below.heap_alloc _ _ d (by simp; omega)).trans q1)
    have qf : w1.heap[w.heap.size + 1]? = some newFile := by
      subst hw1
      exact alloc_new (by simp)
    have qm : w1.ownsMap Try.prog 3 Rf w.heap.size 0 (.map []) := by
      have h0 := World.ownsMap_made (H := Unit) ((w.setCell ⟨d, 6, none⟩ (.map (some w.heap.size))).setCell ⟨d, 7, none⟩ (.int .i64 (k + 1))) Try.prog 3 Rf
      rw [s0] at h0
      obtain ⟨es, clock, h2, rest⟩ := h0
      refine ⟨es, clock, ?_, rest⟩
      subst hw1
      exact (Below.heap_alloc _ _ _ (by simp)).trans h2
    obtain ⟨w2, hrun, hown, hg⟩ := qm.update (Go.Maps.int_keyed Try.underlying3) Try.underlying67 (by decide) hkey (val := .pointer (some ⟨w.heap.size + 1, 0, none⟩)) (d := .lit (.int .i64 (w.heap.size + 1 : Nat))) (ps := []) rfl
    have s1 : w1.heap.size = w.heap.size + 2 := by subst hw1; simp
    have r2 : w2.heap[d]? = _ := (hg.block d (by omega) (by simp; omega)).trans qd
    rw [hw1] at hrun
    refine (add_nil d k w w2 h6 h7 hz6 hz7 hk hd hrun (by rw [cell_block r2]; rfl)).mono ?_
    rintro e w' ⟨rfl, rfl⟩
    refine ⟨rfl, .map (some w.heap.size), w.heap.size + 1, ⟨?_, ?_, ?_, ?_, fun j hj hjn => ?_⟩, .inr ⟨_, _, rfl, rfl, hbase, hown.mono (by omega), Go.Maps.tidy_empty.put (by trivial) _⟩, r2, (hg.block _ (by omega) (by simp)).trans qf, by omega, .inr ⟨_, rfl, Nat.le_refl _⟩⟩
    · rw [hg.os, hw1]; rfl
    · rw [hg.tape, hw1]; rfl
    · rw [hg.output, hw1]; rfl
    · have := hg.size; omega
    · exact (hg.block j (by omega) (by simp; omega)).trans (oth j hj (fun e => hjn (by simp [e])))
  · have hmd : m ≠ d := fun e => hap (by rw [e]; rfl)
    have hml := h2.lt
    obtain ⟨w1, hw1⟩ : ∃ w1, w1 = ((w.setCell ⟨d, 7, none⟩ (.int .i64 (k + 1))).alloc (.cells #[.slice none 0 0, .slice none 0 0, .slice none 0 0] 75 (0, 0))).drew := ⟨_, rfl⟩
    have oth : ∀ j, j < w.heap.size → j ≠ d → w1.heap[j]? = w.heap[j]? := fun j hj hjd => by
      subst hw1
      refine (Below.heap_alloc _ _ j (by simp; omega)).trans ?_
      rw [Below.heap_setCell _ _ _ _ (by simpa using hjd)]
    have qd : w1.heap[d]? = some (.cells #[c0, c1, c2, c3, c4, c5, .map (some m), .int .i64 (k + 1 : Nat)] 69 (0, 0)) := by
      subst hw1
      exact (Below.heap_alloc _ _ d (by simp; omega)).trans (block_setCell hb 7 _)
    have qf : w1.heap[w.heap.size]? = some newFile := by
      subst hw1
      exact alloc_new (by simp)
    have qm : w1.ownsMap Try.prog 3 Rf m n D := by
      obtain ⟨es, clock, h2, rest⟩ := h2
      exact ⟨es, clock, (oth m hml hmd).trans h2, rest⟩
    obtain ⟨w2, hrun, hown, hg⟩ := qm.update (Go.Maps.int_keyed Try.underlying3) Try.underlying67 hbm hkey (val := .pointer (some ⟨w.heap.size, 0, none⟩)) (d := .lit (.int .i64 (w.heap.size : Nat))) (ps := []) rfl
    have s1 : w1.heap.size = w.heap.size + 1 := by subst hw1; simp
    have r2 : w2.heap[d]? = _ := (hg.block d (by omega) (by simp; omega)).trans qd
    rw [hw1] at hrun
    refine (add_some d m k w w2 h6 h7 hz7 hk hd hrun (by rw [cell_block r2]; rfl)).mono ?_
    rintro e w' ⟨rfl, rfl⟩
    refine ⟨rfl, .map (some m), w.heap.size, ⟨?_, ?_, ?_, ?_, fun j hj hjn => ?_⟩, .inr ⟨_, _, rfl, rfl, h1, hown, h3.put (by trivial) _⟩, r2, (hg.block _ (by omega) (by simp; omega)).trans qf, by omega, .inl rfl⟩
    · rw [hg.os, hw1]; rfl
    · rw [hg.tape, hw1]; rfl
    · rw [hg.output, hw1]; rfl
    · have := hg.size; omega
    · exact (hg.block j (by omega) (fun e => hjn (by injection e with e; simp [mblk, e]))).trans (oth j hj (fun e => hjn (by simp [e])))
end Go.Proofs.Ytkmohpdcchpndaa
