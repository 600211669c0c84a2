/-
  Changes of a file: made.
-/
import Derived.Test.YtkmohpdcchpndaaChg
namespace Go.Proofs.Ytkmohpdcchpndaa
open Go.RowKit
set_option linter.unusedVariables false
set_option linter.unusedSimpArgs false
theorem st_func (w : World) (a : Addr) (f : Nat) (bs : Array Value) (m : Mode) : (store a (.func (.func f) #[] bs) m).run Try.prog w = stored Try.prog w a (.func (.func f) #[] bs) m := run_store Try.prog w a _ m rfl
theorem Buf.base {w : World} {b b' : Nat} {v : Value} {zs : List Int} (h : Buf w b v zs) (hb : b' ≤ b) : Buf w b' v zs := by
  obtain ⟨ho, h0 | ⟨g, off, cap, cur, e, h1, rest⟩⟩ := h
  · exact ⟨ho, .inl h0⟩
  · exact ⟨ho, .inr ⟨g, off, cap, cur, e, Nat.le_trans hb h1, rest⟩⟩
theorem cutting_any (w : World) (k : Nat) : Calls Try.prog 49 #[.int .i64 k] w fun e w' => ∃ d ro, e = .returned (.agg #[d, .int .i64 0, .bool false]) ∧ Fv w' w.heap.size (.ct k) d ro ∧ Below w.heap.size w w' := by
  have st := st_func
  go_enter Try.func49, Try.ntmps49
  go_wp2_with fail
  refine bodyPost_ret (v := .agg #[.func (.func 67) #[] #[.pointer (some ⟨w.heap.size, 0, none⟩)], .int .i64 0, .bool false]) (by simp [results, Try.results49, go_sem]) rfl ⟨_, _, rfl, ⟨w.heap.size, rfl, ?_, Nat.le_refl _, rfl⟩, ?_⟩
  · rw [Below.heap_alloc _ _ _ (by simp)]; exact Go.heap_alloc_new w _
  · exact ((Below.refl _ _).alloc (Nat.le_refl _) _).alloc (by simp) _
/-- behind the clone -/
theorem aft_clone {w w0 w1 : World} {at_ m cp : Nat} {ai : Option Addr} {p : List Int} {v : Value} (hw0 : w0 = (((w.alloc (.cells #[.int .i64 at_] 3 (0, 0))).alloc (.cells #[.slice ai m cp] 32 (0, 0))).alloc (.cells #[.nilFunc, .int .i64 0, .bool false] 94 (0, 0)))) (hl : p.length = m) (hb : Buf w1 w0.heap.size v p) (hB : Below w0.heap.size w0 w1) :
    ∃ ao cv, v = .slice ao m cv ∧ (w1.cell? ⟨w.heap.size + 1, 0, none⟩ = some (.slice ai m cp) ∧ w1.frozen? ⟨w.heap.size + 1, 0, none⟩ = false ∧ w1.cell? ⟨w.heap.size + 1 + 1, 0, none⟩ = some .nilFunc ∧ w1.cell? ⟨w.heap.size + 1 + 1, 1, none⟩ = some (.int .i64 0) ∧ w1.cell? ⟨w.heap.size + 1 + 1, 2, none⟩ = some (.bool false) ∧ w1.frozen? ⟨w.heap.size + 1 + 1, 0, none⟩ = false ∧ w1.frozen? ⟨w.heap.size + 1 + 1, 1, none⟩ = false ∧ w1.frozen? ⟨w.heap.size + 1 + 1, 2, none⟩ = false) ∧
      (∀ d : Value, ∃ w2, w2 = (((w1.setCell ⟨w.heap.size + 1, 0, none⟩ (.slice ao m cv)).setCell ⟨w.heap.size + 1 + 1, 0, none⟩ d).setCell ⟨w.heap.size + 1 + 1, 1, none⟩ (.int .i64 m)).setCell ⟨w.heap.size + 1 + 1, 2, none⟩ (.bool true) ∧ w2.heap[w.heap.size]? = some (.cells #[.int .i64 at_] 3 (0, 0)) ∧ w2.heap[w.heap.size + 1]? = some (.cells #[.slice ao m cv] 32 (0, 0)) ∧ w2.heap[w.heap.size + 1 + 1]? = some (.cells #[d, .int .i64 m, .bool true] 94 (0, 0)) ∧ Buf w2 w.heap.size (.slice ao m cv) p ∧ Below w.heap.size w w2) := by
  have hBw : Below w.heap.size w w0 := by
    rw [hw0]
    exact ((((Below.refl _ _).alloc (Nat.le_refl _) _).alloc (by simp) _).alloc (by simp; omega) _)
  have hz : w0.heap.size = w.heap.size + 1 + 1 + 1 := by rw [hw0]; simp
  have e0 : w0.heap[w.heap.size]? = some (.cells #[.int .i64 at_] 3 (0, 0)) := by
    rw [hw0, Below.heap_alloc _ _ _ (by simp; omega), Below.heap_alloc _ _ _ (by simp)]; exact Go.heap_alloc_new w _
  have e1 : w0.heap[w.heap.size + 1]? = some (.cells #[.slice ai m cp] 32 (0, 0)) := by
    rw [hw0, Below.heap_alloc _ _ _ (by simp)]
    have := Go.heap_alloc_new (w.alloc (.cells #[.int .i64 at_] 3 (0, 0))) (.cells #[.slice ai m cp] 32 (0, 0)); simpa using this
  have e2 : w0.heap[w.heap.size + 1 + 1]? = some (.cells #[.nilFunc, .int .i64 0, .bool false] 94 (0, 0)) := by
    rw [hw0]
    have := Go.heap_alloc_new ((w.alloc (.cells #[.int .i64 at_] 3 (0, 0))).alloc (.cells #[.slice ai m cp] 32 (0, 0))) (.cells #[.nilFunc, .int .i64 0, .bool false] 94 (0, 0)); simpa using this
  have f0 := (hB.block _ (lt_of_block e0)).trans e0
  have f1 := (hB.block _ (lt_of_block e1)).trans e1
  have f2 := (hB.block _ (lt_of_block e2)).trans e2
  obtain ⟨ao, cv, hv, _⟩ := hb.form
  rw [hl] at hv
  subst hv
  refine ⟨ao, cv, rfl, ⟨by simp [World.cell?, f1], by simp [World.frozen?, f1], by simp [World.cell?, f2], by simp [World.cell?, f2], by simp [World.cell?, f2], by simp [World.frozen?, f2], by simp [World.frozen?, f2], by simp [World.frozen?, f2]⟩, fun d => ⟨_, rfl, ?_, ?_, ?_, ?_, ?_⟩⟩
  · rw [Below.heap_setCell _ _ _ _ (by first | (simp; done) | (simp; omega)), Below.heap_setCell _ _ _ _ (by first | (simp; done) | (simp; omega)), Below.heap_setCell _ _ _ _ (by first | (simp; done) | (simp; omega)), Below.heap_setCell _ _ _ _ (by first | (simp; done) | (simp; omega))]; exact f0
  · rw [Below.heap_setCell _ _ _ _ (by first | (simp; done) | (simp; omega)), Below.heap_setCell _ _ _ _ (by first | (simp; done) | (simp; omega)), Below.heap_setCell _ _ _ _ (by first | (simp; done) | (simp; omega)), block_setCell f1]; rfl
  · have g0 : (w1.setCell ⟨w.heap.size + 1, 0, none⟩ (.slice ao m cv)).heap[w.heap.size + 1 + 1]? = some (.cells #[.nilFunc, .int .i64 0, .bool false] 94 (0, 0)) := by
      rw [Below.heap_setCell _ _ _ _ (by first | (simp; done) | (simp; omega))]; exact f2
    rw [block_setCell (block_setCell (block_setCell g0 0 d) 1 (.int .i64 m)) 2 (.bool true)]
    rfl
  · refine (hb.base hBw.size).keep fun k hk => ?_
    have := (hb.low hk).1
    rw [Below.heap_setCell _ _ _ _ (by first | (simp; done) | (simp; omega)), Below.heap_setCell _ _ _ _ (by first | (simp; done) | (simp; omega)), Below.heap_setCell _ _ _ _ (by first | (simp; done) | (simp; omega)), Below.heap_setCell _ _ _ _ (by first | (simp; done) | (simp; omega))]
  · have h1 := hBw.trans (hB.mono hBw.size)
    exact ⟨h1.os, h1.tape, h1.output, by simpa using h1.size, fun k hk => by
      rw [Below.heap_setCell _ _ _ _ (by first | (simp; done) | (simp; omega)), Below.heap_setCell _ _ _ _ (by first | (simp; done) | (simp; omega)), Below.heap_setCell _ _ _ _ (by first | (simp; done) | (simp; omega)), Below.heap_setCell _ _ _ _ (by first | (simp; done) | (simp; omega))]
      exact h1.block k hk⟩
theorem writing_any (w : World) (at_ : Nat) (ai : Option Addr) (m cp : Nat) (p : List Int) (hl : p.length = m) (hb : ai = none → cp = 0) (hh : Has w ai p) (ho : Octets p) (hs : m ≤ 140737488355328) : Calls Try.prog 47 #[.int .i64 at_, .slice ai m cp] w fun e w' => ∃ d ro, e = .returned (.agg #[d, .int .i64 m, .bool true]) ∧ Fv w' w.heap.size (.wr at_ p) d ro ∧ Below w.heap.size w w' := by
  have st := st_func
  obtain ⟨w0, hw0⟩ : ∃ w0, w0 = (((w.alloc (.cells #[.int .i64 at_] 3 (0, 0))).alloc (.cells #[.slice ai m cp] 32 (0, 0))).alloc (.cells #[.nilFunc, .int .i64 0, .bool false] 94 (0, 0))) := ⟨_, rfl⟩
  have hB : Below w.heap.size w w0 := by
    rw [hw0]
    exact ((((Below.refl _ _).alloc (Nat.le_refl _) _).alloc (by simp) _).alloc (by simp; omega) _)
  have HC := clone_any w0 ai m cp p hl hb (hh.of_below' hB) ho hs
  have HCC : Hid (Calls Try.prog 37 #[.slice ai m cp] w0 fun e w' => ∃ ao cv, e = .returned (.slice ao m cv) ∧ (w'.cell? ⟨w.heap.size + 1, 0, none⟩ = some (.slice ai m cp) ∧ w'.frozen? ⟨w.heap.size + 1, 0, none⟩ = false ∧ w'.cell? ⟨w.heap.size + 1 + 1, 0, none⟩ = some .nilFunc ∧ w'.cell? ⟨w.heap.size + 1 + 1, 1, none⟩ = some (.int .i64 0) ∧ w'.cell? ⟨w.heap.size + 1 + 1, 2, none⟩ = some (.bool false) ∧ w'.frozen? ⟨w.heap.size + 1 + 1, 0, none⟩ = false ∧ w'.frozen? ⟨w.heap.size + 1 + 1, 1, none⟩ = false ∧ w'.frozen? ⟨w.heap.size + 1 + 1, 2, none⟩ = false) ∧
      (∀ d : Value, ∃ w2, w2 = (((w'.setCell ⟨w.heap.size + 1, 0, none⟩ (.slice ao m cv)).setCell ⟨w.heap.size + 1 + 1, 0, none⟩ d).setCell ⟨w.heap.size + 1 + 1, 1, none⟩ (.int .i64 m)).setCell ⟨w.heap.size + 1 + 1, 2, none⟩ (.bool true) ∧ w2.heap[w.heap.size]? = some (.cells #[.int .i64 at_] 3 (0, 0)) ∧ w2.heap[w.heap.size + 1]? = some (.cells #[.slice ao m cv] 32 (0, 0)) ∧ w2.heap[w.heap.size + 1 + 1]? = some (.cells #[d, .int .i64 m, .bool true] 94 (0, 0)) ∧ Buf w2 w.heap.size (.slice ao m cv) p ∧ Below w.heap.size w w2)) := HC.mono fun e w' ⟨v', he, h1, h2⟩ => by
    obtain ⟨ao, cv, e1, e2, e3⟩ := aft_clone hw0 hl h1 h2
    exact ⟨ao, cv, by rw [he, e1], e2, e3⟩
  have HL : Hid (p.length = m) := hl
  clear HC hh ho hb hl hB
  subst hw0
  go_enter Try.func47, Try.ntmps47
  go_wp2_with (first | (go_at_call 37; refine HCC.out.mono ?_; rintro e w1 ⟨ao1, cv1, rfl, ⟨g0, y0, g1, g2, g3, y1, y2, y3⟩, hf⟩; obtain ⟨wf, hwf, k0, k1, k2, k3, k4⟩ := hf (.func (.func 66) #[] #[.pointer (some ⟨w.heap.size, 0, none⟩), .pointer (some ⟨w.heap.size + 1, 0, none⟩)]); have HW : Hid (wf = _) := hwf; have HK : Hid (wf.heap[w.heap.size]? = some (.cells #[.int .i64 at_] 3 (0, 0)) ∧ wf.heap[w.heap.size + 1]? = some (.cells #[.slice ao1 m cv1] 32 (0, 0)) ∧ wf.heap[w.heap.size + 1 + 1]? = some (.cells #[.func (.func 66) #[] #[.pointer (some ⟨w.heap.size, 0, none⟩), .pointer (some ⟨w.heap.size + 1, 0, none⟩)], .int .i64 m, .bool true] 94 (0, 0)) ∧ Buf wf w.heap.size (.slice ao1 m cv1) p ∧ Below w.heap.size w wf) := ⟨k0, k1, k2, k3, k4⟩; clear hf hwf k0 k1 k2 k3 k4))
  rw [← HW.out]
  obtain ⟨k0, k1, k2, k3, k4⟩ := HK.out
  have r0 : wf.cell? ⟨w.heap.size + 1 + 1, 0, none⟩ = some (.func (.func 66) #[] #[.pointer (some ⟨w.heap.size, 0, none⟩), .pointer (some ⟨w.heap.size + 1, 0, none⟩)]) := by simp [World.cell?, k2]
  have r1 : wf.cell? ⟨w.heap.size + 1 + 1, 1, none⟩ = some (.int .i64 m) := by simp [World.cell?, k2]
  have r2 : wf.cell? ⟨w.heap.size + 1 + 1, 2, none⟩ = some (.bool true) := by simp [World.cell?, k2]
  have hl := HL.out
  subst hl
  exact bodyPost_ret (v := .agg #[.func (.func 66) #[] #[.pointer (some ⟨w.heap.size, 0, none⟩), .pointer (some ⟨w.heap.size + 1, 0, none⟩)], .int .i64 p.length, .bool true]) (by simp [results, Try.results47, go_sem, r0, r1, r2]) rfl ⟨_, _, rfl, ⟨w.heap.size, w.heap.size + 1, ao1, cv1, rfl, k0, k1, k3, Nat.le_refl _, Nat.le_succ _, rfl⟩, k4⟩
end Go.Proofs.Ytkmohpdcchpndaa
