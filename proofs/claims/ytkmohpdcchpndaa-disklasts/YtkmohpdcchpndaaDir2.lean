/-
  The changes of the directory: renaming and removing; all of them made.
-/
import Derived.Test.YtkmohpdcchpndaaDir
import Derived.Test.YtkmohpdcchpndaaMake
namespace Go.Proofs.Ytkmohpdcchpndaa
open Go.RowKit
set_option linter.unusedVariables false
set_option linter.unusedSimpArgs false
set_option maxHeartbeats 1000000 in
theorem removing_do (w : World) (base : Nat) (m : Nat) (D : DataW Unit) (n : Nat) (x : Int) (name : ByteArray) (sb : Nat) (h1 : base ≤ m) (h2 : OM w m n D) (h3 : Go.Maps.Tidy D) (hsb : w.cell? ⟨sb, 0, none⟩ = some (.string name)) (hs : name.size ≤ maxLen) :
    Calls Try.prog 75 #[.map (some m), .int .i64 x, .pointer (some ⟨sb, 0, none⟩)] w fun e w' => e = .returned (.map (some m)) ∧ Dm w' base (.map (some m)) (Dc.do (.rm name) (some D)) (n + 1) ∧ w.grownBy w' (some m) := by
  have hkey := Go.WideMaps.keyOf_string_mk (P := Try.prog) Try.underlying9 hs
  have HOW : Hid (OM w m n D) := h2
  have HF : Hid (∀ w2, OM w2 m n (D.del (keyOf name)) → w.grownBy w2 (some m) → Dm w2 base (.map (some m)) (Dc.do (.rm name) (some D)) (n + 1) ∧ w.grownBy w2 (some m)) := fun w2 ho hg =>
    ⟨.inr ⟨m, _, rfl, rfl, h1, ho.mono (by omega), h3.del _⟩, hg⟩
  clear h2 h3
  go_enter Try.func75, Try.ntmps75
  go_wp2_with (at_delete; refine wpList_delete_own _ rfl _ _ 62 9 rfl 3 (Go.Maps.string_keyed Try.underlying9) Try.underlying62 _ m n D rfl HOW.out _ _ rfl hkey ?_; intro w2 hown2 hturn2; have FI := HF.out w2 hown2 hturn2.grown; clear hown2 hturn2)
  go_ret
  exact ⟨rfl, FI.1, FI.2⟩
set_option maxHeartbeats 1000000 in
theorem renaming_do (w : World) (base : Nat) (m : Nat) (D : DataW Unit) (n : Nat) (x : Int) (fr to_ : ByteArray) (num fb nb tb : Nat) (h1 : base ≤ m) (h2 : OM w m n D) (h3 : Go.Maps.Tidy D) (hn : n < 1000000000) (hfb : w.heap[fb]? = some (.cells #[.string fr] 9 (0, 0))) (hnb : w.heap[nb]? = some (.cells #[.int .i64 num] 3 (0, 0))) (htb : w.heap[tb]? = some (.cells #[.string to_] 9 (0, 0))) (hsf : fr.size ≤ maxLen) (hst : to_.size ≤ maxLen) (hw : num ≤ 1000000000) :
    Calls Try.prog 68 #[.map (some m), .int .i64 x, .pointer (some ⟨fb, 0, none⟩), .pointer (some ⟨nb, 0, none⟩), .pointer (some ⟨tb, 0, none⟩)] w fun e w' => e = .returned (.map (some m)) ∧ Dm w' base (.map (some m)) (Dc.do (.rn fr to_ num) (some D)) (n + 1) ∧ w.grownBy w' (some m) := by
  have hkf := Go.WideMaps.keyOf_string_mk (P := Try.prog) Try.underlying9 hsf
  have hkt := Go.WideMaps.keyOf_string_mk (P := Try.prog) Try.underlying9 hst
  have htw := wf_num hw
  have hmk : ∃ es clock, w.heap[m]? = some (.map es clock) := by obtain ⟨es, clock, hb, _⟩ := h2; exact ⟨es, clock, hb⟩
  obtain ⟨es, clock, hmb⟩ := hmk
  have c0 : w.cell? ⟨fb, 0, none⟩ = some (.string fr) := by simp [World.cell?, hfb]
  have HOW : Hid (OM w m n D) := h2
  have hbm' : n < maxLen := by have : (1000000000 : Nat) ≤ maxLen := by decide
                               omega
  have HM : Hid (∀ w2, w.grownBy w2 (some m) → w2.cell? ⟨nb, 0, none⟩ = some (.int .i64 num) ∧ w2.cell? ⟨tb, 0, none⟩ = some (.string to_)) := fun w2 hg => by
    have n1 : some nb ≠ some m := fun e => by injection e with e; rw [e, hmb] at hnb; cases hnb
    have n2 : some tb ≠ some m := fun e => by injection e with e; rw [e, hmb] at htb; cases htb
    exact ⟨by rw [hg.cell_far _ (lt_of_block hnb) n1]; simp [World.cell?, hnb], by rw [hg.cell_far _ (lt_of_block htb) n2]; simp [World.cell?, htb]⟩
  have HF : Hid (∀ w1 w2, OM w2 m (n + 1) ((D.del (keyOf fr)).put (keyOf to_) (.lit (.int .i64 num))) → w.grownBy w1 (some m) → w1.grownBy w2 (some m) → Dm w2 base (.map (some m)) (Dc.do (.rn fr to_ num) (some D)) (n + 1) ∧ w.grownBy w2 (some m)) := fun w1 w2 ho hg hg2 =>
    ⟨.inr ⟨m, _, rfl, rfl, h1, ho, (h3.del _).put (by trivial) _⟩, hg.trans hg2⟩
  clear h2 h3 hfb hnb htb hmb
  go_enter Try.func68, Try.ntmps68
  go_wp2_with (first | (at_delete; refine wpList_delete_own _ rfl _ _ 62 9 rfl 3 (Go.Maps.string_keyed Try.underlying9) Try.underlying62 _ m n D rfl HOW.out _ _ rfl hkf ?_; intro w1 hown1 hturn1; have HO1 : Hid (OM w1 m n (D.del (keyOf fr)) ∧ w.grownBy w1 (some m)) := ⟨hown1, hturn1.grown⟩; obtain ⟨y0, y1⟩ := HM.out w1 hturn1.grown; clear hown1 hturn1) | (at_mapUpdate; refine wpList_mapUpdate_own _ rfl _ _ _ 62 rfl 9 3 (Go.Maps.string_keyed Try.underlying9) Try.underlying62 _ m n (D.del (keyOf fr)) rfl HO1.out.1 hbm' _ _ _ rfl rfl hkt _ [] (plainElem_int Try.underlying3 htw) ?_; intro w2 hown2 hgrow2; have FI := HF.out w1 w2 hown2 HO1.out.2 hgrow2; clear hown2 hgrow2))
  go_ret
  exact ⟨rfl, FI.1, FI.2⟩
/-- its function in memory, and the blocks that it reads -/
def Dv (w : World) (base : Nat) (c : Dc) (d : Value) (ro : List Nat) : Prop :=
  match c with
  | .nm name num => ∃ nb sb, d = .func (.func 65) #[] #[.pointer (some ⟨nb, 0, none⟩), .pointer (some ⟨sb, 0, none⟩)] ∧ w.heap[nb]? = some (.cells #[.int .i64 num] 3 (0, 0)) ∧ w.heap[sb]? = some (.cells #[.string name] 9 (0, 0)) ∧ base ≤ nb ∧ base ≤ sb ∧ ro = [nb, sb] ∧ name.size ≤ maxLen ∧ num ≤ 1000000000
  | .rn fr to_ num => ∃ fb nb tb, d = .func (.func 68) #[] #[.pointer (some ⟨fb, 0, none⟩), .pointer (some ⟨nb, 0, none⟩), .pointer (some ⟨tb, 0, none⟩)] ∧ w.heap[fb]? = some (.cells #[.string fr] 9 (0, 0)) ∧ w.heap[nb]? = some (.cells #[.int .i64 num] 3 (0, 0)) ∧ w.heap[tb]? = some (.cells #[.string to_] 9 (0, 0)) ∧ base ≤ fb ∧ base ≤ nb ∧ base ≤ tb ∧ ro = [fb, nb, tb] ∧ fr.size ≤ maxLen ∧ to_.size ≤ maxLen ∧ num ≤ 1000000000
  | .rm name => ∃ sb, d = .func (.func 75) #[] #[.pointer (some ⟨sb, 0, none⟩)] ∧ w.heap[sb]? = some (.cells #[.string name] 9 (0, 0)) ∧ base ≤ sb ∧ ro = [sb] ∧ name.size ≤ maxLen
theorem Dv.keep {w w' : World} {base : Nat} {c : Dc} {d : Value} {ro : List Nat} (h : Dv w base c d ro) (hk : ∀ k ∈ ro, w'.heap[k]? = w.heap[k]?) : Dv w' base c d ro := by
  cases c with
  | nm name num =>
    obtain ⟨nb, sb, rfl, h1, h2, h3, h4, rfl, h5⟩ := h
    exact ⟨nb, sb, rfl, (hk nb (by simp)).trans h1, (hk sb (by simp)).trans h2, h3, h4, rfl, h5⟩
  | rn fr to_ num =>
    obtain ⟨fb, nb, tb, rfl, h1, h2, h3, h4, h5, h6, rfl, h7⟩ := h
    exact ⟨fb, nb, tb, rfl, (hk fb (by simp)).trans h1, (hk nb (by simp)).trans h2, (hk tb (by simp)).trans h3, h4, h5, h6, rfl, h7⟩
  | rm name =>
    obtain ⟨sb, rfl, h1, h2, rfl, h3⟩ := h
    exact ⟨sb, rfl, (hk sb (by simp)).trans h1, h2, rfl, h3⟩
theorem Dv.lt {w : World} {base : Nat} {c : Dc} {d : Value} {ro : List Nat} (h : Dv w base c d ro) : ∀ k ∈ ro, base ≤ k ∧ k < w.heap.size := by
  cases c with
  | nm name num =>
    obtain ⟨nb, sb, rfl, h1, h2, h3, h4, rfl, h5⟩ := h
    intro k hk
    simp at hk
    rcases hk with rfl | rfl
    · exact ⟨h3, lt_of_block h1⟩
    · exact ⟨h4, lt_of_block h2⟩
  | rn fr to_ num =>
    obtain ⟨fb, nb, tb, rfl, h1, h2, h3, h4, h5, h6, rfl, h7⟩ := h
    intro k hk
    simp at hk
    rcases hk with rfl | rfl | rfl
    · exact ⟨h4, lt_of_block h1⟩
    · exact ⟨h5, lt_of_block h2⟩
    · exact ⟨h6, lt_of_block h3⟩
  | rm name =>
    obtain ⟨sb, rfl, h1, h2, rfl, h3⟩ := h
    intro k hk
    simp at hk
    subst hk
    exact ⟨h2, lt_of_block h1⟩
theorem naming_any (w : World) (name : ByteArray) (num : Nat) (hs : name.size ≤ maxLen) (hw : num ≤ 1000000000) : Calls Try.prog 43 #[.string name, .int .i64 num] w fun e w' => ∃ d ro, e = .returned (.agg #[d, .int .i64 0, .bool false]) ∧ Dv w' w.heap.size (.nm name num) d ro ∧ Below w.heap.size w w' := by
  have st := st_func
  go_enter Try.func43, Try.ntmps43
  go_wp2_with fail
  refine bodyPost_ret (v := .agg #[.func (.func 65) #[] #[.pointer (some ⟨w.heap.size + 1, 0, none⟩), .pointer (some ⟨w.heap.size, 0, none⟩)], .int .i64 0, .bool false]) (by simp [results, Try.results43, go_sem]) rfl ⟨_, _, rfl, ⟨w.heap.size + 1, w.heap.size, rfl, ?_, ?_, Nat.le_succ _, Nat.le_refl _, rfl, hs, hw⟩, ?_⟩
  · rw [Below.heap_alloc _ _ _ (by simp)]
    have := Go.heap_alloc_new (w.alloc (.cells #[.string name] 9 (0, 0))) (.cells #[.int .i64 num] 3 (0, 0)); simpa using this
  · rw [Below.heap_alloc _ _ _ (by simp; omega), Below.heap_alloc _ _ _ (by simp)]; exact Go.heap_alloc_new w _
  · exact ((((Below.refl _ _).alloc (Nat.le_refl _) _).alloc (by simp) _).alloc (by simp; omega) _)
theorem removing_any (w : World) (name : ByteArray) (hs : name.size ≤ maxLen) : Calls Try.prog 71 #[.string name] w fun e w' => ∃ d ro, e = .returned (.agg #[d, .int .i64 0, .bool false]) ∧ Dv w' w.heap.size (.rm name) d ro ∧ Below w.heap.size w w' := by
  have st := st_func
  go_enter Try.func71, Try.ntmps71
  go_wp2_with fail
  refine bodyPost_ret (v := .agg #[.func (.func 75) #[] #[.pointer (some ⟨w.heap.size, 0, none⟩)], .int .i64 0, .bool false]) (by simp [results, Try.results71, go_sem]) rfl ⟨_, _, rfl, ⟨w.heap.size, rfl, ?_, Nat.le_refl _, rfl, hs⟩, ?_⟩
  · rw [Below.heap_alloc _ _ _ (by simp)]; exact Go.heap_alloc_new w _
  · exact (((Below.refl _ _).alloc (Nat.le_refl _) _).alloc (by simp) _)
theorem renaming_any (w : World) (fr to_ : ByteArray) (num : Nat) (hsf : fr.size ≤ maxLen) (hst : to_.size ≤ maxLen) (hw : num ≤ 1000000000) : Calls Try.prog 51 #[.string fr, .string to_, .int .i64 num] w fun e w' => ∃ d ro, e = .returned (.agg #[d, .int .i64 0, .bool false]) ∧ Dv w' w.heap.size (.rn fr to_ num) d ro ∧ Below w.heap.size w w' := by
  have st := st_func
  go_enter Try.func51, Try.ntmps51
  go_wp2_with fail
  refine bodyPost_ret (v := .agg #[.func (.func 68) #[] #[.pointer (some ⟨w.heap.size, 0, none⟩), .pointer (some ⟨w.heap.size + 1 + 1, 0, none⟩), .pointer (some ⟨w.heap.size + 1, 0, none⟩)], .int .i64 0, .bool false]) (by simp [results, Try.results51, go_sem]) rfl ⟨_, _, rfl, ⟨w.heap.size, w.heap.size + 1 + 1, w.heap.size + 1, rfl, ?_, ?_, ?_, Nat.le_refl _, by omega, by omega, rfl, hsf, hst, hw⟩, ?_⟩
  · rw [Below.heap_alloc _ _ _ (by simp; omega), Below.heap_alloc _ _ _ (by simp; omega), Below.heap_alloc _ _ _ (by simp)]; exact Go.heap_alloc_new w _
  · rw [Below.heap_alloc _ _ _ (by simp)]
    have := Go.heap_alloc_new ((w.alloc (.cells #[.string fr] 9 (0, 0))).alloc (.cells #[.string to_] 9 (0, 0))) (.cells #[.int .i64 num] 3 (0, 0)); simpa using this
  · rw [Below.heap_alloc _ _ _ (by simp), Below.heap_alloc _ _ _ (by simp)]
    have := Go.heap_alloc_new (w.alloc (.cells #[.string fr] 9 (0, 0))) (.cells #[.string to_] 9 (0, 0)); simpa using this
  · exact (((((Below.refl _ _).alloc (Nat.le_refl _) _).alloc (by simp) _).alloc (by simp; omega) _).alloc (by simp; omega) _)
end Go.Proofs.Ytkmohpdcchpndaa
