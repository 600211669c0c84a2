/-
  The walk of ScalarReads.
-/
import Derived.Test.YthfmepnlbaifcaaDoorBl
namespace Go.Proofs.YthfmepnlbaifcaaDoor
open Go.RowKit
set_option linter.unusedVariables false
set_option linter.unusedSimpArgs false
theorem lawPlain_any (k : Int) (b : Bool) (i : Int) (x : Nat) (s : List UInt8) (w : World) :
    Calls Tryd.prog 8 #[.agg (vR k b i x s), .agg (vR k b i x s)] w fun e w' => e = .returned (.bool true) ∧ Below w.heap.size w w' := by
  unfold vR
  go_enter Tryd.func8, Tryd.ntmps8
  go_wp2_with (go_at_call 15; refine (same_real x _).mono ?_; rintro e w' ⟨rfl, hb⟩)
  go_ret
  exact ⟨rfl, (two_below w _ _).trans (hb.mono (by simp; omega))⟩
theorem scV_vR (l : List UInt8) (sc : Sc) : ∃ k b i x s, scV l sc = vR k b i x s := by
  cases sc with
  | null => exact ⟨_, _, _, _, _, rfl⟩
  | bool b => exact ⟨_, _, _, _, _, rfl⟩
  | int i => exact ⟨_, _, _, _, _, rfl⟩
  | real x => exact ⟨_, _, _, _, _, rfl⟩
  | text => exact ⟨_, _, _, _, _, rfl⟩
theorem reads_any (l : List UInt8) (q : Bool) (w : World) (hs : l.length ≤ 2 ^ 47) (hE : Errs w) :
    Calls Tryd.prog 3 #[.string ⟨l.toArray⟩, .bool q] w fun e w' => e = .returned (.bool true) ∧ Below w.heap.size w w' := by
  have h1 := read_any l q w hs hE
  obtain ⟨k, b, i, x, s, hv⟩ := scV_vR l (if q = true then .text else plainF l)
  rw [hv] at h1
  go_enter Tryd.func3, Tryd.ntmps3
  go_wp2_with (first
    | (go_at_call 9; refine h1.mono ?_; rintro e w1 ⟨rfl, hb1⟩)
    | (go_at_call 10; refine (rread_any l q _ hs).mono ?_; rw [hv]; rintro e w2 ⟨rfl, hb2⟩)
    | (go_at_call 8; refine (lawPlain_any k b i x s _).mono ?_; rintro e w3 ⟨rfl, hb3⟩))
  go_ret
  exact ⟨rfl, hb1.trans ((hb2.mono hb1.size).trans (hb3.mono (Nat.le_trans hb1.size hb2.size)))⟩
theorem str_list (a : ByteArray) : a = ⟨a.data.toList.toArray⟩ := by cases a; simp
theorem reads_str (a : ByteArray) (q : Bool) (w : World) (hs : a.size ≤ 140737488355328) (hE : Errs w) :
    Calls Tryd.prog 3 #[.string a, .bool q] w fun e w' => e = .returned (.bool true) ∧ Below w.heap.size w w' := by
  have e : a.data.toList.length = a.size := rfl
  have h := reads_any a.data.toList q w (by omega) hE
  rw [← str_list] at h
  exact h
end Go.Proofs.YthfmepnlbaifcaaDoor
