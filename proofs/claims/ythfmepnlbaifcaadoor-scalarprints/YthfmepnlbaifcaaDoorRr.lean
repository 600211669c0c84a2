/-
  The document's Read.
-/
import Derived.Test.YthfmepnlbaifcaaDoorSe
namespace Go.Proofs.YthfmepnlbaifcaaDoor
open Go.RowKit
set_option linter.unusedVariables false
set_option linter.unusedSimpArgs false
abbrev NANW : Nat := 9221120237041090561
theorem from_run (x : Int) (w : World) : (callFunc 41 #[.int .u64 x]).run Tryd.prog w = .ok (.value (.float .f64 x.toNat)) w := by
  rw [run_callFunc_extern (e := Extern.MathFloatBits.float64frombits) Tryd.func41 (by kernel_rfl) (by kernel_rfl) (by kernel_rfl) (by kernel_rfl)]
  rfl
theorem nan_any (w : World) : Calls Tryd.prog 23 #[] w fun e w' => e = .returned (.float .f64 NANW) ∧ w' = w := by
  have hb := from_run 9221120237041090561 w
  go_enter Tryd.func23, Tryd.ntmps23
  go_wp2
  go_ret
  exact ⟨rfl, rfl⟩
theorem inf_up (w : World) : Calls Tryd.prog 24 #[.int .i64 1] w fun e w' => e = .returned (.float .f64 9218868437227405312) ∧ w' = w := by
  have hb := from_run 9218868437227405312 w
  go_enter Tryd.func24, Tryd.ntmps24
  go_wp2
  go_ret
  exact ⟨rfl, rfl⟩
theorem inf_down (w : World) : Calls Tryd.prog 24 #[.int .i64 (-1)] w fun e w' => e = .returned (.float .f64 18442240474082181120) ∧ w' = w := by
  have hb := from_run 18442240474082181120 w
  go_enter Tryd.func24, Tryd.ntmps24
  go_wp2
  go_ret
  exact ⟨rfl, rfl⟩
theorem st_float (w : World) (a : Addr) (b : Nat) (m : Mode) : (store a (.float .f64 b) m).run Tryd.prog w = stored Tryd.prog w a (.float .f64 b) m := run_store Tryd.prog w a _ m rfl
abbrev NINF : Nat := 18442240474082181120
def vR (k : Int) (b : Bool) (i : Int) (x : Nat) (s : List UInt8) : Array Value := #[.int .i64 k, .bool b, .int .i64 i, .float .f64 x, .string ⟨s.toArray⟩]
/-- a value's cells -/
def scV (l : List UInt8) : Sc → Array Value
  | .null => vR 1 false 0 0 []
  | .bool b => vR 2 b 0 0 []
  | .int i => vR 3 false i 0 []
  | .real x => vR 4 false 0 x []
  | .text => vR 5 false 0 0 l
/-- no word -/
def NoW (l : List UInt8) : Prop := l ≠ [] ∧ l ≠ [126] ∧ l ≠ [110, 117, 108, 108] ∧ l ≠ [116, 114, 117, 101] ∧ l ≠ [102, 97, 108, 115, 101] ∧ l ≠ [46, 110, 97, 110] ∧ l ≠ [46, 105, 110, 102] ∧ l ≠ [45, 46, 105, 110, 102]
/-- what a plain text says -/
def plainF (l : List UInt8) : Sc :=
  if l = [] then .null else
  if l = [126] then .null else
  if l = [110, 117, 108, 108] then .null else
  if l = [116, 114, 117, 101] then .bool true else
  if l = [102, 97, 108, 115, 101] then .bool false else
  if l = [46, 110, 97, 110] then .real NANW else
  if l = [46, 105, 110, 102] then .real INF else
  if l = [45, 46, 105, 110, 102] then .real NINF else
  match scanF l with
  | none => .text
  | some n => numS n
theorem plainF_no {l : List UInt8} (h : NoW l) : plainF l = match scanF l with | none => .text | some n => numS n := by
  obtain ⟨h1, h2, h3, h4, h5, h6, h7, h8⟩ := h
  unfold plainF
  rw [if_neg h1, if_neg h2, if_neg h3, if_neg h4, if_neg h5, if_neg h6, if_neg h7, if_neg h8]
theorem plainF_yes {l : List UInt8} (h : ¬ NoW l) : l = [] ∨ l = [126] ∨ l = [110, 117, 108, 108] ∨ l = [116, 114, 117, 101] ∨ l = [102, 97, 108, 115, 101] ∨ l = [46, 110, 97, 110] ∨ l = [46, 105, 110, 102] ∨ l = [45, 46, 105, 110, 102] := by
  unfold NoW at h
  by_cases w0 : l = []
  · simp [w0]
  by_cases w1 : l = [126]
  · simp [w1]
  by_cases w2 : l = [110, 117, 108, 108]
  · simp [w2]
  by_cases w3 : l = [116, 114, 117, 101]
  · simp [w3]
  by_cases w4 : l = [102, 97, 108, 115, 101]
  · simp [w4]
  by_cases w5 : l = [46, 110, 97, 110]
  · simp [w5]
  by_cases w6 : l = [46, 105, 110, 102]
  · simp [w6]
  by_cases w7 : l = [45, 46, 105, 110, 102]
  · simp [w7]
  exact absurd ⟨w0, w1, w2, w3, w4, w5, w6, w7⟩ h
theorem beq_no {l m : List UInt8} (h : l ≠ m) : (l == m) = false := by rw [beq_eq_false_iff_ne]; exact h
theorem res10 (tmps : Array Value) (W : World) (g : Nat) (cs : Array Value) (hp : tmps.getD 4 undef = .pointer (some ⟨g, 0, none⟩)) (hg : W.heap[g]? = some (.cells cs 27 (0, 0))) (hc : cs.size = 5) :
    (results Tryd.f10 tmps).run Tryd.prog W = .ok (.agg cs) W := by
  have hu : (match Tryd.prog.underlying 27 with | some (.struct _) => true | _ => false) = true := by kernel_rfl
  rcases hd : Tryd.prog.underlying 27 with _ | d
  · rw [hd] at hu; cases hu
  · rw [hd] at hu
    have hi : (Tryd.prog.info? 27).map (·.size) = some 5 := by kernel_rfl
    refine results_cell_row rfl tmps W g 27 cs (0, 0) d hp hg hd ?_ (by rw [hc]; exact hi)
    cases d <;> first | rfl | (cases hu)
theorem rread_q (l : List UInt8) (w : World) (hs : l.length ≤ 2 ^ 47) :
    Calls Tryd.prog 10 #[.string ⟨l.toArray⟩, .bool true] w fun e w' => e = .returned (.agg (scV l .text)) ∧ Below w.heap.size w w' := by
  have st := st_float
  go_enter Tryd.func10, Tryd.ntmps10
  go_wp2
  refine bodyPost_ret (res10 _ _ w.heap.size _ rfl (heap_alloc_new _ _) rfl) rfl ?_
  exact ⟨rfl, (Below.refl _ w).alloc (Nat.le_refl _) _⟩
theorem rread_nil (w : World) :
    Calls Tryd.prog 10 #[.string ⟨([] : List UInt8).toArray⟩, .bool false] w fun e w' => e = .returned (.agg (scV [] (.null))) ∧ Below w.heap.size w w' := by
  have st := st_float
  go_enter Tryd.func10, Tryd.ntmps10
  go_wp2_with (fail)
  refine bodyPost_ret (res10 _ _ w.heap.size _ rfl (heap_alloc_new _ _) rfl) rfl ?_
  exact ⟨rfl, (Below.refl _ w).alloc (Nat.le_refl _) _⟩
theorem rread_tilde (w : World) :
    Calls Tryd.prog 10 #[.string ⟨([126] : List UInt8).toArray⟩, .bool false] w fun e w' => e = .returned (.agg (scV [] (.null))) ∧ Below w.heap.size w w' := by
  have st := st_float
  go_enter Tryd.func10, Tryd.ntmps10
  go_wp2_with (fail)
  refine bodyPost_ret (res10 _ _ w.heap.size _ rfl (heap_alloc_new _ _) rfl) rfl ?_
  exact ⟨rfl, (Below.refl _ w).alloc (Nat.le_refl _) _⟩
theorem rread_null (w : World) :
    Calls Tryd.prog 10 #[.string ⟨([110, 117, 108, 108] : List UInt8).toArray⟩, .bool false] w fun e w' => e = .returned (.agg (scV [] (.null))) ∧ Below w.heap.size w w' := by
  have st := st_float
  go_enter Tryd.func10, Tryd.ntmps10
  go_wp2_with (fail)
  refine bodyPost_ret (res10 _ _ w.heap.size _ rfl (heap_alloc_new _ _) rfl) rfl ?_
  exact ⟨rfl, (Below.refl _ w).alloc (Nat.le_refl _) _⟩
theorem rread_true (w : World) :
    Calls Tryd.prog 10 #[.string ⟨([116, 114, 117, 101] : List UInt8).toArray⟩, .bool false] w fun e w' => e = .returned (.agg (scV [] (.bool true))) ∧ Below w.heap.size w w' := by
  have st := st_float
  go_enter Tryd.func10, Tryd.ntmps10
  go_wp2_with (fail)
  refine bodyPost_ret (res10 _ _ w.heap.size _ rfl (heap_alloc_new _ _) rfl) rfl ?_
  exact ⟨rfl, (Below.refl _ w).alloc (Nat.le_refl _) _⟩
theorem rread_false (w : World) :
    Calls Tryd.prog 10 #[.string ⟨([102, 97, 108, 115, 101] : List UInt8).toArray⟩, .bool false] w fun e w' => e = .returned (.agg (scV [] (.bool false))) ∧ Below w.heap.size w w' := by
  have st := st_float
  go_enter Tryd.func10, Tryd.ntmps10
  go_wp2_with (fail)
  refine bodyPost_ret (res10 _ _ w.heap.size _ rfl (heap_alloc_new _ _) rfl) rfl ?_
  exact ⟨rfl, (Below.refl _ w).alloc (Nat.le_refl _) _⟩
theorem rread_nan (w : World) :
    Calls Tryd.prog 10 #[.string ⟨([46, 110, 97, 110] : List UInt8).toArray⟩, .bool false] w fun e w' => e = .returned (.agg (scV [] (.real NANW))) ∧ Below w.heap.size w w' := by
  have st := st_float
  go_enter Tryd.func10, Tryd.ntmps10
  go_wp2_with (go_at_call 23; refine (nan_any _).mono ?_; rintro e w' ⟨rfl, rfl⟩)
  refine bodyPost_ret (res10 _ _ w.heap.size _ rfl (heap_alloc_new _ _) rfl) rfl ?_
  exact ⟨rfl, (Below.refl _ w).alloc (Nat.le_refl _) _⟩
theorem rread_inf (w : World) :
    Calls Tryd.prog 10 #[.string ⟨([46, 105, 110, 102] : List UInt8).toArray⟩, .bool false] w fun e w' => e = .returned (.agg (scV [] (.real INF))) ∧ Below w.heap.size w w' := by
  have st := st_float
  go_enter Tryd.func10, Tryd.ntmps10
  go_wp2_with (go_at_call 24; refine (inf_up _).mono ?_; rintro e w' ⟨rfl, rfl⟩)
  refine bodyPost_ret (res10 _ _ w.heap.size _ rfl (heap_alloc_new _ _) rfl) rfl ?_
  exact ⟨rfl, (Below.refl _ w).alloc (Nat.le_refl _) _⟩
theorem rread_ninf (w : World) :
    Calls Tryd.prog 10 #[.string ⟨([45, 46, 105, 110, 102] : List UInt8).toArray⟩, .bool false] w fun e w' => e = .returned (.agg (scV [] (.real NINF))) ∧ Below w.heap.size w w' := by
  have st := st_float
  go_enter Tryd.func10, Tryd.ntmps10
  go_wp2_with (go_at_call 24; refine (inf_down _).mono ?_; rintro e w' ⟨rfl, rfl⟩)
  refine bodyPost_ret (res10 _ _ w.heap.size _ rfl (heap_alloc_new _ _) rfl) rfl ?_
  exact ⟨rfl, (Below.refl _ w).alloc (Nat.le_refl _) _⟩
end Go.Proofs.YthfmepnlbaifcaaDoor
