/-
  How two keys stand: compare, and the closure that sorts.
-/
import Derived.Test.YtmljljpldljpjabRb
import Derived.Deep.RegionHeld3
namespace Go.Proofs.Ytmljljpldljpjab
open Go.RowKit
set_option linter.unusedVariables false
set_option linter.unusedSimpArgs false
set_option maxRecDepth 100000
/-- a text stands ahead of another -/
def sless (a b : ByteArray) : Bool := Op.bytesLess a.toList b.toList
def scmp (a b : ByteArray) : Int := if sless a b = true then -1 else if (a.toList == b.toList) = true then 0 else 1
def icmp (x y : Int) : Int := if x < y then -1 else if y < x then 1 else 0
def kcmp (k l : Int × ByteArray) : Int := if icmp k.1 l.1 = 0 then scmp k.2 l.2 else icmp k.1 l.1
theorem ret_int {a b : Int} (h : a = b) : Ending.returned (.int .i64 a) = .returned (.int .i64 b) := by rw [h]
theorem ret_bool {a b : Bool} (h : a = b) : Ending.returned (.bool a) = .returned (.bool b) := by rw [h]
theorem isNaNi_any (x : Int) (w : World) : Calls Try.prog 71 #[.int .i64 x] w fun e w' => e = .returned (.bool false) ∧ w' = w := by
  go_enter Try.func71, Try.ntmps71
  go_wp2
  go_ret
  exact ⟨rfl, rfl⟩
theorem isNaNs_any (x : ByteArray) (w : World) : Calls Try.prog 72 #[.string x] w fun e w' => e = .returned (.bool false) ∧ w' = w := by
  go_enter Try.func72, Try.ntmps72
  go_wp2
  go_ret
  exact ⟨rfl, rfl⟩
theorem compareI_any (x y : Int) (w : World) : Calls Try.prog 48 #[.int .i64 x, .int .i64 y] w fun e w' => e = .returned (.int .i64 (icmp x y)) ∧ w' = w := by
  unfold icmp
  by_cases h1 : x < y
  · rw [if_pos h1]
    go_enter Try.func48, Try.ntmps48
    go_wp2_with (go_at_call 71; refine (isNaNi_any _ _).mono ?_; rintro e w1 ⟨rfl, hw⟩; have hw := hw.symm; subst hw)
    go_ret
    exact ⟨rfl, rfl⟩
  · rw [if_neg h1]
    by_cases h3 : y < x
    · rw [if_pos h3]
      go_enter Try.func48, Try.ntmps48
      go_wp2_with (go_at_call 71; refine (isNaNi_any _ _).mono ?_; rintro e w1 ⟨rfl, hw⟩; have hw := hw.symm; subst hw)
      go_ret
      exact ⟨rfl, rfl⟩
    · rw [if_neg h3]
      go_enter Try.func48, Try.ntmps48
      go_wp2_with (go_at_call 71; refine (isNaNi_any _ _).mono ?_; rintro e w1 ⟨rfl, hw⟩; have hw := hw.symm; subst hw)
      go_ret
      exact ⟨rfl, rfl⟩
theorem compareS_any (x y : ByteArray) (w : World) : Calls Try.prog 49 #[.string x, .string y] w fun e w' => e = .returned (.int .i64 (scmp x y)) ∧ w' = w := by
  unfold scmp sless
  by_cases h1 : Op.bytesLess x.toList y.toList = true
  · rw [if_pos h1]
    go_enter Try.func49, Try.ntmps49
    go_wp2_with (go_at_call 72; refine (isNaNs_any _ _).mono ?_; rintro e w1 ⟨rfl, hw⟩; have hw := hw.symm; subst hw)
    go_ret
    exact ⟨rfl, rfl⟩
  · rw [if_neg h1]
    have h1' : Op.bytesLess x.toList y.toList = false := by simpa using h1
    clear h1
    by_cases h3 : (x.toList == y.toList) = true
    · rw [if_pos h3]
      go_enter Try.func49, Try.ntmps49
      go_wp2_with (go_at_call 72; refine (isNaNs_any _ _).mono ?_; rintro e w1 ⟨rfl, hw⟩; have hw := hw.symm; subst hw)
      go_ret
      exact ⟨rfl, rfl⟩
    · rw [if_neg h3]
      have h3' : (x.toList == y.toList) = false := by simpa using h3
      clear h3
      go_enter Try.func49, Try.ntmps49
      go_wp2_with (go_at_call 72; refine (isNaNs_any _ _).mono ?_; rintro e w1 ⟨rfl, hw⟩; have hw := hw.symm; subst hw)
      go_ret
      exact ⟨rfl, rfl⟩
theorem orInt_any (a b : Int) (w : World) (g : Nat) (h0 : w.cell? ⟨g, 0, none⟩ = some (.int .i64 a)) (h1 : w.cell? ⟨g, 1, none⟩ = some (.int .i64 b)) :
    Calls Try.prog 47 #[.slice (some ⟨g, 0, none⟩) 2 2] w fun e w' => e = .returned (.int .i64 (if a = 0 then b else a)) ∧ w' = w := by
  by_cases ha : a = 0
  · subst ha
    by_cases hb : b = 0
    · subst hb
      go_enter Try.func47, Try.ntmps47
      go_wp2
      refine wp_loop_rounds 3 ?_
      iterate 3 (rw [rounds_succ]; go_wp2)
      go_ret
      exact ⟨rfl, rfl⟩
    · have hb' : (b == 0) = false := by simpa using hb
      go_enter Try.func47, Try.ntmps47
      go_wp2
      refine wp_loop_rounds 3 ?_
      iterate 2 (rw [rounds_succ]; go_wp2)
      go_ret
      exact ⟨ret_int (by simp), rfl⟩
  · have ha' : (a == 0) = false := by simpa using ha
    go_enter Try.func47, Try.ntmps47
    go_wp2
    refine wp_loop_rounds 3 ?_
    rw [rounds_succ]
    go_wp2
    go_ret
    exact ⟨ret_int (by simp [ha]), rfl⟩
theorem new2 (W : World) (x y : Value) (t : TypeId) (k : Nat) (v : Value) (h : [x, y][k]? = some v) : (W.alloc (.cells #[x, y] t (0, 0))).cell? ⟨W.heap.size, k, none⟩ = some v := by
  have := World.news_of_block (heap_alloc_new W (.cells #[x, y] t (0, 0))) k v (by simpa using h)
  rwa [Go.WideShapes.add_plain, Nat.zero_add] at this
set_option maxHeartbeats 8000000 in
theorem compare_any (k l : Int × ByteArray) (w : World) : Calls Try.prog 32 #[keyV k, keyV l] w fun e w' => e = .returned (.int .i64 (kcmp k l)) ∧ Gr w w' := by
  obtain ⟨n, t⟩ := k
  obtain ⟨m, u⟩ := l
  have hS := fun w => compareI_any n m w
  have hB := fun w => compareS_any t u w
  have hE : kcmp (n, t) (m, u) = if icmp n m = 0 then scmp t u else icmp n m := rfl
  generalize kcmp (n, t) (m, u) = r at hE
  generalize icmp n m = x at hS hE
  generalize scmp t u = z at hB hE
  have HE := hideL hE
  clear hE
  have hO : ∀ (W : World) (g : Nat), W.cell? ⟨g, 0, none⟩ = some (.int .i64 x) → W.cell? ⟨g, 1, none⟩ = some (.int .i64 z) → Calls Try.prog 47 #[.slice (some ⟨g, 0, none⟩) 2 2] W fun e w' => e = .returned (.int .i64 r) ∧ w' = W := by
    intro W g k0 k1
    rw [HE.out]
    exact orInt_any x z W g k0 k1
  have HO := hideL hO
  clear hO
  unfold keyV
  have HT := hideL ((Gr.alloc w (.cells #[.int .i64 n, .string t] 53 (0, 0))).trans (Gr.alloc _ (.cells #[.int .i64 m, .string u] 53 (0, 0))))
  have c0 : ((w.alloc (.cells #[.int .i64 n, .string t] 53 (0, 0))).alloc (.cells #[.int .i64 m, .string u] 53 (0, 0))).cell? ⟨w.heap.size, 0, none⟩ = some (.int .i64 n) := cell_of_below (Gr.alloc _ _).below (new2 w _ _ 53 0 _ rfl)
  have c1 : ((w.alloc (.cells #[.int .i64 n, .string t] 53 (0, 0))).alloc (.cells #[.int .i64 m, .string u] 53 (0, 0))).cell? ⟨w.heap.size, 1, none⟩ = some (.string t) := cell_of_below (Gr.alloc _ _).below (new2 w _ _ 53 1 _ rfl)
  have d0 : ((w.alloc (.cells #[.int .i64 n, .string t] 53 (0, 0))).alloc (.cells #[.int .i64 m, .string u] 53 (0, 0))).cell? ⟨w.heap.size + 1, 0, none⟩ = some (.int .i64 m) := by
    simp
  have d1 : ((w.alloc (.cells #[.int .i64 n, .string t] 53 (0, 0))).alloc (.cells #[.int .i64 m, .string u] 53 (0, 0))).cell? ⟨w.heap.size + 1, 1, none⟩ = some (.string u) := by
    simp
  go_enter Try.func32, Try.ntmps32
  go_wp2_with fail
  generalize (w.alloc (.cells #[.int .i64 n, .string t] 53 (0, 0))).alloc (.cells #[.int .i64 m, .string u] 53 (0, 0)) = wx at HT c0 c1 d0 d1 ⊢
  go_region_held3 (fun w' => w'.cell? ⟨w.heap.size, 0, none⟩ = some (.int .i64 n) ∧ w'.cell? ⟨w.heap.size, 1, none⟩ = some (.string t) ∧ w'.cell? ⟨w.heap.size + 1, 0, none⟩ = some (.int .i64 m) ∧ w'.cell? ⟨w.heap.size + 1, 1, none⟩ = some (.string u)) (go_keep) (first
      | (go_at_call 48; refine (hS _).mono ?_; rintro e w1 ⟨rfl, hw⟩; have hw := hw.symm; subst hw)
      | (go_at_call 49; refine (hB _).mono ?_; rintro e w1 ⟨rfl, hw⟩; have hw := hw.symm; subst hw)
      | (go_at_call 47; refine (HO.out (wx.alloc (.cells #[.int .i64 x, .int .i64 z] 3 (0, 0))).drew wx.heap.size (new2 wx _ _ 3 0 _ rfl) (new2 wx _ _ 3 1 _ rfl)).mono ?_; rintro e w1 ⟨rfl, hw⟩; have hw := hw.symm; subst hw))
  all_goals
    go_wp2
    go_ret
    exact ⟨rfl, HT.out.trans ((Gr.alloc _ _).trans (Gr.drewN _ 1))⟩
end Go.Proofs.Ytmljljpldljpjab
