/- Package health's other calls. -/
import Derived.Test.YtidpglbokpgpbaaHc
import Derived.OwnWalk
import Derived.Maps.AppendAt
namespace Go.Proofs.Ytidpglbokpgpbaa
open Go.RowKit Ieee
set_option linter.unusedVariables false
set_option linter.unusedSimpArgs false
/-- a state or nil -/
inductive Pv (w : World) : Value → Option Nat → Option St → Prop
  | nil : Pv w (.pointer none) none none
  | at_ (b : Nat) (s : St) (h : Hs w b s) : Pv w (.pointer (some ⟨b, 0, none⟩)) (some b) (some s)
theorem healthy_any (v : Value) (b : Option Nat) (o : Option St) (w : World) (h : Pv w v b o) : Calls Try.prog 23 #[v] w fun e w' => e = .returned (.bool (o.elim false St.up)) ∧ w' = w := by
  cases h with
  | nil =>
    go_enter Try.func23, Try.ntmps23
    go_wp2_with fail
    go_ret
    exact ⟨rfl, rfl⟩
  | at_ b s h =>
    obtain ⟨c0, c1, c2, c3, c4, c5, c6⟩ := h.cells
    clear h c1 c2 c3 c4 c5 c6
    obtain ⟨u, hu⟩ : ∃ u, s.up = u := ⟨_, rfl⟩
    rw [hu] at c0
    have e : (some s : Option St).elim false St.up = u := hu
    rw [e]
    clear hu e
    cases u
    · replace c0 : w.cell? ⟨b, 0, none⟩ = some (.int .i64 1) := c0
      go_enter Try.func23, Try.ntmps23
      go_wp2_with fail
      go_ret
      exact ⟨rfl, rfl⟩
    · replace c0 : w.cell? ⟨b, 0, none⟩ = some (.int .i64 0) := c0
      go_enter Try.func23, Try.ntmps23
      go_wp2_with fail
      go_ret
      exact ⟨rfl, rfl⟩
/-- the state that New makes -/
def St.new (rise fall : Int) : St := ⟨true, fall, rise, 0, 0, 0, 0⟩
def okT (rise fall : Int) : Prop := 1 ≤ rise ∧ rise ≤ 100 ∧ 1 ≤ fall ∧ fall ≤ 100
instance (r f : Int) : Decidable (okT r f) := inferInstanceAs (Decidable (_ ∧ _))
theorem Ok.new {rise fall : Int} (h : okT rise fall) : Ok (St.new rise fall) 0 := by
  obtain ⟨h1, h2, h3, h4⟩ := h
  exact ⟨⟨h3, h4⟩, ⟨h1, h2⟩, fun _ => by show -fall < 0; omega, (fun h => by cases h), by simp [St.new], by simp [St.new], by simp [St.new, INF], by simp [St.new]⟩
theorem new_no (r f : Int) (w : World) (hr : -9223372036854775808 ≤ r ∧ r ≤ 9223372036854775807) (hf : -9223372036854775808 ≤ f ∧ f ≤ 9223372036854775807) (h : ¬ okT r f) :
    Calls Try.prog 17 #[.int .i64 r, .int .i64 f] w fun e w' => e = .returned (.tuple #[.pointer none, .int .i64 2]) ∧ w' = w := by
  have h1 := maybe_any r w hr.1 hr.2
  have h2 := maybe_any f w hf.1 hf.2
  by_cases a : (decide (1 ≤ r) && decide (r ≤ 100)) = true
  · have b : (decide (1 ≤ f) && decide (f ≤ 100)) = false := by
      unfold okT at h
      simp at a ⊢
      omega
    rw [a] at h1; rw [b] at h2
    clear a b h
    go_enter Try.func17, Try.ntmps17
    go_wp2_with (first
      | (go_at_call_of 28 [Value.int .i64 r]; refine h1.mono ?_; rintro e w' ⟨rfl, rfl⟩)
      | (go_at_call_of 28 [Value.int .i64 f]; refine h2.mono ?_; rintro e w' ⟨rfl, rfl⟩))
    go_ret2
    exact ⟨rfl, rfl⟩
  · rw [Bool.not_eq_true] at a
    rw [a] at h1
    clear a h h2
    go_enter Try.func17, Try.ntmps17
    go_wp2_with (first
      | (go_at_call 28; refine h1.mono ?_; rintro e w' ⟨rfl, rfl⟩))
    go_ret2
    exact ⟨rfl, rfl⟩
theorem new_ok (r f : Int) (w : World) (h : okT r f) :
    Calls Try.prog 17 #[.int .i64 r, .int .i64 f] w fun e w' => e = .returned (.tuple #[.pointer (some ⟨w.heap.size, 0, none⟩), .int .i64 0]) ∧ Hs w' w.heap.size (St.new r f) ∧ Below w.heap.size w w' := by
  obtain ⟨a1, a2, a3, a4⟩ := h
  have h1 := maybe_any r w (by omega) (by omega)
  have h2 := maybe_any f w (by omega) (by omega)
  rw [decide_eq_true a1, decide_eq_true a2] at h1
  rw [decide_eq_true a3, decide_eq_true a4] at h2
  have hT : Calls Try.prog 28 #[.int .i64 r] w fun e w' => e = .returned (.bool true) ∧ w' = w := h1
  have hU : Calls Try.prog 28 #[.int .i64 f] w fun e w' => e = .returned (.bool true) ∧ w' = w := h2
  clear h1 h2
  go_enter Try.func17, Try.ntmps17
  go_wp2_with (first
    | (go_at_call_of 28 [Value.int .i64 r]; refine hT.mono ?_; rintro e w' ⟨rfl, rfl⟩)
    | (go_at_call_of 28 [Value.int .i64 f]; refine hU.mono ?_; rintro e w' ⟨rfl, rfl⟩))
  go_ret2
  refine ⟨rfl, ?_, (Below.refl _ _).alloc (Nat.le_refl _) _⟩
  unfold Hs
  rw [Go.heap_alloc_new]
  rfl
theorem Hs.below {w w' : World} {b : Nat} {s : St} {B : Nat} (h : Hs w b s) (g : Below B w w') (hb : b < B) : Hs w' b s := (g.block b hb).trans h
theorem copy_any (b : Nat) (s : St) (w : World) (h : Hs w b s) : Calls Try.prog 47 #[.pointer (some ⟨b, 0, none⟩)] w fun e w' => e = .returned (.pointer (some ⟨w.heap.size, 0, none⟩)) ∧ Hs w' w.heap.size s ∧ Below w.heap.size w w' := by
  have HH := hide2 h
  obtain ⟨c0, c1, c2, c3, c4, c5, c6⟩ := h.cells
  unfold Hs
  have e : s.cells = cel (nowI s.up) (-s.fall) s.rise s.row s.turns s.took s.timed := rfl
  rw [e]
  generalize nowI s.up = x0 at *
  generalize -s.fall = x1 at *
  generalize s.rise = x2 at *
  generalize s.row = x3 at *
  generalize (s.turns : Int) = x4 at *
  generalize s.took = x5 at *
  generalize (s.timed : Int) = x6 at *
  clear h e
  have st := st_float
  go_enter Try.func47, Try.ntmps47
  go_wp2_with fail
  go_ret
  refine ⟨rfl, ?_, (Below.refl _ _).alloc (Nat.le_refl _) _⟩
  rw [Go.heap_alloc_new]
  rfl
theorem copy_nil (w : World) : Calls Try.prog 47 #[.pointer none] w fun e w' => e = .returned (.pointer none) ∧ w' = w := by
  go_enter Try.func47, Try.ntmps47
  go_wp2_with fail
  go_ret
  exact ⟨rfl, rfl⟩
theorem order_pos {x y : Nat} (hx : x < INF) (hy : y < INF) : double.order x y = some (compare (x : Int) (y : Int)) := by
  rw [order_fin x y (by rw [(rg_lt (Nat.le_of_lt hx)).1]; exact hx) (by rw [(rg_lt (Nat.le_of_lt hy)).1]; exact hy), sv_lt (Nat.le_of_lt hx), sv_lt (Nat.le_of_lt hy)]
  congr 1
  rcases Nat.lt_trichotomy x y with h | h | h
  · rw [Int.compare_eq_lt.2 (by have := (V_lt hx hy).2 h; omega), Int.compare_eq_lt.2 (by omega)]
  · subst h; rw [Int.compare_eq_eq.2 rfl, Int.compare_eq_eq.2 rfl]
  · rw [Int.compare_eq_gt.2 (by have := (V_lt hy hx).2 h; omega), Int.compare_eq_gt.2 (by omega)]
theorem gt_pos {x y : Nat} (hx : x < INF) (hy : y < INF) : (FloatKind.f64.format.order x y == some .gt) = decide (y < x) := by
  show (double.order x y == some .gt) = _
  rw [order_pos hx hy]
  change (compare (x : Int) y == .gt) = _
  rw [cmp_gt, Bool.eq_iff_iff]; simp
def timedO (o : Option St) : Nat := o.elim 0 St.timed
def tookO (o : Option St) : Nat := o.elim 0 St.took
/-- whether the one is slower -/
def slowF (a b : Option St) : Bool := decide (0 < timedO a) && (decide (0 < timedO b) && decide (tookO b < tookO a))
theorem elim_timed (o : Option St) : (o.elim 0 fun s => (s.timed : Int)) = (timedO o : Int) := by cases o <;> rfl
end Go.Proofs.Ytidpglbokpgpbaa
