/-
  The program's plain.
-/
import Derived.Test.YthfmepnlbaifcaaDoorPi
namespace Go.Proofs.YthfmepnlbaifcaaDoor
open Go.RowKit
set_option linter.unusedVariables false
set_option linter.unusedSimpArgs false
theorem facts5 {W : World} {g : Nat} {x0 x1 x2 x3 x4 : Value} {t : TypeId} (h1 : W.heap[g]? = some (.cells #[x0, x1, x2, x3, x4] t (0, 0))) :
    (W.cell? ⟨g, 0, none⟩ = some x0 ∧ W.frozen? ⟨g, 0, none⟩ = false) ∧
    (W.cell? ⟨g, 1, none⟩ = some x1 ∧ W.frozen? ⟨g, 1, none⟩ = false) ∧
    (W.cell? ⟨g, 2, none⟩ = some x2 ∧ W.frozen? ⟨g, 2, none⟩ = false) ∧
    (W.cell? ⟨g, 3, none⟩ = some x3 ∧ W.frozen? ⟨g, 3, none⟩ = false) ∧
    (W.cell? ⟨g, 4, none⟩ = some x4 ∧ W.frozen? ⟨g, 4, none⟩ = false) := by
  refine ⟨⟨?_, ?_⟩, ⟨?_, ?_⟩, ⟨?_, ?_⟩, ⟨?_, ?_⟩, ⟨?_, ?_⟩⟩ <;> simp [World.cell?, World.frozen?, h1]
theorem heap_lt {W : World} {g : Nat} {o : Obj} (h : W.heap[g]? = some o) : g < W.heap.size := (Array.getElem?_eq_some_iff.1 h).1
theorem step5 {W W3 : World} {o : Obj} {g : Nat} {x : Obj} (h : W.heap[g]? = some x) (hb : Below (W.alloc o).heap.size (W.alloc o) W3) : W3.heap[g]? = some x := by
  have hl := heap_lt h
  have hsz : (W.alloc o).heap.size = W.heap.size + 1 := by simp
  exact (hb.block _ (by omega)).trans ((heap_alloc_old W o hl).trans h)
theorem stepB {n : Nat} {w W W3 : World} {o : Obj} (h : Below n w W) (hn : n ≤ W.heap.size) (hb : Below (W.alloc o).heap.size (W.alloc o) W3) : Below n w W3 := by
  have hsz : (W.alloc o).heap.size = W.heap.size + 1 := by simp
  exact (h.alloc hn o).trans (hb.mono (by omega))
theorem scan_some (l : List UInt8) (m : Bool) (a b : List UInt8) (k : Int) (h : scanF l = some ⟨m, a, b, k⟩) (w : World) (hs : l.length ≤ 2 ^ 47) :
    Calls Tryd.prog 37 #[.string ⟨l.toArray⟩] w fun e w' => e = .returned (.tuple #[.agg #[.bool m, .string ⟨a.toArray⟩, .string ⟨b.toArray⟩, .int .i64 k], .bool true]) ∧ Below w.heap.size w w' := by
  have := scan_any l w hs
  rwa [h] at this
theorem scan_none (l : List UInt8) (h : scanF l = none) (w : World) (hs : l.length ≤ 2 ^ 47) :
    Calls Tryd.prog 37 #[.string ⟨l.toArray⟩] w fun e w' => e = .returned (.tuple #[.agg #[.bool false, .string ⟨#[]⟩, .string ⟨#[]⟩, .int .i64 0], .bool false]) ∧ Below w.heap.size w w' := by
  have := scan_any l w hs
  rwa [h] at this
theorem intOf_at (l : List UInt8) (n : Nm) (hsh : ShI l n) (r : Option Int) (hr : intV n = r) (x0 x1 x2 x3 x4 : Value) (hx : intA r = #[x0, x1, x2, x3, x4]) (w : World) (hs : l.length ≤ 2 ^ 47) (hE : Errs w) :
    Calls Tryd.prog 38 #[.string ⟨l.toArray⟩] w fun e w' => e = .returned (.agg #[x0, x1, x2, x3, x4]) ∧ Below w.heap.size w w' := by
  subst hr
  rw [← hx]
  exact intOf_any l n hsh w hs hE
theorem realOf_at (l : List UInt8) (m : Bool) (a b : List UInt8) (k : Int) (hsh : ShR l ⟨m, a, b, k⟩) (r : Option Nat) (hr : realV ⟨m, a, b, k⟩ = r) (x0 x1 x2 x3 x4 : Value) (hx : realA r = #[x0, x1, x2, x3, x4]) (w : World) (hs : l.length ≤ 2 ^ 47) (hE : Errs w) :
    Calls Tryd.prog 39 #[.agg #[.bool m, .string ⟨a.toArray⟩, .string ⟨b.toArray⟩, .int .i64 k]] w fun e w' => e = .returned (.agg #[x0, x1, x2, x3, x4]) ∧ Below w.heap.size w w' := by
  subst hr
  rw [← hx]
  exact realOf_any l ⟨m, a, b, k⟩ hsh w hs hE
theorem plain_nil (w : World) :
    Calls Tryd.prog 21 #[.string ⟨([] : List UInt8).toArray⟩] w fun e w' => e = .returned (.agg (scV [] (.null))) ∧ Below w.heap.size w w' := by
  have st := st_float
  go_enter Tryd.func21, Tryd.ntmps21
  go_wp2_with (fail)
  refine bodyPost_ret (res25 rfl _ _ w.heap.size _ rfl (heap_alloc_new _ _) rfl) rfl ?_
  exact ⟨rfl, (Below.refl _ w).alloc (Nat.le_refl _) _⟩
theorem plain_tilde (w : World) :
    Calls Tryd.prog 21 #[.string ⟨([126] : List UInt8).toArray⟩] w fun e w' => e = .returned (.agg (scV [] (.null))) ∧ Below w.heap.size w w' := by
  have st := st_float
  go_enter Tryd.func21, Tryd.ntmps21
  go_wp2_with (fail)
  refine bodyPost_ret (res25 rfl _ _ w.heap.size _ rfl (heap_alloc_new _ _) rfl) rfl ?_
  exact ⟨rfl, (Below.refl _ w).alloc (Nat.le_refl _) _⟩
theorem plain_null (w : World) :
    Calls Tryd.prog 21 #[.string ⟨([110, 117, 108, 108] : List UInt8).toArray⟩] w fun e w' => e = .returned (.agg (scV [] (.null))) ∧ Below w.heap.size w w' := by
  have st := st_float
  go_enter Tryd.func21, Tryd.ntmps21
  go_wp2_with (fail)
  refine bodyPost_ret (res25 rfl _ _ w.heap.size _ rfl (heap_alloc_new _ _) rfl) rfl ?_
  exact ⟨rfl, (Below.refl _ w).alloc (Nat.le_refl _) _⟩
theorem plain_true (w : World) :
    Calls Tryd.prog 21 #[.string ⟨([116, 114, 117, 101] : List UInt8).toArray⟩] w fun e w' => e = .returned (.agg (scV [] (.bool true))) ∧ Below w.heap.size w w' := by
  have st := st_float
  go_enter Tryd.func21, Tryd.ntmps21
  go_wp2_with (fail)
  refine bodyPost_ret (res25 rfl _ _ w.heap.size _ rfl (heap_alloc_new _ _) rfl) rfl ?_
  exact ⟨rfl, (Below.refl _ w).alloc (Nat.le_refl _) _⟩
theorem plain_false (w : World) :
    Calls Tryd.prog 21 #[.string ⟨([102, 97, 108, 115, 101] : List UInt8).toArray⟩] w fun e w' => e = .returned (.agg (scV [] (.bool false))) ∧ Below w.heap.size w w' := by
  have st := st_float
  go_enter Tryd.func21, Tryd.ntmps21
  go_wp2_with (fail)
  refine bodyPost_ret (res25 rfl _ _ w.heap.size _ rfl (heap_alloc_new _ _) rfl) rfl ?_
  exact ⟨rfl, (Below.refl _ w).alloc (Nat.le_refl _) _⟩
theorem plain_nan (w : World) :
    Calls Tryd.prog 21 #[.string ⟨([46, 110, 97, 110] : List UInt8).toArray⟩] w fun e w' => e = .returned (.agg (scV [] (.real NANW))) ∧ Below w.heap.size w w' := by
  have st := st_float
  go_enter Tryd.func21, Tryd.ntmps21
  go_wp2_with (go_at_call 23; refine (nan_any _).mono ?_; rintro e w' ⟨rfl, rfl⟩)
  refine bodyPost_ret (res25 rfl _ _ w.heap.size _ rfl (heap_alloc_new _ _) rfl) rfl ?_
  exact ⟨rfl, (Below.refl _ w).alloc (Nat.le_refl _) _⟩
theorem plain_inf (w : World) :
    Calls Tryd.prog 21 #[.string ⟨([46, 105, 110, 102] : List UInt8).toArray⟩] w fun e w' => e = .returned (.agg (scV [] (.real INF))) ∧ Below w.heap.size w w' := by
  have st := st_float
  go_enter Tryd.func21, Tryd.ntmps21
  go_wp2_with (go_at_call 24; refine (inf_up _).mono ?_; rintro e w' ⟨rfl, rfl⟩)
  refine bodyPost_ret (res25 rfl _ _ w.heap.size _ rfl (heap_alloc_new _ _) rfl) rfl ?_
  exact ⟨rfl, (Below.refl _ w).alloc (Nat.le_refl _) _⟩
theorem plain_ninf (w : World) :
    Calls Tryd.prog 21 #[.string ⟨([45, 46, 105, 110, 102] : List UInt8).toArray⟩] w fun e w' => e = .returned (.agg (scV [] (.real NINF))) ∧ Below w.heap.size w w' := by
  have st := st_float
  go_enter Tryd.func21, Tryd.ntmps21
  go_wp2_with (go_at_call 24; refine (inf_down _).mono ?_; rintro e w' ⟨rfl, rfl⟩)
  refine bodyPost_ret (res25 rfl _ _ w.heap.size _ rfl (heap_alloc_new _ _) rfl) rfl ?_
  exact ⟨rfl, (Below.refl _ w).alloc (Nat.le_refl _) _⟩
theorem plain_none (l : List UInt8) (w : World) (hs : l.length ≤ 2 ^ 47) (hE : Errs w) (h : NoW l) (hsc : scanF l = none) :
    Calls Tryd.prog 21 #[.string ⟨l.toArray⟩] w fun e w' => e = .returned (.agg (scV [] .text)) ∧ Below w.heap.size w w' := by
  obtain ⟨h1, h2, h3, h4, h5, h6, h7, h8⟩ := h
  replace h1 := beq_no h1
  replace h2 := beq_no h2
  replace h3 := beq_no h3
  replace h4 := beq_no h4
  replace h5 := beq_no h5
  replace h6 := beq_no h6
  replace h7 := beq_no h7
  replace h8 := beq_no h8
  have st := st_float
  go_enter Tryd.func21, Tryd.ntmps21
  go_wp2_with (first
    | (go_at_call 37; refine (scan_none l hsc _ hs).mono ?_; rintro e w' ⟨rfl, hb⟩; obtain ⟨HB, ⟨c0, f0⟩, ⟨c1, f1⟩, ⟨c2, f2⟩, ⟨c3, f3⟩, ⟨c4, f4⟩⟩ := aft5 hb; have hgl := heap_lt HB.1; have HE := hide2 (((hE.alloc _).below hb)); have HB := hide2 HB; clear hb hE))
  have e := set5 HB.out.1 (.int .i64 5) (.bool false) (.int .i64 0) (.float .f64 0) (.string ⟨#[]⟩)
  have b := set5_below HB.out.2 (Nat.le_refl _) (.int .i64 5) (.bool false) (.int .i64 0) (.float .f64 0) (.string ⟨#[]⟩)
  refine bodyPost_ret (res25 rfl _ _ w.heap.size _ rfl ((heap_alloc_old _ _ (heap_lt e)).trans e) rfl) rfl ?_
  exact ⟨rfl, b.alloc (Nat.le_of_lt (heap_lt e)) _⟩
theorem plain_int (l : List UInt8) (w : World) (hs : l.length ≤ 2 ^ 47) (hE : Errs w) (h : NoW l) (m : Bool) (a : List UInt8) (k : Int) (hsc : scanF l = some ⟨m, a, [], k⟩) (hsh : ShI l ⟨m, a, [], k⟩) (r : Option Int) (hr : intV ⟨m, a, [], k⟩ = r) (x0 x1 x2 : Value) (hx : intA r = #[x0, x1, x2, .float .f64 0, .string ⟨#[]⟩]) (g0 : ∃ i, x0 = .int .i64 i) (g1 : ∃ b, x1 = .bool b) (g2 : ∃ i, x2 = .int .i64 i) :
    Calls Tryd.prog 21 #[.string ⟨l.toArray⟩] w fun e w' => e = .returned (.agg (intA r)) ∧ Below w.heap.size w w' := by
  obtain ⟨h1, h2, h3, h4, h5, h6, h7, h8⟩ := h
  obtain ⟨i0, rfl⟩ := g0
  obtain ⟨i1, rfl⟩ := g1
  obtain ⟨i2, rfl⟩ := g2
  replace h1 := beq_no h1
  replace h2 := beq_no h2
  replace h3 := beq_no h3
  replace h4 := beq_no h4
  replace h5 := beq_no h5
  replace h6 := beq_no h6
  replace h7 := beq_no h7
  replace h8 := beq_no h8
  have st := st_float
  rw [hx]
  go_enter Tryd.func21, Tryd.ntmps21
  go_wp2_with (first
    | (go_at_call 37; refine (scan_some l m a [] k hsc _ hs).mono ?_; rintro e w' ⟨rfl, hb⟩; obtain ⟨HB, ⟨c0, f0⟩, ⟨c1, f1⟩, ⟨c2, f2⟩, ⟨c3, f3⟩, ⟨c4, f4⟩⟩ := aft5 hb; have hgl := heap_lt HB.1; have HE := hide2 (((hE.alloc _).below hb)); have HB := hide2 HB; clear hb hE)
    | (go_at_call 38; refine (intOf_at l _ hsh r hr _ _ _ _ _ hx _ hs (HE.out.alloc _)).mono ?_; rintro e w' ⟨rfl, hb⟩; have HB2 := hide2 (And.intro (step5 HB.out.1 hb) (stepB HB.out.2 HB.out.2.size hb)); clear HB c0 f0 c1 f1 c2 f2 c3 f3 c4 f4 HE; obtain ⟨⟨c0, f0⟩, ⟨c1, f1⟩, ⟨c2, f2⟩, ⟨c3, f3⟩, ⟨c4, f4⟩⟩ := facts5 HB2.out.1; clear hb))
  refine bodyPost_ret (res25 rfl _ _ w.heap.size _ rfl (set5 HB2.out.1 _ _ _ _ _) rfl) rfl ?_
  exact ⟨rfl, set5_below HB2.out.2 (Nat.le_refl _) _ _ _ _ _⟩
theorem plain_real (l : List UInt8) (w : World) (hs : l.length ≤ 2 ^ 47) (hE : Errs w) (h : NoW l) (m : Bool) (a b : List UInt8) (k : Int) (hb0 : b ≠ []) (hsc : scanF l = some ⟨m, a, b, k⟩) (hsh : ShR l ⟨m, a, b, k⟩) (r : Option Nat) (hr : realV ⟨m, a, b, k⟩ = r) (x0 x1 x2 x3 : Value) (hx : realA r = #[x0, x1, x2, x3, .string ⟨#[]⟩]) (g0 : ∃ i, x0 = .int .i64 i) (g1 : ∃ b, x1 = .bool b) (g2 : ∃ i, x2 = .int .i64 i) (g3 : ∃ i, x3 = .float .f64 i) :
    Calls Tryd.prog 21 #[.string ⟨l.toArray⟩] w fun e w' => e = .returned (.agg (realA r)) ∧ Below w.heap.size w w' := by
  obtain ⟨h1, h2, h3, h4, h5, h6, h7, h8⟩ := h
  obtain ⟨i0, rfl⟩ := g0
  obtain ⟨i1, rfl⟩ := g1
  obtain ⟨i2, rfl⟩ := g2
  obtain ⟨i3, rfl⟩ := g3
  replace h1 := beq_no h1
  replace h2 := beq_no h2
  replace h3 := beq_no h3
  replace h4 := beq_no h4
  replace h5 := beq_no h5
  replace h6 := beq_no h6
  replace h7 := beq_no h7
  replace h8 := beq_no h8
  have hbe := beqE hb0
  have st := st_float
  rw [hx]
  go_enter Tryd.func21, Tryd.ntmps21
  go_wp2_with (first
    | (go_at_call 37; refine (scan_some l m a b k hsc _ hs).mono ?_; rintro e w' ⟨rfl, hb⟩; obtain ⟨HB, ⟨c0, f0⟩, ⟨c1, f1⟩, ⟨c2, f2⟩, ⟨c3, f3⟩, ⟨c4, f4⟩⟩ := aft5 hb; have hgl := heap_lt HB.1; have HE := hide2 (((hE.alloc _).below hb)); have HB := hide2 HB; clear hb hE)
    | (go_at_call 39; refine (realOf_at l m a b k hsh r hr _ _ _ _ _ hx _ hs (HE.out.alloc _)).mono ?_; rintro e w' ⟨rfl, hb⟩; have HB2 := hide2 (And.intro (step5 HB.out.1 hb) (stepB HB.out.2 HB.out.2.size hb)); clear HB c0 f0 c1 f1 c2 f2 c3 f3 c4 f4 HE; obtain ⟨⟨c0, f0⟩, ⟨c1, f1⟩, ⟨c2, f2⟩, ⟨c3, f3⟩, ⟨c4, f4⟩⟩ := facts5 HB2.out.1; clear hb))
  refine bodyPost_ret (res25 rfl _ _ w.heap.size _ rfl (set5 HB2.out.1 _ _ _ _ _) rfl) rfl ?_
  exact ⟨rfl, set5_below HB2.out.2 (Nat.le_refl _) _ _ _ _ _⟩
theorem plain_any (l : List UInt8) (w : World) (hs : l.length ≤ 2 ^ 47) (hE : Errs w) :
    Calls Tryd.prog 21 #[.string ⟨l.toArray⟩] w fun e w' => e = .returned (.agg (scV [] (plainF l))) ∧ Below w.heap.size w w' := by
  by_cases h : NoW l
  · rw [plainF_no h]
    rcases hsc : scanF l with _ | n
    · exact plain_none l w hs hE h hsc
    · obtain ⟨m, a, b, k⟩ := n
      rcases scan_shape hsc with hsh | hsh
      · have hb : b = [] := hsh.2.2.1
        subst hb
        simp only
        rw [numS, if_pos rfl]
        rcases hr : intV ⟨m, a, [], k⟩ with _ | i
        · exact plain_int l w hs hE h m a k hsc hsh _ hr _ _ _ rfl ⟨_, rfl⟩ ⟨_, rfl⟩ ⟨_, rfl⟩
        · exact plain_int l w hs hE h m a k hsc hsh _ hr _ _ _ rfl ⟨_, rfl⟩ ⟨_, rfl⟩ ⟨_, rfl⟩
      · have hb : b ≠ [] := (dgs_iff.1 hsh.2.2.1).2
        simp only
        rw [numS, if_neg hb]
        rcases hr : realV ⟨m, a, b, k⟩ with _ | x
        · exact plain_real l w hs hE h m a b k hb hsc hsh _ hr _ _ _ _ rfl ⟨_, rfl⟩ ⟨_, rfl⟩ ⟨_, rfl⟩ ⟨_, rfl⟩
        · exact plain_real l w hs hE h m a b k hb hsc hsh _ hr _ _ _ _ rfl ⟨_, rfl⟩ ⟨_, rfl⟩ ⟨_, rfl⟩ ⟨_, rfl⟩
  · rcases plainF_yes h with rfl | rfl | rfl | rfl | rfl | rfl | rfl | rfl
    · exact plain_nil w
    · exact plain_tilde w
    · exact plain_null w
    · exact plain_true w
    · exact plain_false w
    · exact plain_nan w
    · exact plain_inf w
    · exact plain_ninf w
end Go.Proofs.YthfmepnlbaifcaaDoor
