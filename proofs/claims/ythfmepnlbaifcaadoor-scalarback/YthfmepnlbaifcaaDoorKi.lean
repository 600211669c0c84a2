/-
  ScalarKinds: its walk, kind by kind (made by a generator).
-/
import Derived.Test.YthfmepnlbaifcaaDoorAw
namespace Go.Proofs.YthfmepnlbaifcaaDoor
open Go.RowKit
set_option linter.unusedVariables false
set_option linter.unusedSimpArgs false
theorem e00 (W : World) : (Op.equalIn 9999 23 (.float .f64 0) (.float .f64 0)).run Tryd.prog W = .ok true W := (eqf 0 0 W).trans (by rw [show (FloatKind.f64.format.order 0 0 == some .eq) = true by decide +kernel])
/-- where the statement stands: what was grown, and the value that was read -/
structure Kw (cs : Array Value) (g : Nat) (w W : World) : Prop where
  grown : w.heap.size ≤ W.heap.size
  below : Below w.heap.size w W
  errs : Errs W
  cell : W.heap[g]? = some (.cells cs 25 (0, 0))
theorem Kw.step {cs : Array Value} {g : Nat} {w W W' : World} (h : Kw cs g w W) (hb : Below W.heap.size W W') : Kw cs g w W' :=
  ⟨Nat.le_trans h.grown hb.size, h.below.trans (hb.mono h.grown), h.errs.below hb, hb.cells h.cell⟩
theorem Kw.start {cs : Array Value} {w W : World} (h : w.heap.size ≤ W.heap.size ∧ Below w.heap.size w W ∧ Errs W) : Kw cs W.heap.size w (W.alloc (.cells cs 25)) :=
  ⟨Nat.le_trans h.1 (by simp), h.2.1.alloc h.1 _, h.2.2.alloc _, heap_alloc_new W _⟩
theorem Kw.alloc {cs : Array Value} {g : Nat} {w W : World} (h : Kw cs g w W) (o : Obj) : Kw cs g w (W.alloc o) := h.step ((Below.refl _ W).alloc (Nat.le_refl _) o)
theorem rd_two (l : List UInt8) (c0 c1 c2 c3 c4 : Value) (hp : scV l (plainF l) = #[c0, c1, c2, c3, c4]) (hs : l.length ≤ 2 ^ 47) (q : Bool) (E : Ending)
    (h : (q = false ∧ E = .returned (.agg #[c0, c1, c2, c3, c4])) ∨ (q = true ∧ E = .returned (.agg #[.int .i64 5, .bool false, .int .i64 0, .float .f64 0, .string ⟨l.toArray⟩]))) (W : World) (hE : Errs W) :
    Calls Tryd.prog 9 #[.string ⟨l.toArray⟩, .bool q] W fun e w' => e = E ∧ Below W.heap.size W w' := by
  rcases h with ⟨rfl, rfl⟩ | ⟨rfl, rfl⟩
  · rw [← hp]
    exact read_any l false W hs hE
  · exact read_any l true W hs hE
theorem rd_x (l : List UInt8) (hx : plainF l = .text) (hs : l.length ≤ 2 ^ 47) (W : World) (hE : Errs W) :
    Calls Tryd.prog 9 #[.string ⟨l.toArray⟩, .bool false] W fun e w' => e = .returned (.agg #[.int .i64 5, .bool false, .int .i64 0, .float .f64 0, .string ⟨l.toArray⟩]) ∧ Below W.heap.size W w' := by
  have := read_any l false W hs hE
  rw [if_neg (by decide), hx] at this
  exact this
theorem Kw.drewN {cs : Array Value} {g : Nat} {w W : World} (h : Kw cs g w W) (n : Nat) : Kw cs g w (W.drewN n) := ⟨h.grown, below_drewN h.below n, h.errs, h.cell⟩
/-- an operation that has no answer draws what is no number -/
theorem run_nan (x y : Nat) (w : World) (h : floatBits .sub .f64 x y = none) : ∃ r, INF < rg r ∧ (binOp .sub 23 (.float .f64 x) (.float .f64 y)).run Tryd.prog w = .ok (.float .f64 r) (w.drewN 1) := by
  unfold floatBits at h
  refine ⟨(Question.nanBits .f64 x y).cut (w.tape w.drawn (.nanBits .f64 x y)), ?_, ?_⟩
  · show INF < rg ((_ % 2) * 2 ^ 63 + 0x7ff0000000000000 + 1 + _ % (2 ^ 52 - 1))
    unfold rg
    generalize w.tape w.drawn (.nanBits .f64 x y) = t
    have e : t % 2 * 2 ^ 63 + 0x7ff0000000000000 + 1 + t / 2 % (2 ^ 52 - 1) = (0x7ff0000000000000 + 1 + t / 2 % (2 ^ 52 - 1)) + 2 ^ 63 * (t % 2) := by omega
    rw [e, Nat.add_mul_mod_self_left, Nat.mod_eq_of_lt (by omega)]
    simp only [INF]
    omega
  · simp only at h
    simp [binOp, Op.floatArith, h, Question.forced, World.drewN]
theorem nan_ne {r : Nat} (hr : INF < rg r) : (FloatKind.f64.format.order r 0 != some .eq) = true := by
  have hq : (FloatKind.f64.format.order r 0 == some .eq) = false := by
    show (Ieee.double.order r 0 == some .eq) = false
    rw [order_nan r 0 (.inl hr)]; rfl
  rw [bne, hq]; rfl
/-- may a number's text have that byte? -/
def dgE (c : UInt8) : Prop := 48 ≤ c.toNat ∧ c.toNat ≤ 57 ∨ c.toNat = 45 ∨ c.toNat = 46 ∨ c.toNat = 101
theorem digit_yes (c : Int) (h0 : 0 ≤ c) (h1 : c ≤ 255) (h : 48 ≤ c ∧ c ≤ 57 ∨ c = 45 ∨ c = 46 ∨ c = 101) (w : World) : Calls Tryd.prog 20 #[.int .u8 c] w fun e w' => e = .returned (.bool true) ∧ w' = w := by
  go_enter Tryd.func20, Tryd.ntmps20
  go_wp2
  all_goals
    go_ret
    refine ⟨ret_bool ?_, rfl⟩
    first
      | rfl
      | (rw [decide_eq_true_eq]; omega)
      | (rw [Bool.eq_iff_iff]; simp; omega)
set_option maxRecDepth 100000 in
set_option maxHeartbeats 4000000 in
theorem kinds_text (l lx : List UInt8) (hlx : l ++ [120] = lx) (w : World) (hs : l.length ≤ 2 ^ 47) (hsx : lx.length ≤ 2 ^ 47) (hE : Errs w) (n1 : (l == [46, 110, 97, 110]) = false) (n2 : (l == [46, 105, 110, 102]) = false) (n3 : (l == [45, 46, 105, 110, 102]) = false) (hc : scV l (plainF l) = #[.int .i64 5, .bool false, .int .i64 0, .float .f64 0, .string ⟨l.toArray⟩]) (hx : plainF lx = .text) :
    Calls Tryd.prog 7 #[.string ⟨l.toArray⟩] w fun e w' => e = .returned (.bool true) ∧ Below w.heap.size w w' := by
  have ef := e00
  have st := st_float
  have hAA : (ByteArray.mk l.toArray) ++ ⟨#[120]⟩ = ⟨lx.toArray⟩ := by rw [← hlx]; exact mk_append l [120]
  have HW : Hid (w.heap.size ≤ w.heap.size ∧ Below w.heap.size w w ∧ Errs w) := ⟨Nat.le_refl _, Below.refl _ _, hE⟩
  clear hE
  go_enter Tryd.func7, Tryd.ntmps7
  go_wp2_with (go_at_call 16; refine (awake_any _ HW.out.2.2).mono ?_; rintro e w1 ⟨rfl, hb⟩; have HW := hide2 (stp HW.out hb); clear hb)
  refine (rd_two l _ _ _ _ _ hc hs false _ (.inl ⟨rfl, rfl⟩) _ HW.out.2.2).mono ?_
  rintro e w2 ⟨rfl, hb⟩
  have HK := hide2 (Kw.start (cs := #[.int .i64 5, .bool false, .int .i64 0, .float .f64 0, .string ⟨l.toArray⟩]) (stp HW.out hb))
  clear hb HW
  go_wp2_with (fail)
  refine (rd_two l _ _ _ _ _ hc hs true _ (.inr ⟨rfl, rfl⟩) _ HK.out.errs).mono ?_
  rintro e w3 ⟨rfl, hb⟩
  replace HK := hide2 (HK.out.step hb)
  obtain ⟨⟨c0, f0⟩, ⟨c1, f1⟩, ⟨c2, f2⟩, ⟨c3, f3⟩, ⟨c4, f4⟩⟩ := facts5 HK.out.cell
  have hgl := heap_lt HK.out.cell
  clear hb
  go_wp2_with (fail)
  refine (rd_x lx hx hsx _ (Kw.errs (HK.out.alloc _))).mono ?_
  rintro e w4 ⟨rfl, hb⟩
  replace HK := hide2 ((HK.out.alloc _).step hb)
  clear hb c0 c1 c2 c3 c4 f0 f1 f2 f3 f4
  go_wp2_with (fail)
  go_ret
  exact ⟨rfl, (HK.out.alloc _).below⟩
set_option maxRecDepth 100000 in
set_option maxHeartbeats 4000000 in
theorem kinds_few (l lx : List UInt8) (hlx : l ++ [120] = lx) (w : World) (hs : l.length ≤ 2 ^ 47) (hsx : lx.length ≤ 2 ^ 47) (hE : Errs w) (n1 : (l == [46, 110, 97, 110]) = false) (n2 : (l == [46, 105, 110, 102]) = false) (n3 : (l == [45, 46, 105, 110, 102]) = false) (kk : Int) (bb : Bool) (hk : 1 ≤ kk) (hk2 : kk ≤ 2) (hc : scV l (plainF l) = #[.int .i64 kk, .bool bb, .int .i64 0, .float .f64 0, .string ⟨#[]⟩]) (hx : plainF lx = .text) :
    Calls Tryd.prog 7 #[.string ⟨l.toArray⟩] w fun e w' => e = .returned (.bool true) ∧ Below w.heap.size w w' := by
  have ef := e00
  have st := st_float
  have hAA : (ByteArray.mk l.toArray) ++ ⟨#[120]⟩ = ⟨lx.toArray⟩ := by rw [← hlx]; exact mk_append l [120]
  have HW : Hid (w.heap.size ≤ w.heap.size ∧ Below w.heap.size w w ∧ Errs w) := ⟨Nat.le_refl _, Below.refl _ _, hE⟩
  clear hE
  have k1 : ¬ kk < 1 := by omega
  have k5 : ¬ 5 < kk := by omega
  have k3 : ¬ kk = 3 := by omega
  have k4 : ¬ kk = 4 := by omega
  have k55 : ¬ kk = 5 := by omega
  go_enter Tryd.func7, Tryd.ntmps7
  go_wp2_with (go_at_call 16; refine (awake_any _ HW.out.2.2).mono ?_; rintro e w1 ⟨rfl, hb⟩; have HW := hide2 (stp HW.out hb); clear hb)
  refine (rd_two l _ _ _ _ _ hc hs false _ (.inl ⟨rfl, rfl⟩) _ HW.out.2.2).mono ?_
  rintro e w2 ⟨rfl, hb⟩
  have HK := hide2 (Kw.start (cs := #[.int .i64 kk, .bool bb, .int .i64 0, .float .f64 0, .string ⟨#[]⟩]) (stp HW.out hb))
  clear hb HW
  go_wp2_with (fail)
  refine (rd_two l _ _ _ _ _ hc hs true _ (.inr ⟨rfl, rfl⟩) _ HK.out.errs).mono ?_
  rintro e w3 ⟨rfl, hb⟩
  replace HK := hide2 (HK.out.step hb)
  obtain ⟨⟨c0, f0⟩, ⟨c1, f1⟩, ⟨c2, f2⟩, ⟨c3, f3⟩, ⟨c4, f4⟩⟩ := facts5 HK.out.cell
  have hgl := heap_lt HK.out.cell
  clear hb
  go_wp2_with (fail)
  refine (rd_x lx hx hsx _ (Kw.errs (HK.out.alloc _))).mono ?_
  rintro e w4 ⟨rfl, hb⟩
  replace HK := hide2 ((HK.out.alloc _).step hb)
  clear hb c0 c1 c2 c3 c4 f0 f1 f2 f3 f4
  go_wp2_with (fail)
  go_ret
  exact ⟨rfl, (HK.out.alloc _).below⟩
set_option maxRecDepth 100000 in
set_option maxHeartbeats 4000000 in
theorem kinds_nan (l lx : List UInt8) (hl : l = [46, 110, 97, 110]) (hlx : l ++ [120] = lx) (w : World) (hs : l.length ≤ 2 ^ 47) (hsx : lx.length ≤ 2 ^ 47) (hE : Errs w) (hc : scV l (plainF l) = #[.int .i64 4, .bool false, .int .i64 0, .float .f64 9221120237041090561, .string ⟨#[]⟩]) (hx : plainF lx = .text) :
    Calls Tryd.prog 7 #[.string ⟨l.toArray⟩] w fun e w' => e = .returned (.bool true) ∧ Below w.heap.size w w' := by
  have ef := e00
  have st := st_float
  have hAA : (ByteArray.mk l.toArray) ++ ⟨#[120]⟩ = ⟨lx.toArray⟩ := by rw [← hlx]; exact mk_append l [120]
  have HW : Hid (w.heap.size ≤ w.heap.size ∧ Below w.heap.size w w ∧ Errs w) := ⟨Nat.le_refl _, Below.refl _ _, hE⟩
  clear hE
  have m1 : (l == [46, 110, 97, 110]) = true := by rw [hl]; decide
  have m2 : (l == [46, 105, 110, 102]) = false := by rw [hl]; decide
  have m3 : (l == [45, 46, 105, 110, 102]) = false := by rw [hl]; decide
  clear hl
  have hn : (FloatKind.f64.format.order 9221120237041090561 9221120237041090561 != some .eq) = true := by decide +kernel
  go_enter Tryd.func7, Tryd.ntmps7
  go_wp2_with (go_at_call 16; refine (awake_any _ HW.out.2.2).mono ?_; rintro e w1 ⟨rfl, hb⟩; have HW := hide2 (stp HW.out hb); clear hb)
  refine (rd_two l _ _ _ _ _ hc hs false _ (.inl ⟨rfl, rfl⟩) _ HW.out.2.2).mono ?_
  rintro e w2 ⟨rfl, hb⟩
  have HK := hide2 (Kw.start (cs := #[.int .i64 4, .bool false, .int .i64 0, .float .f64 9221120237041090561, .string ⟨#[]⟩]) (stp HW.out hb))
  clear hb HW
  go_wp2_with (fail)
  refine (rd_two l _ _ _ _ _ hc hs true _ (.inr ⟨rfl, rfl⟩) _ HK.out.errs).mono ?_
  rintro e w3 ⟨rfl, hb⟩
  replace HK := hide2 (HK.out.step hb)
  obtain ⟨⟨c0, f0⟩, ⟨c1, f1⟩, ⟨c2, f2⟩, ⟨c3, f3⟩, ⟨c4, f4⟩⟩ := facts5 HK.out.cell
  have hgl := heap_lt HK.out.cell
  clear hb
  go_wp2_with (fail)
  refine (rd_x lx hx hsx _ (Kw.errs (HK.out.alloc _))).mono ?_
  rintro e w4 ⟨rfl, hb⟩
  replace HK := hide2 ((HK.out.alloc _).step hb)
  clear hb c0 c1 c2 c3 c4 f0 f1 f2 f3 f4
  go_wp2_with (fail)
  go_ret
  exact ⟨rfl, (HK.out.alloc _).below⟩
set_option maxRecDepth 100000 in
set_option maxHeartbeats 4000000 in
theorem kinds_inf (l lx : List UInt8) (hl : l = [46, 105, 110, 102]) (hlx : l ++ [120] = lx) (w : World) (hs : l.length ≤ 2 ^ 47) (hsx : lx.length ≤ 2 ^ 47) (hE : Errs w) (hc : scV l (plainF l) = #[.int .i64 4, .bool false, .int .i64 0, .float .f64 9218868437227405312, .string ⟨#[]⟩]) (hx : plainF lx = .text) :
    Calls Tryd.prog 7 #[.string ⟨l.toArray⟩] w fun e w' => e = .returned (.bool true) ∧ Below w.heap.size w w' := by
  have ef := e00
  have st := st_float
  have hAA : (ByteArray.mk l.toArray) ++ ⟨#[120]⟩ = ⟨lx.toArray⟩ := by rw [← hlx]; exact mk_append l [120]
  have HW : Hid (w.heap.size ≤ w.heap.size ∧ Below w.heap.size w w ∧ Errs w) := ⟨Nat.le_refl _, Below.refl _ _, hE⟩
  clear hE
  have m1 : (l == [46, 110, 97, 110]) = false := by rw [hl]; decide
  have m2 : (l == [46, 105, 110, 102]) = true := by rw [hl]; decide
  have m3 : (l == [45, 46, 105, 110, 102]) = false := by rw [hl]; decide
  clear hl
  have hn : (FloatKind.f64.format.order 9218868437227405312 9218868437227405312 != some .eq) = false := by decide +kernel
  go_enter Tryd.func7, Tryd.ntmps7
  go_wp2_with (go_at_call 16; refine (awake_any _ HW.out.2.2).mono ?_; rintro e w1 ⟨rfl, hb⟩; have HW := hide2 (stp HW.out hb); clear hb)
  refine (rd_two l _ _ _ _ _ hc hs false _ (.inl ⟨rfl, rfl⟩) _ HW.out.2.2).mono ?_
  rintro e w2 ⟨rfl, hb⟩
  have HK := hide2 (Kw.start (cs := #[.int .i64 4, .bool false, .int .i64 0, .float .f64 9218868437227405312, .string ⟨#[]⟩]) (stp HW.out hb))
  clear hb HW
  go_wp2_with (fail)
  refine (rd_two l _ _ _ _ _ hc hs true _ (.inr ⟨rfl, rfl⟩) _ HK.out.errs).mono ?_
  rintro e w3 ⟨rfl, hb⟩
  replace HK := hide2 (HK.out.step hb)
  obtain ⟨⟨c0, f0⟩, ⟨c1, f1⟩, ⟨c2, f2⟩, ⟨c3, f3⟩, ⟨c4, f4⟩⟩ := facts5 HK.out.cell
  have hgl := heap_lt HK.out.cell
  clear hb
  obtain ⟨r, hr, rN⟩ := run_nan 9218868437227405312 9218868437227405312 (w3.alloc (.cells #[.int .i64 5, .bool false, .int .i64 0, .float .f64 0, .string ⟨l.toArray⟩] 25)) (by decide +kernel)
  have hrn := nan_ne hr
  clear hr
  go_wp2_with (fail)
  refine (rd_x lx hx hsx _ (Kw.errs ((HK.out.alloc _).drewN 1))).mono ?_
  rintro e w4 ⟨rfl, hb⟩
  replace HK := hide2 (((HK.out.alloc _).drewN 1).step hb)
  clear hb c0 c1 c2 c3 c4 f0 f1 f2 f3 f4
  go_wp2_with (fail)
  go_ret
  exact ⟨rfl, (HK.out.alloc _).below⟩
set_option maxRecDepth 100000 in
set_option maxHeartbeats 4000000 in
theorem kinds_ninf (l lx : List UInt8) (hl : l = [45, 46, 105, 110, 102]) (hlx : l ++ [120] = lx) (w : World) (hs : l.length ≤ 2 ^ 47) (hsx : lx.length ≤ 2 ^ 47) (hE : Errs w) (hc : scV l (plainF l) = #[.int .i64 4, .bool false, .int .i64 0, .float .f64 18442240474082181120, .string ⟨#[]⟩]) (hx : plainF lx = .text) :
    Calls Tryd.prog 7 #[.string ⟨l.toArray⟩] w fun e w' => e = .returned (.bool true) ∧ Below w.heap.size w w' := by
  have ef := e00
  have st := st_float
  have hAA : (ByteArray.mk l.toArray) ++ ⟨#[120]⟩ = ⟨lx.toArray⟩ := by rw [← hlx]; exact mk_append l [120]
  have HW : Hid (w.heap.size ≤ w.heap.size ∧ Below w.heap.size w w ∧ Errs w) := ⟨Nat.le_refl _, Below.refl _ _, hE⟩
  clear hE
  have m1 : (l == [46, 110, 97, 110]) = false := by rw [hl]; decide
  have m2 : (l == [46, 105, 110, 102]) = false := by rw [hl]; decide
  have m3 : (l == [45, 46, 105, 110, 102]) = true := by rw [hl]; decide
  clear hl
  have hn : (FloatKind.f64.format.order 18442240474082181120 18442240474082181120 != some .eq) = false := by decide +kernel
  go_enter Tryd.func7, Tryd.ntmps7
  go_wp2_with (go_at_call 16; refine (awake_any _ HW.out.2.2).mono ?_; rintro e w1 ⟨rfl, hb⟩; have HW := hide2 (stp HW.out hb); clear hb)
  refine (rd_two l _ _ _ _ _ hc hs false _ (.inl ⟨rfl, rfl⟩) _ HW.out.2.2).mono ?_
  rintro e w2 ⟨rfl, hb⟩
  have HK := hide2 (Kw.start (cs := #[.int .i64 4, .bool false, .int .i64 0, .float .f64 18442240474082181120, .string ⟨#[]⟩]) (stp HW.out hb))
  clear hb HW
  go_wp2_with (fail)
  refine (rd_two l _ _ _ _ _ hc hs true _ (.inr ⟨rfl, rfl⟩) _ HK.out.errs).mono ?_
  rintro e w3 ⟨rfl, hb⟩
  replace HK := hide2 (HK.out.step hb)
  obtain ⟨⟨c0, f0⟩, ⟨c1, f1⟩, ⟨c2, f2⟩, ⟨c3, f3⟩, ⟨c4, f4⟩⟩ := facts5 HK.out.cell
  have hgl := heap_lt HK.out.cell
  clear hb
  obtain ⟨r, hr, rN⟩ := run_nan 18442240474082181120 18442240474082181120 (w3.alloc (.cells #[.int .i64 5, .bool false, .int .i64 0, .float .f64 0, .string ⟨l.toArray⟩] 25)) (by decide +kernel)
  have hrn := nan_ne hr
  clear hr
  go_wp2_with (fail)
  refine (rd_x lx hx hsx _ (Kw.errs ((HK.out.alloc _).drewN 1))).mono ?_
  rintro e w4 ⟨rfl, hb⟩
  replace HK := hide2 (((HK.out.alloc _).drewN 1).step hb)
  clear hb c0 c1 c2 c3 c4 f0 f1 f2 f3 f4
  go_wp2_with (fail)
  go_ret
  exact ⟨rfl, (HK.out.alloc _).below⟩
set_option maxRecDepth 100000 in
set_option maxHeartbeats 4000000 in
theorem kinds_int (l lx : List UInt8) (hlx : l ++ [120] = lx) (w : World) (hs : l.length ≤ 2 ^ 47) (hsx : lx.length ≤ 2 ^ 47) (hE : Errs w) (n1 : (l == [46, 110, 97, 110]) = false) (n2 : (l == [46, 105, 110, 102]) = false) (n3 : (l == [45, 46, 105, 110, 102]) = false) (ii : Int) (hd : ∀ c ∈ l, dgE c) (hc : scV l (plainF l) = #[.int .i64 3, .bool false, .int .i64 ii, .float .f64 0, .string ⟨#[]⟩]) (hx : plainF lx = .text) :
    Calls Tryd.prog 7 #[.string ⟨l.toArray⟩] w fun e w' => e = .returned (.bool true) ∧ Below w.heap.size w w' := by
  have ef := e00
  have st := st_float
  have hAA : (ByteArray.mk l.toArray) ++ ⟨#[120]⟩ = ⟨lx.toArray⟩ := by rw [← hlx]; exact mk_append l [120]
  have HW : Hid (w.heap.size ≤ w.heap.size ∧ Below w.heap.size w w ∧ Errs w) := ⟨Nat.le_refl _, Below.refl _ _, hE⟩
  clear hE
  have HD := hide2 hd
  clear hd
  go_enter Tryd.func7, Tryd.ntmps7
  go_wp2_with (go_at_call 16; refine (awake_any _ HW.out.2.2).mono ?_; rintro e w1 ⟨rfl, hb⟩; have HW := hide2 (stp HW.out hb); clear hb)
  refine (rd_two l _ _ _ _ _ hc hs false _ (.inl ⟨rfl, rfl⟩) _ HW.out.2.2).mono ?_
  rintro e w2 ⟨rfl, hb⟩
  have HK := hide2 (Kw.start (cs := #[.int .i64 3, .bool false, .int .i64 ii, .float .f64 0, .string ⟨#[]⟩]) (stp HW.out hb))
  clear hb HW
  go_wp2_with (fail)
  refine (rd_two l _ _ _ _ _ hc hs true _ (.inr ⟨rfl, rfl⟩) _ HK.out.errs).mono ?_
  rintro e w3 ⟨rfl, hb⟩
  replace HK := hide2 (HK.out.step hb)
  obtain ⟨⟨c0, f0⟩, ⟨c1, f1⟩, ⟨c2, f2⟩, ⟨c3, f3⟩, ⟨c4, f4⟩⟩ := facts5 HK.out.cell
  have hgl := heap_lt HK.out.cell
  clear hb
  go_wp2_with (fail)
  go_loop [6] (fun t => ∃ k : Nat, t = .int .i64 k ∧ k ≤ l.length) (fun t => l.length - (intOf t).toNat)
  case atStart => exact ⟨0, rfl, by omega⟩
  case round =>
    obtain ⟨k, rfl, hk⟩ := hrel
    have k0 : (0 : Int) ≤ k := by omega
    rcases ik : l[k]? with _ | c
    · have hle := len_none ik
      have hl' : ¬ (k : Int) < l.length := by omega
      go_wp2_with (fail)
      refine (rd_x lx hx hsx _ (Kw.errs (HK.out.alloc _))).mono ?_
      rintro e w4 ⟨rfl, hb⟩
      replace HK := hide2 ((HK.out.alloc _).step hb)
      clear hb c0 c1 c2 c3 c4 f0 f1 f2 f3 f4
      go_wp2_with (fail)
      go_ret
      exact ⟨rfl, (HK.out.alloc _).below⟩
    · have ek := ix_eq ik
      have hkl := ix_lt ik
      have hkl' := (List.getElem?_eq_some_iff.1 ik).1
      have hl' : (k : Int) < l.length := by omega
      have lo := u8_lo c
      have hi := u8_hi c
      have hdc : dgE c := HD.out c (List.mem_of_getElem? ik)
      have hdi : 48 ≤ (c.toNat : Int) ∧ (c.toNat : Int) ≤ 57 ∨ (c.toNat : Int) = 45 ∨ (c.toNat : Int) = 46 ∨ (c.toNat : Int) = 101 := by unfold dgE at hdc; omega
      have HI := hide2 hdi
      clear hdc hdi
      go_wp2_with (go_at_call 20; refine (digit_yes _ lo hi HI.out _).mono ?_; rintro e w' ⟨rfl, rfl⟩)
      go_round
      case rel => exact ⟨k + 1, by go_num, by omega⟩
      case measure => simp [intOf]; omega
set_option maxRecDepth 100000 in
set_option maxHeartbeats 4000000 in
theorem kinds_real (l lx : List UInt8) (hlx : l ++ [120] = lx) (w : World) (hs : l.length ≤ 2 ^ 47) (hsx : lx.length ≤ 2 ^ 47) (hE : Errs w) (n1 : (l == [46, 110, 97, 110]) = false) (n2 : (l == [46, 105, 110, 102]) = false) (n3 : (l == [45, 46, 105, 110, 102]) = false) (xx : Nat) (hd : ∀ c ∈ l, dgE c) (hf1 : (FloatKind.f64.format.order xx xx == some .eq) = true) (hf2 : floatBits .sub .f64 xx xx = some 0) (hc : scV l (plainF l) = #[.int .i64 4, .bool false, .int .i64 0, .float .f64 xx, .string ⟨#[]⟩]) (hx : plainF lx = .text) :
    Calls Tryd.prog 7 #[.string ⟨l.toArray⟩] w fun e w' => e = .returned (.bool true) ∧ Below w.heap.size w w' := by
  have ef := e00
  have st := st_float
  have hAA : (ByteArray.mk l.toArray) ++ ⟨#[120]⟩ = ⟨lx.toArray⟩ := by rw [← hlx]; exact mk_append l [120]
  have HW : Hid (w.heap.size ≤ w.heap.size ∧ Below w.heap.size w w ∧ Errs w) := ⟨Nat.le_refl _, Below.refl _ _, hE⟩
  clear hE
  have hn : (FloatKind.f64.format.order xx xx != some .eq) = false := by rw [bne, hf1]; rfl
  have rS : ∀ W : World, (binOp .sub 23 (.float .f64 xx) (.float .f64 xx)).run Tryd.prog W = .ok (.float .f64 0) W := fun W => run_float_arith W .sub 23 .f64 _ _ _ hf2
  have h00 : (FloatKind.f64.format.order 0 0 == some .eq) = true := by decide +kernel
  have h0n : (FloatKind.f64.format.order 0 0 != some .eq) = false := by rw [bne, h00]; rfl
  have HD := hide2 hd
  clear hd
  go_enter Tryd.func7, Tryd.ntmps7
  go_wp2_with (go_at_call 16; refine (awake_any _ HW.out.2.2).mono ?_; rintro e w1 ⟨rfl, hb⟩; have HW := hide2 (stp HW.out hb); clear hb)
  refine (rd_two l _ _ _ _ _ hc hs false _ (.inl ⟨rfl, rfl⟩) _ HW.out.2.2).mono ?_
  rintro e w2 ⟨rfl, hb⟩
  have HK := hide2 (Kw.start (cs := #[.int .i64 4, .bool false, .int .i64 0, .float .f64 xx, .string ⟨#[]⟩]) (stp HW.out hb))
  clear hb HW
  go_wp2_with (fail)
  refine (rd_two l _ _ _ _ _ hc hs true _ (.inr ⟨rfl, rfl⟩) _ HK.out.errs).mono ?_
  rintro e w3 ⟨rfl, hb⟩
  replace HK := hide2 (HK.out.step hb)
  obtain ⟨⟨c0, f0⟩, ⟨c1, f1⟩, ⟨c2, f2⟩, ⟨c3, f3⟩, ⟨c4, f4⟩⟩ := facts5 HK.out.cell
  have hgl := heap_lt HK.out.cell
  clear hb
  go_wp2_with (fail)
  go_loop [6] (fun t => ∃ k : Nat, t = .int .i64 k ∧ k ≤ l.length) (fun t => l.length - (intOf t).toNat)
  case atStart => exact ⟨0, rfl, by omega⟩
  case round =>
    obtain ⟨k, rfl, hk⟩ := hrel
    have k0 : (0 : Int) ≤ k := by omega
    rcases ik : l[k]? with _ | c
    · have hle := len_none ik
      have hl' : ¬ (k : Int) < l.length := by omega
      go_wp2_with (fail)
      refine (rd_x lx hx hsx _ (Kw.errs (HK.out.alloc _))).mono ?_
      rintro e w4 ⟨rfl, hb⟩
      replace HK := hide2 ((HK.out.alloc _).step hb)
      clear hb c0 c1 c2 c3 c4 f0 f1 f2 f3 f4
      go_wp2_with (fail)
      go_ret
      exact ⟨rfl, (HK.out.alloc _).below⟩
    · have ek := ix_eq ik
      have hkl := ix_lt ik
      have hkl' := (List.getElem?_eq_some_iff.1 ik).1
      have hl' : (k : Int) < l.length := by omega
      have lo := u8_lo c
      have hi := u8_hi c
      have hdc : dgE c := HD.out c (List.mem_of_getElem? ik)
      have hdi : 48 ≤ (c.toNat : Int) ∧ (c.toNat : Int) ≤ 57 ∨ (c.toNat : Int) = 45 ∨ (c.toNat : Int) = 46 ∨ (c.toNat : Int) = 101 := by unfold dgE at hdc; omega
      have HI := hide2 hdi
      clear hdc hdi
      go_wp2_with (go_at_call 20; refine (digit_yes _ lo hi HI.out _).mono ?_; rintro e w' ⟨rfl, rfl⟩)
      go_round
      case rel => exact ⟨k + 1, by go_num, by omega⟩
      case measure => simp [intOf]; omega
end Go.Proofs.YthfmepnlbaifcaaDoor
