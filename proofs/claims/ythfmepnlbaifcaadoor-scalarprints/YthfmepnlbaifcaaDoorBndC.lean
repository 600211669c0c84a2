import Derived.Test.YthfmepnlbaifcaaDoorBndB
import Derived.Test.YthfmepnlbaifcaaDoorBndA
/-
  Both Prints, whole.
-/
namespace Go.Proofs.YthfmepnlbaifcaaDoor
open Go.RowKit Ieee
set_option linter.unusedVariables false
set_option linter.unusedSimpArgs false
def kdS : Sc → Int
  | .null => 1
  | .bool _ => 2
  | .int _ => 3
  | .real _ => 4
  | .text => 5
/-- a value's text -/
def prT (k : Int) (b : Bool) (i : Int) (x : Nat) (l : List UInt8) (d : Option (Nat × Int)) : List UInt8 :=
  if k = 1 then [110, 117, 108, 108] else
  if k = 2 then (if b = true then [116, 114, 117, 101] else [102, 97, 108, 115, 101]) else
  if k = 3 then Lib.itoa i else
  if k = 4 then realT x d else
  if k = 5 then l else []
def prQ (k : Int) (l : List UInt8) : Bool := decide (k = 5) && (kdS (plainF l) != 5)
def prE (k : Int) (x : Nat) (d : Option (Nat × Int)) : Int := if k = 4 then realE x d else if 1 ≤ k ∧ k ≤ 5 then 0 else 2
theorem real_any (x : Nat) (d : Option (Nat × Int)) (w : World) (hx : x < 18446744073709551616) (hd : DecA (rg x) (endD d)) :
    Calls Tryd.prog 31 #[.float .f64 x] w fun e w' => e = .returned (.tuple #[.string ⟨(realT x d).toArray⟩, .int .i64 (realE x d)]) ∧ Below w.heap.size w w' := by
  unfold realT realE
  rcases word_cases hx with h | rfl | rfl | rfl | rfl | h
  · rw [if_pos h, if_neg (by omega)]
    exact real_nan x w h
  · exact real_inf w
  · exact real_ninf w
  · exact real_z w
  · exact real_mz w
  · rw [if_neg (by omega), if_neg (by omega), if_neg (by omega)]
    cases d with
    | none => rw [if_pos ⟨h.1, h.2, rfl⟩]; exact real_none x w hx h hd
    | some p =>
      rw [if_neg (by simp)]
      exact real_some x p.1 p.2 w hx h hd
theorem fbool_i (b : Bool) (w : World) : Calls Tryd.prog 48 #[.bool b] w fun e w' => e = .returned (.string ⟨(if b = true then [116, 114, 117, 101] else [102, 97, 108, 115, 101] : List UInt8).toArray⟩) ∧ w' = w := by
  cases b
  · go_enter Tryd.func48, Tryd.ntmps48
    go_wp2
    go_ret
    exact ⟨rfl, rfl⟩
  · go_enter Tryd.func48, Tryd.ntmps48
    go_wp2
    go_ret
    exact ⟨rfl, rfl⟩
theorem fbool (b : Bool) (w : World) : Calls Tryd.prog 27 #[.bool b] w fun e w' => e = .returned (.string ⟨(if b = true then [116, 114, 117, 101] else [102, 97, 108, 115, 101] : List UInt8).toArray⟩) ∧ w' = w := by
  have h := fbool_i b w
  generalize (if b = true then [116, 114, 117, 101] else [102, 97, 108, 115, 101] : List UInt8) = l at *
  go_enter Tryd.func27, Tryd.ntmps27
  go_wp2_with (go_at_call 48; refine h.mono ?_; rintro e w' ⟨rfl, rfl⟩)
  go_ret
  exact ⟨rfl, rfl⟩
theorem fint (i : Int) (h0 : -9223372036854775808 ≤ i) (h1 : i ≤ 9223372036854775807) (w : World) (hT : T10 w) : Calls Tryd.prog 28 #[.int .i64 i, .int .i64 10] w fun e w' => e = .returned (.string ⟨(Lib.itoa i).toArray⟩) ∧ Below w.heap.size w w' := by
  refine (Tryd.strconv_FormatInt_10 i h0 h1 w hT).mono ?_
  rintro e w' ⟨he, k, os, rfl⟩
  exact ⟨he, Lib.below_grow w.heap.size w (Nat.le_refl _) k os⟩
def box25 (k : Int) (b : Bool) (i : Int) (x : Nat) (l : List UInt8) : Obj := .cells #[.int .i64 k, .bool b, .int .i64 i, .float .f64 x, .string ⟨l.toArray⟩] 25
set_option maxRecDepth 100000 in
theorem print_few (k : Int) (b : Bool) (i : Int) (x : Nat) (l : List UInt8) (d : Option (Nat × Int)) (w : World) (hT : T10 w) (hx : x < 18446744073709551616) (hd : DecA (rg x) (endD d)) (h0 : -9223372036854775808 ≤ i) (h1 : i ≤ 9223372036854775807) (hk : k ≠ 5) :
    Calls Tryd.prog 11 #[.agg (vR k b i x l)] w fun e w' => e = .returned (.tuple #[.string ⟨(prT k b i x l d).toArray⟩, .bool (prQ k l), .int .i64 (prE k x d)]) ∧ Below w.heap.size w w' := by
  have hq : prQ k l = false := by unfold prQ; rw [decide_eq_false hk]; rfl
  rw [hq]
  unfold vR prT prE
  have hal : T10 (w.alloc (box25 k b i x l)) := hT.alloc _
  by_cases e1 : k = 1
  · subst e1
    rw [if_pos rfl, if_neg (by decide), if_pos (by decide)]
    clear hT hd hal
    go_enter Tryd.func11, Tryd.ntmps11
    go_wp2
    go_ret3
    exact ⟨rfl, (Below.refl _ w).alloc (Nat.le_refl _) _⟩
  by_cases e2 : k = 2
  · subst e2
    rw [if_neg (show ¬ (2 : Int) = 1 by decide), if_pos (show (2 : Int) = 2 from rfl), if_neg (show ¬ (2 : Int) = 4 by decide), if_pos (show 1 ≤ (2 : Int) ∧ (2 : Int) ≤ 5 by decide)]
    have hf := fbool b
    generalize (if b = true then [116, 114, 117, 101] else [102, 97, 108, 115, 101] : List UInt8) = t at *
    clear hT hd hal
    go_enter Tryd.func11, Tryd.ntmps11
    go_wp2_with (go_at_call 27; refine (hf _).mono ?_; rintro e w' ⟨rfl, rfl⟩)
    go_ret3
    exact ⟨rfl, (Below.refl _ w).alloc (Nat.le_refl _) _⟩
  by_cases e3 : k = 3
  · subst e3
    rw [if_neg (by decide), if_neg (by decide), if_pos rfl, if_neg (by decide), if_pos (by decide)]
    have hf := fint i h0 h1 _ hal
    unfold box25 at hf
    generalize Lib.itoa i = t at *
    clear hT hd hal
    go_enter Tryd.func11, Tryd.ntmps11
    go_wp2_with (go_at_call 28; refine hf.mono ?_; rintro e w' ⟨rfl, hb⟩)
    go_ret3
    exact ⟨rfl, ((Below.refl _ w).alloc (Nat.le_refl _) _).trans (hb.mono (by simp))⟩
  by_cases e4 : k = 4
  · subst e4
    rw [if_neg (by decide), if_neg (by decide), if_neg (by decide), if_pos rfl, if_pos rfl]
    have hf := rtext_any x d _ hal hx hd
    unfold box25 at hf
    generalize realT x d = t at *
    generalize realE x d = z at *
    clear hT hd hal
    go_enter Tryd.func11, Tryd.ntmps11
    go_wp2_with (go_at_call 29; refine hf.mono ?_; rintro e w' ⟨rfl, hb⟩)
    go_ret3
    exact ⟨rfl, ((Below.refl _ w).alloc (Nat.le_refl _) _).trans (hb.mono (by simp))⟩
  rw [if_neg e1, if_neg e2, if_neg e3, if_neg e4, if_neg hk, if_neg e4, if_neg (by omega)]
  have b1 : (k == 1) = false := beq_eq_false_iff_ne.2 e1
  have b2 : (k == 2) = false := beq_eq_false_iff_ne.2 e2
  have b3 : (k == 3) = false := beq_eq_false_iff_ne.2 e3
  have b4 : (k == 4) = false := beq_eq_false_iff_ne.2 e4
  have b5 : (k == 5) = false := beq_eq_false_iff_ne.2 hk
  clear hT hd hal e1 e2 e3 e4 hk hq
  go_enter Tryd.func11, Tryd.ntmps11
  go_wp2
  go_ret3
  exact ⟨rfl, (Below.refl _ w).alloc (Nat.le_refl _) _⟩
set_option maxRecDepth 100000 in
theorem rprint_few (k : Int) (b : Bool) (i : Int) (x : Nat) (l : List UInt8) (d : Option (Nat × Int)) (w : World) (hx : x < 18446744073709551616) (hd : DecA (rg x) (endD d)) (h0 : -9223372036854775808 ≤ i) (h1 : i ≤ 9223372036854775807) (hk : k ≠ 5) :
    Calls Tryd.prog 13 #[.agg (vR k b i x l)] w fun e w' => e = .returned (.tuple #[.string ⟨(prT k b i x l d).toArray⟩, .bool (prQ k l), .int .i64 (prE k x d)]) ∧ Below w.heap.size w w' := by
  have hq : prQ k l = false := by unfold prQ; rw [decide_eq_false hk]; rfl
  rw [hq]
  unfold vR prT prE
  by_cases e1 : k = 1
  · subst e1
    rw [if_pos rfl, if_neg (by decide), if_pos (by decide)]
    clear hd
    go_enter Tryd.func13, Tryd.ntmps13
    go_wp2
    go_ret3
    exact ⟨rfl, (Below.refl _ w).alloc (Nat.le_refl _) _⟩
  by_cases e2 : k = 2
  · subst e2
    rw [if_neg (show ¬ (2 : Int) = 1 by decide), if_pos (show (2 : Int) = 2 from rfl), if_neg (show ¬ (2 : Int) = 4 by decide), if_pos (show 1 ≤ (2 : Int) ∧ (2 : Int) ≤ 5 by decide)]
    clear hd
    cases b
    · go_enter Tryd.func13, Tryd.ntmps13
      go_wp2
      go_ret3
      exact ⟨rfl, (Below.refl _ w).alloc (Nat.le_refl _) _⟩
    · go_enter Tryd.func13, Tryd.ntmps13
      go_wp2
      go_ret3
      exact ⟨rfl, (Below.refl _ w).alloc (Nat.le_refl _) _⟩
  by_cases e3 : k = 3
  · subst e3
    rw [if_neg (by decide), if_neg (by decide), if_pos rfl, if_neg (by decide), if_pos (by decide)]
    clear hd
    unfold Lib.itoa
    by_cases hi : i < 0
    · rw [if_pos hi]
      have hf := told_any i.natAbs (by omega)
      have w1 : IntKind.i64.wrap (i + 1) = i + 1 := by rw [IntKind.wrap_i64]; omega
      have w2 : IntKind.i64.wrap (-(i + 1)) = -(i + 1) := by rw [IntKind.wrap_i64]; omega
      have w3 : IntKind.u64.wrap (-(i + 1)) = -(i + 1) := by rw [IntKind.wrap_u64]; omega
      have w4 : IntKind.u64.wrap (-(i + 1) + 1) = (i.natAbs : Int) := by rw [IntKind.wrap_u64]; omega
      have hl : (Lib.decDigits i.natAbs).length ≤ 20 := dd_len (by omega) (by decide)
      have ei : -(i + 1) + 1 = (i.natAbs : Int) := by omega
      generalize Lib.decDigits i.natAbs = t at *
      generalize i.natAbs = n at *
      go_enter Tryd.func13, Tryd.ntmps13
      go_wp2_with (go_at_call 30; refine (hf _).mono ?_; rintro e w' ⟨rfl, hb⟩)
      go_ret3
      refine ⟨?_, ((Below.refl _ w).alloc (Nat.le_refl _) _).trans (hb.mono (by simp))⟩
      rw [sadd]
      rfl
    · rw [if_neg hi]
      have hf := told_any i.toNat (by omega)
      have w3 : IntKind.u64.wrap i = (i.toNat : Int) := by rw [IntKind.wrap_u64]; omega
      have hl : (Lib.decDigits i.toNat).length ≤ 20 := dd_len (by omega) (by decide)
      generalize Lib.decDigits i.toNat = t at *
      generalize i.toNat = n at *
      go_enter Tryd.func13, Tryd.ntmps13
      go_wp2_with (go_at_call 30; refine (hf _).mono ?_; rintro e w' ⟨rfl, hb⟩)
      go_ret3
      exact ⟨rfl, ((Below.refl _ w).alloc (Nat.le_refl _) _).trans (hb.mono (by simp))⟩
  by_cases e4 : k = 4
  · subst e4
    rw [if_neg (by decide), if_neg (by decide), if_neg (by decide), if_pos rfl, if_pos rfl]
    have hf := fun W => real_any x d W hx hd
    generalize realT x d = t at *
    generalize realE x d = z at *
    clear hd
    go_enter Tryd.func13, Tryd.ntmps13
    go_wp2_with (go_at_call 31; refine (hf _).mono ?_; rintro e w' ⟨rfl, hb⟩)
    go_ret3
    exact ⟨rfl, ((Below.refl _ w).alloc (Nat.le_refl _) _).trans (hb.mono (by simp))⟩
  rw [if_neg e1, if_neg e2, if_neg e3, if_neg e4, if_neg hk, if_neg e4, if_neg (by omega)]
  have b1 : (k == 1) = false := beq_eq_false_iff_ne.2 e1
  have b2 : (k == 2) = false := beq_eq_false_iff_ne.2 e2
  have b3 : (k == 3) = false := beq_eq_false_iff_ne.2 e3
  have b4 : (k == 4) = false := beq_eq_false_iff_ne.2 e4
  have b5 : (k == 5) = false := beq_eq_false_iff_ne.2 hk
  clear hd e1 e2 e3 e4 hk hq
  go_enter Tryd.func13, Tryd.ntmps13
  go_wp2
  go_ret3
  exact ⟨rfl, (Below.refl _ w).alloc (Nat.le_refl _) _⟩
/-- Print's own copy of a value, in a world that has only grown -/
structure Gq (o : Obj) (w W : World) : Prop where
  cell : W.heap[w.heap.size]? = some o
  below : Below w.heap.size w W
  errs : Errs W
theorem Gq.step {o : Obj} {w W W' : World} (h : Gq o w W) (hb : Below W.heap.size W W') : Gq o w W' :=
  ⟨hb.cells h.cell, h.below.trans (hb.mono h.below.size), h.errs.below hb⟩
theorem Gq.drewN {o : Obj} {w W : World} (h : Gq o w W) (n : Nat) : Gq o w (W.drewN n) :=
  ⟨h.cell, below_drewN h.below n, h.errs⟩
theorem kd_scV (l : List UInt8) (sc : Sc) : ∃ b i x s, scV l sc = #[.int .i64 (kdS sc), .bool b, .int .i64 i, .float .f64 x, .string ⟨s⟩] := by
  cases sc with
  | null => exact ⟨_, _, _, _, rfl⟩
  | bool b => exact ⟨_, _, _, _, rfl⟩
  | int i => exact ⟨_, _, _, _, rfl⟩
  | real x => exact ⟨_, _, _, _, rfl⟩
  | text => exact ⟨_, _, _, _, rfl⟩
set_option maxRecDepth 100000 in
set_option maxHeartbeats 4000000 in
theorem print_txt (b : Bool) (i : Int) (x : Nat) (l : List UInt8) (w : World) (hs : l.length ≤ 2 ^ 47) (hE : Errs w) :
    Calls Tryd.prog 11 #[.agg (vR 5 b i x l)] w fun e w' => e = .returned (.tuple #[.string ⟨l.toArray⟩, .bool (kdS (plainF l) != 5), .int .i64 0]) ∧ Below w.heap.size w w' := by
  unfold vR
  obtain ⟨b1, i2, f3, s4, hx⟩ := kd_scV [] (plainF l)
  have HG : Hid (Gq (box25 5 b i x l) w (w.alloc (box25 5 b i x l))) := ⟨heap_alloc_new w _, (Below.refl _ w).alloc (Nat.le_refl _) _, hE.alloc _⟩
  have fr := field0 (kdS (plainF l)) b1 i2 f3 ⟨s4⟩
  generalize kdS (plainF l) = kk at *
  go_enter Tryd.func11, Tryd.ntmps11
  go_wp2
  go_region_with (first
    | (go_at_call 22; refine (cl_at l _ hs).mono ?_; rintro e w1 ⟨rfl, hb⟩; have HG := hide2 (Gq.step (by first | exact HG.out | exact HG.out.drewN 1 | exact HG.out.drewN 2 | exact HG.out.drewN 3) hb); obtain ⟨⟨c0, f0⟩, ⟨c1, f1⟩, ⟨c2, f2⟩, ⟨c3, f3⟩, ⟨c4, f4⟩⟩ := facts5 HG.out.cell; clear hb)
    | (go_at_call 21; refine (plain_at l _ _ _ _ _ hx _ hs (Gq.errs (o := box25 5 b i x l) (w := w) (by first | exact HG.out | exact HG.out.drewN 1 | exact HG.out.drewN 2 | exact HG.out.drewN 3))).mono ?_; rintro e w1 ⟨rfl, hb⟩; have HG := hide2 (Gq.step (by first | exact HG.out | exact HG.out.drewN 1 | exact HG.out.drewN 2 | exact HG.out.drewN 3) hb); obtain ⟨⟨c0, f0⟩, ⟨c1, f1⟩, ⟨c2, f2⟩, ⟨c3, f3⟩, ⟨c4, f4⟩⟩ := facts5 HG.out.cell; clear hb))
  all_goals
    go_wp2
    go_ret3
    exact ⟨rfl, HG.out.below⟩
theorem field0' (kk : Int) (b1 : Bool) (i2 : Int) (f3 : Nat) (s : ByteArray) (W : World) : (Instr.field 27 (.agg #[.int .i64 kk, .bool b1, .int .i64 i2, .float .f64 f3, .string s]) 0).run Tryd.prog W = .ok (.int .i64 kk) W := by
  unfold Instr.field
  simp [run_underlying Tryd.underlying27, asAgg, part, isAgg, run_underlying Tryd.underlying3]
theorem rread_at (l : List UInt8) (x0 x1 x2 x3 x4 : Value) (hx : scV l (plainF l) = #[x0, x1, x2, x3, x4]) (w : World) (hs : l.length ≤ 2 ^ 47) :
    Calls Tryd.prog 10 #[.string ⟨l.toArray⟩, .bool false] w fun e w' => e = .returned (.agg #[x0, x1, x2, x3, x4]) ∧ Below w.heap.size w w' := by
  have h := rread_any l false w hs
  rw [if_neg (by decide), hx] at h
  exact h
set_option maxRecDepth 100000 in
set_option maxHeartbeats 4000000 in
theorem rprint_txt (b : Bool) (i : Int) (x : Nat) (l : List UInt8) (w : World) (hs : l.length ≤ 2 ^ 47) :
    Calls Tryd.prog 13 #[.agg (vR 5 b i x l)] w fun e w' => e = .returned (.tuple #[.string ⟨l.toArray⟩, .bool (kdS (plainF l) != 5), .int .i64 0]) ∧ Below w.heap.size w w' := by
  unfold vR
  obtain ⟨b1, i2, f3, s4, hx⟩ := kd_scV l (plainF l)
  have HB : Hid (Below w.heap.size w (w.alloc (.cells #[.int .i64 5, .bool b, .int .i64 i, .float .f64 x, .string ⟨l.toArray⟩] 27))) := (Below.refl _ w).alloc (Nat.le_refl _) _
  have fr := field0' (kdS (plainF l)) b1 i2 f3 ⟨s4⟩
  generalize kdS (plainF l) = kk at *
  go_enter Tryd.func13, Tryd.ntmps13
  go_wp2
  go_region_with (first
    | (go_at_call 10; refine (rread_at l _ _ _ _ _ hx _ hs).mono ?_; rintro e w1 ⟨rfl, hb⟩; obtain ⟨⟨c0, f0⟩, ⟨c1, f1⟩, ⟨c2, f2⟩, ⟨c3, f3⟩, ⟨c4, f4⟩⟩ := facts5 (hb.cells (heap_alloc_new w _))))
  all_goals
    go_wp2
    go_ret3
    exact ⟨rfl, below_step HB.out hb⟩
theorem print_any (k : Int) (b : Bool) (i : Int) (x : Nat) (l : List UInt8) (d : Option (Nat × Int)) (w : World) (hT : T10 w) (hE : Errs w) (hx : x < 18446744073709551616) (hd : DecA (rg x) (endD d)) (h0 : -9223372036854775808 ≤ i) (h1 : i ≤ 9223372036854775807) (hs : l.length ≤ 2 ^ 47) :
    Calls Tryd.prog 11 #[.agg (vR k b i x l)] w fun e w' => e = .returned (.tuple #[.string ⟨(prT k b i x l d).toArray⟩, .bool (prQ k l), .int .i64 (prE k x d)]) ∧ Below w.heap.size w w' := by
  by_cases hk : k = 5
  · subst hk
    exact print_txt b i x l w hs hE
  · exact print_few k b i x l d w hT hx hd h0 h1 hk
theorem rprint_any (k : Int) (b : Bool) (i : Int) (x : Nat) (l : List UInt8) (d : Option (Nat × Int)) (w : World) (hx : x < 18446744073709551616) (hd : DecA (rg x) (endD d)) (h0 : -9223372036854775808 ≤ i) (h1 : i ≤ 9223372036854775807) (hs : l.length ≤ 2 ^ 47) :
    Calls Tryd.prog 13 #[.agg (vR k b i x l)] w fun e w' => e = .returned (.tuple #[.string ⟨(prT k b i x l d).toArray⟩, .bool (prQ k l), .int .i64 (prE k x d)]) ∧ Below w.heap.size w w' := by
  by_cases hk : k = 5
  · subst hk
    exact rprint_txt b i x l w hs
  · exact rprint_few k b i x l d w hx hd h0 h1 hk
end Go.Proofs.YthfmepnlbaifcaaDoor

/-
  Both Sames, whole, and the law's own.
-/
namespace Go.Proofs.YthfmepnlbaifcaaDoor
open Go.RowKit Ieee
set_option linter.unusedVariables false
set_option linter.unusedSimpArgs false
theorem order_fin_inf (x y : Nat) (hx : rg x < INF) (hy : rg y = INF) : double.order x y = some (if ng y then .gt else .lt) := by
  obtain ⟨n, q, hs, hq, hn⟩ := read_fin x hx
  unfold Format.order
  rw [hs, read_infy y hy]
  cases ng y <;> rfl
theorem eq_sign {x y : Nat} (hx : x < 18446744073709551616) (hy : y < 18446744073709551616) (nx : ¬ INF < rg x) (ny : ¬ INF < rg y) (hz : ¬ (rg x = 0 ∧ rg y = 0)) (h : (double.order x y == some .eq) = true) : ng x = ng y := by
  by_cases fx : rg x < INF
  · by_cases fy : rg y < INF
    · rw [ord_eq fx fy, decide_eq_true_eq] at h
      unfold sv at h
      have hv1 : rg x = 0 → V (rg x) = 0 := fun e => by rw [e, V_zero]
      have hv2 : rg y = 0 → V (rg y) = 0 := fun e => by rw [e, V_zero]
      have hp1 : rg x ≠ 0 → 0 < V (rg x) := fun e => V_pos (by omega)
      have hp2 : rg y ≠ 0 → 0 < V (rg y) := fun e => V_pos (by omega)
      cases h1 : ng x <;> cases h2 : ng y <;> simp only [h1, h2, if_true, if_false, Bool.false_eq_true] at h <;> first | rfl | (exfalso; apply hz; constructor <;> (refine Classical.byContradiction fun e => ?_) <;> omega)
    · rw [order_fin_inf x y fx (by omega)] at h
      cases h2 : ng y <;> rw [h2] at h <;> exact absurd h (by decide)
  · by_cases fy : rg y < INF
    · rw [order_inf x y (by omega) fy] at h
      cases h2 : ng x <;> rw [h2] at h <;> exact absurd h (by decide)
    · have e1 := ng_split hx
      have e2 := ng_split hy
      have r1 : rg x = INF := by omega
      have r2 : rg y = INF := by omega
      rw [r1] at e1
      rw [r2] at e2
      cases h1 : ng x <;> cases h2 : ng y
      · rfl
      · rw [h1] at e1
        rw [h2] at e2
        rw [e1, e2] at h
        exact absurd h (by decide +kernel)
      · rw [h1] at e1
        rw [h2] at e2
        rw [e1, e2] at h
        exact absurd h (by decide +kernel)
      · rfl
theorem zero_word {x : Nat} (hx : x < 18446744073709551616) (h : rg x = 0) : x = 0 ∨ x = MZ := by
  have e := ng_split hx
  rw [h] at e
  split at e
  · exact .inr e
  · exact .inl e
theorem zero_eq {x : Nat} (nx : ¬ INF < rg x) : (double.order x 0 == some .eq) = decide (rg x = 0) := by
  by_cases fx : rg x < INF
  · rw [ord_eq fx (by decide), sv_zero, decide_eq_decide]
    unfold sv
    constructor
    · intro h
      refine Classical.byContradiction fun e => ?_
      have := V_pos (show 0 < rg x by omega)
      split at h <;> omega
    · intro h
      rw [h, V_zero]
      split <;> rfl
  · rw [order_inf x 0 (by omega) (by decide), decide_eq_false (show ¬ rg x = 0 by have : INF = 9218868437227405312 := rfl; omega)]
    cases ng x <;> rfl
set_option maxRecDepth 100000 in
theorem sreal_any (x y : Nat) (hx : x < 18446744073709551616) (hy : y < 18446744073709551616) (w : World) :
    Calls Tryd.prog 32 #[.float .f64 x, .float .f64 y] w fun e w' => e = .returned (.bool (smR x y)) ∧ w' = w := by
  by_cases nx : INF < rg x
  · have c1 := nan_self nx
    have hv : smR x y = (double.order y y != some .eq) := by
      unfold smR
      rw [show (double.order x x != some .eq) = true from c1, order_nan x y (.inl nx)]
      simp
    rw [hv]
    clear hv nx
    go_enter Tryd.func32, Tryd.ntmps32
    go_wp2
    go_ret
    exact ⟨rfl, rfl⟩
  · have c1 := num_self hx nx
    by_cases ny : INF < rg y
    · have c2 := nan_self ny
      have hv : smR x y = false := by
        unfold smR
        rw [show (double.order x x != some .eq) = false from c1, order_nan x y (.inr ny)]
        rfl
      rw [hv]
      clear hv nx ny
      go_enter Tryd.func32, Tryd.ntmps32
      go_wp2
      go_ret
      exact ⟨rfl, rfl⟩
    · have c2 := num_self hy ny
      have hv : smR x y = ((double.order x y == some .eq) && (ng x == ng y)) := by
        unfold smR
        rw [show (double.order x x != some .eq) = false from c1, belB_ng hx nx, belB_ng hy ny]
        simp
      by_cases hz : rg x = 0 ∧ rg y = 0
      · have q1 : (FloatKind.f64.format.order 0 0 == some .eq) = true := by decide +kernel
        have q2 : (FloatKind.f64.format.order 9223372036854775808 0 == some .eq) = true := by decide +kernel
        have r0 : (binOp .quo 23 (.float .f64 4607182418800017408) (.float .f64 0)).run Tryd.prog w = .ok (.float .f64 9218868437227405312) w := run_float_arith w .quo 23 .f64 _ _ _ quo_z
        have r1 : (binOp .quo 23 (.float .f64 4607182418800017408) (.float .f64 9223372036854775808)).run Tryd.prog w = .ok (.float .f64 18442240474082181120) w := run_float_arith w .quo 23 .f64 _ _ _ quo_mz
        have o1 : (FloatKind.f64.format.order 9218868437227405312 9218868437227405312 == some .eq) = true := by decide +kernel
        have o2 : (FloatKind.f64.format.order 9218868437227405312 18442240474082181120 == some .eq) = false := by decide +kernel
        have o3 : (FloatKind.f64.format.order 18442240474082181120 9218868437227405312 == some .eq) = false := by decide +kernel
        have o4 : (FloatKind.f64.format.order 18442240474082181120 18442240474082181120 == some .eq) = true := by decide +kernel
        rcases zero_word hx hz.1 with rfl | rfl <;> rcases zero_word hy hz.2 with rfl | rfl
        · rw [show smR 0 0 = true by decide +kernel]
          clear hv hz nx ny
          go_enter Tryd.func32, Tryd.ntmps32
          go_wp2
          go_ret
          exact ⟨rfl, rfl⟩
        · rw [show smR 0 MZ = false by decide +kernel]
          clear hv hz nx ny
          go_enter Tryd.func32, Tryd.ntmps32
          go_wp2
          go_ret
          exact ⟨rfl, rfl⟩
        · rw [show smR MZ 0 = false by decide +kernel]
          clear hv hz nx ny
          go_enter Tryd.func32, Tryd.ntmps32
          go_wp2
          go_ret
          exact ⟨rfl, rfl⟩
        · rw [show smR MZ MZ = true by decide +kernel]
          clear hv hz nx ny
          go_enter Tryd.func32, Tryd.ntmps32
          go_wp2
          go_ret
          exact ⟨rfl, rfl⟩
      · have hv2 : smR x y = (FloatKind.f64.format.order x y == some .eq) := by
          rw [hv]
          show _ = (double.order x y == some .eq)
          cases he : (double.order x y == some .eq) with
          | false => rfl
          | true => rw [eq_sign hx hy nx ny hz he]; simp
        have z1 := zero_eq nx
        have z2 := zero_eq ny
        rw [hv2]
        by_cases zx : rg x = 0
        · have z1 : (FloatKind.f64.format.order x 0 == some .eq) = true := z1.trans (decide_eq_true zx)
          have z2 : (FloatKind.f64.format.order y 0 == some .eq) = false := z2.trans (decide_eq_false (fun e => hz ⟨zx, e⟩))
          clear hv hv2 hz nx ny zx
          go_enter Tryd.func32, Tryd.ntmps32
          go_wp2
          go_ret
          exact ⟨rfl, rfl⟩
        · have z1 : (FloatKind.f64.format.order x 0 == some .eq) = false := z1.trans (decide_eq_false zx)
          clear hv hv2 hz nx ny zx z2
          go_enter Tryd.func32, Tryd.ntmps32
          go_wp2
          go_ret
          exact ⟨rfl, rfl⟩
/-- the same values -/
def smV (k : Int) (b : Bool) (i : Int) (x : Nat) (l : List UInt8) (k' : Int) (b' : Bool) (i' : Int) (x' : Nat) (l' : List UInt8) : Bool :=
  if k = k' then
    (if k = 1 then true else if k = 2 then b == b' else if k = 3 then i == i' else if k = 4 then smR x x' else if k = 5 then l == l' else false)
  else false
set_option maxRecDepth 100000 in
theorem same14 (k : Int) (b : Bool) (i : Int) (x : Nat) (l : List UInt8) (k' : Int) (b' : Bool) (i' : Int) (x' : Nat) (l' : List UInt8) (hx : x < 18446744073709551616) (hx' : x' < 18446744073709551616) (w : World) :
    Calls Tryd.prog 14 #[.agg (vR k b i x l), .agg (vR k' b' i' x' l')] w fun e w' => e = .returned (.bool (smV k b i x l k' b' i' x' l')) ∧ Below w.heap.size w w' := by
  unfold vR smV
  by_cases hk : k = k'
  · subst hk
    rw [if_pos rfl]
    by_cases e1 : k = 1
    · subst e1
      rw [if_pos rfl]
      go_enter Tryd.func14, Tryd.ntmps14
      go_wp2
      go_ret
      exact ⟨rfl, two_below w _ _⟩
    by_cases e2 : k = 2
    · subst e2
      rw [if_neg (by decide), if_pos rfl]
      go_enter Tryd.func14, Tryd.ntmps14
      go_wp2
      go_ret
      exact ⟨rfl, two_below w _ _⟩
    by_cases e3 : k = 3
    · subst e3
      rw [if_neg (by decide), if_neg (by decide), if_pos rfl]
      go_enter Tryd.func14, Tryd.ntmps14
      go_wp2
      go_ret
      exact ⟨rfl, two_below w _ _⟩
    by_cases e4 : k = 4
    · subst e4
      rw [if_neg (by decide), if_neg (by decide), if_neg (by decide), if_pos rfl]
      have hs := sreal_any x x' hx hx'
      generalize smR x x' = t at *
      go_enter Tryd.func14, Tryd.ntmps14
      go_wp2_with (go_at_call 32; refine (hs _).mono ?_; rintro e w' ⟨rfl, rfl⟩)
      go_ret
      exact ⟨rfl, two_below w _ _⟩
    have b1 : (k == 1) = false := beq_eq_false_iff_ne.2 e1
    have b2 : (k == 2) = false := beq_eq_false_iff_ne.2 e2
    have b3 : (k == 3) = false := beq_eq_false_iff_ne.2 e3
    have b4 : (k == 4) = false := beq_eq_false_iff_ne.2 e4
    by_cases e5 : k = 5
    · subst e5
      rw [if_neg (by decide), if_neg (by decide), if_neg (by decide), if_neg (by decide), if_pos rfl]
      go_enter Tryd.func14, Tryd.ntmps14
      go_wp2
      go_ret
      exact ⟨rfl, two_below w _ _⟩
    have b5 : (k == 5) = false := beq_eq_false_iff_ne.2 e5
    rw [if_neg e1, if_neg e2, if_neg e3, if_neg e4, if_neg e5]
    clear e1 e2 e3 e4 e5
    go_enter Tryd.func14, Tryd.ntmps14
    go_wp2
    go_ret
    exact ⟨rfl, two_below w _ _⟩
  · rw [if_neg hk]
    have hb : (k == k') = false := beq_eq_false_iff_ne.2 hk
    have hb2 : (k != k') = true := by rw [bne, hb]; rfl
    clear hk
    go_enter Tryd.func14, Tryd.ntmps14
    go_wp2
    go_ret
    exact ⟨rfl, two_below w _ _⟩
set_option maxRecDepth 100000 in
set_option maxHeartbeats 2000000 in
theorem rsame4 (b : Bool) (i : Int) (x : Nat) (l : List UInt8) (b' : Bool) (i' : Int) (x' : Nat) (l' : List UInt8) (w : World) :
    Calls Tryd.prog 15 #[.agg #[.int .i64 4, .bool b, .int .i64 i, .float .f64 x, .string ⟨l.toArray⟩], .agg #[.int .i64 4, .bool b', .int .i64 i', .float .f64 x', .string ⟨l'.toArray⟩]] w fun e w' => e = .returned (.bool (smR x x')) ∧ Below w.heap.size w w' := by
  have HV : Hid (smR x x' = (((FloatKind.f64.format.order x x != some .eq) && (FloatKind.f64.format.order x' x' != some .eq)) || ((FloatKind.f64.format.order x x' == some .eq) && (belB x == belB x')))) := rfl
  generalize smR x x' = t at *
  cases h1 : (FloatKind.f64.format.order x x != some .eq) with
  | true =>
    cases h2 : (FloatKind.f64.format.order x' x' != some .eq) with
    | true =>
      rw [h1, h2] at HV
      go_enter Tryd.func15, Tryd.ntmps15
      go_wp2
      go_quiet (fail)
      go_wp2
      go_ret
      exact ⟨ret_bool (by rw [HV.out]; rfl), below_drewN (two_below w _ _) _⟩
    | false =>
      cases h3 : (FloatKind.f64.format.order x x' == some .eq) with
      | true =>
        rw [h1, h2, h3] at HV
        go_enter Tryd.func15, Tryd.ntmps15
        go_wp2
        go_quiet (exact Calls.quiet_of_same (below_any _ _))
        go_wp2
        go_ret
        exact ⟨ret_bool (by rw [HV.out]; simp), below_drewN (two_below w _ _) _⟩
      | false =>
        rw [h1, h2, h3] at HV
        go_enter Tryd.func15, Tryd.ntmps15
        go_wp2
        go_quiet (fail)
        go_wp2
        go_ret
        exact ⟨ret_bool (by rw [HV.out]; rfl), below_drewN (two_below w _ _) _⟩
  | false =>
    cases h3 : (FloatKind.f64.format.order x x' == some .eq) with
    | true =>
      rw [h1, h3] at HV
      go_enter Tryd.func15, Tryd.ntmps15
      go_wp2
      go_quiet (exact Calls.quiet_of_same (below_any _ _))
      go_wp2
      go_ret
      exact ⟨ret_bool (by rw [HV.out]; simp), below_drewN (two_below w _ _) _⟩
    | false =>
      rw [h1, h3] at HV
      go_enter Tryd.func15, Tryd.ntmps15
      go_wp2
      go_quiet (fail)
      go_wp2
      go_ret
      exact ⟨ret_bool (by rw [HV.out]; rfl), below_drewN (two_below w _ _) _⟩
set_option maxRecDepth 100000 in
theorem same15 (k : Int) (b : Bool) (i : Int) (x : Nat) (l : List UInt8) (k' : Int) (b' : Bool) (i' : Int) (x' : Nat) (l' : List UInt8) (hx : x < 18446744073709551616) (hx' : x' < 18446744073709551616) (w : World) :
    Calls Tryd.prog 15 #[.agg (vR k b i x l), .agg (vR k' b' i' x' l')] w fun e w' => e = .returned (.bool (smV k b i x l k' b' i' x' l')) ∧ Below w.heap.size w w' := by
  unfold vR smV
  by_cases hk : k = k'
  · subst hk
    rw [if_pos rfl]
    by_cases e1 : k = 1
    · subst e1
      rw [if_pos rfl]
      go_enter Tryd.func15, Tryd.ntmps15
      go_wp2
      go_ret
      exact ⟨rfl, two_below w _ _⟩
    by_cases e2 : k = 2
    · subst e2
      rw [if_neg (by decide), if_pos rfl]
      go_enter Tryd.func15, Tryd.ntmps15
      go_wp2
      go_ret
      exact ⟨rfl, two_below w _ _⟩
    by_cases e3 : k = 3
    · subst e3
      rw [if_neg (by decide), if_neg (by decide), if_pos rfl]
      go_enter Tryd.func15, Tryd.ntmps15
      go_wp2
      go_ret
      exact ⟨rfl, two_below w _ _⟩
    by_cases e4 : k = 4
    · subst e4
      rw [if_neg (by decide), if_neg (by decide), if_neg (by decide), if_pos rfl]
      exact rsame4 b i x l b' i' x' l' w
    have b1 : (k == 1) = false := beq_eq_false_iff_ne.2 e1
    have b2 : (k == 2) = false := beq_eq_false_iff_ne.2 e2
    have b3 : (k == 3) = false := beq_eq_false_iff_ne.2 e3
    have b4 : (k == 4) = false := beq_eq_false_iff_ne.2 e4
    by_cases e5 : k = 5
    · subst e5
      rw [if_neg (by decide), if_neg (by decide), if_neg (by decide), if_neg (by decide), if_pos rfl]
      go_enter Tryd.func15, Tryd.ntmps15
      go_wp2
      go_ret
      exact ⟨rfl, two_below w _ _⟩
    have b5 : (k == 5) = false := beq_eq_false_iff_ne.2 e5
    rw [if_neg e1, if_neg e2, if_neg e3, if_neg e4, if_neg e5]
    clear e1 e2 e3 e4 e5
    go_enter Tryd.func15, Tryd.ntmps15
    go_wp2
    go_ret
    exact ⟨rfl, two_below w _ _⟩
  · rw [if_neg hk]
    have hb : (k == k') = false := beq_eq_false_iff_ne.2 hk
    have hb2 : (k != k') = true := by rw [bne, hb]; rfl
    clear hk
    go_enter Tryd.func15, Tryd.ntmps15
    go_wp2
    go_ret
    exact ⟨rfl, two_below w _ _⟩
theorem heap_alloc_size (w : World) (o : Obj) : (w.alloc o).heap.size = w.heap.size + 1 := by simp
set_option maxRecDepth 100000 in
theorem own_any (k : Int) (b : Bool) (i : Int) (x : Nat) (l : List UInt8) (w : World) :
    Calls Tryd.prog 12 #[.agg (vR k b i x l)] w fun e w' => e = .returned (.agg (vR k b i x l)) ∧ Below w.heap.size w w' := by
  unfold vR
  have st := st_float
  go_enter Tryd.func12, Tryd.ntmps12
  go_wp2
  refine bodyPost_ret (res25 rfl _ _ (w.heap.size + 1) _ rfl (by rw [← heap_alloc_size w _]; exact heap_alloc_new _ _) rfl) rfl ?_
  exact ⟨rfl, two_below w _ _⟩
end Go.Proofs.YthfmepnlbaifcaaDoor
