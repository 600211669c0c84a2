/-
  intOf and realOf.
-/
import Derived.Test.YthfmepnlbaifcaaDoorSr
namespace Go.Proofs.YthfmepnlbaifcaaDoor
open Go.RowKit
set_option linter.unusedVariables false
set_option linter.unusedSimpArgs false
theorem res25 {fn : Func} {p : Tmp} (h : fn.results = #[.cell p 25]) (tmps : Array Value) (W : World) (g : Nat) (cs : Array Value) (hp : tmps.getD p undef = .pointer (some ⟨g, 0, none⟩)) (hg : W.heap[g]? = some (.cells cs 25 (0, 0))) (hc : cs.size = 5) :
    (results fn tmps).run Tryd.prog W = .ok (.agg cs) W := by
  have hu : (match Tryd.prog.underlying 25 with | some (.struct _) => true | _ => false) = true := by kernel_rfl
  rcases hd : Tryd.prog.underlying 25 with _ | d
  · rw [hd] at hu; cases hu
  · rw [hd] at hu
    have hi : (Tryd.prog.info? 25).map (·.size) = some 5 := by kernel_rfl
    refine results_cell_row h tmps W g 25 cs (0, 0) d hp hg hd ?_ (by rw [hc]; exact hi)
    cases d <;> first | rfl | (cases hu)
/-- one variable of five cells behind a call that leaves what was there -/
theorem aft5 {w W : World} {x0 x1 x2 x3 x4 : Value} {t : TypeId} (hb : Below (w.alloc (.cells #[x0, x1, x2, x3, x4] t)).heap.size (w.alloc (.cells #[x0, x1, x2, x3, x4] t)) W) :
    (W.heap[w.heap.size]? = some (.cells #[x0, x1, x2, x3, x4] t (0, 0)) ∧ Below w.heap.size w W) ∧
    (W.cell? ⟨w.heap.size, 0, none⟩ = some x0 ∧ W.frozen? ⟨w.heap.size, 0, none⟩ = false) ∧
    (W.cell? ⟨w.heap.size, 1, none⟩ = some x1 ∧ W.frozen? ⟨w.heap.size, 1, none⟩ = false) ∧
    (W.cell? ⟨w.heap.size, 2, none⟩ = some x2 ∧ W.frozen? ⟨w.heap.size, 2, none⟩ = false) ∧
    (W.cell? ⟨w.heap.size, 3, none⟩ = some x3 ∧ W.frozen? ⟨w.heap.size, 3, none⟩ = false) ∧
    (W.cell? ⟨w.heap.size, 4, none⟩ = some x4 ∧ W.frozen? ⟨w.heap.size, 4, none⟩ = false) := by
  have hsz : (w.alloc (.cells #[x0, x1, x2, x3, x4] t)).heap.size = w.heap.size + 1 := by simp
  have h1 : W.heap[w.heap.size]? = some (.cells #[x0, x1, x2, x3, x4] t (0, 0)) := (hb.block _ (by omega)).trans (heap_alloc_new w _)
  refine ⟨⟨h1, ?_⟩, ?_⟩
  · exact ((Below.refl _ w).alloc (Nat.le_refl _) _).trans (hb.mono (by omega))
  · refine ⟨⟨?_, ?_⟩, ⟨?_, ?_⟩, ⟨?_, ?_⟩, ⟨?_, ?_⟩, ⟨?_, ?_⟩⟩ <;> simp [World.cell?, World.frozen?, h1]
theorem cell_alloc {w : World} {p : Addr} {u : Value} (h : w.cell? p = some u) (o : Obj) : (w.alloc o).cell? p = some u := cell_of_below ((Below.refl _ w).alloc (Nat.le_refl _) o) h
/-- the errors' variable is there -/
def Errs (w : World) : Prop := ∃ te pe, w.cell? ⟨3, 0, none⟩ = some (.iface te pe)
theorem Errs.below {w W : World} (h : Errs w) (hb : Below w.heap.size w W) : Errs W := by
  obtain ⟨te, pe, h⟩ := h
  exact ⟨te, pe, cell_of_below hb h⟩
theorem Errs.alloc {w : World} (h : Errs w) (o : Obj) : Errs (w.alloc o) := h.below ((Below.refl _ w).alloc (Nat.le_refl _) o)
/-- what intOf answers -/
def intA : Option Int → Array Value
  | some i => vR 3 false i 0 []
  | none => vR 5 false 0 0 []
def realA : Option Nat → Array Value
  | some x => vR 4 false 0 x []
  | none => vR 5 false 0 0 []
theorem parse_ok (l : List UInt8) (i : Int) (h : Lib.parseIntB 64 l = .ok i) (w : World) (hs : l.length ≤ 2 ^ 47) :
    Calls Tryd.prog 59 #[.string ⟨l.toArray⟩, .int .i64 10, .int .i64 64] w fun e w' => e = .returned (.tuple #[.int .i64 i, .nilIface]) ∧ Below w.heap.size w w' := by
  have hz : (ByteArray.mk l.toArray).size = l.length := rfl
  refine (Tryd.strconv_ParseInt_10_at64_ok ⟨l.toArray⟩ (by omega) i h w).mono ?_
  rintro e w' ⟨rfl, rfl | ⟨t, rfl⟩⟩
  · exact ⟨rfl, Below.refl _ _⟩
  · exact ⟨rfl, Lib.bytesWorld_below _ _ _⟩
theorem parse_rg (l : List UInt8) (h : Lib.parseIntB 64 l = .range) (w : World) (hs : l.length ≤ 2 ^ 47) (hE : Errs w) :
    Calls Tryd.prog 59 #[.string ⟨l.toArray⟩, .int .i64 10, .int .i64 64] w fun e w' => (∃ i N, e = .returned (.tuple #[.int .i64 i, .iface 124 (.pointer (some ⟨N, 0, none⟩))])) ∧ Below w.heap.size w w' := by
  have hz : (ByteArray.mk l.toArray).size = l.length := rfl
  obtain ⟨te, pe, hc⟩ := hE
  refine (Tryd.strconv_ParseInt_10_at64_range ⟨l.toArray⟩ (by omega) h _ w hc (.inr ⟨te, pe, rfl⟩)).mono ?_
  rintro e w' ⟨N, rfl, h1, h2, h3⟩
  exact ⟨⟨_, _, rfl⟩, h3⟩
theorem parseu_ok (l : List UInt8) (u : Nat) (v : Int) (hv : (u : Int) = v) (h : Lib.parseUintB 64 l = .ok u) (w : World) (hs : l.length ≤ 2 ^ 48) :
    Calls Tryd.prog 60 #[.string ⟨l.toArray⟩, .int .i64 10, .int .i64 64] w fun e w' => e = .returned (.tuple #[.int .u64 v, .nilIface]) ∧ Below w.heap.size w w' := by
  subst hv
  have hz : (ByteArray.mk l.toArray).size = l.length := rfl
  refine (Tryd.strconv_ParseUint_10_at64_ok ⟨l.toArray⟩ (by omega) u h w).mono ?_
  rintro e w' ⟨rfl, rfl | rfl⟩
  · exact ⟨rfl, Below.refl _ _⟩
  · exact ⟨rfl, Lib.bytesWorld_below _ _ _⟩
theorem parseu_rg (l : List UInt8) (h : Lib.parseUintB 64 l = .range) (w : World) (hs : l.length ≤ 2 ^ 48) (hE : Errs w) :
    Calls Tryd.prog 60 #[.string ⟨l.toArray⟩, .int .i64 10, .int .i64 64] w fun e w' => (∃ i N, e = .returned (.tuple #[.int .u64 i, .iface 124 (.pointer (some ⟨N, 0, none⟩))])) ∧ Below w.heap.size w w' := by
  have hz : (ByteArray.mk l.toArray).size = l.length := rfl
  obtain ⟨te, pe, hc⟩ := hE
  refine (Tryd.strconv_ParseUint_10_at64_range ⟨l.toArray⟩ (by omega) h _ w hc (.inr ⟨te, pe, rfl⟩)).mono ?_
  rintro e w' ⟨N, rfl, h1, h2, h3⟩
  exact ⟨⟨_, _, rfl⟩, h3⟩
theorem intOf_any (l : List UInt8) (n : Nm) (hsh : ShI l n) (w : World) (hs : l.length ≤ 2 ^ 47) (hE : Errs w) :
    Calls Tryd.prog 38 #[.string ⟨l.toArray⟩] w fun e w' => e = .returned (.agg (intA (intV n))) ∧ Below w.heap.size w w' := by
  have hp := parseI hsh
  have st := st_float
  rcases hv : intV n with _ | i
  · rw [hv] at hp
    have hp : Lib.parseIntB 64 l = .range := hp
    go_enter Tryd.func38, Tryd.ntmps38
    go_wp2_with (go_at_call 59; refine (parse_rg l hp _ hs (hE.alloc _)).mono ?_; rintro e w' ⟨⟨i, N, rfl⟩, hb⟩; obtain ⟨HB, ⟨c0, f0⟩, ⟨c1, f1⟩, ⟨c2, f2⟩, ⟨c3, f3⟩, ⟨c4, f4⟩⟩ := aft5 hb; have HB := hide2 HB; clear hb)
    refine bodyPost_ret (res25 rfl _ _ w.heap.size _ rfl (set5 HB.out.1 _ _ _ _ _) rfl) rfl ?_
    exact ⟨rfl, set5_below HB.out.2 (Nat.le_refl _) _ _ _ _ _⟩
  · rw [hv] at hp
    have hp : Lib.parseIntB 64 l = .ok i := hp
    go_enter Tryd.func38, Tryd.ntmps38
    go_wp2_with (go_at_call 59; refine (parse_ok l i hp _ hs).mono ?_; rintro e w' ⟨rfl, hb⟩; obtain ⟨HB, ⟨c0, f0⟩, ⟨c1, f1⟩, ⟨c2, f2⟩, ⟨c3, f3⟩, ⟨c4, f4⟩⟩ := aft5 hb; have HB := hide2 HB; clear hb)
    refine bodyPost_ret (res25 rfl _ _ w.heap.size _ rfl (set5 HB.out.1 _ _ _ _ _) rfl) rfl ?_
    exact ⟨rfl, set5_below HB.out.2 (Nat.le_refl _) _ _ _ _ _⟩
/-- two variables, of four and of five cells, behind a call that leaves what was there -/
theorem aft45 {w W : World} {y0 y1 y2 y3 x0 x1 x2 x3 x4 : Value} {t s : TypeId} (hb : Below ((w.alloc (.cells #[y0, y1, y2, y3] s)).alloc (.cells #[x0, x1, x2, x3, x4] t)).heap.size ((w.alloc (.cells #[y0, y1, y2, y3] s)).alloc (.cells #[x0, x1, x2, x3, x4] t)) W) :
    (W.heap[w.heap.size + 1]? = some (.cells #[x0, x1, x2, x3, x4] t (0, 0)) ∧ Below w.heap.size w W) ∧
    (W.cell? ⟨w.heap.size, 0, none⟩ = some y0) ∧
    (W.cell? ⟨w.heap.size, 1, none⟩ = some y1) ∧
    (W.cell? ⟨w.heap.size, 2, none⟩ = some y2) ∧
    (W.cell? ⟨w.heap.size, 3, none⟩ = some y3) ∧
    (W.cell? ⟨w.heap.size + 1, 0, none⟩ = some x0 ∧ W.frozen? ⟨w.heap.size + 1, 0, none⟩ = false) ∧
    (W.cell? ⟨w.heap.size + 1, 1, none⟩ = some x1 ∧ W.frozen? ⟨w.heap.size + 1, 1, none⟩ = false) ∧
    (W.cell? ⟨w.heap.size + 1, 2, none⟩ = some x2 ∧ W.frozen? ⟨w.heap.size + 1, 2, none⟩ = false) ∧
    (W.cell? ⟨w.heap.size + 1, 3, none⟩ = some x3 ∧ W.frozen? ⟨w.heap.size + 1, 3, none⟩ = false) ∧
    (W.cell? ⟨w.heap.size + 1, 4, none⟩ = some x4 ∧ W.frozen? ⟨w.heap.size + 1, 4, none⟩ = false) := by
  have hsz : ((w.alloc (.cells #[y0, y1, y2, y3] s)).alloc (.cells #[x0, x1, x2, x3, x4] t)).heap.size = w.heap.size + 2 := by simp
  have h0 : W.heap[w.heap.size]? = some (.cells #[y0, y1, y2, y3] s (0, 0)) := (hb.block _ (by omega)).trans (heap_alloc2_old w _ _)
  have h1 : W.heap[w.heap.size + 1]? = some (.cells #[x0, x1, x2, x3, x4] t (0, 0)) := (hb.block _ (by omega)).trans (heap_alloc2_new w _ _)
  refine ⟨⟨h1, ?_⟩, ?_⟩
  · exact (((Below.refl _ w).alloc (Nat.le_refl _) _).alloc (by simp) _).trans (hb.mono (by omega))
  · refine ⟨?_, ?_, ?_, ?_, ⟨?_, ?_⟩, ⟨?_, ?_⟩, ⟨?_, ?_⟩, ⟨?_, ?_⟩, ⟨?_, ?_⟩⟩ <;> simp [World.cell?, World.frozen?, h0, h1]
theorem Scaled_at (V : Int) (k : Int) (m : Nat) (hV : (m : Int) = V) (x : Nat) (hx : scF m k = x) (h : m < 1000000000000000 ∧ -22 ≤ k ∧ k ≤ 22) (w : World) :
    Calls Tryd.prog 17 #[.int .u64 V, .int .i64 k] w fun e w' => e = .returned (.tuple #[.float .f64 x, .int .i64 0]) ∧ w' = w := by
  subst hV hx
  have := Scaled_any m k w (by omega)
  rwa [scE, if_pos h] at this
theorem Scaled_no (V : Int) (k : Int) (m : Nat) (hV : (m : Int) = V) (hm : m < 18446744073709551616) (h : ¬ (m < 1000000000000000 ∧ -22 ≤ k ∧ k ≤ 22)) (w : World) :
    Calls Tryd.prog 17 #[.int .u64 V, .int .i64 k] w fun e w' => e = .returned (.tuple #[.float .f64 0, .int .i64 2]) ∧ w' = w := by
  subst hV
  have := Scaled_any m k w hm
  rwa [scE, if_neg h] at this
theorem realOf_rg (m : Bool) (a b : List UInt8) (k : Int) (w : World) (hk0 : -99 ≤ k) (hk1 : k ≤ 99) (hsa : a.length ≤ 2 ^ 47) (hsb : b.length ≤ 2 ^ 47) (A : List UInt8) (hA : a ++ b = A) (hsA : A.length ≤ 2 ^ 48) (hE : Errs w) (h60 : Lib.parseUintB 64 A = .range) :
    Calls Tryd.prog 39 #[.agg #[.bool m, .string ⟨a.toArray⟩, .string ⟨b.toArray⟩, .int .i64 k]] w fun e w' => e = .returned (.agg (realA none)) ∧ Below w.heap.size w w' := by
  have st := st_float
  have HE := hide2 ((hE.alloc (.cells #[.bool m, .string ⟨a.toArray⟩, .string ⟨b.toArray⟩, .int .i64 k] 69)).alloc (.cells #[.int .i64 0, .bool false, .int .i64 0, .float .f64 0, .string ⟨#[]⟩] 25))
  clear hE
  have hAA : (ByteArray.mk a.toArray) ++ ⟨b.toArray⟩ = ⟨A.toArray⟩ := by rw [mk_append, hA]
  go_enter Tryd.func39, Tryd.ntmps39
  go_wp2_with (first
    | (go_at_call 60; (try rw [hAA]); refine (parseu_rg A h60 _ hsA HE.out).mono ?_; rintro e w' ⟨⟨i, N, rfl⟩, hb⟩; obtain ⟨HB, d0, d1, d2, d3, ⟨c0, f0⟩, ⟨c1, f1⟩, ⟨c2, f2⟩, ⟨c3, f3⟩, ⟨c4, f4⟩⟩ := aft45 hb; have HB := hide2 HB; clear hb))
  refine bodyPost_ret (res25 rfl _ _ (w.heap.size + 1) _ rfl (set5 HB.out.1 _ _ _ _ _) rfl) rfl ?_
  exact ⟨rfl, set5_below HB.out.2 (by omega) _ _ _ _ _⟩
theorem realOf_no (m : Bool) (a b : List UInt8) (k : Int) (w : World) (hk0 : -99 ≤ k) (hk1 : k ≤ 99) (hsa : a.length ≤ 2 ^ 47) (hsb : b.length ≤ 2 ^ 47) (A : List UInt8) (hA : a ++ b = A) (hsA : A.length ≤ 2 ^ 48) (hE : Errs w) (u : Nat) (h60 : Lib.parseUintB 64 A = .ok u) (V : Int) (hV : (u : Int) = V) (hV0 : 0 ≤ V) (hV9 : V ≤ 18446744073709551615) (hu : u < 18446744073709551616) (j : Int) (hj : k - (b.length : Int) = j) (h17 : ¬ (u < 1000000000000000 ∧ -22 ≤ j ∧ j ≤ 22)) :
    Calls Tryd.prog 39 #[.agg #[.bool m, .string ⟨a.toArray⟩, .string ⟨b.toArray⟩, .int .i64 k]] w fun e w' => e = .returned (.agg (realA none)) ∧ Below w.heap.size w w' := by
  have st := st_float
  have HE := hide2 ((hE.alloc (.cells #[.bool m, .string ⟨a.toArray⟩, .string ⟨b.toArray⟩, .int .i64 k] 69)).alloc (.cells #[.int .i64 0, .bool false, .int .i64 0, .float .f64 0, .string ⟨#[]⟩] 25))
  clear hE
  have hAA : (ByteArray.mk a.toArray) ++ ⟨b.toArray⟩ = ⟨A.toArray⟩ := by rw [mk_append, hA]
  go_enter Tryd.func39, Tryd.ntmps39
  go_wp2_with (first
    | (go_at_call 60; (try rw [hAA]); refine (parseu_ok A u V hV h60 _ hsA).mono ?_; rintro e w' ⟨rfl, hb⟩; obtain ⟨HB, d0, d1, d2, d3, ⟨c0, f0⟩, ⟨c1, f1⟩, ⟨c2, f2⟩, ⟨c3, f3⟩, ⟨c4, f4⟩⟩ := aft45 hb; have HB := hide2 HB; clear hb)
    | (go_at_call 17; (try rw [hj]); refine (Scaled_no V j u hV hu h17 _).mono ?_; rintro e w' ⟨rfl, rfl⟩))
  refine bodyPost_ret (res25 rfl _ _ (w.heap.size + 1) _ rfl (set5 HB.out.1 _ _ _ _ _) rfl) rfl ?_
  exact ⟨rfl, set5_below HB.out.2 (by omega) _ _ _ _ _⟩
theorem realOf_okm (m : Bool) (a b : List UInt8) (k : Int) (w : World) (hk0 : -99 ≤ k) (hk1 : k ≤ 99) (hsa : a.length ≤ 2 ^ 47) (hsb : b.length ≤ 2 ^ 47) (A : List UInt8) (hA : a ++ b = A) (hsA : A.length ≤ 2 ^ 48) (hE : Errs w) (u : Nat) (h60 : Lib.parseUintB 64 A = .ok u) (V : Int) (hV : (u : Int) = V) (hV0 : 0 ≤ V) (hV9 : V ≤ 18446744073709551615) (j : Int) (hj : k - (b.length : Int) = j) (h17 : u < 1000000000000000 ∧ -22 ≤ j ∧ j ≤ 22) (x : Nat) (hx : scF u j = x) :
    Calls Tryd.prog 39 #[.agg #[.bool true, .string ⟨a.toArray⟩, .string ⟨b.toArray⟩, .int .i64 k]] w fun e w' => e = .returned (.agg (realA (some (Op.negFloat .f64 x)))) ∧ Below w.heap.size w w' := by
  have st := st_float
  have HE := hide2 ((hE.alloc (.cells #[.bool true, .string ⟨a.toArray⟩, .string ⟨b.toArray⟩, .int .i64 k] 69)).alloc (.cells #[.int .i64 0, .bool false, .int .i64 0, .float .f64 0, .string ⟨#[]⟩] 25))
  clear hE
  have hAA : (ByteArray.mk a.toArray) ++ ⟨b.toArray⟩ = ⟨A.toArray⟩ := by rw [mk_append, hA]
  go_enter Tryd.func39, Tryd.ntmps39
  go_wp2_with (first
    | (go_at_call 60; (try rw [hAA]); refine (parseu_ok A u V hV h60 _ hsA).mono ?_; rintro e w' ⟨rfl, hb⟩; obtain ⟨HB, d0, d1, d2, d3, ⟨c0, f0⟩, ⟨c1, f1⟩, ⟨c2, f2⟩, ⟨c3, f3⟩, ⟨c4, f4⟩⟩ := aft45 hb; have HB := hide2 HB; clear hb)
    | (go_at_call 17; (try rw [hj]); refine (Scaled_at V j u hV x hx h17 _).mono ?_; rintro e w' ⟨rfl, rfl⟩))
  rw [neg_run]
  go_wp2
  refine bodyPost_ret (res25 rfl _ _ (w.heap.size + 1) _ rfl (set5 HB.out.1 _ _ _ _ _) rfl) rfl ?_
  exact ⟨rfl, set5_below HB.out.2 (by omega) _ _ _ _ _⟩
theorem realOf_okp (m : Bool) (a b : List UInt8) (k : Int) (w : World) (hk0 : -99 ≤ k) (hk1 : k ≤ 99) (hsa : a.length ≤ 2 ^ 47) (hsb : b.length ≤ 2 ^ 47) (A : List UInt8) (hA : a ++ b = A) (hsA : A.length ≤ 2 ^ 48) (hE : Errs w) (u : Nat) (h60 : Lib.parseUintB 64 A = .ok u) (V : Int) (hV : (u : Int) = V) (hV0 : 0 ≤ V) (hV9 : V ≤ 18446744073709551615) (j : Int) (hj : k - (b.length : Int) = j) (h17 : u < 1000000000000000 ∧ -22 ≤ j ∧ j ≤ 22) (x : Nat) (hx : scF u j = x) :
    Calls Tryd.prog 39 #[.agg #[.bool false, .string ⟨a.toArray⟩, .string ⟨b.toArray⟩, .int .i64 k]] w fun e w' => e = .returned (.agg (realA (some x))) ∧ Below w.heap.size w w' := by
  have st := st_float
  have HE := hide2 ((hE.alloc (.cells #[.bool false, .string ⟨a.toArray⟩, .string ⟨b.toArray⟩, .int .i64 k] 69)).alloc (.cells #[.int .i64 0, .bool false, .int .i64 0, .float .f64 0, .string ⟨#[]⟩] 25))
  clear hE
  have hAA : (ByteArray.mk a.toArray) ++ ⟨b.toArray⟩ = ⟨A.toArray⟩ := by rw [mk_append, hA]
  go_enter Tryd.func39, Tryd.ntmps39
  go_wp2_with (first
    | (go_at_call 60; (try rw [hAA]); refine (parseu_ok A u V hV h60 _ hsA).mono ?_; rintro e w' ⟨rfl, hb⟩; obtain ⟨HB, d0, d1, d2, d3, ⟨c0, f0⟩, ⟨c1, f1⟩, ⟨c2, f2⟩, ⟨c3, f3⟩, ⟨c4, f4⟩⟩ := aft45 hb; have HB := hide2 HB; clear hb)
    | (go_at_call 17; (try rw [hj]); refine (Scaled_at V j u hV x hx h17 _).mono ?_; rintro e w' ⟨rfl, rfl⟩))
  refine bodyPost_ret (res25 rfl _ _ (w.heap.size + 1) _ rfl (set5 HB.out.1 _ _ _ _ _) rfl) rfl ?_
  exact ⟨rfl, set5_below HB.out.2 (by omega) _ _ _ _ _⟩
theorem realOf_any (l : List UInt8) (n : Nm) (hsh : ShR l n) (w : World) (hs : l.length ≤ 2 ^ 47) (hE : Errs w) :
    Calls Tryd.prog 39 #[.agg (nmV (some n))] w fun e w' => e = .returned (.agg (realA (realV n))) ∧ Below w.heap.size w w' := by
  obtain ⟨m, a, b, k⟩ := n
  obtain ⟨h1, h2, h3, h4⟩ := hsh
  simp only at h1 h2 h3 h4
  have hd := dgs_append h2 h3
  have hp := parseU hd
  have hul := unM_len l hs
  have hlen : a.length + b.length ≤ 2 ^ 47 := by
    rcases h4 with ⟨e, _⟩ | ⟨p, e, _⟩
    · rw [e] at hul; simp at hul; omega
    · rw [e] at hul; simp at hul; omega
  have hk : -99 ≤ k ∧ k ≤ 99 := by
    rcases h4 with ⟨_, rfl⟩ | ⟨p, _, e, rfl⟩
    · omega
    · exact powV_bd e
  show Calls Tryd.prog 39 #[.agg #[.bool m, .string ⟨a.toArray⟩, .string ⟨b.toArray⟩, .int .i64 k]] w fun e w' => e = .returned (.agg (realA (realV ⟨m, a, b, k⟩))) ∧ Below w.heap.size w w'
  by_cases hv : val (a ++ b) ≤ 18446744073709551615
  · rw [if_pos hv] at hp
    by_cases h17 : val (a ++ b) < 1000000000000000 ∧ -22 ≤ k - (b.length : Int) ∧ k - (b.length : Int) ≤ 22
    · rw [realV, if_pos h17]
      cases m with
      | true => exact realOf_okm true a b k w hk.1 hk.2 (by omega) (by omega) _ rfl (by simp; omega) hE _ hp _ rfl (by omega) (by omega) _ rfl h17 _ rfl
      | false => exact realOf_okp false a b k w hk.1 hk.2 (by omega) (by omega) _ rfl (by simp; omega) hE _ hp _ rfl (by omega) (by omega) _ rfl h17 _ rfl
    · rw [realV, if_neg h17]
      exact realOf_no m a b k w hk.1 hk.2 (by omega) (by omega) _ rfl (by simp; omega) hE _ hp _ rfl (by omega) (by omega) (by omega) _ rfl h17
  · rw [if_neg hv] at hp
    rw [realV, if_neg (by simp only; omega)]
    exact realOf_rg m a b k w hk.1 hk.2 (by omega) (by omega) _ rfl (by simp; omega) hE hp
end Go.Proofs.YthfmepnlbaifcaaDoor
