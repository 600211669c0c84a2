import Derived.Test.YthfmepnlbaifcaaDoorBndC
import Derived.Deep.DeepCutAuto
import Derived.Test.YthfmepnlbaifcaaDoorOpv
import Derived.Test.YthfmepnlbaifcaaDoorCards
import Derived.Test.YthfmepnlbaifcaaDoorTie
import Derived.SevenTiedAt
/-
  The walk of ScalarPrints.
-/
namespace Go.Proofs.YthfmepnlbaifcaaDoor
open Go.RowKit Ieee
set_option linter.unusedVariables false
set_option linter.unusedSimpArgs false
/-- the law's own copies of both values, in a world that has only grown -/
structure Bx (A B : Array Value) (w W : World) : Prop where
  a : W.heap[w.heap.size]? = some (.cells A 27 (0, 0))
  b : W.heap[w.heap.size + 1]? = some (.cells B 27 (0, 0))
  below : Below w.heap.size w W
  errs : Errs W
  tab : T10 W
theorem Bx.step {A B : Array Value} {w W W' : World} (h : Bx A B w W) (hb : Below W.heap.size W W') : Bx A B w W' :=
  ⟨hb.cells h.a, hb.cells h.b, h.below.trans (hb.mono h.below.size), h.errs.below hb, h.tab.below hb⟩
theorem Bx.drewN {A B : Array Value} {w W : World} (h : Bx A B w W) (n : Nat) : Bx A B w (W.drewN n) :=
  ⟨h.a, h.b, below_drewN h.below n, h.errs, h.tab.drewN n⟩
theorem Bx.stepD {A B : Array Value} {w W W' : World} {n : Nat} (h : Bx A B w W) (hb : Below (W.drewN n).heap.size (W.drewN n) W') : Bx A B w W' := (h.drewN n).step hb
theorem Bx.start {A B : Array Value} {w : World} (hE : Errs w) (hT : T10 w) : Bx A B w ((w.alloc (.cells A 27)).alloc (.cells B 27)) := by
  refine ⟨?_, ?_, two_below w _ _, (hE.alloc _).alloc _, (hT.alloc _).alloc _⟩
  · rw [Go.heap_alloc_old _ _ (by rw [heap_alloc_size]; omega)]
    exact heap_alloc_new w _
  · rw [← heap_alloc_size w (.cells A 27)]
    exact heap_alloc_new _ _
theorem own_x (k : Int) (b : Bool) (i : Int) (x : Nat) (l : List UInt8) (w : World) :
    Calls Tryd.prog 12 #[.agg #[.int .i64 k, .bool b, .int .i64 i, .float .f64 x, .string ⟨l.toArray⟩]] w fun e w' => e = .returned (.agg #[.int .i64 k, .bool b, .int .i64 i, .float .f64 x, .string ⟨l.toArray⟩]) ∧ Below w.heap.size w w' := own_any k b i x l w
theorem same14x (k : Int) (b : Bool) (i : Int) (x : Nat) (l : List UInt8) (k' : Int) (b' : Bool) (i' : Int) (x' : Nat) (l' : List UInt8) (hx : x < 18446744073709551616) (hx' : x' < 18446744073709551616) (w : World) :
    Calls Tryd.prog 14 #[.agg #[.int .i64 k, .bool b, .int .i64 i, .float .f64 x, .string ⟨l.toArray⟩], .agg #[.int .i64 k', .bool b', .int .i64 i', .float .f64 x', .string ⟨l'.toArray⟩]] w fun e w' => e = .returned (.bool (smV k b i x l k' b' i' x' l')) ∧ Below w.heap.size w w' := same14 k b i x l k' b' i' x' l' hx hx' w
theorem same15x (k : Int) (b : Bool) (i : Int) (x : Nat) (l : List UInt8) (k' : Int) (b' : Bool) (i' : Int) (x' : Nat) (l' : List UInt8) (hx : x < 18446744073709551616) (hx' : x' < 18446744073709551616) (w : World) :
    Calls Tryd.prog 15 #[.agg #[.int .i64 k, .bool b, .int .i64 i, .float .f64 x, .string ⟨l.toArray⟩], .agg #[.int .i64 k', .bool b', .int .i64 i', .float .f64 x', .string ⟨l'.toArray⟩]] w fun e w' => e = .returned (.bool (smV k b i x l k' b' i' x' l')) ∧ Below w.heap.size w w' := same15 k b i x l k' b' i' x' l' hx hx' w
set_option maxRecDepth 100000 in
set_option maxHeartbeats 8000000 in
theorem prints_any (k : Int) (b : Bool) (i : Int) (x : Nat) (l : List UInt8) (k' : Int) (b' : Bool) (i' : Int) (x' : Nat) (l' : List UInt8) (w : World) (hT : T10 w) (hE : Errs w) (hx : x < 18446744073709551616) (hx' : x' < 18446744073709551616) (h0 : -9223372036854775808 ≤ i) (h1 : i ≤ 9223372036854775807) (hs : l.length ≤ 2 ^ 47) :
    Calls Tryd.prog 4 #[.agg #[.int .i64 k, .bool b, .int .i64 i, .float .f64 x, .string ⟨l.toArray⟩], .agg #[.int .i64 k', .bool b', .int .i64 i', .float .f64 x', .string ⟨l'.toArray⟩]] w fun e w' => e = .returned (.bool true) ∧ Below w.heap.size w w' := by
  obtain ⟨d, hd⟩ := decA_ex (rg x)
  have c11 := fun W hT hE => print_any k b i x l d W hT hE hx hd h0 h1 hs
  have c13 := fun W => rprint_any k b i x l d W hx hd h0 h1 hs
  have HX := hide2 hx
  have HX' := hide2 hx'
  unfold vR at c11 c13
  obtain ⟨T, hTe⟩ : ∃ T, prT k b i x l d = T := ⟨_, rfl⟩
  rw [hTe] at c11 c13
  generalize prQ k l = q at *
  generalize prE k x d = z at *
  have HG : Hid (Bx #[.int .i64 k, .bool b, .int .i64 i, .float .f64 x, .string ⟨l.toArray⟩] #[.int .i64 k', .bool b', .int .i64 i', .float .f64 x', .string ⟨l'.toArray⟩] w ((w.alloc (.cells #[.int .i64 k, .bool b, .int .i64 i, .float .f64 x, .string ⟨l.toArray⟩] 27)).alloc (.cells #[.int .i64 k', .bool b', .int .i64 i', .float .f64 x', .string ⟨l'.toArray⟩] 27))) := Bx.start hE hT
  have C11 := hide2 c11
  have C13 := hide2 c13
  clear hd hE hT hx hx' hTe c11 c13
  go_enter Tryd.func4, Tryd.ntmps4
  go_wp2_with (first
    | (go_at_call 12; refine (own_x _ _ _ _ _ _).mono ?_; rintro e w1 ⟨rfl, hb⟩; have HG := hide2 (HG.out.step hb); obtain ⟨⟨a0, f0⟩, ⟨a1, f1⟩, ⟨a2, f2⟩, ⟨a3, f3⟩, ⟨a4, f4⟩⟩ := facts5 HG.out.a; clear hb)
    | (go_at_call 11; refine (C11.out _ HG.out.tab HG.out.errs).mono ?_; rintro e w2 ⟨rfl, hb⟩; have HG := hide2 (HG.out.step hb); obtain ⟨⟨a0, f0⟩, ⟨a1, f1⟩, ⟨a2, f2⟩, ⟨a3, f3⟩, ⟨a4, f4⟩⟩ := facts5 HG.out.a; clear hb)
    | (go_at_call 13; refine (C13.out _).mono ?_; rintro e w3 ⟨rfl, hb⟩; have HG := hide2 (HG.out.step hb); clear hb))
  obtain ⟨⟨a0, -⟩, ⟨a1, -⟩, ⟨a2, -⟩, ⟨a3, -⟩, ⟨a4, -⟩⟩ := facts5 HG.out.a
  obtain ⟨⟨d0, -⟩, ⟨d1, -⟩, ⟨d2, -⟩, ⟨d3, -⟩, ⟨d4, -⟩⟩ := facts5 HG.out.b
  go_region_held3 (fun w' => w'.cell? ⟨w.heap.size, 0, none⟩ = some (.int .i64 k) ∧ w'.cell? ⟨w.heap.size, 1, none⟩ = some (.bool b) ∧ w'.cell? ⟨w.heap.size, 2, none⟩ = some (.int .i64 i) ∧ w'.cell? ⟨w.heap.size, 3, none⟩ = some (.float .f64 x) ∧ w'.cell? ⟨w.heap.size, 4, none⟩ = some (.string ⟨l.toArray⟩) ∧ w'.cell? ⟨w.heap.size + 1, 0, none⟩ = some (.int .i64 k') ∧ w'.cell? ⟨w.heap.size + 1, 1, none⟩ = some (.bool b') ∧ w'.cell? ⟨w.heap.size + 1, 2, none⟩ = some (.int .i64 i') ∧ w'.cell? ⟨w.heap.size + 1, 3, none⟩ = some (.float .f64 x') ∧ w'.cell? ⟨w.heap.size + 1, 4, none⟩ = some (.string ⟨l'.toArray⟩)) (go_keep) (first
    | (go_at_call 12; refine (own_x _ _ _ _ _ _).mono ?_; rintro e w1 ⟨rfl, hb⟩; have HG := hide2 (Bx.step (by first | exact HG.out | exact HG.out.drewN 1 | exact HG.out.drewN 2 | exact HG.out.drewN 3 | exact HG.out.drewN 4) hb); obtain ⟨⟨a0, -⟩, ⟨a1, -⟩, ⟨a2, -⟩, ⟨a3, -⟩, ⟨a4, -⟩⟩ := facts5 HG.out.a; obtain ⟨⟨d0, -⟩, ⟨d1, -⟩, ⟨d2, -⟩, ⟨d3, -⟩, ⟨d4, -⟩⟩ := facts5 HG.out.b; clear hb)
    | (go_at_call 14; refine (same14x _ _ _ _ _ _ _ _ _ _ HX.out (by first | exact HX'.out | exact HX.out) _).mono ?_; rintro e w1 ⟨rfl, hb⟩; have HG := hide2 (Bx.step (by first | exact HG.out | exact HG.out.drewN 1 | exact HG.out.drewN 2 | exact HG.out.drewN 3 | exact HG.out.drewN 4) hb); obtain ⟨⟨a0, -⟩, ⟨a1, -⟩, ⟨a2, -⟩, ⟨a3, -⟩, ⟨a4, -⟩⟩ := facts5 HG.out.a; obtain ⟨⟨d0, -⟩, ⟨d1, -⟩, ⟨d2, -⟩, ⟨d3, -⟩, ⟨d4, -⟩⟩ := facts5 HG.out.b; clear hb)
    | (go_at_call 15; refine (same15x _ _ _ _ _ _ _ _ _ _ HX.out (by first | exact HX'.out | exact HX.out) _).mono ?_; rintro e w1 ⟨rfl, hb⟩; have HG := hide2 (Bx.step (by first | exact HG.out | exact HG.out.drewN 1 | exact HG.out.drewN 2 | exact HG.out.drewN 3 | exact HG.out.drewN 4) hb); obtain ⟨⟨a0, -⟩, ⟨a1, -⟩, ⟨a2, -⟩, ⟨a3, -⟩, ⟨a4, -⟩⟩ := facts5 HG.out.a; obtain ⟨⟨d0, -⟩, ⟨d1, -⟩, ⟨d2, -⟩, ⟨d3, -⟩, ⟨d4, -⟩⟩ := facts5 HG.out.b; clear hb))
  all_goals
    go_wp2
    go_ret
    exact ⟨rfl, HG.out.below⟩
end Go.Proofs.YthfmepnlbaifcaaDoor

/-
  What is printed is read back: without the program's walks.
-/
namespace Go.Proofs.YthfmepnlbaifcaaDoor
open Go.RowKit Ieee
set_option linter.unusedVariables false
set_option linter.unusedSimpArgs false
theorem now_dg {b : List UInt8} {c : UInt8} (h : b.head? = some c) (hc : dg c = true) : NoW b ∧ NoW (45 :: b) := by
  cases b with
  | nil => cases h
  | cons a r =>
    have : a = c := Option.some.inj h
    subst this
    have e : ∀ v : UInt8, dg v = false → a ≠ v := fun v hv e => by rw [e, hv] at hc; cases hc
    constructor
    · refine ⟨by simp, ?_, ?_, ?_, ?_, ?_, ?_, ?_⟩ <;> (intro he; have he := (List.cons.inj he).1; exact e _ (by decide) he)
    · refine ⟨by simp, ?_, ?_, ?_, ?_, ?_, ?_, ?_⟩
      · intro he; have he := (List.cons.inj he).1; exact absurd he (by decide)
      · intro he; have he := (List.cons.inj he).1; exact absurd he (by decide)
      · intro he; have he := (List.cons.inj he).1; exact absurd he (by decide)
      · intro he; have he := (List.cons.inj he).1; exact absurd he (by decide)
      · intro he; have he := (List.cons.inj he).1; exact absurd he (by decide)
      · intro he; have he := (List.cons.inj he).1; exact absurd he (by decide)
      · intro he
        have he := (List.cons.inj (List.cons.inj he).2).1
        exact e _ (by decide) he
theorem plain_body {b w r : List UInt8} {p : Int} (h : Bd b w r p) (hv : val (w ++ r) < 1000000000000000) (p1 : -22 ≤ p - (r.length : Int)) (p2 : p - (r.length : Int) ≤ 22) :
    plainF b = .real (scF (val (w ++ r)) (p - (r.length : Int))) ∧ plainF (45 :: b) = .real (Op.negFloat .f64 (scF (val (w ++ r)) (p - (r.length : Int)))) := by
  obtain ⟨c, hc, hd⟩ := h.head
  obtain ⟨n1, n2⟩ := now_dg hc hd
  obtain ⟨s1, s2⟩ := h.shape
  have hr : r ≠ [] := (dgs_iff.1 h.2.1).2
  constructor
  · rw [plainF_no n1, s1.scan]
    simp only [numS]
    rw [if_neg hr, realV]
    simp only
    rw [if_pos ⟨hv, p1, p2⟩]
    simp
  · rw [plainF_no n2, s2.scan]
    simp only [numS]
    rw [if_neg hr, realV]
    simp only
    rw [if_pos ⟨hv, p1, p2⟩]
    simp
theorem plain_dec {m : Nat} {k : Int} (hm : 1 ≤ m) (hm2 : m < 1000000000000000) (k1 : -22 ≤ k) (k2 : k ≤ 22) :
    plainF (decT m k) = .real (scF m k) ∧ plainF (45 :: decT m k) = .real (Op.negFloat .f64 (scF m k)) := by
  obtain ⟨w, r, p, hB, hv, p1, p2, hs⟩ := decT_body hm hm2 k1 k2
  have := plain_body hB hv p1 p2
  rw [hs] at this
  exact this
theorem bd_zero : Bd [48, 46, 48] [48] [48] 0 := ⟨by decide, by decide, .inl ⟨rfl, rfl⟩⟩
theorem plain_zero : plainF [48, 46, 48] = .real 0 ∧ plainF [45, 48, 46, 48] = .real MZ := by
  have h := plain_body bd_zero (by decide) (by decide) (by decide)
  have e : scF (val ([48] ++ [48])) (0 - (([48] : List UInt8).length : Int)) = 0 := by
    rw [show val ([48] ++ [48]) = 0 by decide, show (0 - (([48] : List UInt8).length : Int)) = -1 by decide]
    exact sc_zero (k := -1) (by decide) (by decide)
  rw [e] at h
  exact h
theorem dd_head2 (n : Nat) : ∃ c, (Lib.decDigits n).head? = some c ∧ dg c = true := by
  have h1 := dd_ne n
  have h2 := dd_dg n
  revert h1 h2
  cases Lib.decDigits n with
  | nil => intro h; exact absurd rfl h
  | cons c r => intro _ h; exact ⟨c, rfl, h c (by simp)⟩
theorem pl_int {i : Int} (h0 : -9223372036854775808 ≤ i) (h1 : i ≤ 9223372036854775807) : plainF (Lib.itoa i) = .int i := by
  unfold Lib.itoa
  by_cases hi : i < 0
  · rw [if_pos hi]
    obtain ⟨c, hc, hd⟩ := dd_head2 i.natAbs
    obtain ⟨-, n2⟩ := now_dg hc hd
    have hne : Lib.decDigits i.natAbs ≠ [48] := by
      intro e
      have := dd_head i.natAbs (by omega)
      rw [e] at this
      exact this rfl
    have s : ShI (45 :: Lib.decDigits i.natAbs) ⟨true, Lib.decDigits i.natAbs, [], 0⟩ := ⟨rfl, rfl, rfl, rfl, dd_whl _, fun h => hne h.2⟩
    rw [plainF_no n2, s.scan]
    simp only [numS, if_true]
    have : intV ⟨true, Lib.decDigits i.natAbs, [], 0⟩ = some i := by
      unfold intV
      simp only
      rw [if_pos (by first | rfl | trivial), dd_val, if_pos (by omega)]
      congr 1
      omega
    rw [this]
  · rw [if_neg hi]
    obtain ⟨c, hc, hd⟩ := dd_head2 i.toNat
    obtain ⟨n1, -⟩ := now_dg hc hd
    obtain ⟨e1, e2⟩ := hasM_dg hc hd
    have s : ShI (Lib.decDigits i.toNat) ⟨false, Lib.decDigits i.toNat, [], 0⟩ := ⟨e1.symm, e2.symm, rfl, rfl, by rw [e2]; exact dd_whl _, fun h => by rw [e1] at h; cases h.1⟩
    rw [plainF_no n1, s.scan]
    simp only [numS, if_true]
    have : intV ⟨false, Lib.decDigits i.toNat, [], 0⟩ = some i := by
      unfold intV
      simp only
      rw [if_neg (by decide), dd_val, if_pos (by omega)]
      congr 1
      omega
    rw [this]
/-- a real's text is read as that real -/
theorem pl_real {x : Nat} {d : Option (Nat × Int)} (hx : x < 18446744073709551616) (hd : DecA (rg x) (endD d)) (he : realE x d = 0) : plainF (realT x d) = .real (if INF < rg x then NANW else x) := by
  unfold realT
  rcases word_cases hx with h | rfl | rfl | rfl | rfl | h
  · rw [if_pos h, if_pos h]; rfl
  · rfl
  · rfl
  · exact plain_zero.1
  · exact plain_zero.2
  · rw [if_neg (by omega), if_neg (by omega), if_neg (by omega), if_neg (by omega)]
    cases d with
    | none =>
      unfold realE at he
      rw [if_pos ⟨h.1, h.2, rfl⟩] at he
      cases he
    | some p =>
      obtain ⟨M, k⟩ := p
      obtain ⟨k1, k2, hh⟩ := decA_some hd
      obtain ⟨g1, g2⟩ := plain_dec hh.1 hh.2.1 k1 k2
      have hs := ng_split hx
      simp only [sg]
      cases hg : ng x with
      | true =>
        rw [if_pos rfl, g2, hh.2.2]
        congr 1
        have hn : Op.negFloat .f64 (Op.negFloat .f64 x) = x := by
          show (x ^^^ 2 ^ 63) ^^^ 2 ^ 63 = x
          rw [Nat.xor_assoc, Nat.xor_self, Nat.xor_zero]
        rw [neg_word hx hg] at hn
        exact hn
      | false =>
        rw [if_neg (by decide), g1, hh.2.2]
        rw [hg] at hs
        simp at hs
        rw [← hs]
theorem smR_self {x : Nat} (hx : x < 18446744073709551616) : smR (if INF < rg x then NANW else x) x = true := by
  by_cases h : INF < rg x
  · rw [if_pos h]
    unfold smR
    rw [show (double.order x x != some .eq) = true from nan_self h, show (double.order NANW NANW != some .eq) = true by decide +kernel]
    rfl
  · rw [if_neg h]
    unfold smR
    have := num_self hx h
    have e : (double.order x x == some .eq) = true := by
      have : (double.order x x != some .eq) = false := this
      rw [bne] at this
      simpa using this
    rw [e]
    simp
end Go.Proofs.YthfmepnlbaifcaaDoor

/-
  What is read can be printed, and is read as the same: without the program's walks.
-/
namespace Go.Proofs.YthfmepnlbaifcaaDoor
open Go.RowKit Ieee
set_option linter.unusedVariables false
set_option linter.unusedSimpArgs false
theorem numS_int {n : Nm} {i : Int} (h : numS n = .int i) : -9223372036854775808 ≤ i ∧ i ≤ 9223372036854775807 := by
  unfold numS at h
  split at h
  · cases hv : intV n with
    | none => rw [hv] at h; cases h
    | some j =>
      rw [hv] at h
      have e : j = i := Sc.int.inj h
      subst e
      unfold intV at hv
      split at hv <;> split at hv
      · have := Option.some.inj hv; omega
      · cases hv
      · have := Option.some.inj hv; omega
      · cases hv
  · cases hv : realV n with
    | none => rw [hv] at h; cases h
    | some j => rw [hv] at h; cases h
/-- a real that some text says -/
def Rsrc (x : Nat) : Prop := x < 18446744073709551616 ∧ (INF < rg x → x = NANW) ∧ (0 < rg x → rg x < INF → ∃ k M, -22 ≤ k ∧ k ≤ 22 ∧ Hit (rg x) k M)
theorem numS_real {n : Nm} {x : Nat} (h : numS n = .real x) : Rsrc x := by
  unfold numS at h
  split at h
  · cases hv : intV n with
    | none => rw [hv] at h; cases h
    | some j => rw [hv] at h; cases h
  · cases hv : realV n with
    | none => rw [hv] at h; cases h
    | some j =>
      rw [hv] at h
      have e : j = x := Sc.real.inj h
      subst e
      have hfin := real_fin hv
      unfold realV at hv
      split at hv
      · rename_i hc
        obtain ⟨h1, h2, h3⟩ := hc
        have hj := Option.some.inj hv
        generalize hM : val (n.whole ++ n.rest) = M at *
        generalize hK : n.power - (n.rest.length : Int) = K at *
        have hsf : scF M K < INF := sc_fin h1 h2 h3
        have hrg : rg j = scF M K := by
          rw [← hj]
          split
          · exact neg_rg hsf
          · exact (rg_lt (Nat.le_of_lt hsf)).1
        have hjb : j < 18446744073709551616 := by
          rw [← hj]
          have hb : scF M K < 2 ^ 64 := by have : INF = 9218868437227405312 := rfl; omega
          split
          · exact Nat.xor_lt_two_pow hb (by decide)
          · exact hb
        refine ⟨hjb, fun h => by omega, fun h0 _ => ⟨K, M, h2, h3, ?_⟩⟩
        refine ⟨?_, h1, hrg.symm⟩
        rcases Nat.eq_zero_or_pos M with hz | hz
        · rw [hz, sc_zero h2 h3] at hrg
          omega
        · exact hz
      · cases hv
theorem plain_src_int {l : List UInt8} {i : Int} (h : plainF l = .int i) : -9223372036854775808 ≤ i ∧ i ≤ 9223372036854775807 := by
  by_cases hw : NoW l
  · rw [plainF_no hw] at h
    cases hs : scanF l with
    | none => rw [hs] at h; cases h
    | some n => rw [hs] at h; exact numS_int h
  · rcases plainF_yes hw with rfl | rfl | rfl | rfl | rfl | rfl | rfl | rfl <;> cases h
theorem rsrc_nan : Rsrc NANW := ⟨by decide, fun _ => rfl, fun _ h => absurd h (by decide)⟩
theorem rsrc_inf : Rsrc INF := ⟨by decide, fun h => absurd h (by decide), fun _ h => absurd h (by decide)⟩
theorem rsrc_ninf : Rsrc NINF := ⟨by decide, fun h => absurd h (by decide), fun _ h => absurd h (by decide)⟩
theorem plain_src_real {l : List UInt8} {x : Nat} (h : plainF l = .real x) : Rsrc x := by
  by_cases hw : NoW l
  · rw [plainF_no hw] at h
    cases hs : scanF l with
    | none => rw [hs] at h; cases h
    | some n => rw [hs] at h; exact numS_real h
  · rcases plainF_yes hw with rfl | rfl | rfl | rfl | rfl | rfl | rfl | rfl
    · cases h
    · cases h
    · cases h
    · cases h
    · cases h
    · have : NANW = x := Sc.real.inj h
      rw [← this]; exact rsrc_nan
    · have : INF = x := Sc.real.inj h
      rw [← this]; exact rsrc_inf
    · have : NINF = x := Sc.real.inj h
      rw [← this]; exact rsrc_ninf
theorem decA_none {x : Nat} (h : DecA x (endD none)) : ∀ k' M', -22 ≤ k' → k' ≤ 22 → ¬ Hit x k' M' := by
  rcases h with ⟨k', M', k1, k2, hh, _, e⟩ | ⟨hn, _⟩
  · simp [endD] at e
  · exact hn
theorem realE_src {x : Nat} {d : Option (Nat × Int)} (h : Rsrc x) (hd : DecA (rg x) (endD d)) : realE x d = 0 := by
  unfold realE
  rw [if_neg]
  rintro ⟨h1, h2, rfl⟩
  obtain ⟨k, M, k1, k2, hh⟩ := h.2.2 h1 h2
  exact decA_none hd k M k1 k2 hh
theorem realT_len {x : Nat} {d : Option (Nat × Int)} (hd : DecA (rg x) (endD d)) : (realT x d).length ≤ 1001 := by
  have hg : ∀ (b : Bool) (t : List UInt8), (sg b t).length ≤ t.length + 1 := fun b t => by cases b <;> simp [sg]
  unfold realT
  split
  · decide
  · split
    · exact Nat.le_trans (hg _ _) (by decide)
    · split
      · exact Nat.le_trans (hg _ _) (by decide)
      · cases d with
        | none => exact Nat.zero_le _
        | some p =>
          obtain ⟨M, k⟩ := p
          obtain ⟨k1, k2, hh⟩ := decA_some hd
          have := decT_len hh.2.1 k1 k2
          exact Nat.le_trans (hg _ _) (by omega)
theorem itoa_len {i : Int} (h0 : -9223372036854775808 ≤ i) (h1 : i ≤ 9223372036854775807) : (Lib.itoa i).length ≤ 1001 := by
  unfold Lib.itoa
  split
  · have : (Lib.decDigits i.natAbs).length ≤ 20 := dd_len (by omega) (by decide)
    rw [List.length_cons]; omega
  · have : (Lib.decDigits i.toNat).length ≤ 20 := dd_len (by omega) (by decide)
    omega
theorem prT_len {k : Int} {b : Bool} {i : Int} {x : Nat} {l : List UInt8} {d : Option (Nat × Int)} (hd : DecA (rg x) (endD d)) (h0 : -9223372036854775808 ≤ i) (h1 : i ≤ 9223372036854775807) (hl : l.length ≤ 2 ^ 47) : (prT k b i x l d).length ≤ 2 ^ 47 := by
  have h1001 : 1001 ≤ 2 ^ 47 := by decide
  unfold prT
  split
  · decide
  · split
    · split <;> decide
    · split
      · exact Nat.le_trans (itoa_len h0 h1) h1001
      · split
        · exact Nat.le_trans (realT_len hd) h1001
        · split
          · exact hl
          · decide
theorem prE_ways (k : Int) (b : Bool) (i : Int) (x : Nat) (l : List UInt8) (d : Option (Nat × Int)) : prE k x d = 0 ∨ (prE k x d = 2 ∧ prT k b i x l d = [] ∧ prQ k l = false) := by
  unfold prE prT prQ
  by_cases h4 : k = 4
  · subst h4
    rw [if_pos rfl]
    unfold realE
    split
    · rename_i h
      obtain ⟨h1, h2, rfl⟩ := h
      right
      refine ⟨rfl, ?_, rfl⟩
      rw [if_neg (by decide), if_neg (by decide), if_neg (by decide), if_pos rfl]
      unfold realT
      rw [if_neg (by omega), if_neg (by omega), if_neg (by omega)]
    · exact .inl rfl
  · rw [if_neg h4]
    split
    · exact .inl rfl
    · rename_i h
      right
      refine ⟨rfl, ?_, ?_⟩
      · rw [if_neg (show ¬ k = 1 by omega), if_neg (show ¬ k = 2 by omega), if_neg (show ¬ k = 3 by omega), if_neg (show ¬ k = 5 by omega)]
      · rw [decide_eq_false (show ¬ k = 5 by omega)]; rfl
theorem kd_text {sc : Sc} (h : kdS sc = 5) : sc = .text := by
  cases sc with
  | text => rfl
  | null => exact absurd h (by decide)
  | bool b => exact absurd (show (2 : Int) = 5 from h) (by decide)
  | int i => exact absurd (show (3 : Int) = 5 from h) (by decide)
  | real x => exact absurd (show (4 : Int) = 5 from h) (by decide)
/-- what is printed is read as the same value -/
theorem back_ok (k : Int) (b : Bool) (i : Int) (x : Nat) (l : List UInt8) (d : Option (Nat × Int)) (hx : x < 18446744073709551616) (hd : DecA (rg x) (endD d)) (h0 : -9223372036854775808 ≤ i) (h1 : i ≤ 9223372036854775807) (he : prE k x d = 0) :
    ∃ k2 b2 i2 x2 l2, scV (prT k b i x l d) (if prQ k l = true then .text else plainF (prT k b i x l d)) = vR k2 b2 i2 x2 l2 ∧ x2 < 18446744073709551616 ∧ smV k2 b2 i2 x2 l2 k b i x l = true := by
  have hq : k ≠ 5 → prQ k l = false := fun h => by unfold prQ; rw [decide_eq_false h]; rfl
  by_cases e1 : k = 1
  · subst e1
    rw [hq (by decide)]
    exact ⟨_, _, _, _, _, rfl, by decide, rfl⟩
  by_cases e2 : k = 2
  · subst e2
    rw [hq (by decide)]
    cases b
    · exact ⟨_, _, _, _, _, rfl, by decide, rfl⟩
    · exact ⟨_, _, _, _, _, rfl, by decide, rfl⟩
  by_cases e3 : k = 3
  · subst e3
    rw [hq (by decide), if_neg (by decide), show prT 3 b i x l d = Lib.itoa i from rfl, pl_int h0 h1]
    refine ⟨3, false, i, 0, [], rfl, by decide, ?_⟩
    unfold smV
    rw [if_pos rfl, if_neg (by decide), if_neg (by decide), if_pos rfl]
    simp
  by_cases e4 : k = 4
  · subst e4
    have hE : realE x d = 0 := he
    rw [hq (by decide), if_neg (by decide), show prT 4 b i x l d = realT x d from rfl, pl_real hx hd hE]
    refine ⟨4, false, 0, (if INF < rg x then NANW else x), [], rfl, ?_, ?_⟩
    · split
      · decide
      · exact hx
    · unfold smV
      rw [if_pos rfl, if_neg (by decide), if_neg (by decide), if_neg (by decide), if_pos rfl]
      exact smR_self hx
  by_cases e5 : k = 5
  · subst e5
    rw [show prT 5 b i x l d = l from rfl]
    have : (if prQ 5 l = true then Sc.text else plainF l) = .text := by
      cases hp : prQ 5 l with
      | true => rfl
      | false =>
        rw [if_neg (by decide)]
        have : (kdS (plainF l) != 5) = false := hp
        exact kd_text (by simpa using this)
    rw [this]
    refine ⟨5, false, 0, 0, l, rfl, by decide, ?_⟩
    unfold smV
    rw [if_pos rfl, if_neg (by decide), if_neg (by decide), if_neg (by decide), if_neg (by decide), if_pos rfl]
    simp
  · unfold prE at he
    rw [if_neg e4, if_neg (by omega)] at he
    cases he
/-- a value that was read: it has a text, which is read as that very value -/
structure Rb (l : List UInt8) (q : Bool) (k : Int) (b : Bool) (i : Int) (x : Nat) (m : List UInt8) (d : Option (Nat × Int)) : Prop where
  val : scV l (if q = true then .text else plainF l) = vR k b i x m
  i0 : -9223372036854775808 ≤ i
  i1 : i ≤ 9223372036854775807
  hx : x < 18446744073709551616
  hm : m.length ≤ 2 ^ 47
  dec : DecA (rg x) (endD d)
  ok : prE k x d = 0
  back : scV (prT k b i x m d) (if prQ k m = true then .text else plainF (prT k b i x m d)) = vR k b i x m
  same : smV k b i x m k b i x m = true
theorem read_back (l : List UInt8) (q : Bool) (hl : l.length ≤ 2 ^ 47) : ∃ k b i x m d, Rb l q k b i x m d := by
  obtain ⟨d0, hd0⟩ := decA_ex (rg 0)
  obtain ⟨sc, hsc⟩ : ∃ sc, (if q = true then Sc.text else plainF l) = sc := ⟨_, rfl⟩
  have hsrc : sc ≠ .text → plainF l = sc := fun h => by
    cases q with
    | true => exact absurd hsc.symm h
    | false => rw [if_neg (by decide)] at hsc; exact hsc
  cases sc with
  | null => exact ⟨1, false, 0, 0, [], d0, by rw [hsc]; rfl, by decide, by decide, by decide, by simp, hd0, rfl, rfl, rfl⟩
  | bool b =>
    cases b
    · exact ⟨2, false, 0, 0, [], d0, by rw [hsc]; rfl, by decide, by decide, by decide, by simp, hd0, rfl, rfl, rfl⟩
    · exact ⟨2, true, 0, 0, [], d0, by rw [hsc]; rfl, by decide, by decide, by decide, by simp, hd0, rfl, rfl, rfl⟩
  | int i =>
    obtain ⟨i0, i1⟩ := plain_src_int (hsrc (by intro h; cases h))
    refine ⟨3, false, i, 0, [], d0, by rw [hsc]; rfl, i0, i1, by decide, by simp, hd0, rfl, ?_, ?_⟩
    · rw [show prQ 3 [] = false from rfl, if_neg (by decide), show prT 3 false i 0 [] d0 = Lib.itoa i from rfl, pl_int i0 i1]
      rfl
    · unfold smV
      rw [if_pos rfl, if_neg (by decide), if_neg (by decide), if_pos rfl]
      simp
  | real x =>
    have hr := plain_src_real (hsrc (by intro h; cases h))
    obtain ⟨d, hd⟩ := decA_ex (rg x)
    have hE := realE_src hr hd
    have hxx : (if INF < rg x then NANW else x) = x := by
      split
      · rename_i h; exact (hr.2.1 h).symm
      · rfl
    refine ⟨4, false, 0, x, [], d, by rw [hsc]; rfl, by decide, by decide, hr.1, by simp, hd, hE, ?_, ?_⟩
    · rw [show prQ 4 [] = false from rfl, if_neg (by decide), show prT 4 false 0 x [] d = realT x d from rfl, pl_real hr.1 hd hE, hxx]
      rfl
    · unfold smV
      rw [if_pos rfl, if_neg (by decide), if_neg (by decide), if_neg (by decide), if_pos rfl]
      have := smR_self hr.1
      rw [hxx] at this
      exact this
  | text =>
    refine ⟨5, false, 0, 0, l, d0, by rw [hsc]; rfl, by decide, by decide, by decide, hl, hd0, rfl, ?_, ?_⟩
    · rw [show prT 5 false 0 0 l d0 = l from rfl]
      have : (if prQ 5 l = true then Sc.text else plainF l) = .text := by
        cases hp : prQ 5 l with
        | true => rfl
        | false =>
          rw [if_neg (by decide)]
          have : (kdS (plainF l) != 5) = false := hp
          exact kd_text (by simpa using this)
      rw [this]
      rfl
    · unfold smV
      rw [if_pos rfl, if_neg (by decide), if_neg (by decide), if_neg (by decide), if_neg (by decide), if_pos rfl]
      simp
end Go.Proofs.YthfmepnlbaifcaaDoor

/-
  The walk of ScalarBack.
-/
namespace Go.Proofs.YthfmepnlbaifcaaDoor
open Go.RowKit Ieee
set_option linter.unusedVariables false
set_option linter.unusedSimpArgs false
/-- the law's own copy of a value, in a world that has only grown -/
structure B1 (o : Obj) (w W : World) : Prop where
  a : W.heap[w.heap.size]? = some o
  below : Below w.heap.size w W
  errs : Errs W
  tab : T10 W
theorem B1.step {o : Obj} {w W W' : World} (h : B1 o w W) (hb : Below W.heap.size W W') : B1 o w W' :=
  ⟨hb.cells h.a, h.below.trans (hb.mono h.below.size), h.errs.below hb, h.tab.below hb⟩
theorem B1.drewN {o : Obj} {w W : World} (h : B1 o w W) (n : Nat) : B1 o w (W.drewN n) :=
  ⟨h.a, below_drewN h.below n, h.errs, h.tab.drewN n⟩
theorem B1.start {o : Obj} {w : World} (hE : Errs w) (hT : T10 w) : B1 o w (w.alloc o) :=
  ⟨heap_alloc_new w _, (Below.refl _ w).alloc (Nat.le_refl _) _, hE.alloc _, hT.alloc _⟩
theorem B1.alloc {o : Obj} {w W : World} (h : B1 o w W) (x : Obj) : B1 o w (W.alloc x) := h.step ((Below.refl _ W).alloc (Nat.le_refl _) _)
set_option maxRecDepth 100000 in
set_option maxHeartbeats 8000000 in
theorem back_any (k : Int) (b : Bool) (i : Int) (x : Nat) (l : List UInt8) (t : List UInt8) (q : Bool) (w : World) (hT : T10 w) (hE : Errs w) (hx : x < 18446744073709551616) (h0 : -9223372036854775808 ≤ i) (h1 : i ≤ 9223372036854775807) (hs : l.length ≤ 2 ^ 47) (ht : t.length ≤ 2 ^ 47) :
    Calls Tryd.prog 5 #[.agg #[.int .i64 k, .bool b, .int .i64 i, .float .f64 x, .string ⟨l.toArray⟩], .string ⟨t.toArray⟩, .bool q] w fun e w' => e = .returned (.bool true) ∧ Below w.heap.size w w' := by
  obtain ⟨d, hd⟩ := decA_ex (rg x)
  have c11 := fun W hT hE => print_any k b i x l d W hT hE hx hd h0 h1 hs
  have hTl := prT_len (k := k) (b := b) (l := l) hd h0 h1 hs
  have hw := prE_ways k b i x l d
  have hok := back_ok k b i x l d hx hd h0 h1
  unfold vR at c11
  obtain ⟨T, hTe⟩ : ∃ T, prT k b i x l d = T := ⟨_, rfl⟩
  rw [hTe] at c11 hTl hw hok
  obtain ⟨Q, hQe⟩ : ∃ Q, prQ k l = Q := ⟨_, rfl⟩
  rw [hQe] at c11 hw hok
  obtain ⟨z, hze⟩ : ∃ z, prE k x d = z := ⟨_, rfl⟩
  rw [hze] at c11 hw hok
  have C11 := hide2 c11
  have HX := hide2 hx
  have HTl := hide2 hTl
  have HOK := hide2 hok
  have HG : Hid (B1 (.cells #[.int .i64 k, .bool b, .int .i64 i, .float .f64 x, .string ⟨l.toArray⟩] 27) w (w.alloc (.cells #[.int .i64 k, .bool b, .int .i64 i, .float .f64 x, .string ⟨l.toArray⟩] 27))) := B1.start hE hT
  clear hd hE hT hx hTe hQe hze c11 hTl hok
  go_enter Tryd.func5, Tryd.ntmps5
  go_upto_region 4 with (first
    | (go_at_call 16; refine (awake_any _ HG.out.errs).mono ?_; rintro e w1 ⟨rfl, hb⟩; have HG := hide2 (HG.out.step hb); obtain ⟨⟨a0, f0⟩, ⟨a1, f1⟩, ⟨a2, f2⟩, ⟨a3, f3⟩, ⟨a4, f4⟩⟩ := facts5 HG.out.a; clear hb)
    | (go_at_call 12; refine (own_x _ _ _ _ _ _).mono ?_; rintro e w1 ⟨rfl, hb⟩; have HG := hide2 (HG.out.step hb); obtain ⟨⟨a0, f0⟩, ⟨a1, f1⟩, ⟨a2, f2⟩, ⟨a3, f3⟩, ⟨a4, f4⟩⟩ := facts5 HG.out.a; clear hb)
    | (go_at_call 11; refine (C11.out _ HG.out.tab HG.out.errs).mono ?_; rintro e w2 ⟨rfl, hb⟩; have HG := hide2 (HG.out.step hb); obtain ⟨⟨a0, f0⟩, ⟨a1, f1⟩, ⟨a2, f2⟩, ⟨a3, f3⟩, ⟨a4, f4⟩⟩ := facts5 HG.out.a; clear hb))
  go_cut [37] (fun s wx => s = .bool false ∧ B1 (.cells #[.int .i64 k, .bool b, .int .i64 i, .float .f64 x, .string ⟨l.toArray⟩] 27) w wx)
  case first =>
    rcases hw with hz | ⟨hz, -, -⟩
    · obtain ⟨k2, b2, i2, x2, l2, e2, hx2, hsm⟩ := HOK.out hz
      unfold vR at e2
      have c9 := fun W hE => read_any T Q W HTl.out hE
      rw [e2] at c9
      have C9 := hide2 c9
      have C14 := hide2 (fun W => same14x k2 b2 i2 x2 l2 k b i x l hx2 HX.out W)
      rw [hsm] at C14
      subst hz
      clear c9 e2 hx2 hsm
      go_region_held3 (fun w' => w'.cell? ⟨w.heap.size, 0, none⟩ = some (.int .i64 k) ∧ w'.cell? ⟨w.heap.size, 1, none⟩ = some (.bool b) ∧ w'.cell? ⟨w.heap.size, 2, none⟩ = some (.int .i64 i) ∧ w'.cell? ⟨w.heap.size, 3, none⟩ = some (.float .f64 x) ∧ w'.cell? ⟨w.heap.size, 4, none⟩ = some (.string ⟨l.toArray⟩)) (go_keep) (first
        | (go_at_call 9; refine (C9.out _ (B1.errs (w := w) (by first | exact HG.out | exact HG.out.drewN 1 | exact HG.out.drewN 2 | exact HG.out.drewN 3))).mono ?_; rintro e w3 ⟨rfl, hb⟩; have HG := hide2 (B1.step (by first | exact HG.out | exact HG.out.drewN 1 | exact HG.out.drewN 2 | exact HG.out.drewN 3 | exact HG.out.drewN 4) hb); obtain ⟨⟨a0, -⟩, ⟨a1, -⟩, ⟨a2, -⟩, ⟨a3, -⟩, ⟨a4, -⟩⟩ := facts5 HG.out.a; clear hb)
        | (go_at_call 12; refine (own_x _ _ _ _ _ _).mono ?_; rintro e w3 ⟨rfl, hb⟩; have HG := hide2 (B1.step (by first | exact HG.out | exact HG.out.drewN 1 | exact HG.out.drewN 2 | exact HG.out.drewN 3 | exact HG.out.drewN 4) hb); obtain ⟨⟨a0, -⟩, ⟨a1, -⟩, ⟨a2, -⟩, ⟨a3, -⟩, ⟨a4, -⟩⟩ := facts5 HG.out.a; clear hb)
        | (go_at_call 14; refine (C14.out _).mono ?_; rintro e w3 ⟨rfl, hb⟩; have HG := hide2 (B1.step (by first | exact HG.out | exact HG.out.drewN 1 | exact HG.out.drewN 2 | exact HG.out.drewN 3 | exact HG.out.drewN 4) hb); obtain ⟨⟨a0, -⟩, ⟨a1, -⟩, ⟨a2, -⟩, ⟨a3, -⟩, ⟨a4, -⟩⟩ := facts5 HG.out.a; clear hb))
      all_goals
        go_wp2_with (fail)
        go_meet
        case rel => exact ⟨rfl, HG.out⟩
    · subst hz
      go_quiet (fail)
      go_wp2_with (fail)
      go_meet
      case rel => exact ⟨rfl, HG.out.drewN _⟩
  case rest =>
    obtain ⟨rfl, hB⟩ := hcut
    have HG := hide2 hB
    clear hB
    go_upto_region 6 with (fail)
    go_cut [50] (fun s wx => s = .bool false ∧ wx = wc)
    case first =>
      rcases hw with hz | ⟨hz, hT0, hQ0⟩
      · subst hz
        go_wp2_with (fail)
        go_meet
        case rel => exact ⟨rfl, rfl⟩
      · subst hz hT0 hQ0
        go_wp2_with (fail)
        go_meet
        case rel => exact ⟨rfl, rfl⟩
    case rest =>
      obtain ⟨rfl, hwc⟩ := hcut
      subst hwc
      obtain ⟨k3, b3, i3, x3, m3, d3, R⟩ := read_back t q ht
      have c9 := fun W hE => read_any t q W ht hE
      rw [R.val] at c9
      have c11 := fun W hT hE => print_any k3 b3 i3 x3 m3 d3 W hT hE R.hx R.dec R.i0 R.i1 R.hm
      rw [R.ok] at c11
      have c9b := fun W hE => read_any (prT k3 b3 i3 x3 m3 d3) (prQ k3 m3) W (prT_len R.dec R.i0 R.i1 R.hm) hE
      rw [R.back] at c9b
      have c14 := fun W => same14x k3 b3 i3 x3 m3 k3 b3 i3 x3 m3 R.hx R.hx W
      rw [R.same] at c14
      unfold vR at c9 c11 c9b
      generalize prT k3 b3 i3 x3 m3 d3 = T3 at c11 c9b
      generalize prQ k3 m3 = Q3 at c11 c9b
      have C9 := hide2 c9
      have C9b := hide2 c9b
      have D11 := hide2 c11
      have D14 := hide2 c14
      clear c9 c9b c11 c14 R C11 HOK HTl HX hw
      have st := st_float
      go_wp2_with (fail)
      refine (C9.out _ HG.out.errs).mono ?_
      rintro e w3 ⟨rfl, hb⟩
      have HG := hide2 (HG.out.step hb)
      clear hb C9
      have HP : Hid (B1 (.cells #[.int .i64 k3, .bool b3, .int .i64 i3, .float .f64 x3, .string ⟨m3.toArray⟩] 25) w3 (w3.alloc (.cells #[.int .i64 k3, .bool b3, .int .i64 i3, .float .f64 x3, .string ⟨m3.toArray⟩] 25))) := B1.start HG.out.errs HG.out.tab
      go_wp2_with (fail)
      refine (D11.out _ HP.out.tab HP.out.errs).mono ?_
      rintro e w4 ⟨rfl, hb⟩
      have HG := hide2 ((HG.out.alloc _).step hb)
      have HP := hide2 (HP.out.step hb)
      clear hb
      go_wp2_with (fail)
      refine (C9b.out _ HP.out.errs).mono ?_
      rintro e w5 ⟨rfl, hb⟩
      have HG := hide2 (HG.out.step hb)
      have HP := hide2 (HP.out.step hb)
      clear hb C9b
      have HR : Hid (B1 (.cells #[.int .i64 k3, .bool b3, .int .i64 i3, .float .f64 x3, .string ⟨m3.toArray⟩] 25) w5 (w5.alloc (.cells #[.int .i64 k3, .bool b3, .int .i64 i3, .float .f64 x3, .string ⟨m3.toArray⟩] 25))) := B1.start HG.out.errs HG.out.tab
      go_wp2_with (fail)
      refine (D11.out _ HR.out.tab HR.out.errs).mono ?_
      rintro e w6 ⟨rfl, hb⟩
      have HG := hide2 ((HG.out.alloc _).step hb)
      have HP := hide2 ((HP.out.alloc _).step hb)
      have HR := hide2 (HR.out.step hb)
      clear hb D11
      obtain ⟨⟨a0, f0⟩, ⟨a1, f1⟩, ⟨a2, f2⟩, ⟨a3, f3⟩, ⟨a4, f4⟩⟩ := facts5 HP.out.a
      obtain ⟨⟨g0, h0⟩, ⟨g1, h1⟩, ⟨g2, h2⟩, ⟨g3, h3⟩, ⟨g4, h4⟩⟩ := facts5 HR.out.a
      go_wp2_with (fail)
      refine (D14.out _).mono ?_
      rintro e w7 ⟨rfl, hb⟩
      have HG := hide2 (HG.out.step hb)
      clear hb
      go_wp2_with (fail)
      go_ret
      exact ⟨rfl, HG.out.below⟩
end Go.Proofs.YthfmepnlbaifcaaDoor

/-
  ScalarBack holds of the program, for every input: any value that has a text is read out of it as the same value, a value without one is refused with ErrArg and nothing else, and whatever any text says, plain or quoted, has a text that is read as the same and is its own. Condition: the listed package variables start as the program's text lays them (the card ties them).
-/
namespace Go.Proofs.YthfmepnlbaifcaaDoor
open Go.ChangeShapes Go.WideShapes Go.ChangeAt Go.RowKit Go.ChangeMaps
set_option linter.unusedVariables false

set_option maxRecDepth 100000 in
theorem scalarBack_lifted (os : Os) (started : os.Started) (H : Type) (enc : TypeId × Value → H) :
    ReturnsInHanded {} Tryd.checked os 5 .any (fun w args => (Rows.scalarBackSpec.pre enc Tryd.prog Tryd.f5 [] false w args ∧ laidMetH Tryd.prog laidList w) ∧ sizedMet enc Tryd.prog Tryd.f5 (OpenSpec.ofChange Rows.scalarBackSpec) false w args)
      (Rows.scalarBackSpec.post enc Tryd.prog Tryd.f5 false true false false) := by
  refine returnsInHanded_of_change_and (C := Tryd.checked) (X := fun w _ => laidMetH Tryd.prog laidList w) (fun _ _ _ hh h => h.of_heap hh) own started (by kernel_rfl) Tryd.func5
    (ChangeSpec.witness_shaped (enc := enc) (C := Tryd.checked) (os := os) (X := fun w _ => laidMetH Tryd.prog laidList w) false (World.doorLaid Tryd.prog 62 os) #[.agg #[.int .i64 0, .bool false, .int .i64 0, .float .f64 0, .string ByteArray.empty], .string ByteArray.empty, .bool false] 8 rfl (World.shaped_of_RefB (by kernel_rfl) (by kernel_rfl)) (by kernel_rfl) (by kernel_rfl) (by kernel_rfl) (door_met os _)) ?_
  intro W base args ds gs before hval0 hW _ hsz0 hL _
  have hval : ∀ (j : Nat) t v, Tryd.f5.params[j]? = some t → args[j]? = some v → Value.okWide Tryd.prog W .any base t v := hval0
  have hsz : (DataW.weightsEach Tryd.prog (Tryd.f5.params.toList ++ Rows.scalarBackSpec.plain.varTypes Tryd.prog) (ds ++ gs)).all (· ≤ reachBytes) = true := hsz0
  have hW' := hW
  obtain ⟨p, q, hA0, hV, rfl, hfz, hnd⟩ := hW
  have hA : DataW.TrodAll enc Tryd.prog W 0 (fun _ => true) true Tryd.f5.params.toList args.toList ds p := hA0
  rw [Tryd.params5] at hA hval hsz
  obtain ⟨v0, vs0, d0, ds0, p0, q0, hargs, rfl, rfl, h0, r0⟩ := trodAll_cons hA
  obtain ⟨v1, vs1, d1, ds1, p1, q1, rfl, rfl, rfl, h1, r1⟩ := trodAll_cons r0
  obtain ⟨v2, vs2, d2, ds2, p2, q2, rfl, rfl, rfl, h2, r2⟩ := trodAll_cons r1
  obtain ⟨rfl, rfl, rfl⟩ := trodAll_nil r2
  obtain rfl : args = #[v0, v1, v2] := by cases args; simp_all
  obtain ⟨rfl, rfl⟩ := trodVars_none hV
  have k0 := h0
  have lt0 : ∀ x ∈ p0, x.block < W.heap.size := by obtain ⟨m, hm⟩ := k0; exact DataW.trod_lt m _ _ _ hm
  obtain ⟨k, b, i, x, l, rfl, i0, i1, hx, hl⟩ := open_value (hval 0 27 v0 rfl rfl) h0 hsz (j := 0) rfl rfl
  obtain ⟨a1, rfl, rfl, rfl, w1⟩ := open_string Tryd.underlying9 (hval 1 9 v1 rfl rfl) h1
  have b1 : a1.data.toList.length ≤ 2 ^ 47 := Nat.le_trans (sized_string hsz (j := 1) (t := 9) rfl rfl) (Nat.le_of_lt reachBytes_lt)
  obtain ⟨a2, rfl, rfl, rfl⟩ := open_bool Tryd.underlying4 (hval 2 4 v2 rfl rfl) h2
  clear hA0 hval0
  have hc := back_any k b i x l a1.data.toList a2 W (tab10_of hL) (errs_of hL) hx i0 i1 hl b1
  rw [← str_list] at hc
  refine hc.mono fun e W' ⟨he, bel⟩ => ?_
  subst he
  exact ⟨_, rfl, _, _, _, [], _, [], hW', trodAll_mk1 (shut_bool Tryd.underlying4 _), (trodAll_cons_mk (Below.trod laidOut (by kernel_rfl) (of_decide_eq_true (by kernel_rfl)) k0 bel lt0) (trodAll_cons_mk (shut_string Tryd.underlying9 w1) (trodAll_cons_mk (shut_bool Tryd.underlying4 _) trodAll_mk0))), rfl, bel.frame _, fun h => by cases h⟩

theorem scalarBack_row : Rows.ScalarBackSaid :=
  OpenClaim.holds_of_wide 5 Tryd.f5 rfl rfl rfl rfl rfl rfl rfl ⟨rfl, rfl, rfl, rfl, rfl⟩ rfl rfl rfl rfl rfl (by kernel_rfl) Tryd.func5 (by kernel_rfl)
    (of_decide_eq_true (by kernel_rfl)) (by unfold Func.isWrapper; first | (rw [if_pos (by decide +kernel)]; kernel_rfl) | (rw [if_neg (by decide +kernel)]; exact ⟨rfl, rfl⟩))
    (fun os started H enc _ => scalarBack_lifted os started H enc)

theorem scalarBack_holds : Rows.ScalarBackCardSaid :=
  Claim7.holds_tied_plain_at .later [] _ _ _ _
    scalarBack_row (fun _ h => by cases h) (by kernel_rfl) (fun _ h => by cases h) scalarBack_row_tie rfl ⟨rfl, rfl⟩ (by kernel_rfl) rfl
    (fun f fn hf hfn => by
      obtain rfl : f = 5 := Option.some.inj ((show Tryd.prog.funcNamed Rows.scalarBackRow.func = some 5 by kernel_rfl).symm.trans hf) |>.symm
      obtain rfl : fn = Tryd.f5 := (Option.some.inj (Tryd.func5.symm.trans hfn)).symm
      exact ⟨by kernel_rfl, fun j t ht => by
        rw [Tryd.params5] at ht
        have hm : t ∈ [27, 9, 4] := by simpa using Array.mem_of_getElem? ht
        have hall : ([27, 9, 4].all fun u => !Tryd.prog.wantsStandIn u) = true := by kernel_rfl
        exact (show Tryd.prog.wantsStandIn t = false by simpa using List.all_eq_true.1 hall t hm)⟩)
    (by kernel_rfl)
#print axioms scalarBack_holds
end Go.Proofs.YthfmepnlbaifcaaDoor
