import Derived.Test.YthfmepnlbaifcaaDoorBndC
import Derived.Test.YthfmepnlbaifcaaDoorOpv
import Derived.Test.YthfmepnlbaifcaaDoorCards
import Derived.Test.YthfmepnlbaifcaaDoorTie
import Derived.SevenTiedAt
/-
  The walk of ScalarPrints.
-/
namespace Go.Proofs.YthfmepnlbaifcaaDoor
open Go.RowKit Ieee
set_option linter.unusedVariables false
set_option linter.unusedSimpArgs false
/-- the law's own copies of both values, in a world that has only grown -/
structure Bx (A B : Array Value) (w W : World) : Prop where
  a : W.heap[w.heap.size]? = some (.cells A 27 (0, 0))
  b : W.heap[w.heap.size + 1]? = some (.cells B 27 (0, 0))
  below : Below w.heap.size w W
  errs : Errs W
  tab : T10 W
theorem Bx.step {A B : Array Value} {w W W' : World} (h : Bx A B w W) (hb : Below W.heap.size W W') : Bx A B w W' :=
  ⟨hb.cells h.a, hb.cells h.b, h.below.trans (hb.mono h.below.size), h.errs.below hb, h.tab.below hb⟩
theorem Bx.drewN {A B : Array Value} {w W : World} (h : Bx A B w W) (n : Nat) : Bx A B w (W.drewN n) :=
  ⟨h.a, h.b, below_drewN h.below n, h.errs, h.tab.drewN n⟩
theorem Bx.stepD {A B : Array Value} {w W W' : World} {n : Nat} (h : Bx A B w W) (hb : Below (W.drewN n).heap.size (W.drewN n) W') : Bx A B w W' := (h.drewN n).step hb
theorem Bx.start {A B : Array Value} {w : World} (hE : Errs w) (hT : T10 w) : Bx A B w ((w.alloc (.cells A 27)).alloc (.cells B 27)) := by
  refine ⟨?_, ?_, two_below w _ _, (hE.alloc _).alloc _, (hT.alloc _).alloc _⟩
  · rw [Go.heap_alloc_old _ _ (by rw [heap_alloc_size]; omega)]
    exact heap_alloc_new w _
  · rw [← heap_alloc_size w (.cells A 27)]
    exact heap_alloc_new _ _
theorem own_x (k : Int) (b : Bool) (i : Int) (x : Nat) (l : List UInt8) (w : World) :
    Calls Tryd.prog 12 #[.agg #[.int .i64 k, .bool b, .int .i64 i, .float .f64 x, .string ⟨l.toArray⟩]] w fun e w' => e = .returned (.agg #[.int .i64 k, .bool b, .int .i64 i, .float .f64 x, .string ⟨l.toArray⟩]) ∧ Below w.heap.size w w' := own_any k b i x l w
theorem same14x (k : Int) (b : Bool) (i : Int) (x : Nat) (l : List UInt8) (k' : Int) (b' : Bool) (i' : Int) (x' : Nat) (l' : List UInt8) (hx : x < 18446744073709551616) (hx' : x' < 18446744073709551616) (w : World) :
    Calls Tryd.prog 14 #[.agg #[.int .i64 k, .bool b, .int .i64 i, .float .f64 x, .string ⟨l.toArray⟩], .agg #[.int .i64 k', .bool b', .int .i64 i', .float .f64 x', .string ⟨l'.toArray⟩]] w fun e w' => e = .returned (.bool (smV k b i x l k' b' i' x' l')) ∧ Below w.heap.size w w' := same14 k b i x l k' b' i' x' l' hx hx' w
theorem same15x (k : Int) (b : Bool) (i : Int) (x : Nat) (l : List UInt8) (k' : Int) (b' : Bool) (i' : Int) (x' : Nat) (l' : List UInt8) (hx : x < 18446744073709551616) (hx' : x' < 18446744073709551616) (w : World) :
    Calls Tryd.prog 15 #[.agg #[.int .i64 k, .bool b, .int .i64 i, .float .f64 x, .string ⟨l.toArray⟩], .agg #[.int .i64 k', .bool b', .int .i64 i', .float .f64 x', .string ⟨l'.toArray⟩]] w fun e w' => e = .returned (.bool (smV k b i x l k' b' i' x' l')) ∧ Below w.heap.size w w' := same15 k b i x l k' b' i' x' l' hx hx' w
set_option maxRecDepth 100000 in
set_option maxHeartbeats 8000000 in
theorem prints_any (k : Int) (b : Bool) (i : Int) (x : Nat) (l : List UInt8) (k' : Int) (b' : Bool) (i' : Int) (x' : Nat) (l' : List UInt8) (w : World) (hT : T10 w) (hE : Errs w) (hx : x < 18446744073709551616) (hx' : x' < 18446744073709551616) (h0 : -9223372036854775808 ≤ i) (h1 : i ≤ 9223372036854775807) (hs : l.length ≤ 2 ^ 47) :
    Calls Tryd.prog 4 #[.agg #[.int .i64 k, .bool b, .int .i64 i, .float .f64 x, .string ⟨l.toArray⟩], .agg #[.int .i64 k', .bool b', .int .i64 i', .float .f64 x', .string ⟨l'.toArray⟩]] w fun e w' => e = .returned (.bool true) ∧ Below w.heap.size w w' := by
  obtain ⟨d, hd⟩ := decA_ex (rg x)
  have c11 := fun W hT hE => print_any k b i x l d W hT hE hx hd h0 h1 hs
  have c13 := fun W => rprint_any k b i x l d W hx hd h0 h1 hs
  have HX := hide2 hx
  have HX' := hide2 hx'
  unfold vR at c11 c13
  obtain ⟨T, hTe⟩ : ∃ T, prT k b i x l d = T := ⟨_, rfl⟩
  rw [hTe] at c11 c13
  generalize prQ k l = q at *
  generalize prE k x d = z at *
  have HG : Hid (Bx #[.int .i64 k, .bool b, .int .i64 i, .float .f64 x, .string ⟨l.toArray⟩] #[.int .i64 k', .bool b', .int .i64 i', .float .f64 x', .string ⟨l'.toArray⟩] w ((w.alloc (.cells #[.int .i64 k, .bool b, .int .i64 i, .float .f64 x, .string ⟨l.toArray⟩] 27)).alloc (.cells #[.int .i64 k', .bool b', .int .i64 i', .float .f64 x', .string ⟨l'.toArray⟩] 27))) := Bx.start hE hT
  have C11 := hide2 c11
  have C13 := hide2 c13
  clear hd hE hT hx hx' hTe c11 c13
  go_enter Tryd.func4, Tryd.ntmps4
  go_wp2_with (first
    | (go_at_call 12; refine (own_x _ _ _ _ _ _).mono ?_; rintro e w1 ⟨rfl, hb⟩; have HG := hide2 (HG.out.step hb); obtain ⟨⟨a0, f0⟩, ⟨a1, f1⟩, ⟨a2, f2⟩, ⟨a3, f3⟩, ⟨a4, f4⟩⟩ := facts5 HG.out.a; clear hb)
    | (go_at_call 11; refine (C11.out _ HG.out.tab HG.out.errs).mono ?_; rintro e w2 ⟨rfl, hb⟩; have HG := hide2 (HG.out.step hb); obtain ⟨⟨a0, f0⟩, ⟨a1, f1⟩, ⟨a2, f2⟩, ⟨a3, f3⟩, ⟨a4, f4⟩⟩ := facts5 HG.out.a; clear hb)
    | (go_at_call 13; refine (C13.out _).mono ?_; rintro e w3 ⟨rfl, hb⟩; have HG := hide2 (HG.out.step hb); clear hb))
  obtain ⟨⟨a0, -⟩, ⟨a1, -⟩, ⟨a2, -⟩, ⟨a3, -⟩, ⟨a4, -⟩⟩ := facts5 HG.out.a
  obtain ⟨⟨d0, -⟩, ⟨d1, -⟩, ⟨d2, -⟩, ⟨d3, -⟩, ⟨d4, -⟩⟩ := facts5 HG.out.b
  go_region_held3 (fun w' => w'.cell? ⟨w.heap.size, 0, none⟩ = some (.int .i64 k) ∧ w'.cell? ⟨w.heap.size, 1, none⟩ = some (.bool b) ∧ w'.cell? ⟨w.heap.size, 2, none⟩ = some (.int .i64 i) ∧ w'.cell? ⟨w.heap.size, 3, none⟩ = some (.float .f64 x) ∧ w'.cell? ⟨w.heap.size, 4, none⟩ = some (.string ⟨l.toArray⟩) ∧ w'.cell? ⟨w.heap.size + 1, 0, none⟩ = some (.int .i64 k') ∧ w'.cell? ⟨w.heap.size + 1, 1, none⟩ = some (.bool b') ∧ w'.cell? ⟨w.heap.size + 1, 2, none⟩ = some (.int .i64 i') ∧ w'.cell? ⟨w.heap.size + 1, 3, none⟩ = some (.float .f64 x') ∧ w'.cell? ⟨w.heap.size + 1, 4, none⟩ = some (.string ⟨l'.toArray⟩)) (go_keep) (first
    | (go_at_call 12; refine (own_x _ _ _ _ _ _).mono ?_; rintro e w1 ⟨rfl, hb⟩; have HG := hide2 (Bx.step (by first | exact HG.out | exact HG.out.drewN 1 | exact HG.out.drewN 2 | exact HG.out.drewN 3 | exact HG.out.drewN 4) hb); obtain ⟨⟨a0, -⟩, ⟨a1, -⟩, ⟨a2, -⟩, ⟨a3, -⟩, ⟨a4, -⟩⟩ := facts5 HG.out.a; obtain ⟨⟨d0, -⟩, ⟨d1, -⟩, ⟨d2, -⟩, ⟨d3, -⟩, ⟨d4, -⟩⟩ := facts5 HG.out.b; clear hb)
    | (go_at_call 14; refine (same14x _ _ _ _ _ _ _ _ _ _ HX.out (by first | exact HX'.out | exact HX.out) _).mono ?_; rintro e w1 ⟨rfl, hb⟩; have HG := hide2 (Bx.step (by first | exact HG.out | exact HG.out.drewN 1 | exact HG.out.drewN 2 | exact HG.out.drewN 3 | exact HG.out.drewN 4) hb); obtain ⟨⟨a0, -⟩, ⟨a1, -⟩, ⟨a2, -⟩, ⟨a3, -⟩, ⟨a4, -⟩⟩ := facts5 HG.out.a; obtain ⟨⟨d0, -⟩, ⟨d1, -⟩, ⟨d2, -⟩, ⟨d3, -⟩, ⟨d4, -⟩⟩ := facts5 HG.out.b; clear hb)
    | (go_at_call 15; refine (same15x _ _ _ _ _ _ _ _ _ _ HX.out (by first | exact HX'.out | exact HX.out) _).mono ?_; rintro e w1 ⟨rfl, hb⟩; have HG := hide2 (Bx.step (by first | exact HG.out | exact HG.out.drewN 1 | exact HG.out.drewN 2 | exact HG.out.drewN 3 | exact HG.out.drewN 4) hb); obtain ⟨⟨a0, -⟩, ⟨a1, -⟩, ⟨a2, -⟩, ⟨a3, -⟩, ⟨a4, -⟩⟩ := facts5 HG.out.a; obtain ⟨⟨d0, -⟩, ⟨d1, -⟩, ⟨d2, -⟩, ⟨d3, -⟩, ⟨d4, -⟩⟩ := facts5 HG.out.b; clear hb))
  all_goals
    go_wp2
    go_ret
    exact ⟨rfl, HG.out.below⟩
end Go.Proofs.YthfmepnlbaifcaaDoor

/-
  ScalarPrints holds of the program, for every input: any value is printed as the document prints it, or refused as it refuses it, and any two values are the same just where the document says so. Condition: the listed package variables start as the program's text lays them (the card ties them).
-/
namespace Go.Proofs.YthfmepnlbaifcaaDoor
open Go.ChangeShapes Go.WideShapes Go.ChangeAt Go.RowKit Go.ChangeMaps
set_option linter.unusedVariables false

set_option maxRecDepth 100000 in
theorem scalarPrints_lifted (os : Os) (started : os.Started) (H : Type) (enc : TypeId × Value → H) :
    ReturnsInHanded {} Tryd.checked os 4 .any (fun w args => (Rows.scalarPrintsSpec.pre enc Tryd.prog Tryd.f4 [] false w args ∧ laidMetH Tryd.prog laidList w) ∧ sizedMet enc Tryd.prog Tryd.f4 (OpenSpec.ofChange Rows.scalarPrintsSpec) false w args)
      (Rows.scalarPrintsSpec.post enc Tryd.prog Tryd.f4 false true false false) := by
  refine returnsInHanded_of_change_and (C := Tryd.checked) (X := fun w _ => laidMetH Tryd.prog laidList w) (fun _ _ _ hh h => h.of_heap hh) own started (by kernel_rfl) Tryd.func4
    (ChangeSpec.witness_shaped (enc := enc) (C := Tryd.checked) (os := os) (X := fun w _ => laidMetH Tryd.prog laidList w) false (World.doorLaid Tryd.prog 62 os) #[.agg #[.int .i64 0, .bool false, .int .i64 0, .float .f64 0, .string ByteArray.empty], .agg #[.int .i64 0, .bool false, .int .i64 0, .float .f64 0, .string ByteArray.empty]] 8 rfl (World.shaped_of_RefB (by kernel_rfl) (by kernel_rfl)) (by kernel_rfl) (by kernel_rfl) (by kernel_rfl) (door_met os _)) ?_
  intro W base args ds gs before hval0 hW _ hsz0 hL _
  have hval : ∀ (j : Nat) t v, Tryd.f4.params[j]? = some t → args[j]? = some v → Value.okWide Tryd.prog W .any base t v := hval0
  have hsz : (DataW.weightsEach Tryd.prog (Tryd.f4.params.toList ++ Rows.scalarPrintsSpec.plain.varTypes Tryd.prog) (ds ++ gs)).all (· ≤ reachBytes) = true := hsz0
  have hW' := hW
  obtain ⟨p, q, hA0, hV, rfl, hfz, hnd⟩ := hW
  have hA : DataW.TrodAll enc Tryd.prog W 0 (fun _ => true) true Tryd.f4.params.toList args.toList ds p := hA0
  rw [Tryd.params4] at hA hval hsz
  obtain ⟨v0, vs0, d0, ds0, p0, q0, hargs, rfl, rfl, h0, r0⟩ := trodAll_cons hA
  obtain ⟨v1, vs1, d1, ds1, p1, q1, rfl, rfl, rfl, h1, r1⟩ := trodAll_cons r0
  obtain ⟨rfl, rfl, rfl⟩ := trodAll_nil r1
  obtain rfl : args = #[v0, v1] := by cases args; simp_all
  obtain ⟨rfl, rfl⟩ := trodVars_none hV
  have k0 := h0
  have k1 := h1
  have lt0 : ∀ x ∈ p0, x.block < W.heap.size := by obtain ⟨m, hm⟩ := k0; exact DataW.trod_lt m _ _ _ hm
  have lt1 : ∀ x ∈ p1, x.block < W.heap.size := by obtain ⟨m, hm⟩ := k1; exact DataW.trod_lt m _ _ _ hm
  obtain ⟨k, b, i, x, l, rfl, i0, i1, hx, hl⟩ := open_value (hval 0 27 v0 rfl rfl) h0 hsz (j := 0) rfl rfl
  obtain ⟨k', b', i', x', l', rfl, i0', i1', hx', hl'⟩ := open_value (hval 1 27 v1 rfl rfl) h1 hsz (j := 1) rfl rfl
  clear hA0 hval0
  refine (prints_any k b i x l k' b' i' x' l' W (tab10_of hL) (errs_of hL) hx hx' i0 i1 hl).mono fun e W' ⟨he, bel⟩ => ?_
  subst he
  exact ⟨_, rfl, _, _, _, [], _, [], hW', trodAll_mk1 (shut_bool Tryd.underlying4 _), (trodAll_cons_mk (Below.trod laidOut (by kernel_rfl) (of_decide_eq_true (by kernel_rfl)) k0 bel lt0) (trodAll_cons_mk (Below.trod laidOut (by kernel_rfl) (of_decide_eq_true (by kernel_rfl)) k1 bel lt1) trodAll_mk0)), rfl, bel.frame _, fun h => by cases h⟩

theorem scalarPrints_row : Rows.ScalarPrintsSaid :=
  OpenClaim.holds_of_wide 4 Tryd.f4 rfl rfl rfl rfl rfl rfl rfl ⟨rfl, rfl, rfl, rfl, rfl⟩ rfl rfl rfl rfl rfl (by kernel_rfl) Tryd.func4 (by kernel_rfl)
    (of_decide_eq_true (by kernel_rfl)) (by unfold Func.isWrapper; first | (rw [if_pos (by decide +kernel)]; kernel_rfl) | (rw [if_neg (by decide +kernel)]; exact ⟨rfl, rfl⟩))
    (fun os started H enc _ => scalarPrints_lifted os started H enc)

theorem scalarPrints_holds : Rows.ScalarPrintsCardSaid :=
  Claim7.holds_tied_plain_at .later [] _ _ _ _
    scalarPrints_row (fun _ h => by cases h) (by kernel_rfl) (fun _ h => by cases h) scalarPrints_row_tie rfl ⟨rfl, rfl⟩ (by kernel_rfl) rfl
    (fun f fn hf hfn => by
      obtain rfl : f = 4 := Option.some.inj ((show Tryd.prog.funcNamed Rows.scalarPrintsRow.func = some 4 by kernel_rfl).symm.trans hf) |>.symm
      obtain rfl : fn = Tryd.f4 := (Option.some.inj (Tryd.func4.symm.trans hfn)).symm
      exact ⟨by kernel_rfl, fun j t ht => by
        rw [Tryd.params4] at ht
        have hm : t ∈ [27, 27] := by simpa using Array.mem_of_getElem? ht
        have hall : ([27, 27].all fun u => !Tryd.prog.wantsStandIn u) = true := by kernel_rfl
        exact (show Tryd.prog.wantsStandIn t = false by simpa using List.all_eq_true.1 hall t hm)⟩)
    (by kernel_rfl)
#print axioms scalarPrints_holds
end Go.Proofs.YthfmepnlbaifcaaDoor
