/-
  Whatever payloads are framed, whichever of them is taken, and whichever bits within 32 side by side of its payload, or of its sum, are turned, one at least, SumTurned answers true over the landed code and leaves its argument as it was: the records ahead are read, that one and those behind it are not. Conditions: the argument holds at most 1048576 values (the second form); the package variable sum.halves starts as the text of the program lays it (the card ties it).
-/
import Derived.Test.YtcjefhgnmpomjaaDoorUpto
import Derived.Test.YtcjefhgnmpomjaaDoorOpenLists
import Derived.Test.YtcjefhgnmpomjaaDoorTurned
import Derived.Test.YtcjefhgnmpomjaaDoorCards
import Derived.Test.YtcjefhgnmpomjaaDoorTie
import Derived.SevenTiedAt
import Derived.Deep.DeepHandedRow
import Derived.Lib.SmallJoins
namespace Go.Proofs.YtcjefhgnmpomjaaDoor
open Go.ChangeShapes Go.WideShapes Go.ChangeAt Go.RowKit
set_option linter.unusedVariables false

theorem sumTurned_reads (os : Os) {H : Type} (enc : TypeId × Value → H) : ∃ places, DataW.whole enc Tryd.prog ((World.doorLaid Tryd.prog 14 os).forCall (fun _ _ => 0) ⟨#[], #[.agg #[.slice none 0 0, .int .i64 0, .int .i64 0, .int .u32 0]], []⟩).memory Tryd.f7.params.toList Rows.sumTurnedSpec.vars false #[Value.agg #[.slice none 0 0, .int .i64 0, .int .i64 0, .int .u32 0]].toList 8 = some ([.agg [.nil, .lit (.int .i64 0), .lit (.int .i64 0), .lit (.int .u32 0)]], [], places) :=
  ⟨[], by kernel_rfl⟩
theorem sumTurned_met (os : Os) : laidMet Tryd.prog laidList ((World.doorLaid Tryd.prog 14 os).forCall (fun _ _ => 0) ⟨#[], #[.agg #[.slice none 0 0, .int .i64 0, .int .i64 0, .int .u32 0]], []⟩).memory :=
  laidMet_of_run' 8 (by kernel_rfl) (by kernel_rfl)

set_option maxRecDepth 100000 in
theorem sumTurned_liftedUpto (os : Os) (started : os.Started) (H : Type) (enc : TypeId × Value → H) (F : Stop.Interp) :
    ReturnsInHanded {} Tryd.checked os 7 .any ((Rows.OpenSpec.upto Rows.sumTurnedSpec).preRow enc Tryd.prog Tryd.f7 Rows.sumTurnedUptoRow.domain false Rows.sumTurnedUptoRow.laid) (((Rows.OpenSpec.upto Rows.sumTurnedSpec).at F).post enc Tryd.prog Tryd.f7 false true false false) := by
  obtain ⟨places, hx⟩ := sumTurned_reads os enc
  refine returnsInHanded_of_row (C := Tryd.checked) (s := Rows.OpenSpec.upto Rows.sumTurnedSpec) own started (by kernel_rfl) Tryd.func7
    (witness_row_at (enc := enc) (C := Tryd.checked) false (World.doorLaid Tryd.prog 14 os) #[.agg #[.slice none 0 0, .int .i64 0, .int .i64 0, .int .u32 0]] rfl (by kernel_rfl) (by kernel_rfl) (by kernel_rfl)
      (OpenSpec.preRow_of_cond 8 hx (by kernel_rfl) (fun k hk => by cases hk; kernel_rfl) (by kernel_rfl) (sumTurned_met os))) ?_
  intro W base args ds gs before hval0 hW _ hcond hsz0 hL _ _
  have hval : ∀ (j : Nat) t v, Tryd.f7.params[j]? = some t → args[j]? = some v → Value.okWide Tryd.prog W .any base t v := hval0
  have hsz : (DataW.weightsEach Tryd.prog (Tryd.f7.params.toList ++ Rows.sumTurnedSpec.plain.varTypes Tryd.prog) (ds ++ gs)).all (· ≤ reachBytes) = true := hsz0
  have hbulk : Rows.uptoBulkAll (ds ++ gs) ≤ 1048576 := of_decide_eq_true (hcond _ rfl)
  have hW' := hW
  obtain ⟨p, q, hA0, hV, rfl, hfz, hnd⟩ := hW
  have hA : DataW.TrodAll enc Tryd.prog W 0 (fun _ => true) true Tryd.f7.params.toList args.toList ds p := hA0
  rw [Tryd.params7] at hA hval hsz
  obtain ⟨v0, vs0, d0, ds0, p0, q0, hargs, rfl, rfl, h0, r0⟩ := trodAll_cons hA
  obtain ⟨rfl, rfl, rfl⟩ := trodAll_nil r0
  obtain rfl : args = #[v0] := by cases args; simp_all
  obtain ⟨rfl, rfl⟩ := trodVars_none hV
  obtain ⟨c0, c1, c2, c3, y0, y1, y2, y3, nf, rfl, rfl, rfl, g0, g1, g2, g3⟩ := Joins.open_agg4 Tryd.underlying52 (by kernel_rfl) (by kernel_rfl) (hval 0 52 v0 rfl rfl) h0
  obtain ⟨al, ll, cl, hcl⟩ := Joins.slice_form Tryd.underlying35 g0
  cases hcl
  have k0 := h0
  have lt0 : ∀ x ∈ (y0.2 ++ (y1.2 ++ (y2.2 ++ y3.2))), x.block < W.heap.size := by obtain ⟨m, hm⟩ := k0; exact DataW.trod_lt m _ _ _ hm
  have q0 : DataW.Trod enc Tryd.prog W 0 (fun _ => true) true 35 (.slice al ll cl) y0.1 y0.2 := ⟨nf, by simpa [Value.cells] using g0⟩
  have hbl : Rows.uptoBulkAll [y0.1, y1.1, y2.1, y3.1] ≤ 1048576 := by
    simp only [Rows.uptoBulkAll, Rows.uptoBulk, List.append_nil] at hbulk ⊢
    omega
  obtain ⟨z0, w0, u0⟩ := open_lists q0 (j := 0) rfl hbl
  obtain ⟨a1, hc1, _, hw1⟩ := DataW.trod_int Tryd.underlying3 g1
  obtain ⟨a2, hc2, _, hw2⟩ := DataW.trod_int Tryd.underlying3 g2
  obtain ⟨a3, hc3, _, hw3⟩ := DataW.trod_int Tryd.underlying23 g3
  cases hc1
  cases hc2
  cases hc3
  have b1 := bounds_i64 hw1
  have b2 := bounds_i64 hw2
  have b3 := bounds_u32 hw3
  clear hA0 hval0
  refine (turned_any al ll cl z0 a1 a2 a3 W w0.1 w0.2.1 (fun s h => by have := w0.2.2 s h; omega) (tab_of_laid hL) (by omega) (by omega) (by omega) (by omega) (by omega) (by omega) (by omega)).mono fun e W' ⟨he, bel⟩ => ?_
  subst he
  exact ⟨_, rfl, _, _, _, [], _, [], hW', trodAll_mk1 (shut_bool Tryd.underlying4 _), (trodAll_cons_mk (Below.trod laidOut (by kernel_rfl) (of_decide_eq_true (by kernel_rfl)) k0 bel lt0) trodAll_mk0), rfl, bel.frame _, fun h => by cases h⟩

theorem sumTurned_rowUpto : Rows.SumTurnedUptoSaid :=
  OpenClaim.holds_of_cond 7 Tryd.f7 rfl rfl rfl rfl rfl rfl rfl ⟨rfl, rfl, rfl, rfl, rfl⟩ rfl rfl rfl rfl rfl (by kernel_rfl) Tryd.func7 (by kernel_rfl)
    (of_decide_eq_true (by kernel_rfl)) (by unfold Func.isWrapper; first | (rw [if_pos (by decide +kernel)]; kernel_rfl) | (rw [if_neg (by decide +kernel)]; exact ⟨rfl, rfl⟩))
    (fun os started H enc _ F => by rw [OpenClaim.pre_eq_preRow]; exact sumTurned_liftedUpto os started H enc F)

theorem sumTurned_holdsUpto : Rows.SumTurnedUptoCardSaid :=
  Claim7.holds_tied_plain_at .later [] _ _ _ _
    sumTurned_rowUpto (fun _ h => by cases h) (by kernel_rfl) (fun _ h => by cases h) sumTurnedUpto_row_tie rfl ⟨rfl, rfl⟩ (by kernel_rfl) rfl
    (fun f fn hf hfn => by
      obtain rfl : f = 7 := Option.some.inj ((show Tryd.prog.funcNamed Rows.sumTurnedUptoRow.func = some 7 by kernel_rfl).symm.trans hf) |>.symm
      obtain rfl : fn = Tryd.f7 := (Option.some.inj (Tryd.func7.symm.trans hfn)).symm
      exact ⟨by kernel_rfl, fun j t ht => by
        rw [Tryd.params7] at ht
        have hm : t ∈ [52] := by simpa using Array.mem_of_getElem? ht
        have hall : ([52].all fun u => !Tryd.prog.wantsStandIn u) = true := by kernel_rfl
        exact (show Tryd.prog.wantsStandIn t = false by simpa using List.all_eq_true.1 hall t hm)⟩)
    (by kernel_rfl)
#print axioms sumTurned_holdsUpto
end Go.Proofs.YtcjefhgnmpomjaaDoor
