import Derived.Test.YtmljljpldljpjaaBndD
import Derived.Test.YtmljljpldljpjaaBndC
import Derived.Test.YtmljljpldljpjaaAs
import Derived.Test.YtmljljpldljpjaaLi
import Derived.Deep.RegionHeld3
import Derived.BigQuiet
import Derived.Test.YtmljljpldljpjaaOpen
/-
  What both Checks leave, of fault or not: plain, and two contracts.
-/
namespace Go.Proofs.Ytmljljpldljpjaa
open Go.RowKit
set_option linter.unusedVariables false
set_option linter.unusedSimpArgs false
set_option maxRecDepth 100000
/-- the warnings, where there is no fault -/
def wnU (C : List Rs) : List Wg3 := if (chkF C).2.2 = 0 then wnC C C.length else []
/-- what both Checks leave, of fault or not -/
def CkU (w : World) (C : List Rs) (e : Ending) (w' : World) : Prop := ∃ a c, e = .returned (.tuple #[.slice a (wnU C).length c, .agg #[.int .i64 (chkF C).1, .int .i64 (chkF C).2.1, .int .i64 (chkF C).2.2]]) ∧ Cel w' a 3 ((wnU C).map wRow) ∧ Below w.heap.size w w'
theorem chk_u (w : World) (a : Option Addr) (n c : Nat) (os : List Rx) (hL : Lr w a os) (hn : os.length = n) (hs : n ≤ 4194304) : Calls Try.prog 14 #[.slice a n c] w fun e w' => CkU w (os.map Rx.toRs) e w' := by
  refine (check_any w a n c os hL hn hs).mono ?_
  intro e w' h
  rcases h with ⟨h1, rfl, hb⟩ | ⟨h1, -, v, rfl, ho, hb⟩
  · have hw : wnU (os.map Rx.toRs) = [] := by unfold wnU; rw [if_neg h1]
    refine ⟨none, 0, ?_, ?_, hb⟩
    · rw [hw]; rfl
    · rw [hw]; exact .inl rfl
  · have hw : wnU (os.map Rx.toRs) = wnC (os.map Rx.toRs) (os.map Rx.toRs).length := by unfold wnU; rw [if_pos (by rw [h1])]
    obtain ⟨va, vc, rfl, -⟩ := own_form ho
    refine ⟨va, vc, ?_, ?_, hb⟩
    · rw [hw, h1]; rfl
    · rw [hw]; exact own_cel wRow 3 (fun _ => rfl) (by decide) ho
theorem rck_u (w : World) (a : Option Addr) (n c : Nat) (os : List Rx) (hL : Lr w a os) (hn : os.length = n) (hs : n ≤ 4194304) : Calls Try.prog 15 #[.slice a n c] w fun e w' => CkU w (os.map Rx.toRs) e w' := by
  refine (rcheck_any w a n c os hL hn hs).mono ?_
  intro e w' h
  unfold RcE at h
  split at h
  · next h0 =>
    have hw : wnU (os.map Rx.toRs) = wnC (os.map Rx.toRs) (os.map Rx.toRs).length := by unfold wnU; rw [if_pos h0]
    obtain ⟨v, rfl, ho, hb⟩ := h
    obtain ⟨va, vc, rfl, -⟩ := own_form ho
    refine ⟨va, vc, ?_, ?_, hb⟩
    · rw [hw, (chk_zero h0).1]; rfl
    · rw [hw]; exact own_cel wRow 3 (fun _ => rfl) (by decide) ho
  · next h0 =>
    obtain ⟨rfl, hb⟩ := h
    have hw : wnU (os.map Rx.toRs) = [] := by unfold wnU; rw [if_neg h0]
    refine ⟨none, 0, ?_, ?_, hb⟩
    · rw [hw]; rfl
    · rw [hw]; exact .inl rfl
theorem wnC_len {C : List Rs} (h : ∀ r ∈ C, r.rus.length ≤ 1048576) : ∀ i, i ≤ C.length → (wnC C i).length ≤ i * 1048576
  | 0, _ => by simp [wnC]
  | i + 1, hi => by
    have ih := wnC_len h i (by omega)
    have hr := List.getElem?_eq_getElem (l := C) (i := i) (by omega)
    have hb := h _ (List.getElem_mem (l := C) (n := i) (by omega))
    rw [wnC_step hr, List.length_append]
    split
    · have := wnR_len i (C[i]).rus (C[i]).rus.length
      omega
    · rw [List.length_nil, Nat.add_zero]; exact Nat.le_trans ih (Nat.mul_le_mul_right _ (Nat.le_succ i))
theorem wnU_len {C : List Rs} (h : ∀ r ∈ C, r.rus.length ≤ 1048576) : (wnU C).length ≤ 67108864 := by
  unfold wnU
  split
  · next h0 =>
    have := wnC_len h C.length (Nat.le_refl _)
    have hl := (chk_zero h0).2.len
    have : C.length * 1048576 ≤ 64 * 1048576 := Nat.mul_le_mul_right _ hl
    omega
  · exact Nat.zero_le _
theorem box3v {W : World} {b : Nat} {x0 x1 x2 : Value} {t : TypeId} (h : W.heap[b]? = some (.cells #[x0, x1, x2] t (0, 0))) : W.cell? ⟨b, 0, none⟩ = some x0 ∧ W.cell? ⟨b, 1, none⟩ = some x1 ∧ W.cell? ⟨b, 2, none⟩ = some x2 := by
  refine ⟨?_, ?_, ?_⟩ <;> (rw [cell_block h]; rfl)
end Go.Proofs.Ytmljljpldljpjaa

/-
  The walk of CheckFaults.
-/
namespace Go.Proofs.Ytmljljpldljpjaa
open Go.RowKit
set_option linter.unusedVariables false
set_option linter.unusedSimpArgs false
set_option maxRecDepth 100000
set_option maxHeartbeats 32000000 in
theorem checkFaults_any (w : World) (a : Option Addr) (n c : Nat) (F : List Rx) (hF : Lr w a F) (hbF : ∀ o ∈ F, Bare o) (hn : F.length = n) (hs : n ≤ 1048576) :
    Calls Try.prog 4 #[.slice a n c] w fun e w' => e = .returned (.bool true) ∧ Below w.heap.size w w' := by
  subst hn
  have HF := hideL hF
  have HBF := hideL hbF
  clear hF hbF
  go_enter Try.func4, Try.ntmps4
  go_wp2_with fail
  refine (own_e w a c F HF.out HBF.out hs).mono ?_
  rintro e w1 ⟨a1, k1, A, rfl, hA1, hA2, hA3, hA4, hb1⟩
  have HA := hideL hA3
  have HAE := hideL hA4
  have HAL := hideL hA1
  have HB1 := hideL hb1
  clear hA1 hA2 hA3 hA4 hb1
  have HD : Hid (Calls Try.prog 14 #[.slice a1 F.length k1] w1 fun e w' => CkU w1 (F.map Rx.toRs) e w') := by
    have := chk_u w1 a1 F.length k1 A HA.out HAL.out (by omega)
    rwa [HAE.out] at this
  have HRD := hideL (fun W (hW : Below w.heap.size w W) => rck_u W a F.length c F (HF.out.below hW) rfl (by omega))
  unfold CkU at HD HRD
  have hwl : (wnU (F.map Rx.toRs)).length ≤ 67108864 := wnU_len (fun r hr => by obtain ⟨o, ho, rfl⟩ := List.mem_map.1 hr; exact (HF.out.each o ho).lr)
  generalize wnU (F.map Rx.toRs) = R at HD HRD hwl
  obtain ⟨x, hx⟩ : ∃ x, chkF (F.map Rx.toRs) = x := ⟨_, rfl⟩
  rw [hx] at HD HRD
  clear hx
  obtain ⟨x1, x2, x3⟩ := x
  simp only at HD HRD
  obtain ⟨nr, hnr⟩ : ∃ nr, R.length = nr := ⟨_, rfl⟩
  have HNR := hideL hnr
  rw [hnr] at HD HRD hwl
  clear hnr
  go_wp2_with fail
  refine HD.out.mono ?_
  rintro e w2 ⟨a2, k2, rfl, hc2, hb2⟩
  have HC2 := hideL hc2
  have HB12 := hideL (hb2.trans ((Gr.alloc w2 (.cells #[.int .i64 x1, .int .i64 x2, .int .i64 x3] 33 (0, 0))).below.mono hb2.size))
  have hn5 := heap_alloc_new w2 (.cells #[.int .i64 x1, .int .i64 x2, .int .i64 x3] 33 (0, 0))
  obtain ⟨C5, hC5⟩ : ∃ C, w2.heap.size = C := ⟨_, rfl⟩
  rw [hC5] at hn5
  have HN5 := hideL hn5
  have HBW := hideL (HB1.out.trans (HB12.out.mono HB1.out.size))
  have HG2 := hideL (Gr.alloc w2 (.cells #[.int .i64 x1, .int .i64 x2, .int .i64 x3] 33 (0, 0))).below
  clear hc2 hb2 hn5
  go_wp2_with fail
  refine (HRD.out _ HBW.out).mono ?_
  rintro e w3 ⟨a3, k3, rfl, hc3, hb3⟩
  have HC3 := hideL hc3
  have HG3 := hideL (hb3.trans ((Gr.alloc w3 (.cells #[.int .i64 x1, .int .i64 x2, .int .i64 x3] 38 (0, 0))).below.mono hb3.size))
  have HN53 := hideL ((Gr.alloc w3 (.cells #[.int .i64 x1, .int .i64 x2, .int .i64 x3] 38 (0, 0))).below.cells (hb3.cells HN5.out))
  have HG33 := hideL (Gr.alloc w3 (.cells #[.int .i64 x1, .int .i64 x2, .int .i64 x3] 38 (0, 0))).below
  have hn7 := heap_alloc_new w3 (.cells #[.int .i64 x1, .int .i64 x2, .int .i64 x3] 38 (0, 0))
  obtain ⟨C7, hC7⟩ : ∃ C, w3.heap.size = C := ⟨_, rfl⟩
  rw [hC7] at hn7
  have HN7 := hideL hn7
  clear hc3 hb3 hn7
  obtain ⟨oi, ob, hoi, hob⟩ : ∃ (oi : Int) (ob : Bool), outI (F.map Rx.toRs) = oi ∧ decide (astF (F.map Rx.toRs) = F.length) = ob := ⟨_, _, rfl, rfl⟩
  have hoo : (ob = true ∧ oi = -1) ∨ (ob = false ∧ 0 ≤ oi) := by
    rw [← hoi, ← hob]
    unfold outI
    rw [List.length_map]
    by_cases h : astF (F.map Rx.toRs) = F.length
    · exact .inl ⟨by simp [h], by rw [if_pos h]⟩
    · exact .inr ⟨by simp [h], by rw [if_neg h]; omega⟩
  have HOU := hideL (fun W (h : Below w.heap.size w W) => out_any W a F.length c F (HF.out.below h) rfl (by omega))
  have HOR := hideL (fun W (h : Below w1.heap.size w1 W) => ordered_any W a1 F.length k1 A (HA.out.below h) HAL.out (by omega))
  rw [hoi] at HOU
  rw [HAE.out, hob] at HOR
  have HNU : Hid (∀ W, Calls Try.prog 12 #[.int .i64 x3] W fun e w' => e = .returned (.int .i64 x3) ∧ w' = W) := fun W => num_any W x3
  have HOW := hideL (fun W (h : Below w.heap.size w W) => own_e W a c F (HF.out.below h) HBF.out hs)
  clear hoi hob HD HRD
  go_wp2_with fail
  obtain ⟨wz, hwz⟩ : ∃ X, w3.alloc (.cells #[.int .i64 x1, .int .i64 x2, .int .i64 x3] 38 (0, 0)) = X := ⟨_, rfl⟩
  rw [hwz] at HG3 HN53 HN7 HG33 ⊢
  have HZ1 := hideL (HB12.out.trans (HG3.out.mono HB12.out.size))
  have HZW := hideL (HB1.out.trans (HZ1.out.mono HB1.out.size))
  obtain ⟨p0, p1, p2⟩ := box3v HN53.out
  obtain ⟨q0, q1, q2⟩ := box3v HN7.out
  have HS := hideL (fun (w' : World) (h : Below wz.heap.size wz w') => show (w'.cell? ⟨C5, 0, none⟩ = some (.int .i64 x1) ∧ w'.cell? ⟨C5, 1, none⟩ = some (.int .i64 x2) ∧ w'.cell? ⟨C5, 2, none⟩ = some (.int .i64 x3) ∧ w'.cell? ⟨C7, 0, none⟩ = some (.int .i64 x1) ∧ w'.cell? ⟨C7, 1, none⟩ = some (.int .i64 x2) ∧ w'.cell? ⟨C7, 2, none⟩ = some (.int .i64 x3)) from ⟨cell_of_below h p0, cell_of_below h p1, cell_of_below h p2, cell_of_below h q0, cell_of_below h q1, cell_of_below h q2⟩)
  clear hC5 hC7 hwz
  rcases hoo with ⟨rfl, rfl⟩ | ⟨rfl, ho0⟩
  all_goals
    go_region_held3 (fun w' => w'.cell? ⟨C5, 0, none⟩ = some (.int .i64 x1) ∧ w'.cell? ⟨C5, 1, none⟩ = some (.int .i64 x2) ∧ w'.cell? ⟨C5, 2, none⟩ = some (.int .i64 x3) ∧ w'.cell? ⟨C7, 0, none⟩ = some (.int .i64 x1) ∧ w'.cell? ⟨C7, 1, none⟩ = some (.int .i64 x2) ∧ w'.cell? ⟨C7, 2, none⟩ = some (.int .i64 x3)) (go_keep) (first
      | (go_at_call 17; refine (HOU.out _ (HZW.out.trans (HG14.out.mono HZW.out.size))).mono ?_; rintro e w15 ⟨rfl, hgx⟩; have HG15 := hideL (HG14.out.trans (hgx.below.mono HG14.out.size)); obtain ⟨y0, y1, y2, y3, y4, y5⟩ := HS.out w15 HG15.out; clear hgx)
      | (go_at_call 16; refine (HOR.out _ (HZ1.out.trans (HG13.out.mono HZ1.out.size))).mono ?_; rintro e w14 ⟨rfl, hgx⟩; have HG14 := hideL (HG13.out.trans (hgx.below.mono HG13.out.size)); obtain ⟨z0, z1, z2, z3, z4, z5⟩ := HS.out w14 HG14.out; clear hgx)
      | (go_at_call 13; refine HLI.out.mono ?_; rintro e w13 ⟨rfl, hgx⟩; have HG13 := hideL (HG12.out.trans (hgx.below.mono HG12.out.size)); obtain ⟨u0, u1, u2, u3, u4, u5⟩ := HS.out w13 HG13.out; clear hgx)
      | (go_at_call 9; refine (HOW.out _ (below_drewN HZW.out 1)).mono ?_; rintro e w12 ⟨a6, k6, A6, rfl, hA1, hA2, hA3, hA4, hb6⟩; have HG12 := hideL ((below_drewN (Below.refl wz.heap.size wz) 1).trans hb6); have HLI := hideL (lists_any w12 a1 a6 F.length k1 k6 A A6 HAL.out (by omega) (HA.out.below (HZ1.out.trans (HG12.out.mono HZ1.out.size))) hA3 (by rw [HAE.out, hA4])); obtain ⟨v0, v1, v2, v3, v4, v5⟩ := HS.out w12 HG12.out; clear hA1 hA2 hA3 hA4 hb6)
      | (go_at_call 12; refine (HNU.out _).mono ?_; rintro e w11 ⟨rfl, hw11⟩; have hw11 := hw11.symm; subst hw11))
    go_wp2_with fail
    go_loopw [8] (fun t wr => ∃ (i : Nat), t = .int .i64 i ∧ i ≤ nr ∧ Below wz.heap.size wz wr) (fun t _ => nr - (intOf t).toNat)
    case atStart => exact ⟨0, rfl, by omega, HG15.out⟩
    case round =>
      obtain ⟨i, rfl, hi, hb⟩ := hrel
      have HBR := hideL hb
      clear hb
      have i0 : (0 : Int) ≤ i := by omega
      by_cases h3 : i < nr
      · have h3' : (i : Int) < nr := by omega
        rcases hki : R[i]? with _ | r
        · have := List.getElem?_eq_none_iff.1 hki; have := HNR.out; omega
        obtain ⟨g, off, ea, cx⟩ := (HC2.out.below (HG2.out.trans ((HG3.out.trans (HBR.out.mono HG3.out.size)).mono HG2.out.size))).at_ hki
        obtain ⟨g2, off2, eb, dx⟩ := (HC3.out.below (HG33.out.trans (HBR.out.mono HG33.out.size))).at_ hki
        have c0 := cx 0 _ rfl
        have c1 := cx 1 _ rfl
        have c2 := cx 2 _ rfl
        have d0 := dx 0 _ rfl
        have d1 := dx 1 _ rfl
        have d2 := dx 2 _ rfl
        rw [Nat.add_zero] at c0 d0
        subst ea eb
        clear hki cx dx
        go_wp2_with fail
        go_quiet (fail)
        go_wp2_with fail
        go_roundw
        case rel => exact ⟨i + 1, by go_num, by omega, below_drewN HBR.out _⟩
        case measure => simp [intOf]; omega
      · have h3' : ¬ (i : Int) < nr := by omega
        go_wp2_with fail
        go_ret
        exact ⟨rfl, HZW.out.trans (HBR.out.mono HZW.out.size)⟩
end Go.Proofs.Ytmljljpldljpjaa

/-
  CheckFaults holds of the program: the first thing that is wrong with a configuration is told, or which rules others cover, as the document has it; of readings of bulk at most 1048576.
-/
namespace Go.Proofs.Ytmljljpldljpjaa
open Go.ChangeShapes Go.WideShapes Go.ChangeAt Go.RowKit
set_option linter.unusedVariables false
set_option linter.unusedSimpArgs false

set_option maxRecDepth 100000 in
theorem checkFaults_lifted (os : Os) (started : os.Started) (H : Type) (enc : TypeId × Value → H) (F : Stop.Interp) :
    ReturnsInHanded {} Try.checked os 4 .any ((Rows.OpenSpec.upto Rows.checkFaultsSpec).pre6 enc Try.prog Try.f4 Rows.checkFaultsUptoRow.domain false) (((Rows.OpenSpec.upto Rows.checkFaultsSpec).at F).post enc Try.prog Try.f4 false true false false) := by
  refine returnsInHanded_of_cond (C := Try.checked) (s := Rows.OpenSpec.upto Rows.checkFaultsSpec) (k := Rows.uptoSmall) rfl own started (by kernel_rfl) Try.func4
    (OpenSpec.witness (enc := enc) (C := Try.checked) (s := Rows.OpenSpec.upto Rows.checkFaultsSpec) (k := Rows.uptoSmall) rfl false ⟨#[], #[.slice none 0 0], []⟩ 8 (by kernel_rfl) (by kernel_rfl) (by kernel_rfl)
      (x := ([.nil], [], [])) (by kernel_rfl) rfl (by kernel_rfl)) ?_
  intro W base args ds gs before hval0 hW _ hk _
  have hval : ∀ (j : Nat) t v, Try.f4.params[j]? = some t → args[j]? = some v → Value.okWide Try.prog W .any base t v := hval0
  have hbulk : Rows.uptoBulkAll (ds ++ gs) ≤ 1048576 := of_decide_eq_true hk
  have hW' := hW
  obtain ⟨p, q, hA0, hV, rfl, hfz, hnd⟩ := hW
  have hA : DataW.TrodAll enc Try.prog W 0 (fun _ => true) true Try.f4.params.toList args.toList ds p := hA0
  rw [Try.params4] at hA hval
  obtain ⟨v0, vs0, d0, ds0, p0, q0, hargs, rfl, rfl, h0, r0⟩ := trodAll_cons hA
  obtain ⟨rfl, rfl, rfl⟩ := trodAll_nil r0
  obtain rfl : args = #[v0] := by cases args; simp_all
  obtain ⟨rfl, rfl⟩ := trodVars_none hV
  obtain ⟨a0, len0, cap0, rfl⟩ := okWide_slice Try.underlying22 (hval 0 22 v0 rfl rfl)
  have k0 := h0
  have lt0 : ∀ x ∈ p0, x.block < W.heap.size := by obtain ⟨m, hm⟩ := k0; exact DataW.trod_lt m _ _ _ hm
  obtain ⟨z0, w0⟩ := open_res h0 (j := 0) rfl hbulk
  clear hA0 hval0
  refine (checkFaults_any W a0 len0 cap0 z0 w0.2.1 w0.2.2.1 w0.1 w0.2.2.2.1).mono fun e W' ⟨he, bel⟩ => ?_
  subst he
  exact ⟨_, rfl, _, _, _, [], _, [], hW', trodAll_mk1 (shut_bool Try.underlying4 _), (trodAll_cons_mk (Below.trod laidOut (by kernel_rfl) (of_decide_eq_true (by kernel_rfl)) k0 bel lt0) trodAll_mk0), rfl, bel.frame _, fun h => by cases h⟩

theorem checkFaults_holdsUpto : Rows.CheckFaultsUptoSaid :=
  OpenClaim.holds_of_cond 4 Try.f4 rfl rfl rfl rfl rfl rfl rfl ⟨rfl, rfl, rfl, rfl, rfl⟩ rfl rfl rfl rfl rfl (by kernel_rfl) Try.func4 (by kernel_rfl)
    (of_decide_eq_true (by kernel_rfl)) (by unfold Func.isWrapper; first | (rw [if_pos (by decide +kernel)]; kernel_rfl) | (rw [if_neg (by decide +kernel)]; exact ⟨rfl, rfl⟩))
    (fun os started H enc _ F => checkFaults_lifted os started H enc F)
#print axioms checkFaults_holdsUpto
end Go.Proofs.Ytmljljpldljpjaa
