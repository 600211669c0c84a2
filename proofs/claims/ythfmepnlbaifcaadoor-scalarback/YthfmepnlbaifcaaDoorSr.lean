/-
  The scanner, whole.
-/
import Derived.Test.YthfmepnlbaifcaaDoorSq
namespace Go.Proofs.YthfmepnlbaifcaaDoor
open Go.RowKit
set_option linter.unusedVariables false
set_option linter.unusedSimpArgs false
theorem take_run {r : List UInt8} : ∀ {k : Nat}, (∀ c ∈ r.take k, dg c = true) → dgB r k = false → k ≤ r.length → r.takeWhile dg = r.take k ∧ r.dropWhile dg = r.drop k := by
  induction r with
  | nil => intro k _ _ _; simp
  | cons c r ih =>
    intro k h1 h2 h3
    cases k with
    | zero =>
      have hc : dg c = false := h2
      simp [List.takeWhile, List.dropWhile, hc]
    | succ k =>
      have hc : dg c = true := h1 c (by simp)
      obtain ⟨e1, e2⟩ := ih (k := k) (fun x hx => h1 x (by simp [hx])) h2 (by simpa using h3)
      simp [List.takeWhile, List.dropWhile, hc, e1, e2]
theorem scanF_4 {l A r : List UInt8} (hr : unM l = A ++ 46 :: r) (hAw : A = wholeOf (unM l)) (hA0 : A ≠ []) : scanF l = scan3 (hasM l) A r := by
  unfold scanF scan1
  rw [← hAw, hr, List.drop_left]
  simp only [scan2]
  rw [if_neg (by simp [hA0])]
theorem drop_at {r : List UInt8} {k : Nat} {c : UInt8} (h : r[k]? = some c) : r.drop k = c :: r.drop (k + 1) := by
  obtain ⟨hk, rfl⟩ := List.getElem?_eq_some_iff.1 h
  exact List.drop_eq_getElem_cons hk
theorem scanF_c {l A : List UInt8} {c : UInt8} (hAw : wholeOf (unM l) = A) (ic : (unM l)[A.length]? = some c) (hc : A = [] ∨ c ≠ 46) : scanF l = none := by
  unfold scanF scan1
  rw [hAw, drop_at ic]
  simp only [scan2]
  rw [if_pos hc]
theorem scanF_dot {l A : List UInt8} (hAw : wholeOf (unM l) = A) (hA0 : A ≠ []) (hAk : (unM l).take A.length = A) (ic : (unM l)[A.length]? = some 46) (hd : dgB (unM l) (A.length + 1) = false) : scanF l = none := by
  have hr : unM l = A ++ 46 :: (unM l).drop (A.length + 1) := by
    have h1 := List.take_append_drop A.length (unM l)
    rw [hAk, drop_at ic] at h1
    exact h1.symm
  rw [scanF_4 hr hAw.symm hA0]
  have hd' : dgB ((unM l).drop (A.length + 1)) 0 = false := by
    rw [dgB, List.getElem?_drop]; exact hd
  have := (take_run (k := 0) (by simp) hd' (by omega)).1
  rw [List.take_zero] at this
  unfold scan3
  rw [if_pos this]
theorem n46 {c : UInt8} (h : ¬ (c.toNat : Int) = 46) : c ≠ 46 := by rintro rfl; exact h rfl
theorem y46 {c : UInt8} (h : (c.toNat : Int) = 46) : c = 46 := by rw [← UInt8.toNat_inj]; simp; omega
theorem n101 {c : UInt8} (h : ¬ (c.toNat : Int) = 101) : c ≠ 101 := by rintro rfl; exact h rfl
theorem y101 {c : UInt8} (h : (c.toNat : Int) = 101) : c = 101 := by rw [← UInt8.toNat_inj]; simp; omega
theorem res37 (T : Array Value) (W : World) (g : Nat) (cs : Array Value) (b : Bool) (hp : T.getD 2 undef = .pointer (some ⟨g, 0, none⟩)) (h3 : T.getD 3 undef = .bool b) (hg : W.heap[g]? = some (.cells cs 69 (0, 0))) (hc : cs.size = 4) :
    (results Tryd.f37 T).run Tryd.prog W = .ok (.tuple #[.agg cs, .bool b]) W := by
  have hu : (match Tryd.prog.underlying 69 with | some (.struct _) => true | _ => false) = true := by kernel_rfl
  rcases hd : Tryd.prog.underlying 69 with _ | d
  · rw [hd] at hu; cases hu
  · rw [hd] at hu
    have hi : (Tryd.prog.info? 69).map (·.size) = some 4 := by kernel_rfl
    rw [results_cell_tmp (p := 2) (u := 3) (ty := 69) rfl, hp, h3]
    have hl := run_loadVar_row W g 69 69 cs (0, 0) d hg hd (by cases d <;> first | rfl | (cases hu)) (by rw [hc]; exact hi)
    simp only [asAddr, Sem.run_pure, Result.andThen_ok, hl]
theorem nmV_size (o : Option Nm) : (nmV o).size = 4 := by cases o <;> rfl
theorem scan_any (l : List UInt8) (w : World) (hs : l.length ≤ 2 ^ 47) :
    Calls Tryd.prog 37 #[.string ⟨l.toArray⟩] w fun e w' => e = .returned (.tuple #[.agg (nmV (scanF l)), .bool (scanF l).isSome]) ∧ Below w.heap.size w w' := by
  have hlen := fM_le l
  go_enter Tryd.func37, Tryd.ntmps37
  go_wp2
  refine wp_scope_many (Jn l w) (μn l) ?_ ?_
  · have hm := atB_M l
    cases hM : hasM l with
    | true =>
      have hf : fM l = 1 := by rw [fM, hM]; rfl
      rw [hM] at hm
      have HM := hide2 hM
      clear hM
      by_cases h0 : (unM l).head? = some 48
      · have d := at_two hs hm (f := 1) (by decide) (show atB l 1 48 = true by
          have := atB_un l 0 48
          rw [hf] at this
          rw [this, atB_0]; simp [h0])
        have H0 := hide2 h0
        have HF := hide2 hf
        clear h0 hm hf hlen
        go_wp2_with (go_at_call 55; refine (d _ _ _ (by first | exact .inl ⟨rfl, rfl, rfl⟩ | exact .inr ⟨rfl, rfl, rfl⟩) _).mono ?_; rintro e w' ⟨rfl, rfl⟩)
        go_step3
        show Jn l w 0 _ _
        exact ⟨fr_mk _ _ _ _ _ rfl rfl rfl rfl (by rw [HF.out]; rfl) (by rw [HF.out]; rfl), by rw [HM.out]; rfl, H0.out⟩
      · have d := at_two hs hm (f := 1) (by decide) (show atB l 1 48 = false by
          have := atB_un l 0 48
          rw [hf] at this
          rw [this, atB_0]; simp [h0])
        have H0 := hide2 h0
        have HF := hide2 hf
        have HL := hide2 hlen
        cases hd : dgB (unM l) 0 with
        | true =>
          have dd := dg_at l 1 1 rfl true (by have := dgB_un l 0; rw [hf] at this; rw [this, hd])
          have HD := hide2 hd
          clear h0 hm hf hd hlen
          go_wp2_with (go_at_call 55; refine (d _ _ _ (by first | exact .inl ⟨rfl, rfl, rfl⟩ | exact .inr ⟨rfl, rfl, rfl⟩) _).mono ?_; rintro e w' ⟨rfl, rfl⟩)
          go_step3
          go_wp2_with (go_at_call 56; refine (dd _ hs (by decide)).mono ?_; rintro e w' ⟨rfl, rfl⟩)
          go_step3
          show Jn l w 1 _ _
          have hne : 1 ≤ (unM l).length := by
            have := HD.out
            rcases hr : unM l with _ | ⟨c, r⟩
            · rw [hr] at this; cases this
            · simp
          refine ⟨1, fr_mk _ _ _ _ _ rfl rfl rfl rfl (by rw [HF.out]; rfl) (by rw [HF.out]; rfl), by rw [HM.out]; rfl, H0.out, hne, ?_⟩
          have := HD.out
          rcases hr : unM l with _ | ⟨c, r⟩
          · rw [hr] at hne; simp at hne
          · rw [hr] at this
            intro x hx
            simp at hx
            subst hx
            exact this
        | false =>
          have dd := dg_at l 1 1 rfl false (by have := dgB_un l 0; rw [hf] at this; rw [this, hd])
          have hw := not_dgB hd h0
          have HW := hide2 hw
          have HS := hide2 (scan_nowhole hw)
          have hx : (ByteArray.mk l.toArray).extract 1 1 = ⟨([] : List UInt8).toArray⟩ := by rw [extract_mid]; simp
          clear h0 hm hd hw
          have hl0 : 1 ≤ (l.length : Int) := by omega
          by_cases he : (l.length : Int) = 1
          · clear hf hlen hl0
            go_wp2_with (go_at_call 55; refine (d _ _ _ (by first | exact .inl ⟨rfl, rfl, rfl⟩ | exact .inr ⟨rfl, rfl, rfl⟩) _).mono ?_; rintro e w' ⟨rfl, rfl⟩)
            go_step3
            go_wp2_with (go_at_call 56; refine (dd _ hs (by decide)).mono ?_; rintro e w' ⟨rfl, rfl⟩)
            go_step3
            go_wp2
            go_step3
            show Jn l w 2 _ _
            refine ⟨1, 1, fr_mk _ _ _ _ _ rfl rfl rfl rfl rfl rfl, by rw [HM.out, HW.out]; rfl, ?_⟩
            rw [HW.out]
            exact List.length_eq_zero_iff.1 (by have h1 := HL.out; have h2 := HF.out; rw [List.length_drop]; show (unM l).length - 0 = 0; omega)
          · have he' : ¬ (1 : Int) = l.length := fun e => he e.symm
            clear hf hlen
            go_wp2_with (go_at_call 55; refine (d _ _ _ (by first | exact .inl ⟨rfl, rfl, rfl⟩ | exact .inr ⟨rfl, rfl, rfl⟩) _).mono ?_; rintro e w' ⟨rfl, rfl⟩)
            go_step3
            go_wp2_with (go_at_call 56; refine (dd _ hs (by decide)).mono ?_; rintro e w' ⟨rfl, rfl⟩)
            go_step3
            go_wp2
            go_step3
            show Jn l w 3 _ _
            exact ⟨1, 1, true, [], [], fr_mk _ _ _ _ _ rfl rfl rfl rfl rfl rfl, rfl, HS.out⟩
    | false =>
      have hf : fM l = 0 := by rw [fM, hM]; rfl
      rw [hM] at hm
      have HM := hide2 hM
      clear hM
      by_cases h0 : (unM l).head? = some 48
      · have d := at_two hs hm (f := 0) (by decide) (show atB l 0 48 = true by
          have := atB_un l 0 48
          rw [hf] at this
          rw [this, atB_0]; simp [h0])
        have H0 := hide2 h0
        have HF := hide2 hf
        clear h0 hm hf hlen
        go_wp2_with (go_at_call 55; refine (d _ _ _ (by first | exact .inl ⟨rfl, rfl, rfl⟩ | exact .inr ⟨rfl, rfl, rfl⟩) _).mono ?_; rintro e w' ⟨rfl, rfl⟩)
        go_step3
        show Jn l w 0 _ _
        exact ⟨fr_mk _ _ _ _ _ rfl rfl rfl rfl (by rw [HF.out]; rfl) (by rw [HF.out]; rfl), by rw [HM.out]; rfl, H0.out⟩
      · have d := at_two hs hm (f := 0) (by decide) (show atB l 0 48 = false by
          have := atB_un l 0 48
          rw [hf] at this
          rw [this, atB_0]; simp [h0])
        have H0 := hide2 h0
        have HF := hide2 hf
        have HL := hide2 hlen
        cases hd : dgB (unM l) 0 with
        | true =>
          have dd := dg_at l 0 0 rfl true (by have := dgB_un l 0; rw [hf] at this; rw [this, hd])
          have HD := hide2 hd
          clear h0 hm hf hd hlen
          go_wp2_with (go_at_call 55; refine (d _ _ _ (by first | exact .inl ⟨rfl, rfl, rfl⟩ | exact .inr ⟨rfl, rfl, rfl⟩) _).mono ?_; rintro e w' ⟨rfl, rfl⟩)
          go_step3
          go_wp2_with (go_at_call 56; refine (dd _ hs (by decide)).mono ?_; rintro e w' ⟨rfl, rfl⟩)
          go_step3
          show Jn l w 1 _ _
          have hne : 1 ≤ (unM l).length := by
            have := HD.out
            rcases hr : unM l with _ | ⟨c, r⟩
            · rw [hr] at this; cases this
            · simp
          refine ⟨1, fr_mk _ _ _ _ _ rfl rfl rfl rfl (by rw [HF.out]; rfl) (by rw [HF.out]; rfl), by rw [HM.out]; rfl, H0.out, hne, ?_⟩
          have := HD.out
          rcases hr : unM l with _ | ⟨c, r⟩
          · rw [hr] at hne; simp at hne
          · rw [hr] at this
            intro x hx
            simp at hx
            subst hx
            exact this
        | false =>
          have dd := dg_at l 0 0 rfl false (by have := dgB_un l 0; rw [hf] at this; rw [this, hd])
          have hw := not_dgB hd h0
          have HW := hide2 hw
          have HS := hide2 (scan_nowhole hw)
          have hx : (ByteArray.mk l.toArray).extract 0 0 = ⟨([] : List UInt8).toArray⟩ := by rw [extract_mid]; simp
          clear h0 hm hd hw
          have hl0 : 0 ≤ (l.length : Int) := by omega
          by_cases he : (l.length : Int) = 0
          · clear hf hlen hl0
            go_wp2_with (go_at_call 55; refine (d _ _ _ (by first | exact .inl ⟨rfl, rfl, rfl⟩ | exact .inr ⟨rfl, rfl, rfl⟩) _).mono ?_; rintro e w' ⟨rfl, rfl⟩)
            go_step3
            go_wp2_with (go_at_call 56; refine (dd _ hs (by decide)).mono ?_; rintro e w' ⟨rfl, rfl⟩)
            go_step3
            go_wp2
            go_step3
            show Jn l w 2 _ _
            refine ⟨0, 0, fr_mk _ _ _ _ _ rfl rfl rfl rfl rfl rfl, by rw [HM.out, HW.out]; rfl, ?_⟩
            rw [HW.out]
            exact List.length_eq_zero_iff.1 (by have h1 := HL.out; have h2 := HF.out; rw [List.length_drop]; show (unM l).length - 0 = 0; omega)
          · have he' : ¬ (0 : Int) = l.length := fun e => he e.symm
            clear hf hlen
            go_wp2_with (go_at_call 55; refine (d _ _ _ (by first | exact .inl ⟨rfl, rfl, rfl⟩ | exact .inr ⟨rfl, rfl, rfl⟩) _).mono ?_; rintro e w' ⟨rfl, rfl⟩)
            go_step3
            go_wp2_with (go_at_call 56; refine (dd _ hs (by decide)).mono ?_; rintro e w' ⟨rfl, rfl⟩)
            go_step3
            go_wp2
            go_step3
            show Jn l w 3 _ _
            exact ⟨0, 0, false, [], [], fr_mk _ _ _ _ _ rfl rfl rfl rfl rfl rfl, rfl, HS.out⟩
  · intro lab a W hJ
    have hRQ : RetQ l w (bodyPost Tryd.prog Tryd.f37 fun e w' => e = .returned (.tuple #[.agg (nmV (scanF l)), .bool (scanF l).isSome]) ∧ Below w.heap.size w w') := fun T W h2 h3 hg hb => bodyPost_ret (res37 T W w.heap.size _ _ h2 h3 hg (nmV_size _)) rfl ⟨rfl, hb⟩
    match lab, hJ with
    | 0, ⟨hF, hW, h0⟩ =>
      have hne : 1 ≤ (unM l).length := by
        rcases hr : unM l with _ | ⟨c, r⟩
        · rw [hr] at h0; simp at h0
        · simp
      have hAw : wholeOf (unM l) = [48] := by rw [wholeOf, if_pos h0]
      have hAk : (unM l).take 1 = [48] := by
        rcases hr : unM l with _ | ⟨c, r⟩
        · rw [hr] at h0; simp at h0
        · rw [hr] at h0
          simp at h0
          simp [h0]
      rcases ic : (unM l)[1]? with _ | c
      · have h1 := List.getElem?_eq_none_iff.1 ic
        exact pass0_T2 l w hs _ a W 1 [48] hF hW hne hAk rfl hAw (by omega)
      · by_cases hc : (c.toNat : Int) = 46
        · obtain rfl := y46 hc
          cases hd2 : dgB (unM l) (1 + 1) with
          | true => exact pass0_T4 l w hs _ a W 1 [48] hF hW hne hAk rfl hAw (by simp) ic hd2
          | false => exact pass0_T3c l w hs _ a W 1 [48] hF hW hne hAk rfl hAw (by simp) ic hd2 (scanF_dot hAw (by simp) hAk ic hd2)
        · exact pass0_T3b l w hs _ a W 1 [48] hF hW hne hAk rfl hAw (by simp) c ic hc (scanF_c hAw ic (.inr (n46 hc)))
    | 1, ⟨k, hF, hW, h0, hk, hall⟩ =>
      cases hd : dgB (unM l) k with
      | true => exact pass1d l w hs _ a W k hF hW h0 hk hall hd
      | false =>
        have hAw : wholeOf (unM l) = (unM l).take k := by rw [wholeOf, if_neg h0, (take_run hall hd hk).1]
        have hAl : ((unM l).take k).length = k := by rw [List.length_take]; omega
        have hAk : (unM l).take ((unM l).take k).length = (unM l).take k := by rw [hAl]
        rcases ic : (unM l)[k]? with _ | c
        · have h1 := List.getElem?_eq_none_iff.1 ic
          exact pass1_T2 l w hs _ a W k _ hF hW hk rfl hAl hAw hd (by omega)
        · have h1 := (List.getElem?_eq_some_iff.1 ic).1
          have ic' : (unM l)[((unM l).take k).length]? = some c := by rw [hAl]; exact ic
          by_cases hA0 : (unM l).take k = []
          · exact pass1_T3a l w hs _ a W k _ hF hW hk rfl hAl hAw hd hA0 h1 (scanF_c hAw ic' (.inl hA0))
          · by_cases hc : (c.toNat : Int) = 46
            · obtain rfl := y46 hc
              cases hd2 : dgB (unM l) (k + 1) with
              | true => exact pass1_T4 l w hs _ a W k _ hF hW hk rfl hAl hAw hd hA0 ic hd2
              | false => exact pass1_T3c l w hs _ a W k _ hF hW hk rfl hAl hAw hd hA0 ic hd2 (scanF_dot hAw hA0 hAk ic' (by rw [hAl]; exact hd2))
            · exact pass1_T3b l w hs _ a W k _ hF hW hk rfl hAl hAw hd hA0 c ic hc (scanF_c hAw ic' (.inr (n46 hc)))
    | 2, ⟨p, f, hF, hW, hdr⟩ =>
      have hsc : scanF l = scan2 (hasM l) (wholeOf (unM l)) [] := by unfold scanF scan1; rw [hdr]
      by_cases hA : wholeOf (unM l) ≠ [] ∧ ¬ (hasM l = true ∧ wholeOf (unM l) = [48])
      · exact pass2c l w hs _ a W p f _ _ hF hW hA.1 hA.2 (by rw [hsc]; simp only [scan2]; rw [if_pos hA]) hRQ _
      · exact pass2a l w hs _ a W p f _ _ hF hW (by
          by_cases h1 : wholeOf (unM l) = []
          · exact .inl h1
          · exact .inr (Classical.byContradiction fun h2 => hA ⟨h1, h2⟩)) (by rw [hsc]; simp only [scan2]; rw [if_neg hA]) hRQ _
    | 3, ⟨p, f, m, x, y, hF, hW, hsc⟩ => exact pass3 l w hs _ a W p f m x y hF hW hsc hRQ _
    | 4, ⟨k, A, r, hF, hW, hAw, hA0, hr, hk, hall⟩ =>
      cases hd : dgB r k with
      | true => exact pass4d l w hs _ a W k A r hF hW hr hk hAw hA0 hall hd
      | false =>
        obtain ⟨e1, e2⟩ := take_run hall hd hk
        have hs4 := scanF_4 hr hAw hA0
        unfold scan3 at hs4
        rw [e1, e2] at hs4
        by_cases hB0 : r.take k = []
        · exact pass4a l w hs _ a W k A r hF hW hr hk hAw hA0 hd _ rfl hB0 (by rw [hs4, if_pos hB0])
        · rw [if_neg hB0] at hs4
          rcases ic : r[k]? with _ | c
          · have h1 := List.getElem?_eq_none_iff.1 ic
            rw [List.drop_eq_nil_of_le h1] at hs4
            exact pass4b l w hs _ a W k A r hF hW hr hk hAw hA0 hd _ rfl hB0 (by omega) hs4 hRQ
          · rw [drop_at ic] at hs4
            simp only [scan4] at hs4
            by_cases hc : (c.toNat : Int) = 101
            · obtain rfl := y101 hc
              cases hp : isP (r.drop (k + 1)) with
              | true => exact pass4f l w hs _ a W k A r hF hW hr hk hAw hA0 hd _ rfl hB0 ic _ rfl hp _ rfl (by rw [hs4, if_pos ⟨rfl, hp⟩]) hRQ
              | false => exact pass4e l w hs _ a W k A r hF hW hr hk hAw hA0 hd _ rfl hB0 ic _ rfl hp (by rw [hs4, if_neg (by simp [hp])])
            · exact pass4c l w hs _ a W k A r hF hW hr hk hAw hA0 hd _ rfl hB0 c ic hc (by rw [hs4, if_neg (by simp [n101 hc])])
end Go.Proofs.YthfmepnlbaifcaaDoor
