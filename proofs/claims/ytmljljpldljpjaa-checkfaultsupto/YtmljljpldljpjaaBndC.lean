import Derived.Test.YtmljljpldljpjaaBndA
import Derived.Test.YtmljljpldljpjaaRd
/-
  The document's Merge.
-/
namespace Go.Proofs.Ytmljljpldljpjaa
open Go.RowKit
set_option linter.unusedVariables false
set_option linter.unusedSimpArgs false
set_option maxRecDepth 100000
theorem gl_form {w0 W : World} {v : Value} {os : List Rx} (h : Gl w0 W v os) : ∃ a c, v = .slice a os.length c ∧ Lr W a os ∧ Frm a os.length c ∧ Below w0.heap.size w0 W := by
  obtain ⟨a, c, rfl, _⟩ := own_form h.row
  exact ⟨a, c, rfl, h.lr, own_frm h.row, h.bel⟩
set_option maxHeartbeats 32000000 in
theorem rmerge_any (w : World) (a b : Option Addr) (n m c1 c2 : Nat) (C D : List Rx) (hC : Lr w a C) (hD : Lr w b D) (hfC : Frm a n c1) (hfD : Frm b m c2) (hn : C.length = n) (hm : D.length = m) (hs : n ≤ 1048576) (hs2 : m ≤ 1048576) :
    Calls Try.prog 11 #[.slice a n c1, .slice b m c2] w fun e w' => RmE w (C.map Rx.toRs) (D.map Rx.toRs) e w' := by
  have HC := hideL hC
  have HD := hideL hD
  have HFC := hideL hfC
  have HFD := hideL hfD
  have HN := hideL hn
  have HM := hideL hm
  clear hC hD hfC hfD hn hm
  have HO := hideL (out_any w a n c1 C HC.out HN.out (by omega))
  have HCL : Hid ((C.map Rx.toRs).length = n) := by unfold Hid; simp [HN.out]
  have HDL : Hid ((D.map Rx.toRs).length = m) := by unfold Hid; simp [HM.out]
  go_enter Try.func11, Try.ntmps11
  go_wp2_with fail
  refine HO.out.mono ?_
  rintro e w1 ⟨rfl, hg1⟩
  have HG1 := hideL hg1
  clear hg1 HO
  by_cases ho : astF (C.map Rx.toRs) = n
  · have hout : outI (C.map Rx.toRs) = -1 := by unfold outI; rw [if_pos (by rw [HCL.out]; exact ho)]
    rw [hout]
    have HORD := hideL (astF_ord (C := C.map Rx.toRs) (by rw [HCL.out]; exact ho))
    have HMS : Hid (∀ (i : Nat) (x : Int), wrongF (C.map Rx.toRs) (D.map Rx.toRs) = some (i, x) → mrF (C.map Rx.toRs) (D.map Rx.toRs) = some ((i : Int), x)) := fun i x h => by
      unfold mrF; rw [if_neg (by rw [HCL.out]; simp [ho]), h]
    have HMN : Hid (wrongF (C.map Rx.toRs) (D.map Rx.toRs) = none → mrF (C.map Rx.toRs) (D.map Rx.toRs) = if 64 < (mergL (C.map Rx.toRs) (D.map Rx.toRs)).length then some (0, 124) else none) := fun h => by
      unfold mrF; rw [if_neg (by rw [HCL.out]; simp [ho]), h]
    clear hout ho
    go_wp2_with fail
    go_loopw [7, 8] (fun v t wr => ∃ (i : Nat) (va : Option Addr) (vc : Nat) (os : List Rx), v = .slice va os.length vc ∧ t = .int .i64 i ∧ i ≤ m ∧ Lr wr va os ∧ Frm va os.length vc ∧ os.map Rx.toRs = allM (C.map Rx.toRs) (D.map Rx.toRs) i ∧ os.length ≤ n + i ∧ Below w.heap.size w wr ∧ Hid (∀ (j : Nat) (x : Rs), j < i → (D.map Rx.toRs)[j]? = some x → errF (C.map Rx.toRs) (D.map Rx.toRs) j x = 0)) (fun _ t _ => m - (intOf t).toNat)
    case atStart => exact ⟨0, a, c1, C, by rw [HN.out], rfl, by omega, HC.out.below HG1.out.below, by rw [HN.out]; exact HFC.out, rfl, by rw [HN.out]; omega, HG1.out.below, fun j x hj => by omega⟩
    case round =>
      obtain ⟨i, va, vc, os, rfl, rfl, hi, hlr, hfr, hos, hol, hbel, HF⟩ := hrel
      have i0 : (0 : Int) ≤ i := by omega
      have HLR := hideL hlr
      have HFR := hideL hfr
      have HOS := hideL hos
      have HB := hideL hbel
      clear hlr hfr hos hbel HG1
      by_cases h3 : i < m
      · have h3' : (i : Int) < m := by omega
        rcases hki : D[i]? with _ | o
        · have := List.getElem?_eq_none_iff.1 hki; have := HM.out; omega
        have HRO := hideL (HD.out.each o (List.mem_of_getElem? hki))
        obtain ⟨g, off, rfl, d0, d1, d2, d3, d4, d5, d6, d7⟩ := (HD.out.row.below HB.out).cells hki
        have HKI : Hid ((D.map Rx.toRs)[i]? = some o.toRs) := by unfold Hid; simp [hki]
        have hcl : m ≤ c2 := by
          rcases HFD.out with ⟨h, _⟩ | ⟨x, _, h1, h2⟩
          · cases h
          · exact h1
        have hic : (i : Int) ≤ c2 := by omega
        have HBAD : Hid (∀ v : Int, errF (C.map Rx.toRs) (D.map Rx.toRs) i o.toRs = v → v ≠ 0 → mrF (C.map Rx.toRs) (D.map Rx.toRs) = some ((i : Int), v)) := fun v h h0 => by
          have := wrongF_stop HF.out HKI.out (by rw [h]; exact h0)
          rw [h] at this
          exact HMS.out i v this
        have HGOOD : Hid (errF (C.map Rx.toRs) (D.map Rx.toRs) i o.toRs = 0 → ∀ (j : Nat) (x : Rs), j < i + 1 → (D.map Rx.toRs)[j]? = some x → errF (C.map Rx.toRs) (D.map Rx.toRs) j x = 0) := fun h j x hj hx => by
          by_cases hji : j < i
          · exact HF.out j x hji hx
          · obtain rfl : j = i := by omega
            rw [HKI.out] at hx; cases hx; exact h
        have HAI := hideL (allI_of HORD.out.ks (i := i) (by rw [HDL.out]; omega) HF.out)
        have HTK := hideL (takeF HKI.out)
        have HSTEP := hideL (allM_step (C := C.map Rx.toRs) HKI.out)
        have HCT : Hid (Cel wr (some ⟨g, off, none⟩) 8 ((D.take i).map Rx.row)) := by
          rcases HD.out.row.below HB.out with h | ⟨g2, o2, e2, h2⟩
          · exact .inl (by simp at h; simp [h])
          · refine .inr ⟨g2, o2, e2, fun j r hj => h2 j r ?_⟩
            rw [List.map_take] at hj
            have hik : j < i := by have := (List.getElem?_eq_some_iff.1 hj).1; simp at this; omega
            rwa [List.getElem?_take_of_lt hik] at hj
        clear hki
        obtain ⟨w2, hw2⟩ : ∃ X, wr.alloc (boxO o) = X := ⟨_, rfl⟩
        have HG2 : Hid (Gr wr w2) := by rw [← hw2]; exact Gr.alloc _ _
        have HX2 : Hid (w2.heap[wr.heap.size]? = some (boxO o)) := by rw [← hw2]; exact heap_alloc_new wr _
        unfold boxO at hw2
        have HB2 := hideL (HB.out.trans (HG2.out.below.mono HB.out.size))
        obtain ⟨e0, e1, e2, e3, e4, e5, e6, e7⟩ := box8 HX2.out
        by_cases hk1 : o.kd < 1
        · have HR := hideL (HBAD.out 2 (by unfold errF; rw [if_pos (.inl hk1)]) (by decide))
          have hk1' : decide (o.kd < 1) = true := by simpa using hk1
          go_wp2
          go_ret3
          exact ⟨HB2.out, .inl ⟨i, 2, HR.out, rfl⟩⟩
        · have hk1' : decide (o.kd < 1) = false := by simp; omega
          by_cases hk2 : 4 < o.kd
          · have HR := hideL (HBAD.out 2 (by unfold errF; rw [if_pos (.inr hk2)]) (by decide))
            have hk2' : decide (4 < o.kd) = true := by simpa using hk2
            go_wp2
            go_ret3
            exact ⟨HB2.out, .inl ⟨i, 2, HR.out, rfl⟩⟩
          · have hk2' : decide (4 < o.kd) = false := by simp; omega
            have HKD : Hid (¬ (o.kd < 1 ∨ 4 < o.kd)) := by unfold Hid; omega
            have HF1 : Hid (∀ q c, Calls Try.prog 28 #[.slice (some ⟨g, off, none⟩) i c, .int .i64 o.kd, .string o.nm] (w2.drewN q) fun e w' => e = .returned (.int .i64 (findI ((D.take i).map Rx.toRs) (o.kd, o.nm))) ∧ w' = w2.drewN q) := fun q c =>
              find_any _ _ i c (D.take i) o.kd o.nm (by rw [List.length_take, HM.out]; omega) (by omega) (HCT.out.below (HG2.out.trans (Gr.drewN _ _)).below)
            rcases hf1 : firstsF ((D.take i).map Rx.toRs) (o.kd, o.nm) with _ | j1
            · have hfi : findI ((D.take i).map Rx.toRs) (o.kd, o.nm) = -1 := by unfold findI; rw [hf1]
              rw [hfi] at HF1
              have HFS : Hid (firstsF (D.map Rx.toRs) o.toRs.key = some i) := HTK.out.1 (by rw [← List.map_take]; exact hf1)
              clear hf1 hfi
              go_wp2_with fail
              go_quiet ((go_at_call 28; exact Calls.quiet_of_same (HF1.out _ _)))
              go_wp2_with fail
              obtain ⟨w3, hw3⟩ : ∃ X, w2.drewN nq = X := ⟨_, rfl⟩
              have HG3 : Hid (Gr wr w3) := by rw [← hw3]; exact HG2.out.trans (Gr.drewN _ _)
              have HX3 : Hid (w3.heap[wr.heap.size]? = some (boxO o)) := by rw [← hw3]; exact (Gr.drewN w2 nq).below.cells HX2.out
              rw [hw3]
              have HB3 := hideL (HB.out.trans (HG3.out.below.mono HB.out.size))
              have HL3 := hideL (HLR.out.below HG3.out.below)
              have HR3 := hideL (HRO.out.below HB3.out)
              obtain ⟨B, hB⟩ : ∃ B, wr.heap.size = B := ⟨_, rfl⟩
              rw [hB] at HX3 ⊢
              clear HX2 HG2 hw2 e0 e1 e2 e3 e4 e5 e6 e7 d0 d1 d2 d3 d4 d5 d6 d7 HCT HF1 hw3 HB2 HLR HG3 hB
              obtain ⟨e0, e1, e2, e3, e4, e5, e6, e7⟩ := box8 HX3.out
              refine (find_any w3 va os.length vc os o.kd o.nm rfl (by omega) HL3.out.row).mono ?_
              rintro e w4 ⟨rfl, hw4⟩
              have hw4 := hw4.symm
              subst hw4
              have HHAS := hideL (HAI.out.has HKI.out HFS.out)
              rw [← HOS.out] at HHAS
              have HE : Hid (errF (C.map Rx.toRs) (D.map Rx.toRs) i o.toRs = if o.del = true ∧ firstsF (os.map Rx.toRs) (o.kd, o.nm) = none then 290 else 0) := by
                unfold Hid errF
                rw [if_neg HKD.out, if_neg (by simp [HFS.out])]
                by_cases h : o.del = true ∧ firstsF (os.map Rx.toRs) (o.kd, o.nm) = none
                · rw [if_pos h, if_pos ⟨h.1, HHAS.out.1 h.2⟩]
                · rw [if_neg h, if_neg (fun h' => h ⟨h'.1, HHAS.out.2 h'.2⟩)]
              rw [← HOS.out] at HSTEP
              have HOL : Hid (os.length ≤ n + i) := hol
              rcases hf2 : firstsF (os.map Rx.toRs) (o.kd, o.nm) with _ | j2
              · have hfi : findI (os.map Rx.toRs) (o.kd, o.nm) = -1 := by unfold findI; rw [hf2]
                rw [hfi]
                rw [hf2] at HE
                have HDX : Hid (os.map Rx.toRs = dropK (os.map Rx.toRs) o.toRs.key) := dropX_none hf2
                clear hf2 hfi
                cases hdl : o.del
                · rw [hdl] at e7 HE
                  have HR := hideL (HGOOD.out (by rw [HE.out]; simp))
                  have HP30 := hideL (put_any w3 va os.length vc os o HL3.out HR3.out rfl (by omega) HFR.out)
                  unfold Rx.val at HP30
                  rw [hdl] at HP30
                  have HST : Hid ((putX os o).map Rx.toRs = allM (C.map Rx.toRs) (D.map Rx.toRs) (i + 1)) := by
                    unfold Hid
                    rw [HSTEP.out, putX_says]; unfold stepM
                    rw [if_neg (by simp [hdl]), ← HDX.out]
                  clear hdl
                  go_wp2_with fail
                  refine HP30.out.mono ?_
                  rintro e w5 ⟨v, rfl, hgl⟩
                  obtain ⟨a5, c5, rfl, hl5, hf5, hb5⟩ := gl_form hgl
                  have HL5 := hideL hl5
                  have HF5 := hideL hf5
                  have HB5 := hideL hb5
                  clear hgl hl5 hf5 hb5 HP30
                  go_wp2
                  go_roundw
                  case rel => exact ⟨i + 1, a5, c5, putX os o, rfl, by go_num, by omega, HL5.out, HF5.out, HST.out, by rw [putX_len]; have := HOL.out; omega, HB3.out.trans (HB5.out.mono HB3.out.size), HR.out⟩
                  case measure => simp [intOf]; omega
                · rw [hdl] at e7 HE
                  have HR := hideL (HBAD.out 290 (by rw [HE.out]; simp) (by decide))
                  clear hdl
                  go_wp2
                  go_ret3
                  exact ⟨HB3.out, .inl ⟨i, 290, HR.out, rfl⟩⟩
              · have hfi : findI (os.map Rx.toRs) (o.kd, o.nm) = j2 := by unfold findI; rw [hf2]
                rw [hfi]
                rw [hf2] at HE
                have HR := hideL (HGOOD.out (by rw [HE.out]; simp))
                have hj2 : j2 < os.length := by
                  unfold firstsF at hf2
                  obtain ⟨h, _⟩ := List.findIdx?_eq_some_iff_getElem.1 hf2
                  simpa using h
                have HDX := hideL (dropX_says hf2)
                have j0 : (0 : Int) ≤ j2 := by omega
                have j1 : ¬ (j2 : Int) < 0 := by omega
                have j3 : decide ((j2 : Int) < 0) = false := by simp
                have HD29 := hideL (drop_any w3 va os.length vc j2 os HL3.out rfl (by omega) HFR.out hj2)
                clear hf2 hfi
                have hlen : (os.take j2 ++ os.drop (j2 + 1)).length ≤ os.length := by simp; omega
                generalize os.take j2 ++ os.drop (j2 + 1) = xs at HDX HD29 hlen
                have HDR : Hid (∀ (P : Ending → World → Prop), (∀ (v : Value) (w5 : World) (a5 : Option Addr) (c5 : Nat), v = .slice a5 xs.length c5 → Lr w5 a5 xs → Frm a5 xs.length c5 → Below w3.heap.size w3 w5 → P (.returned v) w5) → Calls Try.prog 29 #[.slice va os.length vc, .int .i64 j2] w3 P) := fun P h => HD29.out.mono (by
                  rintro e w5 ⟨v, rfl, hgl⟩
                  obtain ⟨a5, c5, hv, hl5, hf5, hb5⟩ := gl_form hgl
                  exact h v w5 a5 c5 hv hl5 hf5 hb5)
                clear HD29
                cases hdl : o.del
                · rw [hdl] at e7
                  have HST : Hid ((putX xs o).map Rx.toRs = allM (C.map Rx.toRs) (D.map Rx.toRs) (i + 1)) := by
                    unfold Hid
                    rw [HSTEP.out, putX_says]; unfold stepM
                    rw [if_neg (by simp [hdl]), HDX.out]; rfl
                  have HP30 : Hid (∀ (W : World) (a5 : Option Addr) (c5 : Nat), Lr W a5 xs → Rin W o → Frm a5 xs.length c5 → Calls Try.prog 30 #[.slice a5 xs.length c5, .agg #[.int .i64 o.kd, .string o.nm, .slice o.ea o.eps.length o.ec, .slice o.ta o.tgs.length o.tc, .string o.host, .slice o.ra o.rus.length o.rc, .string o.route, .bool false]] W fun e w' => ∃ v, e = .returned v ∧ Gl W w' v (putX xs o)) := fun W a5 c5 h1 h2 h3 => by
                    have := put_any W a5 xs.length c5 xs o h1 h2 rfl (by omega) h3
                    unfold Rx.val at this
                    rw [hdl] at this
                    exact this
                  have HX7 : Hid (∀ W : World, W.heap[B]? = some (boxO o) → W.cell? ⟨B, 7, none⟩ = some (.bool false)) := fun W h => by have := (box8 h).2.2.2.2.2.2.2; rw [hdl] at this; exact this
                  clear hdl
                  go_wp2_with fail
                  refine HDR.out _ ?_
                  rintro v w5 a5 c5 rfl hl5 hf5 hb5
                  have HL5 := hideL hl5
                  have HF5 := hideL hf5
                  have HB5 := hideL (HB3.out.trans (hb5.mono HB3.out.size))
                  have HX5 := hideL (show w5.heap[B]? = some (boxO o) from hb5.cells HX3.out)
                  clear hl5 hf5 hb5 HDR e0 e1 e2 e3 e4 e5 e6
                  obtain ⟨x0, x1, x2, x3, x4, x5, x6, -⟩ := box8 HX5.out
                  have x7 := HX7.out w5 HX5.out
                  go_wp2_with fail
                  refine (HP30.out _ a5 c5 HL5.out (HRO.out.below HB5.out) HF5.out).mono ?_
                  rintro e w6 ⟨v, rfl, hgl⟩
                  obtain ⟨a6, c6, rfl, hl6, hf6, hb6⟩ := gl_form hgl
                  have HL6 := hideL hl6
                  have HF6 := hideL hf6
                  have HB6 := hideL hb6
                  clear hgl hl6 hf6 hb6 HP30
                  go_wp2
                  go_roundw
                  case rel => exact ⟨i + 1, a6, c6, putX xs o, rfl, by go_num, by omega, HL6.out, HF6.out, HST.out, by rw [putX_len]; have := HOL.out; omega, HB5.out.trans (HB6.out.mono HB5.out.size), HR.out⟩
                  case measure => simp [intOf]; omega
                · rw [hdl] at e7
                  have HST : Hid (xs.map Rx.toRs = allM (C.map Rx.toRs) (D.map Rx.toRs) (i + 1)) := by
                    unfold Hid
                    rw [HSTEP.out]; unfold stepM
                    rw [if_pos (by simp [hdl]), HDX.out]; rfl
                  have HX7 : Hid (∀ W : World, W.heap[B]? = some (boxO o) → W.cell? ⟨B, 7, none⟩ = some (.bool true)) := fun W h => by have := (box8 h).2.2.2.2.2.2.2; rw [hdl] at this; exact this
                  clear hdl
                  go_wp2_with fail
                  refine HDR.out _ ?_
                  rintro v w5 a5 c5 rfl hl5 hf5 hb5
                  have HL5 := hideL hl5
                  have HF5 := hideL hf5
                  have HB5 := hideL (HB3.out.trans (hb5.mono HB3.out.size))
                  have x7 := HX7.out w5 (hb5.cells HX3.out)
                  clear hl5 hf5 hb5 HDR e0 e1 e2 e3 e4 e5 e6
                  go_wp2
                  go_roundw
                  case rel => exact ⟨i + 1, a5, c5, xs, rfl, by go_num, by omega, HL5.out, HF5.out, HST.out, by have := HOL.out; omega, HB5.out, HR.out⟩
                  case measure => simp [intOf]; omega
            · have hfi : findI ((D.take i).map Rx.toRs) (o.kd, o.nm) = j1 := by unfold findI; rw [hf1]
              rw [hfi] at HF1
              have j0 : (0 : Int) ≤ j1 := by omega
              have HR := hideL (HBAD.out 91 (by
                unfold errF; rw [if_neg HKD.out, if_pos]
                intro h
                have := HTK.out.2 h
                rw [← List.map_take] at this
                have e : firstsF ((D.take i).map Rx.toRs) (o.kd, o.nm) = none := this
                rw [hf1] at e; cases e) (by decide))
              clear hf1 hfi
              go_wp2_with fail
              go_quiet ((go_at_call 28; exact Calls.quiet_of_same (HF1.out _ _)))
              go_wp2
              go_ret3
              exact ⟨HB2.out.trans ((Gr.drewN _ _).below.mono HB2.out.size), .inl ⟨i, 91, HR.out, rfl⟩⟩
      · have h3' : ¬ (i : Int) < m := by omega
        have him : i = m := by omega
        have HALL : Hid (∀ (j : Nat) (x : Rs), (D.map Rx.toRs)[j]? = some x → errF (C.map Rx.toRs) (D.map Rx.toRs) j x = 0) := fun j x hx => HF.out j x (by have := (List.getElem?_eq_some_iff.1 hx).1; rw [HDL.out] at this; omega) hx
        have HPM := hideL (merg_perm HORD.out HALL.out)
        have HWN : Hid (wrongF (C.map Rx.toRs) (D.map Rx.toRs) = none) := wrongF_none HALL.out
        have HFIN := hideL (HMN.out HWN.out)
        have HLEN : Hid (os.length = (mergL (C.map Rx.toRs) (D.map Rx.toRs)).length) := by
          unfold Hid
          rw [← HPM.out.1.length_eq, HDL.out, ← him, ← HOS.out]; simp
        have HOS2 : Hid (os.map Rx.toRs = allM (C.map Rx.toRs) (D.map Rx.toRs) (D.map Rx.toRs).length) := by
          unfold Hid
          rw [HDL.out, ← him]; exact HOS.out
        clear him
        by_cases h64 : 64 < os.length
        · have h64' : (64 : Int) < os.length := by omega
          have HR : Hid (mrF (C.map Rx.toRs) (D.map Rx.toRs) = some (0, 124)) := by
            unfold Hid; rw [HFIN.out, if_pos (by rw [← HLEN.out]; exact h64)]
          go_wp2
          go_ret3
          exact ⟨HB.out, .inl ⟨0, 124, HR.out, rfl⟩⟩
        · have h64' : ¬ (64 : Int) < os.length := by omega
          have HR : Hid (mrF (C.map Rx.toRs) (D.map Rx.toRs) = none) := by
            unfold Hid; rw [HFIN.out, if_neg (by rw [← HLEN.out]; exact h64)]
          go_wp2
          go_ret3
          exact ⟨HB.out, .inr ⟨HR.out, va, vc, os, rfl, HLR.out, HOS2.out⟩⟩
  · have hlt : astF (C.map Rx.toRs) < n := by have := astF_le (C.map Rx.toRs); rw [HCL.out] at this; omega
    have hout : outI (C.map Rx.toRs) = astF (C.map Rx.toRs) := by unfold outI; rw [if_neg (by rw [HCL.out]; exact ho)]
    have HMR : Hid (mrF (C.map Rx.toRs) (D.map Rx.toRs) = some (0, 2)) := by
      unfold Hid mrF
      rw [if_pos (by rw [HCL.out]; exact ho)]
    rw [hout]
    generalize astF (C.map Rx.toRs) = A at hlt ⊢
    clear ho hout
    go_wp2
    go_ret3
    exact ⟨HG1.out.below, .inl ⟨0, 2, HMR.out, rfl⟩⟩
end Go.Proofs.Ytmljljpldljpjaa

/-
  The walk of CheckDiffs.
-/
namespace Go.Proofs.Ytmljljpldljpjaa
open Go.RowKit
set_option linter.unusedVariables false
set_option linter.unusedSimpArgs false
set_option maxRecDepth 100000
theorem Ol.form {W : World} {base : Nat} {v : Value} {os : List Rx} (h : Ol W base v os) : ∃ a c, v = .slice a os.length c := by
  obtain ⟨a, c, e, _⟩ := own_form h.row; exact ⟨a, c, e⟩
theorem toks {w : World} {l r : List Rx} (h : l.map Rx.toRs = r.map Rx.toRs) (hk : ∀ o ∈ r, Rin w o) : ∀ o ∈ l, Rok o.toRs := by
  intro o ho
  have : o.toRs ∈ r.map Rx.toRs := by rw [← h]; exact List.mem_map_of_mem ho
  obtain ⟨p, hp, e⟩ := List.mem_map.1 this
  rw [← e]; exact (hk p hp).ok
/-- what own leaves -/
def OwnE (w : World) (F : List Rx) (e : Ending) (w' : World) : Prop := ∃ a c qs, e = .returned (.slice a F.length c) ∧ qs.length = F.length ∧ Ol w' w.heap.size (.slice a F.length c) qs ∧ Lr w' a qs ∧ qs.map Rx.toRs = F.map Rx.toRs ∧ Below w.heap.size w w'
theorem own_e (w : World) (a : Option Addr) (c : Nat) (os : List Rx) (hL : Lr w a os) (hb : ∀ o ∈ os, Bare o) (hs : os.length ≤ 1048576) : Calls Try.prog 9 #[.slice a os.length c] w fun e w' => OwnE w os e w' := by
  refine (own_any w a os.length c os hL hb rfl hs).mono ?_
  rintro e w' ⟨v, qs, rfl, h1, h2, h3⟩
  obtain ⟨a', c', rfl⟩ := h1.form
  have hl := says_len h2
  rw [hl] at h1 ⊢
  exact ⟨a', c', qs, rfl, hl, h1, h1.lr (toks h2 hL.each), h2, h3⟩
/-- what Diff leaves -/
def DifE (w : World) (R : List Rs) (e : Ending) (w' : World) : Prop := ∃ a c qs, e = .returned (.slice a R.length c) ∧ qs.length = R.length ∧ Ol w' w.heap.size (.slice a R.length c) qs ∧ Lr w' a qs ∧ qs.map Rx.toRs = R ∧ Below w.heap.size w w'
theorem diff_ok {sb : Rs → Rs → Bool} {F T : List Rs} (hF : ∀ r ∈ F, Rok r) (hT : ∀ r ∈ T, Rok r) : ∀ r ∈ foldP (delsL F T F.length ++ newsL sb F T T.length), Rok r := by
  intro r hr
  have hr2 := ((foldP_spec (diff_nodup sb F T _ _)).2 r).1 hr
  rcases List.mem_append.1 hr2 with h | h
  · obtain ⟨j, q, _, hq, _, _, rfl⟩ := delsL_spec h
    have hk := hF q (List.mem_of_getElem? hq)
    exact ⟨hk.k1, hk.n1, by show (0 : Nat) ≤ 1048576; decide, by show (0 : Nat) ≤ 1048576; decide, fun s hs => (by cases hs), fun s hs => (by cases hs), fun s hs => (by cases hs), Nat.zero_le _, Nat.zero_le _, Nat.zero_le _⟩
  · obtain ⟨j, _, hq, _⟩ := newsL_spec h
    exact hT r (List.mem_of_getElem? hq)
theorem diff_e {sb : Rs → Rs → Bool} (hsb : ∀ a b, sb a b = true ↔ SameC a b) (w : World) (a b : Option Addr) (c1 c2 : Nat) (F T : List Rx) (hF : Lr w a F) (hT : Lr w b T) (hs : F.length ≤ 1048576) (hs2 : T.length ≤ 1048576) :
    Calls Try.prog 18 #[.slice a F.length c1, .slice b T.length c2] w fun e w' => DifE w (foldP (delsL (F.map Rx.toRs) (T.map Rx.toRs) F.length ++ newsL sb (F.map Rx.toRs) (T.map Rx.toRs) T.length)) e w' := by
  refine (diff_any sort_none sb hsb w a b F.length T.length c1 c2 F T hF hT rfl rfl hs hs2).mono ?_
  rintro e w' ⟨v, qs, rfl, h1, h2, h3⟩
  obtain ⟨a', c', rfl⟩ := h1.form
  have hl : qs.length = (foldP (delsL (F.map Rx.toRs) (T.map Rx.toRs) F.length ++ newsL sb (F.map Rx.toRs) (T.map Rx.toRs) T.length)).length := by rw [← h2, List.length_map]
  rw [hl] at h1 ⊢
  have hok := diff_ok (sb := sb) (F := F.map Rx.toRs) (T := T.map Rx.toRs) (fun r hr => by obtain ⟨p, hp, rfl⟩ := List.mem_map.1 hr; exact (hF.each p hp).ok) (fun r hr => by obtain ⟨p, hp, rfl⟩ := List.mem_map.1 hr; exact (hT.each p hp).ok)
  rw [List.length_map, List.length_map] at hok
  refine ⟨a', c', qs, rfl, hl, h1, h1.lr (fun o ho => ?_), h2, h3⟩
  exact hok o.toRs (by rw [← h2]; exact List.mem_map_of_mem ho)
set_option maxHeartbeats 32000000 in
theorem checkDiffs_any (w : World) (a b : Option Addr) (n m c1 c2 : Nat) (F T : List Rx) (hF : Lr w a F) (hT : Lr w b T) (hbF : ∀ o ∈ F, Bare o) (hbT : ∀ o ∈ T, Bare o) (hn : F.length = n) (hm : T.length = m) (hs : n ≤ 1048576) (hs2 : m ≤ 1048576) :
    Calls Try.prog 5 #[.slice a n c1, .slice b m c2] w fun e w' => e = .returned (.bool true) ∧ Below w.heap.size w w' := by
  obtain ⟨sb, hsb⟩ : ∃ sb : Rs → Rs → Bool, ∀ a b, (sb a b = true ↔ SameC a b) := ⟨fun a b => @decide (SameC a b) (Classical.propDecidable _), fun a b => @decide_eq_true_iff _ (Classical.propDecidable _)⟩
  subst hn hm
  have HF := hideL hF
  have HTT := hideL hT
  have HBF := hideL hbF
  have HBT := hideL hbT
  have HSB := hideL hsb
  clear hF hT hbF hbT hsb
  go_enter Try.func5, Try.ntmps5
  go_wp2_with fail
  refine (own_e w a c1 F HF.out HBF.out hs).mono ?_
  rintro e w1 ⟨a1, k1, A, rfl, hA1, hA2, hA3, hA4, hb1⟩
  have HA := hideL hA3
  have HAE := hideL hA4
  have HAL := hideL hA1
  have HB1 := hideL hb1
  clear hA1 hA2 hA3 hA4 hb1
  go_wp2_with fail
  refine (own_e w1 b c2 T (HTT.out.below HB1.out) HBT.out hs2).mono ?_
  rintro e w2 ⟨a2, k2, B, rfl, hA1, hA2, hA3, hA4, hb2⟩
  have HBB := hideL hA3
  have HBE := hideL hA4
  have HBL := hideL hA1
  have HA2 := hideL (HA.out.below hb2)
  have HB2 := hideL (HB1.out.trans (hb2.mono HB1.out.size))
  clear hA1 hA2 hA3 hA4 hb2 HA HB1
  have HD : Hid (Calls Try.prog 18 #[.slice a1 F.length k1, .slice a2 T.length k2] w2 fun e w' => DifE w2 (foldP (delsL (F.map Rx.toRs) (T.map Rx.toRs) F.length ++ newsL sb (F.map Rx.toRs) (T.map Rx.toRs) T.length)) e w') := by
    have := diff_e (sb := sb) HSB.out w2 a1 a2 k1 k2 A B HA2.out HBB.out (by rw [HAL.out]; exact hs) (by rw [HBL.out]; exact hs2)
    rw [HAE.out, HBE.out, HAL.out, HBL.out] at this
    exact this
  have HRD := hideL (fun W (hW : Below w.heap.size w W) => rdiff_any sb HSB.out W a b F.length T.length c1 c2 F T (HF.out.below hW) (HTT.out.below hW) rfl rfl hs hs2)
  obtain ⟨R, hR⟩ : ∃ R, foldP (delsL (F.map Rx.toRs) (T.map Rx.toRs) F.length ++ newsL sb (F.map Rx.toRs) (T.map Rx.toRs) T.length) = R := ⟨_, rfl⟩
  rw [hR] at HD HRD
  have HRL : Hid (R.length ≤ 2097152) := by
    unfold Hid
    rw [← hR, foldP_len, List.length_append]
    have := delsL_len (F.map Rx.toRs) (T.map Rx.toRs) F.length
    have := newsL_len sb (F.map Rx.toRs) (T.map Rx.toRs) T.length
    omega
  clear hR
  go_wp2_with fail
  refine HD.out.mono ?_
  rintro e w3 ⟨a3, k3, D, rfl, hD1, hD2, hD3, hD4, hb3⟩
  have HDD := hideL hD3
  have HDE := hideL hD4
  have HDL := hideL hD1
  have HA3 := hideL (HA2.out.below hb3)
  have HBB3 := hideL (HBB.out.below hb3)
  have HB3 := hideL (HB2.out.trans (hb3.mono HB2.out.size))
  clear hD1 hD2 hD3 hD4 hb3 HA2 HB2 HBB HD
  go_wp2_with fail
  refine (HRD.out w3 HB3.out).mono ?_
  rintro e w4 ⟨a4, n4, k4, Q, rfl, hQ1, hQ2, hQ3, hQ4, hb4⟩
  have hn4 : n4 = R.length := by rw [← hQ1, ← hQ4, List.length_map]
  subst hn4
  have HLI := hideL (lists_any w4 a3 a4 R.length k3 k4 D Q HDL.out (by have := HRL.out; omega) (HDD.out.below hb4) hQ2 (by rw [HDE.out, hQ4]))
  have HA4 := hideL (HA3.out.below hb4)
  have HBB4 := hideL (HBB3.out.below hb4)
  have HB4 := hideL (HB3.out.trans (hb4.mono HB3.out.size))
  clear hQ1 hQ2 hQ3 hQ4 hb4 HA3 HBB3 HB3 HDD HRD
  go_wp2_with fail
  refine HLI.out.mono ?_
  rintro e w5 ⟨rfl, hg5⟩
  have HA5 := hideL (HA4.out.below hg5.below)
  have HBB5 := hideL (HBB4.out.below hg5.below)
  have HB5 := hideL (HB4.out.trans (hg5.below.mono HB4.out.size))
  clear hg5 HA4 HBB4 HB4 HLI
  go_wp2_with fail
  refine (own_e w5 a c1 F (HF.out.below HB5.out) HBF.out hs).mono ?_
  rintro e w6 ⟨a6, k6, A6, rfl, hA1, hA2, hA3, hA4, hb6⟩
  have HLI := hideL (lists_any w6 a1 a6 F.length k1 k6 A A6 HAL.out (by omega) (HA5.out.below hb6) hA3 (by rw [HAE.out, hA4]))
  have HBB6 := hideL (HBB5.out.below hb6)
  have HB6 := hideL (HB5.out.trans (hb6.mono HB5.out.size))
  clear hA1 hA2 hA3 hA4 hb6 HA5 HBB5 HB5
  go_wp2_with fail
  refine HLI.out.mono ?_
  rintro e w7 ⟨rfl, hg7⟩
  have HBB7 := hideL (HBB6.out.below hg7.below)
  have HB7 := hideL (HB6.out.trans (hg7.below.mono HB6.out.size))
  clear hg7 HBB6 HB6 HLI
  go_wp2_with fail
  refine (own_e w7 b c2 T (HTT.out.below HB7.out) HBT.out hs2).mono ?_
  rintro e w8 ⟨a8, k8, A8, rfl, hA1, hA2, hA3, hA4, hb8⟩
  have HLI := hideL (lists_any w8 a2 a8 T.length k2 k8 B A8 HBL.out (by omega) (HBB7.out.below hb8) hA3 (by rw [HBE.out, hA4]))
  have HB8 := hideL (HB7.out.trans (hb8.mono HB7.out.size))
  clear hA1 hA2 hA3 hA4 hb8 HBB7 HB7
  go_wp2_with fail
  refine HLI.out.mono ?_
  rintro e w9 ⟨rfl, hg9⟩
  have HB9 := hideL (HB8.out.trans (hg9.below.mono HB8.out.size))
  clear hg9 HB8 HLI
  go_wp2_with fail
  go_loopw [8] (fun t wr => ∃ (i : Nat), t = .int .i64 i ∧ i ≤ F.length ∧ Below w.heap.size w wr) (fun t _ => F.length - (intOf t).toNat)
  case atStart => exact ⟨0, rfl, by omega, HB9.out⟩
  case round =>
    obtain ⟨i, rfl, hi, hbel⟩ := hrel
    have HB := hideL hbel
    clear hbel HB9
    have i0 : (0 : Int) ≤ i := by omega
    by_cases h3 : i < F.length
    · have h3' : (i : Int) < F.length := by omega
      by_cases h4 : i < T.length
      · have h4' : (i : Int) < T.length := by omega
        rcases hki : F[i]? with _ | x
        · have := List.getElem?_eq_none_iff.1 hki; omega
        rcases hkj : T[i]? with _ | o
        · have := List.getElem?_eq_none_iff.1 hkj; omega
        have HRX := hideL (HF.out.each x (List.mem_of_getElem? hki))
        have HRO := hideL (HTT.out.each o (List.mem_of_getElem? hkj))
        obtain ⟨g, off, rfl, y0, y1, y2, y3, y4, y5, y6, y7⟩ := (HF.out.row.below HB.out).cells hki
        obtain ⟨g', off', rfl, d0, d1, d2, d3, d4, d5, d6, d7⟩ := (HTT.out.row.below HB.out).cells hkj
        have HS := hideL (fun (w' : World) (h : Gr wr w') => show (w'.cell? ⟨g, off + i * 8, none⟩ = some (.int .i64 x.kd) ∧ w'.cell? ⟨g, off + i * 8 + 1, none⟩ = some (.string x.nm) ∧ w'.cell? ⟨g, off + i * 8 + 2, none⟩ = some (.slice x.ea x.eps.length x.ec) ∧ w'.cell? ⟨g, off + i * 8 + 3, none⟩ = some (.slice x.ta x.tgs.length x.tc) ∧ w'.cell? ⟨g, off + i * 8 + 4, none⟩ = some (.string x.host) ∧ w'.cell? ⟨g, off + i * 8 + 5, none⟩ = some (.slice x.ra x.rus.length x.rc) ∧ w'.cell? ⟨g, off + i * 8 + 6, none⟩ = some (.string x.route) ∧ w'.cell? ⟨g, off + i * 8 + 7, none⟩ = some (.bool x.del) ∧ w'.cell? ⟨g', off' + i * 8, none⟩ = some (.int .i64 o.kd) ∧ w'.cell? ⟨g', off' + i * 8 + 1, none⟩ = some (.string o.nm) ∧ w'.cell? ⟨g', off' + i * 8 + 2, none⟩ = some (.slice o.ea o.eps.length o.ec) ∧ w'.cell? ⟨g', off' + i * 8 + 3, none⟩ = some (.slice o.ta o.tgs.length o.tc) ∧ w'.cell? ⟨g', off' + i * 8 + 4, none⟩ = some (.string o.host) ∧ w'.cell? ⟨g', off' + i * 8 + 5, none⟩ = some (.slice o.ra o.rus.length o.rc) ∧ w'.cell? ⟨g', off' + i * 8 + 6, none⟩ = some (.string o.route) ∧ w'.cell? ⟨g', off' + i * 8 + 7, none⟩ = some (.bool o.del)) from ⟨h.cell y0, h.cell y1, h.cell y2, h.cell y3, h.cell y4, h.cell y5, h.cell y6, h.cell y7, h.cell d0, h.cell d1, h.cell d2, h.cell d3, h.cell d4, h.cell d5, h.cell d6, h.cell d7⟩)
        have HC1 : Hid (∀ W, Gr wr W → Calls Try.prog 20 #[.agg #[.int .i64 x.kd, .string x.nm, .slice x.ea x.eps.length x.ec, .slice x.ta x.tgs.length x.tc, .string x.host, .slice x.ra x.rus.length x.rc, .string x.route, .bool x.del], .agg #[.int .i64 o.kd, .string o.nm, .slice o.ea o.eps.length o.ec, .slice o.ta o.tgs.length o.tc, .string o.host, .slice o.ra o.rus.length o.rc, .string o.route, .bool o.del]] W fun e w' => e = .returned (.bool (sb x.toRs o.toRs)) ∧ Gr W w') := fun W hW => by
          refine (same_any W x o (HRX.out.below (HB.out.trans (hW.below.mono HB.out.size))) (HRO.out.below (HB.out.trans (hW.below.mono HB.out.size)))).mono ?_
          rintro e w' ⟨⟨b, rfl, hb⟩, h2⟩
          exact ⟨ret_bool (by rw [Bool.eq_iff_iff, hb, HSB.out]), h2⟩
        have HC2 : Hid (∀ W, Gr wr W → Calls Try.prog 21 #[.agg #[.int .i64 x.kd, .string x.nm, .slice x.ea x.eps.length x.ec, .slice x.ta x.tgs.length x.tc, .string x.host, .slice x.ra x.rus.length x.rc, .string x.route, .bool x.del], .agg #[.int .i64 o.kd, .string o.nm, .slice o.ea o.eps.length o.ec, .slice o.ta o.tgs.length o.tc, .string o.host, .slice o.ra o.rus.length o.rc, .string o.route, .bool o.del]] W fun e w' => e = .returned (.bool (sb x.toRs o.toRs)) ∧ Gr W w') := fun W hW => by
          refine (rsame_any W x o (HRX.out.below (HB.out.trans (hW.below.mono HB.out.size))) (HRO.out.below (HB.out.trans (hW.below.mono HB.out.size)))).mono ?_
          rintro e w' ⟨⟨b, rfl, hb⟩, h2⟩
          exact ⟨ret_bool (by rw [Bool.eq_iff_iff, hb, HSB.out]), h2⟩
        have HC3 : Hid (∀ W, Gr wr W → Calls Try.prog 20 #[.agg #[.int .i64 x.kd, .string x.nm, .slice x.ea x.eps.length x.ec, .slice x.ta x.tgs.length x.tc, .string x.host, .slice x.ra x.rus.length x.rc, .string x.route, .bool x.del], .agg #[.int .i64 x.kd, .string x.nm, .slice x.ea x.eps.length x.ec, .slice x.ta x.tgs.length x.tc, .string x.host, .slice x.ra x.rus.length x.rc, .string x.route, .bool x.del]] W fun e w' => e = .returned (.bool true) ∧ Gr W w') := fun W hW => by
          refine (same_any W x x (HRX.out.below (HB.out.trans (hW.below.mono HB.out.size))) (HRX.out.below (HB.out.trans (hW.below.mono HB.out.size)))).mono ?_
          rintro e w' ⟨⟨b, rfl, hb⟩, h2⟩
          exact ⟨ret_bool (hb.2 (SameC.refl _)), h2⟩
        generalize sb x.toRs o.toRs = bb at HC1 HC2
        clear hki hkj HRX HRO
        go_wp2_with fail
        go_region_held3 (fun w' => w'.cell? ⟨g, off + i * 8, none⟩ = some (.int .i64 x.kd) ∧ w'.cell? ⟨g, off + i * 8 + 1, none⟩ = some (.string x.nm) ∧ w'.cell? ⟨g, off + i * 8 + 2, none⟩ = some (.slice x.ea x.eps.length x.ec) ∧ w'.cell? ⟨g, off + i * 8 + 3, none⟩ = some (.slice x.ta x.tgs.length x.tc) ∧ w'.cell? ⟨g, off + i * 8 + 4, none⟩ = some (.string x.host) ∧ w'.cell? ⟨g, off + i * 8 + 5, none⟩ = some (.slice x.ra x.rus.length x.rc) ∧ w'.cell? ⟨g, off + i * 8 + 6, none⟩ = some (.string x.route) ∧ w'.cell? ⟨g, off + i * 8 + 7, none⟩ = some (.bool x.del) ∧ w'.cell? ⟨g', off' + i * 8, none⟩ = some (.int .i64 o.kd) ∧ w'.cell? ⟨g', off' + i * 8 + 1, none⟩ = some (.string o.nm) ∧ w'.cell? ⟨g', off' + i * 8 + 2, none⟩ = some (.slice o.ea o.eps.length o.ec) ∧ w'.cell? ⟨g', off' + i * 8 + 3, none⟩ = some (.slice o.ta o.tgs.length o.tc) ∧ w'.cell? ⟨g', off' + i * 8 + 4, none⟩ = some (.string o.host) ∧ w'.cell? ⟨g', off' + i * 8 + 5, none⟩ = some (.slice o.ra o.rus.length o.rc) ∧ w'.cell? ⟨g', off' + i * 8 + 6, none⟩ = some (.string o.route) ∧ w'.cell? ⟨g', off' + i * 8 + 7, none⟩ = some (.bool o.del)) (go_keep) (first
          | (go_at_call 20; refine (HC3.out _ HG2.out).mono ?_; rintro e w7 ⟨rfl, hg7⟩; have HG3 := hideL (HG2.out.trans hg7); obtain ⟨p0, p1, p2, p3, p4, p5, p6, p7, p8, p9, p10, p11, p12, p13, p14, p15⟩ := HS.out w7 HG3.out; clear hg7)
          | (go_at_call 21; refine (HC2.out _ HG1.out).mono ?_; rintro e w6 ⟨rfl, hg6⟩; have HG2 := hideL (HG1.out.trans hg6); obtain ⟨p0, p1, p2, p3, p4, p5, p6, p7, p8, p9, p10, p11, p12, p13, p14, p15⟩ := HS.out w6 HG2.out; clear hg6)
          | (go_at_call 20; refine (HC1.out _ (Gr.drewN wr 1)).mono ?_; rintro e w5 ⟨rfl, hg5⟩; have HG1 := hideL ((Gr.drewN wr 1).trans hg5); obtain ⟨p0, p1, p2, p3, p4, p5, p6, p7, p8, p9, p10, p11, p12, p13, p14, p15⟩ := HS.out w5 HG1.out; clear hg5))
        go_wp2
        go_roundw
        case rel => exact ⟨i + 1, by go_num, by omega, HB.out.trans (HG3.out.below.mono HB.out.size)⟩
        case measure => simp [intOf]; omega
      · have h4' : ¬ (i : Int) < T.length := by omega
        go_wp2
        go_ret
        exact ⟨rfl, HB.out⟩
    · have h3' : ¬ (i : Int) < F.length := by omega
      go_wp2
      go_ret
      exact ⟨rfl, HB.out⟩
end Go.Proofs.Ytmljljpldljpjaa

/-
  Merge and the document's Merge answer the same.
-/
namespace Go.Proofs.Ytmljljpldljpjaa
open Go.RowKit
set_option linter.unusedVariables false
set_option linter.unusedSimpArgs false
set_option maxRecDepth 100000
def mgL (C D : List Rs) : List Rs := match mrF C D with | some _ => [] | none => allM C D D.length
def mgA (C D : List Rs) : Int := match mrF C D with | some (a, _) => a | none => 0
def mgX (C D : List Rs) : Int := match mrF C D with | some (_, x) => x | none => 0
theorem mg_mem {C D : List Rs} {r : Rs} (h : r ∈ mgL C D) : r ∈ C ∨ r ∈ D := by
  unfold mgL at h
  rcases hm : mrF C D with _ | ⟨a, x⟩
  · rw [hm] at h
    dsimp only at h
    obtain ⟨h1, h2, _⟩ := mrF_none hm
    have := (merg_perm h1 h2).1.mem_iff.1 h
    unfold mergL at this
    rcases List.mem_append.1 this with h | h
    · exact .inl (List.mem_filter.1 h).1
    · exact .inr (List.mem_filter.1 h).1
  · rw [hm] at h; cases h
/-- what both leave -/
def MeE (w : World) (C D : List Rs) (e : Ending) (w' : World) : Prop := ∃ a k Q, e = .returned (.tuple #[.slice a (mgL C D).length k, .int .i64 (mgA C D), .int .i64 (mgX C D)]) ∧ Q.length = (mgL C D).length ∧ Lr w' a Q ∧ Q.map Rx.toRs = mgL C D ∧ Below w.heap.size w w'
theorem lr_nil (w : World) : Lr w none [] := ⟨(fun o ho => by cases ho), .inl rfl⟩
theorem merge_e (w : World) (a b : Option Addr) (c1 c2 : Nat) (C D : List Rx) (hC : Lr w a C) (hD : Lr w b D) (hs : C.length ≤ 1048576) (hs2 : D.length ≤ 1048576) :
    Calls Try.prog 10 #[.slice a C.length c1, .slice b D.length c2] w fun e w' => MeE w (C.map Rx.toRs) (D.map Rx.toRs) e w' := by
  refine (merge_any w a b C.length D.length c1 c2 C D hC hD rfl rfl hs hs2).mono ?_
  rintro e w' ⟨hb, ⟨p, x, hm, rfl⟩ | ⟨hm, a', c', qs, rfl, ho, hp⟩⟩
  · refine ⟨none, 0, [], ?_, ?_, lr_nil _, ?_, hb⟩
    · simp [mgL, mgA, mgX, hm]
    · simp [mgL, hm]
    · simp [mgL, hm]
  · have e1 := merg_one hm hp
    have e2 : qs.map Rx.toRs = mgL (C.map Rx.toRs) (D.map Rx.toRs) := by rw [e1]; simp [mgL, hm]
    have e3 : qs.length = (mgL (C.map Rx.toRs) (D.map Rx.toRs)).length := by rw [← e2, List.length_map]
    refine ⟨a', c', qs, ?_, e3, ho.lr (fun o h => ?_), e2, hb⟩
    · rw [← e3]; simp [mgA, mgX, hm]
    · have : o.toRs ∈ mgL (C.map Rx.toRs) (D.map Rx.toRs) := by rw [← e2]; exact List.mem_map_of_mem h
      rcases mg_mem this with h | h
      · obtain ⟨p, hp, e⟩ := List.mem_map.1 h
        rw [← e]; exact (hC.each p hp).ok
      · obtain ⟨p, hp, e⟩ := List.mem_map.1 h
        rw [← e]; exact (hD.each p hp).ok
theorem rmerge_e (w : World) (a b : Option Addr) (c1 c2 : Nat) (C D : List Rx) (hC : Lr w a C) (hD : Lr w b D) (hf1 : Frm a C.length c1) (hf2 : Frm b D.length c2) (hs : C.length ≤ 1048576) (hs2 : D.length ≤ 1048576) :
    Calls Try.prog 11 #[.slice a C.length c1, .slice b D.length c2] w fun e w' => MeE w (C.map Rx.toRs) (D.map Rx.toRs) e w' := by
  refine (rmerge_any w a b C.length D.length c1 c2 C D hC hD hf1 hf2 rfl rfl hs hs2).mono ?_
  rintro e w' ⟨hb, ⟨p, x, hm, rfl⟩ | ⟨hm, a', c', qs, rfl, ho, hp⟩⟩
  · refine ⟨none, 0, [], ?_, ?_, lr_nil _, ?_, hb⟩
    · simp [mgL, mgA, mgX, hm]
    · simp [mgL, hm]
    · simp [mgL, hm]
  · have e2 : qs.map Rx.toRs = mgL (C.map Rx.toRs) (D.map Rx.toRs) := by rw [hp]; simp [mgL, hm]
    have e3 : qs.length = (mgL (C.map Rx.toRs) (D.map Rx.toRs)).length := by rw [← e2, List.length_map]
    refine ⟨a', c', qs, ?_, e3, ho, e2, hb⟩
    · rw [← e3]; simp [mgA, mgX, hm]
end Go.Proofs.Ytmljljpldljpjaa

/-
  The walk of CheckMerges.
-/
namespace Go.Proofs.Ytmljljpldljpjaa
open Go.RowKit
set_option linter.unusedVariables false
set_option linter.unusedSimpArgs false
set_option maxRecDepth 100000
theorem mg_len (C D : List Rs) : (mgL C D).length ≤ 64 := by
  unfold mgL
  rcases hm : mrF C D with _ | ⟨a, x⟩
  · obtain ⟨h1, h2, h3⟩ := mrF_none hm
    dsimp only
    rw [(merg_perm h1 h2).1.length_eq]; exact h3
  · exact Nat.zero_le _
set_option maxHeartbeats 4000000 in
theorem num_any (w : World) (x : Int) : Calls Try.prog 12 #[.int .i64 x] w fun e w' => e = .returned (.int .i64 x) ∧ w' = w := by
  go_enter Try.func12, Try.ntmps12
  go_wp2
  go_ret
  exact ⟨rfl, rfl⟩
set_option maxHeartbeats 32000000 in
theorem checkMerges_any (w : World) (a b : Option Addr) (n m c1 c2 : Nat) (F T : List Rx) (hF : Lr w a F) (hT : Lr w b T) (hbF : ∀ o ∈ F, Bare o) (hbT : ∀ o ∈ T, Bare o) (hn : F.length = n) (hm : T.length = m) (hs : n ≤ 1048576) (hs2 : m ≤ 1048576) (hfF : Frm a n c1) (hfT : Frm b m c2) :
    Calls Try.prog 3 #[.slice a n c1, .slice b m c2] w fun e w' => e = .returned (.bool true) ∧ Below w.heap.size w w' := by
  subst hn hm
  have HF := hideL hF
  have HTT := hideL hT
  have HBF := hideL hbF
  have HBT := hideL hbT
  have HFF := hideL hfF
  have HFT := hideL hfT
  clear hF hT hbF hbT hfF hfT
  go_enter Try.func3, Try.ntmps3
  go_wp2_with fail
  refine (own_e w a c1 F HF.out HBF.out hs).mono ?_
  rintro e w1 ⟨a1, k1, A, rfl, hA1, hA2, hA3, hA4, hb1⟩
  have HA := hideL hA3
  have HAE := hideL hA4
  have HAL := hideL hA1
  have HB1 := hideL hb1
  clear hA1 hA2 hA3 hA4 hb1
  go_wp2_with fail
  refine (own_e w1 b c2 T (HTT.out.below HB1.out) HBT.out hs2).mono ?_
  rintro e w2 ⟨a2, k2, B, rfl, hA1, hA2, hA3, hA4, hb2⟩
  have HBB := hideL hA3
  have HBE := hideL hA4
  have HBL := hideL hA1
  have HA2 := hideL (HA.out.below hb2)
  have HB2 := hideL (HB1.out.trans (hb2.mono HB1.out.size))
  clear hA1 hA2 hA3 hA4 hb2 HA HB1
  have HD : Hid (Calls Try.prog 10 #[.slice a1 F.length k1, .slice a2 T.length k2] w2 fun e w' => MeE w2 (F.map Rx.toRs) (T.map Rx.toRs) e w') := by
    have := merge_e w2 a1 a2 k1 k2 A B HA2.out HBB.out (by rw [HAL.out]; exact hs) (by rw [HBL.out]; exact hs2)
    rw [HAE.out, HBE.out, HAL.out, HBL.out] at this
    exact this
  have HRD := hideL (fun W (hW : Below w.heap.size w W) => rmerge_e W a b c1 c2 F T (HF.out.below hW) (HTT.out.below hW) HFF.out HFT.out hs hs2)
  have HML := hideL (mg_len (F.map Rx.toRs) (T.map Rx.toRs))
  unfold MeE at HD HRD
  generalize mgL (F.map Rx.toRs) (T.map Rx.toRs) = R at HD HRD HML
  generalize mgA (F.map Rx.toRs) (T.map Rx.toRs) = p at HD HRD
  generalize mgX (F.map Rx.toRs) (T.map Rx.toRs) = x at HD HRD
  go_wp2_with fail
  refine HD.out.mono ?_
  rintro e w3 ⟨a3, k3, D, rfl, hD1, hD3, hD4, hb3⟩
  have HDD := hideL hD3
  have HDE := hideL hD4
  have HDL := hideL hD1
  have HA3 := hideL (HA2.out.below hb3)
  have HBB3 := hideL (HBB.out.below hb3)
  have HB3 := hideL (HB2.out.trans (hb3.mono HB2.out.size))
  clear hD1 hD3 hD4 hb3 HA2 HB2 HBB HD
  go_wp2_with fail
  refine (HRD.out w3 HB3.out).mono ?_
  rintro e w4 ⟨a4, k4, Q, rfl, hQ1, hQ2, hQ3, hb4⟩
  have HLI := hideL (fun W (h : Gr w4 W) => lists_any W a3 a4 R.length k3 k4 D Q HDL.out (by have := HML.out; omega) ((HDD.out.below hb4).below h.below) (hQ2.below h.below) (by rw [HDE.out, hQ3]))
  have HA4 := hideL (HA3.out.below hb4)
  have HBB4 := hideL (HBB3.out.below hb4)
  have HB4 := hideL (HB3.out.trans (hb4.mono HB3.out.size))
  clear hQ1 hQ2 hQ3 hb4 HA3 HBB3 HB3 HDD HRD
  have HNU : Hid (∀ W, Calls Try.prog 12 #[.int .i64 x] W fun e w' => e = .returned (.int .i64 x) ∧ w' = W) := fun W => num_any W x
  go_wp2_with fail
  refine (HNU.out _).mono ?_
  rintro e w5 ⟨rfl, hw⟩
  have hw := hw.symm
  subst hw
  go_wp2_with fail
  refine (HLI.out _ (Gr.refl _)).mono ?_
  rintro e w5 ⟨rfl, hg5⟩
  have HA5 := hideL (HA4.out.below hg5.below)
  have HBB5 := hideL (HBB4.out.below hg5.below)
  have HB5 := hideL (HB4.out.trans (hg5.below.mono HB4.out.size))
  clear hg5 HA4 HBB4 HB4 HLI
  go_wp2_with fail
  refine (own_e w5 a c1 F (HF.out.below HB5.out) HBF.out hs).mono ?_
  rintro e w6 ⟨a6, k6, A6, rfl, hA1, hA2, hA3, hA4, hb6⟩
  have HLI := hideL (lists_any w6 a1 a6 F.length k1 k6 A A6 HAL.out (by omega) (HA5.out.below hb6) hA3 (by rw [HAE.out, hA4]))
  have HBB6 := hideL (HBB5.out.below hb6)
  have HB6 := hideL (HB5.out.trans (hb6.mono HB5.out.size))
  clear hA1 hA2 hA3 hA4 hb6 HA5 HBB5 HB5
  go_wp2_with fail
  refine HLI.out.mono ?_
  rintro e w7 ⟨rfl, hg7⟩
  have HBB7 := hideL (HBB6.out.below hg7.below)
  have HB7 := hideL (HB6.out.trans (hg7.below.mono HB6.out.size))
  clear hg7 HBB6 HB6 HLI
  go_wp2_with fail
  refine (own_e w7 b c2 T (HTT.out.below HB7.out) HBT.out hs2).mono ?_
  rintro e w8 ⟨a8, k8, A8, rfl, hA1, hA2, hA3, hA4, hb8⟩
  have HLI := hideL (lists_any w8 a2 a8 T.length k2 k8 B A8 HBL.out (by omega) (HBB7.out.below hb8) hA3 (by rw [HBE.out, hA4]))
  have HB8 := hideL (HB7.out.trans (hb8.mono HB7.out.size))
  clear hA1 hA2 hA3 hA4 hb8 HBB7 HB7
  go_wp2_with fail
  refine HLI.out.mono ?_
  rintro e w9 ⟨rfl, hg9⟩
  have HB9 := hideL (HB8.out.trans (hg9.below.mono HB8.out.size))
  clear hg9 HB8 HLI
  go_wp2
  go_ret
  exact ⟨rfl, HB9.out⟩
end Go.Proofs.Ytmljljpldljpjaa
