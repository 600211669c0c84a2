/-
  The document's Merge.
-/
import Derived.Test.YtmljljpldljpjabMp
namespace Go.Proofs.Ytmljljpldljpjab
open Go.RowKit
set_option linter.unusedVariables false
set_option linter.unusedSimpArgs false
set_option maxRecDepth 100000
theorem gl_form {w0 W : World} {v : Value} {os : List Rx} (h : Gl w0 W v os) : ∃ a c, v = .slice a os.length c ∧ Lr W a os ∧ Frm a os.length c ∧ Below w0.heap.size w0 W := by
  obtain ⟨a, c, rfl, _⟩ := own_form h.row
  exact ⟨a, c, rfl, h.lr, own_frm h.row, h.bel⟩
set_option maxHeartbeats 32000000 in
theorem rmerge_any (w : World) (a b : Option Addr) (n m c1 c2 : Nat) (C D : List Rx) (hC : Lr w a C) (hD : Lr w b D) (hfC : Frm a n c1) (hfD : Frm b m c2) (hn : C.length = n) (hm : D.length = m) (hs : n ≤ 1048576) (hs2 : m ≤ 1048576) :
    Calls Try.prog 9 #[.slice a n c1, .slice b m c2] w fun e w' => RmE w (C.map Rx.toRs) (D.map Rx.toRs) e w' := by
  have HC := hideL hC
  have HD := hideL hD
  have HFC := hideL hfC
  have HFD := hideL hfD
  have HN := hideL hn
  have HM := hideL hm
  clear hC hD hfC hfD hn hm
  have HO := hideL (out_any w a n c1 C HC.out HN.out (by omega))
  have HCL : Hid ((C.map Rx.toRs).length = n) := by unfold Hid; simp [HN.out]
  have HDL : Hid ((D.map Rx.toRs).length = m) := by unfold Hid; simp [HM.out]
  go_enter Try.func9, Try.ntmps9
  go_wp2_with fail
  refine HO.out.mono ?_
  rintro e w1 ⟨rfl, hg1⟩
  have HG1 := hideL hg1
  clear hg1 HO
  by_cases ho : astF (C.map Rx.toRs) = n
  · have hout : outI (C.map Rx.toRs) = -1 := by unfold outI; rw [if_pos (by rw [HCL.out]; exact ho)]
    rw [hout]
    have HORD := hideL (astF_ord (C := C.map Rx.toRs) (by rw [HCL.out]; exact ho))
    have HMS : Hid (∀ (i : Nat) (x : Int), wrongF (C.map Rx.toRs) (D.map Rx.toRs) = some (i, x) → mrF (C.map Rx.toRs) (D.map Rx.toRs) = some ((i : Int), x)) := fun i x h => by
      unfold mrF; rw [if_neg (by rw [HCL.out]; simp [ho]), h]
    have HMN : Hid (wrongF (C.map Rx.toRs) (D.map Rx.toRs) = none → mrF (C.map Rx.toRs) (D.map Rx.toRs) = if 64 < (mergL (C.map Rx.toRs) (D.map Rx.toRs)).length then some (0, 124) else none) := fun h => by
      unfold mrF; rw [if_neg (by rw [HCL.out]; simp [ho]), h]
    clear hout ho
    go_wp2_with fail
    go_loopw [7, 8] (fun v t wr => ∃ (i : Nat) (va : Option Addr) (vc : Nat) (os : List Rx), v = .slice va os.length vc ∧ t = .int .i64 i ∧ i ≤ m ∧ Lr wr va os ∧ Frm va os.length vc ∧ os.map Rx.toRs = allM (C.map Rx.toRs) (D.map Rx.toRs) i ∧ os.length ≤ n + i ∧ Below w.heap.size w wr ∧ Hid (∀ (j : Nat) (x : Rs), j < i → (D.map Rx.toRs)[j]? = some x → errF (C.map Rx.toRs) (D.map Rx.toRs) j x = 0)) (fun _ t _ => m - (intOf t).toNat)
    case atStart => exact ⟨0, a, c1, C, by rw [HN.out], rfl, by omega, HC.out.below HG1.out.below, by rw [HN.out]; exact HFC.out, rfl, by rw [HN.out]; omega, HG1.out.below, fun j x hj => by omega⟩
    case round =>
      obtain ⟨i, va, vc, os, rfl, rfl, hi, hlr, hfr, hos, hol, hbel, HF⟩ := hrel
      have i0 : (0 : Int) ≤ i := by omega
      have HLR := hideL hlr
      have HFR := hideL hfr
      have HOS := hideL hos
      have HB := hideL hbel
      clear hlr hfr hos hbel HG1
      by_cases h3 : i < m
      · have h3' : (i : Int) < m := by omega
        rcases hki : D[i]? with _ | o
        · have := List.getElem?_eq_none_iff.1 hki; have := HM.out; omega
        have HRO := hideL (HD.out.each o (List.mem_of_getElem? hki))
        obtain ⟨g, off, rfl, d0, d1, d2, d3, d4, d5, d6, d7⟩ := (HD.out.row.below HB.out).cells hki
        have HKI : Hid ((D.map Rx.toRs)[i]? = some o.toRs) := by unfold Hid; simp [hki]
        have hcl : m ≤ c2 := by
          rcases HFD.out with ⟨h, _⟩ | ⟨x, _, h1, h2⟩
          · cases h
          · exact h1
        have hic : (i : Int) ≤ c2 := by omega
        have HBAD : Hid (∀ v : Int, errF (C.map Rx.toRs) (D.map Rx.toRs) i o.toRs = v → v ≠ 0 → mrF (C.map Rx.toRs) (D.map Rx.toRs) = some ((i : Int), v)) := fun v h h0 => by
          have := wrongF_stop HF.out HKI.out (by rw [h]; exact h0)
          rw [h] at this
          exact HMS.out i v this
        have HGOOD : Hid (errF (C.map Rx.toRs) (D.map Rx.toRs) i o.toRs = 0 → ∀ (j : Nat) (x : Rs), j < i + 1 → (D.map Rx.toRs)[j]? = some x → errF (C.map Rx.toRs) (D.map Rx.toRs) j x = 0) := fun h j x hj hx => by
          by_cases hji : j < i
          · exact HF.out j x hji hx
          · obtain rfl : j = i := by omega
            rw [HKI.out] at hx; cases hx; exact h
        have HAI := hideL (allI_of HORD.out.ks (i := i) (by rw [HDL.out]; omega) HF.out)
        have HTK := hideL (takeF HKI.out)
        have HSTEP := hideL (allM_step (C := C.map Rx.toRs) HKI.out)
        have HCT : Hid (Cel wr (some ⟨g, off, none⟩) 8 ((D.take i).map Rx.row)) := by
          rcases HD.out.row.below HB.out with h | ⟨g2, o2, e2, h2⟩
          · exact .inl (by simp at h; simp [h])
          · refine .inr ⟨g2, o2, e2, fun j r hj => h2 j r ?_⟩
            rw [List.map_take] at hj
            have hik : j < i := by have := (List.getElem?_eq_some_iff.1 hj).1; simp at this; omega
            rwa [List.getElem?_take_of_lt hik] at hj
        clear hki
        obtain ⟨w2, hw2⟩ : ∃ X, wr.alloc (boxO o) = X := ⟨_, rfl⟩
        have HG2 : Hid (Gr wr w2) := by rw [← hw2]; exact Gr.alloc _ _
        have HX2 : Hid (w2.heap[wr.heap.size]? = some (boxO o)) := by rw [← hw2]; exact heap_alloc_new wr _
        unfold boxO at hw2
        have HB2 := hideL (HB.out.trans (HG2.out.below.mono HB.out.size))
        obtain ⟨e0, e1, e2, e3, e4, e5, e6, e7⟩ := box8 HX2.out
        by_cases hk1 : o.kd < 1
        · have HR := hideL (HBAD.out 2 (by unfold errF; rw [if_pos (.inl hk1)]) (by decide))
          have hk1' : decide (o.kd < 1) = true := by simpa using hk1
          go_wp2
          go_ret3
          exact ⟨HB2.out, .inl ⟨i, 2, HR.out, rfl⟩⟩
        · have hk1' : decide (o.kd < 1) = false := by simp; omega
          by_cases hk2 : 4 < o.kd
          · have HR := hideL (HBAD.out 2 (by unfold errF; rw [if_pos (.inr hk2)]) (by decide))
            have hk2' : decide (4 < o.kd) = true := by simpa using hk2
            go_wp2
            go_ret3
            exact ⟨HB2.out, .inl ⟨i, 2, HR.out, rfl⟩⟩
          · have hk2' : decide (4 < o.kd) = false := by simp; omega
            have HKD : Hid (¬ (o.kd < 1 ∨ 4 < o.kd)) := by unfold Hid; omega
            have HF1 : Hid (∀ q c, Calls Try.prog 22 #[.slice (some ⟨g, off, none⟩) i c, .int .i64 o.kd, .string o.nm] (w2.drewN q) fun e w' => e = .returned (.int .i64 (findI ((D.take i).map Rx.toRs) (o.kd, o.nm))) ∧ w' = w2.drewN q) := fun q c =>
              find_any _ _ i c (D.take i) o.kd o.nm (by rw [List.length_take, HM.out]; omega) (by omega) (HCT.out.below (HG2.out.trans (Gr.drewN _ _)).below)
            rcases hf1 : firstsF ((D.take i).map Rx.toRs) (o.kd, o.nm) with _ | j1
            · have hfi : findI ((D.take i).map Rx.toRs) (o.kd, o.nm) = -1 := by unfold findI; rw [hf1]
              rw [hfi] at HF1
              have HFS : Hid (firstsF (D.map Rx.toRs) o.toRs.key = some i) := HTK.out.1 (by rw [← List.map_take]; exact hf1)
              clear hf1 hfi
              go_wp2_with fail
              go_quiet ((go_at_call 22; exact Calls.quiet_of_same (HF1.out _ _)))
              go_wp2_with fail
              obtain ⟨w3, hw3⟩ : ∃ X, w2.drewN nq = X := ⟨_, rfl⟩
              have HG3 : Hid (Gr wr w3) := by rw [← hw3]; exact HG2.out.trans (Gr.drewN _ _)
              have HX3 : Hid (w3.heap[wr.heap.size]? = some (boxO o)) := by rw [← hw3]; exact (Gr.drewN w2 nq).below.cells HX2.out
              rw [hw3]
              have HB3 := hideL (HB.out.trans (HG3.out.below.mono HB.out.size))
              have HL3 := hideL (HLR.out.below HG3.out.below)
              have HR3 := hideL (HRO.out.below HB3.out)
              obtain ⟨B, hB⟩ : ∃ B, wr.heap.size = B := ⟨_, rfl⟩
              rw [hB] at HX3 ⊢
              clear HX2 HG2 hw2 e0 e1 e2 e3 e4 e5 e6 e7 d0 d1 d2 d3 d4 d5 d6 d7 HCT HF1 hw3 HB2 HLR HG3 hB
              obtain ⟨e0, e1, e2, e3, e4, e5, e6, e7⟩ := box8 HX3.out
              refine (find_any w3 va os.length vc os o.kd o.nm rfl (by omega) HL3.out.row).mono ?_
              rintro e w4 ⟨rfl, hw4⟩
              have hw4 := hw4.symm
              subst hw4
              have HHAS := hideL (HAI.out.has HKI.out HFS.out)
              rw [← HOS.out] at HHAS
              have HE : Hid (errF (C.map Rx.toRs) (D.map Rx.toRs) i o.toRs = if o.del = true ∧ firstsF (os.map Rx.toRs) (o.kd, o.nm) = none then 290 else 0) := by
                unfold Hid errF
                rw [if_neg HKD.out, if_neg (by simp [HFS.out])]
                by_cases h : o.del = true ∧ firstsF (os.map Rx.toRs) (o.kd, o.nm) = none
                · rw [if_pos h, if_pos ⟨h.1, HHAS.out.1 h.2⟩]
                · rw [if_neg h, if_neg (fun h' => h ⟨h'.1, HHAS.out.2 h'.2⟩)]
              rw [← HOS.out] at HSTEP
              have HOL : Hid (os.length ≤ n + i) := hol
              rcases hf2 : firstsF (os.map Rx.toRs) (o.kd, o.nm) with _ | j2
              · have hfi : findI (os.map Rx.toRs) (o.kd, o.nm) = -1 := by unfold findI; rw [hf2]
                rw [hfi]
                rw [hf2] at HE
                have HDX : Hid (os.map Rx.toRs = dropK (os.map Rx.toRs) o.toRs.key) := dropX_none hf2
                clear hf2 hfi
                cases hdl : o.del
                · rw [hdl] at e7 HE
                  have HR := hideL (HGOOD.out (by rw [HE.out]; simp))
                  have HP30 := hideL (put_any w3 va os.length vc os o HL3.out HR3.out rfl (by omega) HFR.out)
                  unfold Rx.val at HP30
                  rw [hdl] at HP30
                  have HST : Hid ((putX os o).map Rx.toRs = allM (C.map Rx.toRs) (D.map Rx.toRs) (i + 1)) := by
                    unfold Hid
                    rw [HSTEP.out, putX_says]; unfold stepM
                    rw [if_neg (by simp [hdl]), ← HDX.out]
                  clear hdl
                  go_wp2_with fail
                  refine HP30.out.mono ?_
                  rintro e w5 ⟨v, rfl, hgl⟩
                  obtain ⟨a5, c5, rfl, hl5, hf5, hb5⟩ := gl_form hgl
                  have HL5 := hideL hl5
                  have HF5 := hideL hf5
                  have HB5 := hideL hb5
                  clear hgl hl5 hf5 hb5 HP30
                  go_wp2
                  go_roundw
                  case rel => exact ⟨i + 1, a5, c5, putX os o, rfl, by go_num, by omega, HL5.out, HF5.out, HST.out, by rw [putX_len]; have := HOL.out; omega, HB3.out.trans (HB5.out.mono HB3.out.size), HR.out⟩
                  case measure => simp [intOf]; omega
                · rw [hdl] at e7 HE
                  have HR := hideL (HBAD.out 290 (by rw [HE.out]; simp) (by decide))
                  clear hdl
                  go_wp2
                  go_ret3
                  exact ⟨HB3.out, .inl ⟨i, 290, HR.out, rfl⟩⟩
              · have hfi : findI (os.map Rx.toRs) (o.kd, o.nm) = j2 := by unfold findI; rw [hf2]
                rw [hfi]
                rw [hf2] at HE
                have HR := hideL (HGOOD.out (by rw [HE.out]; simp))
                have hj2 : j2 < os.length := by
                  unfold firstsF at hf2
                  obtain ⟨h, _⟩ := List.findIdx?_eq_some_iff_getElem.1 hf2
                  simpa using h
                have HDX := hideL (dropX_says hf2)
                have j0 : (0 : Int) ≤ j2 := by omega
                have j1 : ¬ (j2 : Int) < 0 := by omega
                have j3 : decide ((j2 : Int) < 0) = false := by simp
                have HD29 := hideL (drop_any w3 va os.length vc j2 os HL3.out rfl (by omega) HFR.out hj2)
                clear hf2 hfi
                have hlen : (os.take j2 ++ os.drop (j2 + 1)).length ≤ os.length := by simp; omega
                generalize os.take j2 ++ os.drop (j2 + 1) = xs at HDX HD29 hlen
                have HDR : Hid (∀ (P : Ending → World → Prop), (∀ (v : Value) (w5 : World) (a5 : Option Addr) (c5 : Nat), v = .slice a5 xs.length c5 → Lr w5 a5 xs → Frm a5 xs.length c5 → Below w3.heap.size w3 w5 → P (.returned v) w5) → Calls Try.prog 23 #[.slice va os.length vc, .int .i64 j2] w3 P) := fun P h => HD29.out.mono (by
                  rintro e w5 ⟨v, rfl, hgl⟩
                  obtain ⟨a5, c5, hv, hl5, hf5, hb5⟩ := gl_form hgl
                  exact h v w5 a5 c5 hv hl5 hf5 hb5)
                clear HD29
                cases hdl : o.del
                · rw [hdl] at e7
                  have HST : Hid ((putX xs o).map Rx.toRs = allM (C.map Rx.toRs) (D.map Rx.toRs) (i + 1)) := by
                    unfold Hid
                    rw [HSTEP.out, putX_says]; unfold stepM
                    rw [if_neg (by simp [hdl]), HDX.out]; rfl
                  have HP30 : Hid (∀ (W : World) (a5 : Option Addr) (c5 : Nat), Lr W a5 xs → Rin W o → Frm a5 xs.length c5 → Calls Try.prog 24 #[.slice a5 xs.length c5, .agg #[.int .i64 o.kd, .string o.nm, .slice o.ea o.eps.length o.ec, .slice o.ta o.tgs.length o.tc, .string o.host, .slice o.ra o.rus.length o.rc, .string o.route, .bool false]] W fun e w' => ∃ v, e = .returned v ∧ Gl W w' v (putX xs o)) := fun W a5 c5 h1 h2 h3 => by
                    have := put_any W a5 xs.length c5 xs o h1 h2 rfl (by omega) h3
                    unfold Rx.val at this
                    rw [hdl] at this
                    exact this
                  have HX7 : Hid (∀ W : World, W.heap[B]? = some (boxO o) → W.cell? ⟨B, 7, none⟩ = some (.bool false)) := fun W h => by have := (box8 h).2.2.2.2.2.2.2; rw [hdl] at this; exact this
                  clear hdl
                  go_wp2_with fail
                  refine HDR.out _ ?_
                  rintro v w5 a5 c5 rfl hl5 hf5 hb5
                  have HL5 := hideL hl5
                  have HF5 := hideL hf5
                  have HB5 := hideL (HB3.out.trans (hb5.mono HB3.out.size))
                  have HX5 := hideL (show w5.heap[B]? = some (boxO o) from hb5.cells HX3.out)
                  clear hl5 hf5 hb5 HDR e0 e1 e2 e3 e4 e5 e6
                  obtain ⟨x0, x1, x2, x3, x4, x5, x6, -⟩ := box8 HX5.out
                  have x7 := HX7.out w5 HX5.out
                  go_wp2_with fail
                  refine (HP30.out _ a5 c5 HL5.out (HRO.out.below HB5.out) HF5.out).mono ?_
                  rintro e w6 ⟨v, rfl, hgl⟩
                  obtain ⟨a6, c6, rfl, hl6, hf6, hb6⟩ := gl_form hgl
                  have HL6 := hideL hl6
                  have HF6 := hideL hf6
                  have HB6 := hideL hb6
                  clear hgl hl6 hf6 hb6 HP30
                  go_wp2
                  go_roundw
                  case rel => exact ⟨i + 1, a6, c6, putX xs o, rfl, by go_num, by omega, HL6.out, HF6.out, HST.out, by rw [putX_len]; have := HOL.out; omega, HB5.out.trans (HB6.out.mono HB5.out.size), HR.out⟩
                  case measure => simp [intOf]; omega
                · rw [hdl] at e7
                  have HST : Hid (xs.map Rx.toRs = allM (C.map Rx.toRs) (D.map Rx.toRs) (i + 1)) := by
                    unfold Hid
                    rw [HSTEP.out]; unfold stepM
                    rw [if_pos (by simp [hdl]), HDX.out]; rfl
                  have HX7 : Hid (∀ W : World, W.heap[B]? = some (boxO o) → W.cell? ⟨B, 7, none⟩ = some (.bool true)) := fun W h => by have := (box8 h).2.2.2.2.2.2.2; rw [hdl] at this; exact this
                  clear hdl
                  go_wp2_with fail
                  refine HDR.out _ ?_
                  rintro v w5 a5 c5 rfl hl5 hf5 hb5
                  have HL5 := hideL hl5
                  have HF5 := hideL hf5
                  have HB5 := hideL (HB3.out.trans (hb5.mono HB3.out.size))
                  have x7 := HX7.out w5 (hb5.cells HX3.out)
                  clear hl5 hf5 hb5 HDR e0 e1 e2 e3 e4 e5 e6
                  go_wp2
                  go_roundw
                  case rel => exact ⟨i + 1, a5, c5, xs, rfl, by go_num, by omega, HL5.out, HF5.out, HST.out, by have := HOL.out; omega, HB5.out, HR.out⟩
                  case measure => simp [intOf]; omega
            · have hfi : findI ((D.take i).map Rx.toRs) (o.kd, o.nm) = j1 := by unfold findI; rw [hf1]
              rw [hfi] at HF1
              have j0 : (0 : Int) ≤ j1 := by omega
              have HR := hideL (HBAD.out 91 (by
                unfold errF; rw [if_neg HKD.out, if_pos]
                intro h
                have := HTK.out.2 h
                rw [← List.map_take] at this
                have e : firstsF ((D.take i).map Rx.toRs) (o.kd, o.nm) = none := this
                rw [hf1] at e; cases e) (by decide))
              clear hf1 hfi
              go_wp2_with fail
              go_quiet ((go_at_call 22; exact Calls.quiet_of_same (HF1.out _ _)))
              go_wp2
              go_ret3
              exact ⟨HB2.out.trans ((Gr.drewN _ _).below.mono HB2.out.size), .inl ⟨i, 91, HR.out, rfl⟩⟩
      · have h3' : ¬ (i : Int) < m := by omega
        have him : i = m := by omega
        have HALL : Hid (∀ (j : Nat) (x : Rs), (D.map Rx.toRs)[j]? = some x → errF (C.map Rx.toRs) (D.map Rx.toRs) j x = 0) := fun j x hx => HF.out j x (by have := (List.getElem?_eq_some_iff.1 hx).1; rw [HDL.out] at this; omega) hx
        have HPM := hideL (merg_perm HORD.out HALL.out)
        have HWN : Hid (wrongF (C.map Rx.toRs) (D.map Rx.toRs) = none) := wrongF_none HALL.out
        have HFIN := hideL (HMN.out HWN.out)
        have HLEN : Hid (os.length = (mergL (C.map Rx.toRs) (D.map Rx.toRs)).length) := by
          unfold Hid
          rw [← HPM.out.1.length_eq, HDL.out, ← him, ← HOS.out]; simp
        have HOS2 : Hid (os.map Rx.toRs = allM (C.map Rx.toRs) (D.map Rx.toRs) (D.map Rx.toRs).length) := by
          unfold Hid
          rw [HDL.out, ← him]; exact HOS.out
        clear him
        by_cases h64 : 64 < os.length
        · have h64' : (64 : Int) < os.length := by omega
          have HR : Hid (mrF (C.map Rx.toRs) (D.map Rx.toRs) = some (0, 124)) := by
            unfold Hid; rw [HFIN.out, if_pos (by rw [← HLEN.out]; exact h64)]
          go_wp2
          go_ret3
          exact ⟨HB.out, .inl ⟨0, 124, HR.out, rfl⟩⟩
        · have h64' : ¬ (64 : Int) < os.length := by omega
          have HR : Hid (mrF (C.map Rx.toRs) (D.map Rx.toRs) = none) := by
            unfold Hid; rw [HFIN.out, if_neg (by rw [← HLEN.out]; exact h64)]
          go_wp2
          go_ret3
          exact ⟨HB.out, .inr ⟨HR.out, va, vc, os, rfl, HLR.out, HOS2.out⟩⟩
  · have hlt : astF (C.map Rx.toRs) < n := by have := astF_le (C.map Rx.toRs); rw [HCL.out] at this; omega
    have hout : outI (C.map Rx.toRs) = astF (C.map Rx.toRs) := by unfold outI; rw [if_neg (by rw [HCL.out]; exact ho)]
    have HMR : Hid (mrF (C.map Rx.toRs) (D.map Rx.toRs) = some (0, 2)) := by
      unfold Hid mrF
      rw [if_pos (by rw [HCL.out]; exact ho)]
    rw [hout]
    generalize astF (C.map Rx.toRs) = A at hlt ⊢
    clear ho hout
    go_wp2
    go_ret3
    exact ⟨HG1.out.below, .inl ⟨0, 2, HMR.out, rfl⟩⟩
end Go.Proofs.Ytmljljpldljpjab
