import Derived.Test.YtmljljpldljpjaaBndA
import Derived.Test.YtmljljpldljpjaaOpen
/-
  What is merged keeps what it should: plain.
-/
namespace Go.Proofs.Ytmljljpldljpjaa
open Go.RowKit
set_option linter.unusedVariables false
set_option linter.unusedSimpArgs false
theorem wrongF_lt {C D : List Rs} {i : Nat} {x : Int} (h : wrongF C D = some (i, x)) : i < D.length := by
  unfold wrongF at h
  split at h
  · rename_i j hj
    have := List.mem_of_find?_eq_some hj
    simp only [Option.some.injEq, Prod.mk.injEq] at h
    rw [← h.1]; simpa using this
  · cases h
theorem mr_some {C D : List Rs} {p x : Int} (h : mrF C D = some (p, x)) : x ≠ 0 ∧ 0 ≤ p ∧ (p < D.length ∨ p = 0) := by
  unfold mrF at h
  split at h
  · cases h; exact ⟨by decide, by decide, .inr rfl⟩
  · rcases hw : wrongF C D with _ | ⟨i, y⟩
    · rw [hw] at h
      dsimp only at h
      split at h
      · cases h; exact ⟨by decide, by decide, .inr rfl⟩
      · cases h
    · rw [hw] at h
      have hl := wrongF_lt hw
      have hn := wrongF_ne hw
      cases h
      exact ⟨hn, by omega, .inl (by omega)⟩
theorem ord_ast {M : List Rs} (h : KS M) (hk : ∀ r ∈ M, 1 ≤ r.kd ∧ r.kd ≤ 4 ∧ r.del = false) : astF M = M.length := by
  refine astF_all fun j x hj => ?_
  obtain ⟨h1, h2, h3⟩ := hk x (List.mem_of_getElem? hj)
  unfold okAt
  rw [decide_eq_true h1, decide_eq_true h2, h3]
  by_cases h0 : j = 0
  · simp [h0]
  · rcases hq : M[j - 1]? with _ | q
    · simp
    · obtain ⟨a1, e1⟩ := List.getElem?_eq_some_iff.1 hq
      obtain ⟨a2, e2⟩ := List.getElem?_eq_some_iff.1 hj
      have := (List.pairwise_iff_getElem.1 h) (j - 1) j a1 a2 (by omega)
      rw [e1, e2] at this
      simp [(lessB_iff q x).2 this]
structure KeepI (C D M : List Rs) : Prop where
  ord : astF M = M.length
  len : M.length ≤ 64
  doc : ∀ d ∈ D, (∀ x ∈ M, x.key = d.key → SameC x d) ∧ ((∃ x ∈ M, x.key = d.key) ↔ d.del = false)
  con : ∀ c ∈ C, (∀ d ∈ D, d.key ≠ c.key) → ∃ x ∈ M, SameC x c
theorem keep_all {C D : List Rs} (h : mrF C D = none) : KeepI C D (mgL C D) := by
  obtain ⟨hC, hE, hl⟩ := mrF_none h
  have hM : mgL C D = allM C D D.length := by unfold mgL; rw [h]
  have hA := allI_of hC.ks (Nat.le_refl _) (fun j x _ hx => hE j x hx)
  have hmem : ∀ x, x ∈ allM C D D.length ↔ (x ∈ C ∧ ∀ d ∈ D, d.key ≠ x.key) ∨ (x ∈ D ∧ x.del = false) := fun x => by rw [hA.mem, List.take_length]
  have hone : ∀ x ∈ D, ∀ d ∈ D, x.key = d.key → x = d := by
    intro x hx d hd e
    obtain ⟨i, hi⟩ := List.getElem?_of_mem hx
    obtain ⟨j, hj⟩ := List.getElem?_of_mem hd
    have h1 := err0 (hE i x hi)
    have h2 := err0 (hE j d hj)
    rw [e, h2] at h1
    cases h1
    rw [hi] at hj; cases hj; rfl
  rw [hM]
  refine ⟨ord_ast hA.ks fun r hr => ?_, by rw [(merg_perm hC hE).1.length_eq]; exact hl, fun d hd => ⟨fun x hx e => ?_, fun ⟨x, hx, e⟩ => ?_, fun hdel => ⟨d, (hmem d).2 (.inr ⟨hd, hdel⟩), rfl⟩⟩, fun c hc hn => ⟨c, (hmem c).2 (.inl ⟨hc, hn⟩), SameC.refl c⟩⟩
  · rcases (hmem r).1 hr with ⟨h1, _⟩ | ⟨h1, h2⟩
    · exact hC.kind r h1
    · obtain ⟨i, hi⟩ := List.getElem?_of_mem h1
      have := hE i r hi
      unfold errF at this
      split at this
      · cases this
      · rename_i h3; exact ⟨by omega, by omega, h2⟩
  · rcases (hmem x).1 hx with ⟨_, h1⟩ | ⟨h1, h2⟩
    · exact absurd e.symm (h1 d hd)
    · rw [hone x h1 d hd e]; exact SameC.refl d
  · rcases (hmem x).1 hx with ⟨_, h1⟩ | ⟨h1, h2⟩
    · exact absurd e.symm (h1 d hd)
    · rw [← hone x h1 d hd e]; exact h2
theorem key_eqb (x d : Rs) : x.key = d.key ↔ (x.kd == d.kd) = true ∧ (x.nm.toList == d.nm.toList) = true := by
  unfold Rs.key
  rw [Prod.mk.injEq, beq_iff_eq, beq_iff_eq]
  exact ⟨fun ⟨h1, h2⟩ => ⟨h1, by rw [h2]⟩, fun ⟨h1, h2⟩ => ⟨h1, ba_toList_inj h2⟩⟩
end Go.Proofs.Ytmljljpldljpjaa

/-
  The walk of CheckKeeps.
-/
namespace Go.Proofs.Ytmljljpldljpjaa
open Go.RowKit
set_option linter.unusedVariables false
set_option linter.unusedSimpArgs false
set_option maxRecDepth 100000
theorem same_t (W : World) (q o : Rx) (hq : Rin W q) (ho : Rin W o) (b : Bool) (h : b = true ↔ SameC q.toRs o.toRs) : Calls Try.prog 21 #[.agg #[.int .i64 q.kd, .string q.nm, .slice q.ea q.eps.length q.ec, .slice q.ta q.tgs.length q.tc, .string q.host, .slice q.ra q.rus.length q.rc, .string q.route, .bool q.del], .agg #[.int .i64 o.kd, .string o.nm, .slice o.ea o.eps.length o.ec, .slice o.ta o.tgs.length o.tc, .string o.host, .slice o.ra o.rus.length o.rc, .string o.route, .bool o.del]] W fun e w' => e = .returned (.bool b) ∧ Gr W w' := by
  refine (rsame_any W q o hq ho).mono ?_
  rintro e w' ⟨⟨c, rfl, hc⟩, h2⟩
  obtain rfl : c = b := by rw [Bool.eq_iff_iff, hc, h]
  exact ⟨rfl, h2⟩
set_option maxHeartbeats 64000000 in
theorem checkKeeps_any (w : World) (a b : Option Addr) (n m c1 c2 : Nat) (F T : List Rx) (hF : Lr w a F) (hT : Lr w b T) (hbF : ∀ o ∈ F, Bare o) (hbT : ∀ o ∈ T, Bare o) (hn : F.length = n) (hm : T.length = m) (hs : n ≤ 1048576) (hs2 : m ≤ 1048576) :
    Calls Try.prog 7 #[.slice a n c1, .slice b m c2] w fun e w' => e = .returned (.bool true) ∧ Below w.heap.size w w' := by
  subst hn hm
  have HF := hideL hF
  have HT := hideL hT
  have HBF := hideL hbF
  have HBT := hideL hbT
  clear hF hT hbF hbT
  go_enter Try.func7, Try.ntmps7
  go_wp2_with fail
  refine (awake_any w).mono ?_
  rintro e w1 ⟨rfl, hb1⟩
  have HB1 := hideL hb1
  clear hb1
  go_wp2_with fail
  refine (own_e w1 a c1 F (HF.out.below HB1.out) HBF.out hs).mono ?_
  rintro e w2 ⟨a2, k2, A, rfl, hA1, hA2, hA3, hA4, hb2⟩
  have HA := hideL hA3
  have HAE := hideL hA4
  have HAL := hideL hA1
  have HB2 := hideL (HB1.out.trans (hb2.mono HB1.out.size))
  clear hA1 hA2 hA3 hA4 hb2
  go_wp2_with fail
  refine (own_e w2 b c2 T (HT.out.below HB2.out) HBT.out hs2).mono ?_
  rintro e w3 ⟨a3, k3, B, rfl, hA1, hA2, hA3, hA4, hb3⟩
  have HD : Hid (Calls Try.prog 10 #[.slice a2 F.length k2, .slice a3 T.length k3] w3 fun e w' => MeE w3 (F.map Rx.toRs) (T.map Rx.toRs) e w') := by
    have := merge_e w3 a2 a3 k2 k3 A B (HA.out.below hb3) hA3 (by rw [HAL.out]; exact hs) (by rw [hA1]; exact hs2)
    rw [HAE.out, hA4, HAL.out, hA1] at this
    exact this
  have HB3 := hideL (HB2.out.trans (hb3.mono HB2.out.size))
  clear hA1 hA2 hA3 hA4 hb3 HA HAE HAL
  unfold MeE at HD
  rcases hmr : mrF (F.map Rx.toRs) (T.map Rx.toRs) with _ | ⟨p, x⟩
  rotate_left
  · obtain ⟨hx, hp, hpl⟩ := mr_some hmr
    rw [show mgL (F.map Rx.toRs) (T.map Rx.toRs) = [] by unfold mgL; rw [hmr], show mgA (F.map Rx.toRs) (T.map Rx.toRs) = p by unfold mgA; rw [hmr], show mgX (F.map Rx.toRs) (T.map Rx.toRs) = x by unfold mgX; rw [hmr]] at HD
    dsimp only [List.length_nil] at HD
    rw [List.length_map] at hpl
    have hx' : (x != 0) = true := by simpa using hx
    clear hmr hx
    go_wp2_with fail
    refine HD.out.mono ?_
    rintro e w4 ⟨a4, k4, Q, rfl, _, _, _, hb4⟩
    have HB4 := hideL (HB3.out.trans (hb4.mono HB3.out.size))
    clear hb4 HD
    rcases hpl with hpl | hpl
    · go_wp2
      go_ret
      exact ⟨rfl, HB4.out⟩
    · subst hpl
      by_cases hpl : 0 < T.length
      · have hpl' : (0 : Int) < T.length := by omega
        have hpd : decide (0 < T.length) = true := by simpa using hpl
        go_wp2
        go_ret
        exact ⟨rfl, HB4.out⟩
      · have hpl' : ¬ (0 : Int) < T.length := by omega
        have hpd : decide (0 < T.length) = false := decide_eq_false hpl
        go_wp2
        go_ret
        exact ⟨rfl, HB4.out⟩
  · have HK := hideL (keep_all hmr)
    rw [show mgA (F.map Rx.toRs) (T.map Rx.toRs) = 0 by unfold mgA; rw [hmr], show mgX (F.map Rx.toRs) (T.map Rx.toRs) = 0 by unfold mgX; rw [hmr]] at HD
    generalize mgL (F.map Rx.toRs) (T.map Rx.toRs) = R at HD HK
    clear hmr
    obtain ⟨l, hl⟩ : ∃ l, R.length = l := ⟨_, rfl⟩
    rw [hl] at HD
    have HRL := hideL hl
    have hl64 : l ≤ 64 := by rw [← hl]; exact HK.out.len
    clear hl
    go_wp2_with fail
    refine HD.out.mono ?_
    rintro e w4 ⟨a4, k4, Q, rfl, hQ1, hQ2, hQ3, hb4⟩
    have HQ := hideL hQ2
    have HQE := hideL hQ3
    have HQL := hideL hQ1
    have HB4 := hideL (HB3.out.trans (hb4.mono HB3.out.size))
    clear hQ1 hQ2 hQ3 hb4 HD
    have HOR : Hid (Calls Try.prog 16 #[.slice a4 l k4] w4 fun e w' => e = .returned (.bool true) ∧ Gr w4 w') := by
      have := ordered_any w4 a4 l k4 Q HQ.out HQL.out (by omega)
      rw [HQE.out, HK.out.ord, HRL.out, decide_eq_true rfl] at this
      exact this
    have hl64' : ¬ (64 : Int) < l := by omega
    go_wp2_with fail
    refine HOR.out.mono ?_
    rintro e w5 ⟨rfl, hg5⟩
    have HQ5 := hideL (HQ.out.below hg5.below)
    have HB5 := hideL (HB4.out.trans (hg5.below.mono HB4.out.size))
    clear hg5 HOR HQ
    go_wp2_with fail
    go_loopw [8] (fun t wr => ∃ (i : Nat), t = .int .i64 i ∧ i ≤ T.length ∧ Gr w5 wr) (fun t _ => T.length - (intOf t).toNat)
    case atStart => exact ⟨0, rfl, by omega, Gr.refl _⟩
    case round =>
      obtain ⟨i, rfl, hi, hgr⟩ := hrel
      rename World => wo
      have HG := hideL hgr
      clear hgr
      have i0 : (0 : Int) ≤ i := by omega
      by_cases h3 : i < T.length
      · have h3' : (i : Int) < T.length := by omega
        rcases hki : T[i]? with _ | o
        · have := List.getElem?_eq_none_iff.1 hki; omega
        have HRO := hideL (HT.out.each o (List.mem_of_getElem? hki))
        have HKI := hideL hki
        have HDO := hideL (HK.out.doc o.toRs (List.mem_of_getElem? (i := i) (by simp [hki])))
        clear hki
        go_wp2_with fail
        go_loopw [9, 10] (fun f t ws => ∃ (k : Nat) (fb : Bool), f = .bool fb ∧ t = .int .i64 k ∧ k ≤ l ∧ Gr wo ws ∧ Hid (fb = true ↔ ∃ (j : Nat) (x : Rs), j < k ∧ R[j]? = some x ∧ x.key = o.toRs.key)) (fun _ t _ => l - (intOf t).toNat)
        case atStart => exact ⟨0, false, rfl, rfl, by omega, Gr.refl _, ⟨(fun h => by cases h), (fun ⟨j, x, h, _⟩ => by omega)⟩⟩
        case round =>
          obtain ⟨k, fb, rfl, rfl, hk, hgs, HFB⟩ := hrel
          have HGS := hideL hgs
          clear hgs
          have k0 : (0 : Int) ≤ k := by omega
          have HBS := hideL (HB5.out.trans ((HG.out.trans HGS.out).below.mono HB5.out.size))
          have HTR := hideL (HT.out.row.below HBS.out)
          obtain ⟨g, off, eb, d0, d1, d2, d3, d4, d5, d6, d7⟩ := HTR.out.cells HKI.out
          subst eb
          by_cases h4 : k < l
          · have h4' : (k : Int) < l := by omega
            rcases hkq : Q[k]? with _ | q
            · have := List.getElem?_eq_none_iff.1 hkq; have := HQL.out; omega
            have HRQ := hideL (HQ5.out.each q (List.mem_of_getElem? hkq))
            have HRK : Hid (R[k]? = some q.toRs) := by unfold Hid; rw [← HQE.out]; simp [hkq]
            obtain ⟨g2, off2, ea, y0, y1, y2, y3, y4, y5, y6, y7⟩ := (HQ5.out.row.below (HG.out.trans HGS.out).below).cells hkq
            subst ea
            have HKE := hideL (key_eqb q.toRs o.toRs)
            clear hkq
            cases hb1 : (q.kd == o.kd)
            · have HNX : Hid (fb = true ↔ ∃ (j : Nat) (x : Rs), j < k + 1 ∧ R[j]? = some x ∧ x.key = o.toRs.key) := by
                refine HFB.out.trans ⟨fun ⟨j, x, h1, h2⟩ => ⟨j, x, by omega, h2⟩, fun ⟨j, x, h1, h2, h3⟩ => ?_⟩
                by_cases hjk : j < k
                · exact ⟨j, x, hjk, h2, h3⟩
                · obtain rfl : j = k := by omega
                  rw [HRK.out] at h2; cases h2
                  have := (HKE.out.1 h3).1; rw [hb1] at this; cases this
              go_wp2_with fail
              go_quiet (fail)
              go_wp2
              go_roundw
              case rel => exact ⟨k + 1, fb, rfl, by go_num, by omega, HGS.out.trans (Gr.drewN _ _), HNX.out⟩
              case measure => simp [intOf]; omega
            · cases hb2 : (q.nm.toList == o.nm.toList)
              · have HNX : Hid (fb = true ↔ ∃ (j : Nat) (x : Rs), j < k + 1 ∧ R[j]? = some x ∧ x.key = o.toRs.key) := by
                  refine HFB.out.trans ⟨fun ⟨j, x, h1, h2⟩ => ⟨j, x, by omega, h2⟩, fun ⟨j, x, h1, h2, h3⟩ => ?_⟩
                  by_cases hjk : j < k
                  · exact ⟨j, x, hjk, h2, h3⟩
                  · obtain rfl : j = k := by omega
                    rw [HRK.out] at h2; cases h2
                    have := (HKE.out.1 h3).2; rw [hb2] at this; cases this
                go_wp2_with fail
                go_quiet (fail)
                go_wp2
                go_roundw
                case rel => exact ⟨k + 1, fb, rfl, by go_num, by omega, HGS.out.trans (Gr.drewN _ _), HNX.out⟩
                case measure => simp [intOf]; omega
              · have HKY : Hid (q.toRs.key = o.toRs.key) := HKE.out.2 ⟨hb1, hb2⟩
                have HSM : Hid (SameC q.toRs o.toRs) := HDO.out.1 q.toRs (List.mem_of_getElem? HRK.out) HKY.out
                go_wp2_with fail
                go_quiet (fail)
                go_wp2_with fail
                obtain ⟨wt, hwt⟩ : ∃ X, wr.drewN nq = X := ⟨_, rfl⟩
                have HGT : Hid (Gr wr wt) := by rw [← hwt]; exact Gr.drewN _ _
                rw [hwt]
                replace d0 := HGT.out.cell d0
                replace d1 := HGT.out.cell d1
                replace d2 := HGT.out.cell d2
                replace d3 := HGT.out.cell d3
                replace d4 := HGT.out.cell d4
                replace d5 := HGT.out.cell d5
                replace d6 := HGT.out.cell d6
                replace d7 := HGT.out.cell d7
                replace y0 := HGT.out.cell y0
                replace y1 := HGT.out.cell y1
                replace y2 := HGT.out.cell y2
                replace y3 := HGT.out.cell y3
                replace y4 := HGT.out.cell y4
                replace y5 := HGT.out.cell y5
                replace y6 := HGT.out.cell y6
                replace y7 := HGT.out.cell y7
                have HC := hideL (fun W (h : Gr wt W) => same_t W q o (HRQ.out.below (((HG.out.trans HGS.out).trans HGT.out).trans h).below) (HRO.out.below (HBS.out.trans ((HGT.out.trans h).below.mono HBS.out.size))) true ⟨fun _ => HSM.out, fun _ => rfl⟩)
                have HS := hideL (fun (w' : World) (h : Gr wt w') => show (w'.cell? ⟨g2, off2 + k * 8, none⟩ = some (.int .i64 q.kd) ∧ w'.cell? ⟨g2, off2 + k * 8 + 1, none⟩ = some (.string q.nm) ∧ w'.cell? ⟨g2, off2 + k * 8 + 2, none⟩ = some (.slice q.ea q.eps.length q.ec) ∧ w'.cell? ⟨g2, off2 + k * 8 + 3, none⟩ = some (.slice q.ta q.tgs.length q.tc) ∧ w'.cell? ⟨g2, off2 + k * 8 + 4, none⟩ = some (.string q.host) ∧ w'.cell? ⟨g2, off2 + k * 8 + 5, none⟩ = some (.slice q.ra q.rus.length q.rc) ∧ w'.cell? ⟨g2, off2 + k * 8 + 6, none⟩ = some (.string q.route) ∧ w'.cell? ⟨g2, off2 + k * 8 + 7, none⟩ = some (.bool q.del) ∧ w'.cell? ⟨g, off + i * 8, none⟩ = some (.int .i64 o.kd) ∧ w'.cell? ⟨g, off + i * 8 + 1, none⟩ = some (.string o.nm) ∧ w'.cell? ⟨g, off + i * 8 + 2, none⟩ = some (.slice o.ea o.eps.length o.ec) ∧ w'.cell? ⟨g, off + i * 8 + 3, none⟩ = some (.slice o.ta o.tgs.length o.tc) ∧ w'.cell? ⟨g, off + i * 8 + 4, none⟩ = some (.string o.host) ∧ w'.cell? ⟨g, off + i * 8 + 5, none⟩ = some (.slice o.ra o.rus.length o.rc) ∧ w'.cell? ⟨g, off + i * 8 + 6, none⟩ = some (.string o.route) ∧ w'.cell? ⟨g, off + i * 8 + 7, none⟩ = some (.bool o.del)) from ⟨h.cell y0, h.cell y1, h.cell y2, h.cell y3, h.cell y4, h.cell y5, h.cell y6, h.cell y7, h.cell d0, h.cell d1, h.cell d2, h.cell d3, h.cell d4, h.cell d5, h.cell d6, h.cell d7⟩)
                clear hwt hb1 hb2
                go_region_held3 (fun w' => w'.cell? ⟨g2, off2 + k * 8, none⟩ = some (.int .i64 q.kd) ∧ w'.cell? ⟨g2, off2 + k * 8 + 1, none⟩ = some (.string q.nm) ∧ w'.cell? ⟨g2, off2 + k * 8 + 2, none⟩ = some (.slice q.ea q.eps.length q.ec) ∧ w'.cell? ⟨g2, off2 + k * 8 + 3, none⟩ = some (.slice q.ta q.tgs.length q.tc) ∧ w'.cell? ⟨g2, off2 + k * 8 + 4, none⟩ = some (.string q.host) ∧ w'.cell? ⟨g2, off2 + k * 8 + 5, none⟩ = some (.slice q.ra q.rus.length q.rc) ∧ w'.cell? ⟨g2, off2 + k * 8 + 6, none⟩ = some (.string q.route) ∧ w'.cell? ⟨g2, off2 + k * 8 + 7, none⟩ = some (.bool q.del) ∧ w'.cell? ⟨g, off + i * 8, none⟩ = some (.int .i64 o.kd) ∧ w'.cell? ⟨g, off + i * 8 + 1, none⟩ = some (.string o.nm) ∧ w'.cell? ⟨g, off + i * 8 + 2, none⟩ = some (.slice o.ea o.eps.length o.ec) ∧ w'.cell? ⟨g, off + i * 8 + 3, none⟩ = some (.slice o.ta o.tgs.length o.tc) ∧ w'.cell? ⟨g, off + i * 8 + 4, none⟩ = some (.string o.host) ∧ w'.cell? ⟨g, off + i * 8 + 5, none⟩ = some (.slice o.ra o.rus.length o.rc) ∧ w'.cell? ⟨g, off + i * 8 + 6, none⟩ = some (.string o.route) ∧ w'.cell? ⟨g, off + i * 8 + 7, none⟩ = some (.bool o.del)) (go_keep) (first
                  | (go_at_call 21; refine (HC.out _ (Gr.drewN wt 1)).mono ?_; rintro e w9 ⟨rfl, hg9⟩; have HG9 := hideL ((Gr.drewN wt 1).trans hg9); obtain ⟨p0, p1, p2, p3, p4, p5, p6, p7, p8, p9, p10, p11, p12, p13, p14, p15⟩ := HS.out w9 HG9.out; clear hg9))
                go_wp2
                go_roundw
                case rel => exact ⟨k + 1, true, rfl, by go_num, by omega, HGS.out.trans (HGT.out.trans HG9.out), ⟨fun _ => ⟨k, q.toRs, by omega, HRK.out, HKY.out⟩, fun _ => rfl⟩⟩
                case measure => simp [intOf]; omega
          · have h4' : ¬ (k : Int) < l := by omega
            have HFD : Hid (fb = !o.del) := by
              have h1 : fb = true ↔ o.del = false := by
                rw [HFB.out]
                refine Iff.trans ?_ HDO.out.2
                exact ⟨fun ⟨j, x, _, h2, h3⟩ => ⟨x, List.mem_of_getElem? h2, h3⟩, fun ⟨x, hx, h3⟩ => by
                  obtain ⟨j, hj⟩ := List.getElem?_of_mem hx
                  exact ⟨j, x, by have := (List.getElem?_eq_some_iff.1 hj).1; have := HRL.out; omega, hj, h3⟩⟩
              unfold Hid
              cases fb <;> cases hd : o.del <;> simp_all
            rw [HFD.out]
            have hdd : ((!o.del) == o.del) = false := by cases o.del <;> rfl
            go_wp2_with fail
            go_roundw
            case rel => exact ⟨i + 1, by go_num, by omega, HG.out.trans HGS.out⟩
            case measure => simp [intOf]; omega
      · have h3' : ¬ (i : Int) < T.length := by omega
        have HB6 := hideL (HB5.out.trans (HG.out.below.mono HB5.out.size))
        have HQ6 := hideL (HQ5.out.below HG.out.below)
        clear HQ5 HB5 HG
        go_wp2_with fail
        clear hi i0 h3 h3'
        go_loopw [11] (fun t ws => ∃ (i : Nat), t = .int .i64 i ∧ i ≤ F.length ∧ Gr wo ws) (fun t _ => F.length - (intOf t).toNat)
        case atStart => exact ⟨0, rfl, by omega, Gr.refl _⟩
        case round =>
          obtain ⟨i, rfl, hi, hgr⟩ := hrel
          rename World => wp
          have HG := hideL hgr
          clear hgr
          have i0 : (0 : Int) ≤ i := by omega
          by_cases h3 : i < F.length
          · have h3' : (i : Int) < F.length := by omega
            rcases hki : F[i]? with _ | o
            · have := List.getElem?_eq_none_iff.1 hki; omega
            have HRO := hideL (HF.out.each o (List.mem_of_getElem? hki))
            have HKI := hideL hki
            have HCO := hideL (HK.out.con o.toRs (List.mem_of_getElem? (i := i) (by simp [hki])))
            clear hki
            go_wp2_with fail
            go_loopw [12, 14] (fun f t ws => ∃ (k : Nat) (fb : Bool), f = .bool fb ∧ t = .int .i64 k ∧ k ≤ T.length ∧ Gr wp ws ∧ Hid (fb = true ↔ ∃ (j : Nat) (x : Rs), j < k ∧ (T.map Rx.toRs)[j]? = some x ∧ o.toRs.key = x.key)) (fun _ t _ => T.length - (intOf t).toNat)
            case atStart => exact ⟨0, false, rfl, rfl, by omega, Gr.refl _, ⟨(fun h => by cases h), (fun ⟨j, x, h, _⟩ => by omega)⟩⟩
            case round =>
              obtain ⟨k, fb, rfl, rfl, hk, hgs, HFB⟩ := hrel
              have HGS := hideL hgs
              clear hgs
              have k0 : (0 : Int) ≤ k := by omega
              have HBS := hideL (HB6.out.trans ((HG.out.trans HGS.out).below.mono HB6.out.size))
              by_cases h4 : k < T.length
              · have h4' : (k : Int) < T.length := by omega
                rcases hkq : T[k]? with _ | q
                · have := List.getElem?_eq_none_iff.1 hkq; omega
                have HRK : Hid ((T.map Rx.toRs)[k]? = some q.toRs) := by unfold Hid; simp [hkq]
                obtain ⟨g, off, eb, d0, d1, -⟩ := (HF.out.row.below HBS.out).cells HKI.out
                subst eb
                obtain ⟨g2, off2, ea, y0, y1, -⟩ := (HT.out.row.below HBS.out).cells hkq
                subst ea
                have HKE := hideL (key_eqb o.toRs q.toRs)
                clear hkq
                cases fb
                · cases hb1 : (o.kd == q.kd)
                  · rw [hb1] at HKE
                    have HNX : Hid ((false : Bool) = true ↔ ∃ (j : Nat) (x : Rs), j < k + 1 ∧ (T.map Rx.toRs)[j]? = some x ∧ o.toRs.key = x.key) := by
                      refine HFB.out.trans ⟨fun ⟨j, x, h1, h2⟩ => ⟨j, x, by omega, h2⟩, fun ⟨j, x, h1, h2, h3⟩ => ?_⟩
                      by_cases hjk : j < k
                      · exact ⟨j, x, hjk, h2, h3⟩
                      · obtain rfl : j = k := by omega
                        rw [HRK.out] at h2; cases h2
                        have := (HKE.out.1 h3).1; cases this
                    go_wp2_with fail
                    go_quiet (fail)
                    go_wp2
                    go_roundw
                    case rel => exact ⟨k + 1, false, rfl, by go_num, by omega, HGS.out.trans (Gr.drewN _ _), HNX.out⟩
                    case measure => simp [intOf]; omega
                  · cases hb2 : (o.nm.toList == q.nm.toList)
                    · rw [hb2] at HKE
                      have HNX : Hid ((false : Bool) = true ↔ ∃ (j : Nat) (x : Rs), j < k + 1 ∧ (T.map Rx.toRs)[j]? = some x ∧ o.toRs.key = x.key) := by
                        refine HFB.out.trans ⟨fun ⟨j, x, h1, h2⟩ => ⟨j, x, by omega, h2⟩, fun ⟨j, x, h1, h2, h3⟩ => ?_⟩
                        by_cases hjk : j < k
                        · exact ⟨j, x, hjk, h2, h3⟩
                        · obtain rfl : j = k := by omega
                          rw [HRK.out] at h2; cases h2
                          have := (HKE.out.1 h3).2; cases this
                      go_wp2_with fail
                      go_quiet (fail)
                      go_wp2
                      go_roundw
                      case rel => exact ⟨k + 1, false, rfl, by go_num, by omega, HGS.out.trans (Gr.drewN _ _), HNX.out⟩
                      case measure => simp [intOf]; omega
                    · have HKY : Hid (o.toRs.key = q.toRs.key) := HKE.out.2 ⟨hb1, hb2⟩
                      go_wp2_with fail
                      go_quiet (fail)
                      go_wp2
                      go_roundw
                      case rel => exact ⟨k + 1, true, rfl, by go_num, by omega, HGS.out.trans (Gr.drewN _ _), ⟨fun _ => ⟨k, q.toRs, by omega, HRK.out, HKY.out⟩, fun _ => rfl⟩⟩
                      case measure => simp [intOf]; omega
                · have HNX : Hid ((true : Bool) = true ↔ ∃ (j : Nat) (x : Rs), j < k + 1 ∧ (T.map Rx.toRs)[j]? = some x ∧ o.toRs.key = x.key) := ⟨fun h => by
                    obtain ⟨j, x, h1, h2⟩ := HFB.out.1 h
                    exact ⟨j, x, by omega, h2⟩, fun _ => rfl⟩
                  go_wp2_with fail
                  go_quiet (fail)
                  go_wp2
                  go_roundw
                  case rel => exact ⟨k + 1, true, rfl, by go_num, by omega, HGS.out.trans (Gr.drewN _ _), ⟨fun _ => HNX.out.1 trivial, fun _ => rfl⟩⟩
                  case measure => simp [intOf]; omega
              · have h4' : ¬ (k : Int) < T.length := by omega
                rename World => wq
                have HNM : Hid (fb = false → ∃ x ∈ R, SameC x o.toRs) := fun h => HCO.out (fun d hd e => by
                  obtain ⟨j, hj⟩ := List.getElem?_of_mem hd
                  have : fb = true := HFB.out.2 ⟨j, d, by have := (List.getElem?_eq_some_iff.1 hj).1; simp at this; omega, hj, e.symm⟩
                  rw [h] at this; cases this)
                clear HFB HCO
                go_wp2_with fail
                clear h4 h4' k0 hk
                go_loopw [13, 15] (fun f t ws => ∃ (k : Nat) (gb : Bool), f = .bool gb ∧ t = .int .i64 k ∧ k ≤ l ∧ Gr wq ws ∧ Hid (gb = true ↔ ∃ (j : Nat) (x : Rs), j < k ∧ R[j]? = some x ∧ SameC x o.toRs)) (fun _ t _ => l - (intOf t).toNat)
                case atStart => exact ⟨0, false, rfl, rfl, by omega, Gr.refl _, ⟨(fun h => by cases h), (fun ⟨j, x, h, _⟩ => by omega)⟩⟩
                case round =>
                  obtain ⟨k, gb, rfl, rfl, hk, hgt, HGB⟩ := hrel
                  have HGT := hideL hgt
                  clear hgt
                  have k0 : (0 : Int) ≤ k := by omega
                  have HBT2 := hideL (HB6.out.trans (((HG.out.trans HGS.out).trans HGT.out).below.mono HB6.out.size))
                  by_cases h4 : k < l
                  · have h4' : (k : Int) < l := by omega
                    rcases hkq : Q[k]? with _ | q
                    · have := List.getElem?_eq_none_iff.1 hkq; have := HQL.out; omega
                    have HRQ := hideL (HQ6.out.each q (List.mem_of_getElem? hkq))
                    have HRK : Hid (R[k]? = some q.toRs) := by unfold Hid; rw [← HQE.out]; simp [hkq]
                    obtain ⟨g, off, eb, d0, d1, d2, d3, d4, d5, d6, d7⟩ := (HF.out.row.below HBT2.out).cells HKI.out
                    subst eb
                    obtain ⟨g2, off2, ea, y0, y1, y2, y3, y4, y5, y6, y7⟩ := (HQ6.out.row.below ((HG.out.trans HGS.out).trans HGT.out).below).cells hkq
                    subst ea
                    clear hkq
                    cases gb
                    · obtain ⟨bb, hbb⟩ : ∃ bb : Bool, (bb = true ↔ SameC q.toRs o.toRs) := ⟨@decide _ (Classical.propDecidable _), @decide_eq_true_iff _ (Classical.propDecidable _)⟩
                      have HBB := hideL hbb
                      have HC := hideL (fun W (h : Gr wr W) => same_t W q o (HRQ.out.below ((((HG.out.trans HGS.out).trans HGT.out)).trans h).below) (HRO.out.below (HBT2.out.trans (h.below.mono HBT2.out.size))) bb HBB.out)
                      have HS := hideL (fun (w' : World) (h : Gr wr w') => show (w'.cell? ⟨g2, off2 + k * 8, none⟩ = some (.int .i64 q.kd) ∧ w'.cell? ⟨g2, off2 + k * 8 + 1, none⟩ = some (.string q.nm) ∧ w'.cell? ⟨g2, off2 + k * 8 + 2, none⟩ = some (.slice q.ea q.eps.length q.ec) ∧ w'.cell? ⟨g2, off2 + k * 8 + 3, none⟩ = some (.slice q.ta q.tgs.length q.tc) ∧ w'.cell? ⟨g2, off2 + k * 8 + 4, none⟩ = some (.string q.host) ∧ w'.cell? ⟨g2, off2 + k * 8 + 5, none⟩ = some (.slice q.ra q.rus.length q.rc) ∧ w'.cell? ⟨g2, off2 + k * 8 + 6, none⟩ = some (.string q.route) ∧ w'.cell? ⟨g2, off2 + k * 8 + 7, none⟩ = some (.bool q.del) ∧ w'.cell? ⟨g, off + i * 8, none⟩ = some (.int .i64 o.kd) ∧ w'.cell? ⟨g, off + i * 8 + 1, none⟩ = some (.string o.nm) ∧ w'.cell? ⟨g, off + i * 8 + 2, none⟩ = some (.slice o.ea o.eps.length o.ec) ∧ w'.cell? ⟨g, off + i * 8 + 3, none⟩ = some (.slice o.ta o.tgs.length o.tc) ∧ w'.cell? ⟨g, off + i * 8 + 4, none⟩ = some (.string o.host) ∧ w'.cell? ⟨g, off + i * 8 + 5, none⟩ = some (.slice o.ra o.rus.length o.rc) ∧ w'.cell? ⟨g, off + i * 8 + 6, none⟩ = some (.string o.route) ∧ w'.cell? ⟨g, off + i * 8 + 7, none⟩ = some (.bool o.del)) from ⟨h.cell y0, h.cell y1, h.cell y2, h.cell y3, h.cell y4, h.cell y5, h.cell y6, h.cell y7, h.cell d0, h.cell d1, h.cell d2, h.cell d3, h.cell d4, h.cell d5, h.cell d6, h.cell d7⟩)
                      have HNX : Hid (bb = true ↔ ∃ (j : Nat) (x : Rs), j < k + 1 ∧ R[j]? = some x ∧ SameC x o.toRs) := by
                        refine ⟨fun h => ⟨k, q.toRs, by omega, HRK.out, HBB.out.1 h⟩, fun ⟨j, x, h1, h2, h3⟩ => ?_⟩
                        by_cases hjk : j < k
                        · have := HGB.out.2 ⟨j, x, hjk, h2, h3⟩; cases this
                        · obtain rfl : j = k := by omega
                          rw [HRK.out] at h2; cases h2
                          exact HBB.out.2 h3
                      clear hbb
                      go_wp2_with fail
                      go_region_held3 (fun w' => w'.cell? ⟨g2, off2 + k * 8, none⟩ = some (.int .i64 q.kd) ∧ w'.cell? ⟨g2, off2 + k * 8 + 1, none⟩ = some (.string q.nm) ∧ w'.cell? ⟨g2, off2 + k * 8 + 2, none⟩ = some (.slice q.ea q.eps.length q.ec) ∧ w'.cell? ⟨g2, off2 + k * 8 + 3, none⟩ = some (.slice q.ta q.tgs.length q.tc) ∧ w'.cell? ⟨g2, off2 + k * 8 + 4, none⟩ = some (.string q.host) ∧ w'.cell? ⟨g2, off2 + k * 8 + 5, none⟩ = some (.slice q.ra q.rus.length q.rc) ∧ w'.cell? ⟨g2, off2 + k * 8 + 6, none⟩ = some (.string q.route) ∧ w'.cell? ⟨g2, off2 + k * 8 + 7, none⟩ = some (.bool q.del) ∧ w'.cell? ⟨g, off + i * 8, none⟩ = some (.int .i64 o.kd) ∧ w'.cell? ⟨g, off + i * 8 + 1, none⟩ = some (.string o.nm) ∧ w'.cell? ⟨g, off + i * 8 + 2, none⟩ = some (.slice o.ea o.eps.length o.ec) ∧ w'.cell? ⟨g, off + i * 8 + 3, none⟩ = some (.slice o.ta o.tgs.length o.tc) ∧ w'.cell? ⟨g, off + i * 8 + 4, none⟩ = some (.string o.host) ∧ w'.cell? ⟨g, off + i * 8 + 5, none⟩ = some (.slice o.ra o.rus.length o.rc) ∧ w'.cell? ⟨g, off + i * 8 + 6, none⟩ = some (.string o.route) ∧ w'.cell? ⟨g, off + i * 8 + 7, none⟩ = some (.bool o.del)) (go_keep) (first
                        | (go_at_call 21; refine (HC.out _ (Gr.drewN wr 1)).mono ?_; rintro e w9 ⟨rfl, hg9⟩; have HG9 := hideL ((Gr.drewN wr 1).trans hg9); obtain ⟨p0, p1, p2, p3, p4, p5, p6, p7, p8, p9, p10, p11, p12, p13, p14, p15⟩ := HS.out w9 HG9.out; clear hg9))
                      go_wp2
                      go_roundw
                      case rel => exact ⟨k + 1, bb, rfl, by go_num, by omega, HGT.out.trans HG9.out, HNX.out⟩
                      case measure => simp [intOf]; omega
                    · have HNX : Hid ((true : Bool) = true ↔ ∃ (j : Nat) (x : Rs), j < k + 1 ∧ R[j]? = some x ∧ SameC x o.toRs) := ⟨fun h => by
                        obtain ⟨j, x, h1, h2⟩ := HGB.out.1 h
                        exact ⟨j, x, by omega, h2⟩, fun _ => rfl⟩
                      go_wp2_with fail
                      go_quiet (fail)
                      go_wp2
                      go_roundw
                      case rel => exact ⟨k + 1, true, rfl, by go_num, by omega, HGT.out.trans (Gr.drewN _ _), ⟨fun _ => HNX.out.1 trivial, fun _ => rfl⟩⟩
                      case measure => simp [intOf]; omega
                  · have h4' : ¬ (k : Int) < l := by omega
                    cases fb
                    · have HGE : Hid (gb = true) := HGB.out.2 (by
                        obtain ⟨x, hx, hs⟩ := HNM.out rfl
                        obtain ⟨j, hj⟩ := List.getElem?_of_mem hx
                        exact ⟨j, x, by have := (List.getElem?_eq_some_iff.1 hj).1; have := HRL.out; omega, hj, hs⟩)
                      rw [HGE.out]
                      go_wp2_with fail
                      go_roundw
                      case rel => exact ⟨i + 1, by go_num, by omega, (HG.out.trans HGS.out).trans HGT.out⟩
                      case measure => simp [intOf]; omega
                    · go_wp2_with fail
                      go_roundw
                      case rel => exact ⟨i + 1, by go_num, by omega, (HG.out.trans HGS.out).trans HGT.out⟩
                      case measure => simp [intOf]; omega
          · have h3' : ¬ (i : Int) < F.length := by omega
            go_wp2
            go_ret
            exact ⟨rfl, HB6.out.trans (HG.out.below.mono HB6.out.size)⟩
end Go.Proofs.Ytmljljpldljpjaa

/-
  CheckKeeps holds of the program: what is merged is in order, has each document and not what a document deletes, and all else as it was; of readings of bulk at most 1048576.
-/
namespace Go.Proofs.Ytmljljpldljpjaa
open Go.ChangeShapes Go.WideShapes Go.ChangeAt Go.RowKit
set_option linter.unusedVariables false
set_option linter.unusedSimpArgs false

set_option maxRecDepth 100000 in
theorem checkKeeps_lifted (os : Os) (started : os.Started) (H : Type) (enc : TypeId × Value → H) (F : Stop.Interp) :
    ReturnsInHanded {} Try.checked os 7 .any ((Rows.OpenSpec.upto Rows.checkKeepsSpec).pre6 enc Try.prog Try.f7 Rows.checkKeepsUptoRow.domain false) (((Rows.OpenSpec.upto Rows.checkKeepsSpec).at F).post enc Try.prog Try.f7 false true false false) := by
  refine returnsInHanded_of_cond (C := Try.checked) (s := Rows.OpenSpec.upto Rows.checkKeepsSpec) (k := Rows.uptoSmall) rfl own started (by kernel_rfl) Try.func7
    (OpenSpec.witness (enc := enc) (C := Try.checked) (s := Rows.OpenSpec.upto Rows.checkKeepsSpec) (k := Rows.uptoSmall) rfl false ⟨#[], #[.slice none 0 0, .slice none 0 0], []⟩ 8 (by kernel_rfl) (by kernel_rfl) (by kernel_rfl)
      (x := ([.nil, .nil], [], [])) (by kernel_rfl) rfl (by kernel_rfl)) ?_
  intro W base args ds gs before hval0 hW _ hk _
  have hval : ∀ (j : Nat) t v, Try.f7.params[j]? = some t → args[j]? = some v → Value.okWide Try.prog W .any base t v := hval0
  have hbulk : Rows.uptoBulkAll (ds ++ gs) ≤ 1048576 := of_decide_eq_true hk
  have hW' := hW
  obtain ⟨p, q, hA0, hV, rfl, hfz, hnd⟩ := hW
  have hA : DataW.TrodAll enc Try.prog W 0 (fun _ => true) true Try.f7.params.toList args.toList ds p := hA0
  rw [Try.params7] at hA hval
  obtain ⟨v0, vs0, d0, ds0, p0, q0, hargs, rfl, rfl, h0, r0⟩ := trodAll_cons hA
  obtain ⟨v1, vs1, d1, ds1, p1, q1, rfl, rfl, rfl, h1, r1⟩ := trodAll_cons r0
  obtain ⟨rfl, rfl, rfl⟩ := trodAll_nil r1
  obtain rfl : args = #[v0, v1] := by cases args; simp_all
  obtain ⟨rfl, rfl⟩ := trodVars_none hV
  obtain ⟨a0, len0, cap0, rfl⟩ := okWide_slice Try.underlying22 (hval 0 22 v0 rfl rfl)
  have k0 := h0
  have lt0 : ∀ x ∈ p0, x.block < W.heap.size := by obtain ⟨m, hm⟩ := k0; exact DataW.trod_lt m _ _ _ hm
  obtain ⟨z0, w0⟩ := open_res h0 (j := 0) rfl hbulk
  obtain ⟨a1, len1, cap1, rfl⟩ := okWide_slice Try.underlying22 (hval 1 22 v1 rfl rfl)
  have k1 := h1
  have lt1 : ∀ x ∈ p1, x.block < W.heap.size := by obtain ⟨m, hm⟩ := k1; exact DataW.trod_lt m _ _ _ hm
  obtain ⟨z1, w1⟩ := open_res h1 (j := 1) rfl hbulk
  clear hA0 hval0
  refine (checkKeeps_any W a0 a1 len0 len1 cap0 cap1 z0 z1 w0.2.1 w1.2.1 w0.2.2.1 w1.2.2.1 w0.1 w1.1 w0.2.2.2.1 w1.2.2.2.1).mono fun e W' ⟨he, bel⟩ => ?_
  subst he
  exact ⟨_, rfl, _, _, _, [], _, [], hW', trodAll_mk1 (shut_bool Try.underlying4 _), (trodAll_cons_mk (Below.trod laidOut (by kernel_rfl) (of_decide_eq_true (by kernel_rfl)) k0 bel lt0) (trodAll_cons_mk (Below.trod laidOut (by kernel_rfl) (of_decide_eq_true (by kernel_rfl)) k1 bel lt1) trodAll_mk0)), rfl, bel.frame _, fun h => by cases h⟩

theorem checkKeeps_holdsUpto : Rows.CheckKeepsUptoSaid :=
  OpenClaim.holds_of_cond 7 Try.f7 rfl rfl rfl rfl rfl rfl rfl ⟨rfl, rfl, rfl, rfl, rfl⟩ rfl rfl rfl rfl rfl (by kernel_rfl) Try.func7 (by kernel_rfl)
    (of_decide_eq_true (by kernel_rfl)) (by unfold Func.isWrapper; first | (rw [if_pos (by decide +kernel)]; kernel_rfl) | (rw [if_neg (by decide +kernel)]; exact ⟨rfl, rfl⟩))
    (fun os started H enc _ F => checkKeeps_lifted os started H enc F)
#print axioms checkKeeps_holdsUpto
end Go.Proofs.Ytmljljpldljpjaa
