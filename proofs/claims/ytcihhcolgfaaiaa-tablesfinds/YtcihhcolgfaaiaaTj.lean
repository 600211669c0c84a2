/-
  The document's own: tables compared.
-/
import Derived.Test.YtcihhcolgfaaiaaTi
import Derived.Deep.RegionHeld3
namespace Go.Proofs.Ytcihhcolgfaaiaa
open Go.RowKit
set_option linter.unusedVariables false
set_option linter.unusedSimpArgs false
set_option maxRecDepth 100000
theorem three_cells {W : World} {b : Nat} {x0 x1 x2 : Value} {t : TypeId} (h : W.heap[b]? = some (.cells #[x0, x1, x2] t (0, 0))) : W.cell? ⟨b, 0, none⟩ = some x0 ∧ W.cell? ⟨b, 1, none⟩ = some x1 ∧ W.cell? ⟨b, 2, none⟩ = some x2 := by
  refine ⟨?_, ?_, ?_⟩ <;> (rw [cell_block h]; rfl)
set_option maxHeartbeats 16000000 in
theorem rsame_any (w : World) (a b : Tb) (ha : Tin w a) (hb : Tin w b) :
    Calls Try.prog 7 #[.agg #[.int .i64 a.ver, .slice a.ha a.hos.length a.hc, .slice a.sa a.svs.length a.sc], .agg #[.int .i64 b.ver, .slice b.ha b.hos.length b.hc, .slice b.sa b.svs.length b.sc]] w fun e w' => e = .returned (.bool (tbB a b)) ∧ Gr w w' := by
  have HA := hideL ha
  have HB := hideL hb
  clear ha hb
  obtain ⟨R, hR⟩ : ∃ R, tbB a b = R := ⟨_, rfl⟩
  have HR := hideL hR
  rw [hR]
  clear hR
  obtain ⟨n1, hn1⟩ : ∃ n, a.hos.length = n := ⟨_, rfl⟩
  obtain ⟨n2, hn2⟩ : ∃ n, b.hos.length = n := ⟨_, rfl⟩
  obtain ⟨n3, hn3⟩ : ∃ n, a.svs.length = n := ⟨_, rfl⟩
  obtain ⟨n4, hn4⟩ : ∃ n, b.svs.length = n := ⟨_, rfl⟩
  have hl1 : n1 ≤ 140737488355328 := by rw [← hn1]; exact HA.out.lh
  have hl3 : n3 ≤ 140737488355328 := by rw [← hn3]; exact HA.out.ls
  rw [hn1, hn2, hn3, hn4]
  have H1 := hideL hn1
  have H2 := hideL hn2
  have H3 := hideL hn3
  have H4 := hideL hn4
  clear hn1 hn2 hn3 hn4
  obtain ⟨w2, hw2⟩ : ∃ X, ((w.alloc (.cells #[.int .i64 a.ver, .slice a.ha n1 a.hc, .slice a.sa n3 a.sc] 25 (0, 0))).alloc (.cells #[.int .i64 b.ver, .slice b.ha n2 b.hc, .slice b.sa n4 b.sc] 25 (0, 0))) = X := ⟨_, rfl⟩
  have HG2 : Hid (Gr w w2) := by rw [← hw2]; exact (Gr.alloc _ _).trans (Gr.alloc _ _)
  have h2n := two_new w (.cells #[.int .i64 a.ver, .slice a.ha n1 a.hc, .slice a.sa n3 a.sc] 25 (0, 0)) (.cells #[.int .i64 b.ver, .slice b.ha n2 b.hc, .slice b.sa n4 b.sc] 25 (0, 0))
  rw [hw2] at h2n
  obtain ⟨p0, p1, p2⟩ := three_cells h2n.1
  obtain ⟨q0, q1, q2⟩ := three_cells h2n.2
  clear h2n
  have HNO : Hid (∀ x : Bool, ((a.ver == b.ver) && (eqL hoB a.hos b.hos && eqL strB a.svs b.svs)) = x → R = x) := fun x h => by rw [← HR.out]; exact h
  go_enter Try.func7, Try.ntmps7
  cases h1 : (a.ver == b.ver)
  · have HE : Hid (R = false) := HNO.out _ (by rw [h1]; rfl)
    have h1' : (a.ver != b.ver) = true := by simp [bne, h1]
    go_wp2
    go_ret
    exact ⟨by rw [HE.out]; rfl, HG2.out⟩
  · have h1' : (a.ver != b.ver) = false := by simp [bne, h1]
    by_cases h3 : n1 = n2
    · by_cases h4 : n3 = n4
      · subst h3 h4
        have HNY : Hid (∀ x : Bool, (eqL hoB a.hos b.hos && eqL strB a.svs b.svs) = x → R = x) := fun x h => HNO.out x (by rw [h1]; simpa using h)
        have HP := hideL (And.intro p1 (And.intro q1 (And.intro p2 q2)))
        clear h1
        go_wp2_with fail
        go_loopw [5] (fun t wr => ∃ (i : Nat), t = .int .i64 i ∧ i ≤ n1 ∧ Gr w2 wr ∧ Hid (∀ (j : Nat) c d, j < i → a.hos[j]? = some c → b.hos[j]? = some d → hoB c d = true)) (fun t _ => n1 - (intOf t).toNat)
        case atStart => exact ⟨0, rfl, by omega, Gr.refl _, fun j c d hj _ => by omega⟩
        case round =>
          obtain ⟨i, rfl, hi, hgr, HF⟩ := hrel
          have HG := hideL hgr
          clear hgr p0 p1 p2 q0 q1 q2
          obtain ⟨p1, q1, p2, q2⟩ := HP.out
          replace p1 := HG.out.cell p1
          replace q1 := HG.out.cell q1
          replace p2 := HG.out.cell p2
          replace q2 := HG.out.cell q2
          have i0 : (0 : Int) ≤ i := by omega
          by_cases h5 : i < n1
          · have h5' : (i : Int) < n1 := by omega
            rcases hki : a.hos[i]? with _ | k
            · have := List.getElem?_eq_none_iff.1 hki; have := H1.out; omega
            rcases hkj : b.hos[i]? with _ | k2
            · have := List.getElem?_eq_none_iff.1 hkj; have := H2.out; omega
            obtain ⟨g, off, ea, hcx⟩ := ((HA.out.hs.below HG2.out.below).below HG.out.below).at_ hki
            obtain ⟨g', off', eb, hcy⟩ := ((HB.out.hs.below HG2.out.below).below HG.out.below).at_ hkj
            have c0 := hcx 0 _ rfl
            have d0 := hcy 0 _ rfl
            have c1 := hcx 1 _ rfl
            have d1 := hcy 1 _ rfl
            have c2 := hcx 2 _ rfl
            have d2 := hcy 2 _ rfl
            have c3 := hcx 3 _ rfl
            have d3 := hcy 3 _ rfl
            rw [Nat.add_zero] at c0 d0
            rw [ea] at p1
            rw [eb] at q1
            have HK := hideL hki
            have HJ := hideL hkj
            have HC : Hid (∀ W, Gr wr W → Calls Try.prog 13 #[.agg #[.string k.ho, .string k.ro, .slice k.ea k.ens.length k.ec, .slice k.qa k.pms.length k.qc], .agg #[.string k2.ho, .string k2.ro, .slice k2.ea k2.ens.length k2.ec, .slice k2.qa k2.pms.length k2.qc]] W fun e w' => e = .returned (.bool (hoB k k2)) ∧ Gr W w') := fun W hW => rhost_same W k k2 ((HA.out.each k (List.mem_of_getElem? hki)).below ((HG2.out.trans HG.out).trans hW).below) ((HB.out.each k2 (List.mem_of_getElem? hkj)).below ((HG2.out.trans HG.out).trans hW).below)
            have HS := hideL (fun (w' : World) (h : Gr wr w') => show (w'.cell? ⟨w.heap.size, 1, none⟩ = some (.slice (some ⟨g, off, none⟩) n1 a.hc) ∧ w'.cell? ⟨w.heap.size + 1, 1, none⟩ = some (.slice (some ⟨g', off', none⟩) n1 b.hc) ∧ w'.cell? ⟨g, off + i * 4, none⟩ = some (.string k.ho) ∧ w'.cell? ⟨g, off + i * 4 + 1, none⟩ = some (.string k.ro) ∧ w'.cell? ⟨g, off + i * 4 + 2, none⟩ = some (.slice k.ea k.ens.length k.ec) ∧ w'.cell? ⟨g, off + i * 4 + 3, none⟩ = some (.slice k.qa k.pms.length k.qc) ∧ w'.cell? ⟨g', off' + i * 4, none⟩ = some (.string k2.ho) ∧ w'.cell? ⟨g', off' + i * 4 + 1, none⟩ = some (.string k2.ro) ∧ w'.cell? ⟨g', off' + i * 4 + 2, none⟩ = some (.slice k2.ea k2.ens.length k2.ec) ∧ w'.cell? ⟨g', off' + i * 4 + 3, none⟩ = some (.slice k2.qa k2.pms.length k2.qc)) from ⟨h.cell p1, h.cell q1, h.cell c0, h.cell c1, h.cell c2, h.cell c3, h.cell d0, h.cell d1, h.cell d2, h.cell d3⟩)
            obtain ⟨bb, hbb⟩ : ∃ bb, hoB k k2 = bb := ⟨_, rfl⟩
            rw [hbb] at HC
            have HBB := hideL hbb
            clear hki hkj hcx hcy hbb ea eb
            go_wp2_with fail
            go_region_held3 (fun w' => w'.cell? ⟨w.heap.size, 1, none⟩ = some (.slice (some ⟨g, off, none⟩) n1 a.hc) ∧ w'.cell? ⟨w.heap.size + 1, 1, none⟩ = some (.slice (some ⟨g', off', none⟩) n1 b.hc) ∧ w'.cell? ⟨g, off + i * 4, none⟩ = some (.string k.ho) ∧ w'.cell? ⟨g, off + i * 4 + 1, none⟩ = some (.string k.ro) ∧ w'.cell? ⟨g, off + i * 4 + 2, none⟩ = some (.slice k.ea k.ens.length k.ec) ∧ w'.cell? ⟨g, off + i * 4 + 3, none⟩ = some (.slice k.qa k.pms.length k.qc) ∧ w'.cell? ⟨g', off' + i * 4, none⟩ = some (.string k2.ho) ∧ w'.cell? ⟨g', off' + i * 4 + 1, none⟩ = some (.string k2.ro) ∧ w'.cell? ⟨g', off' + i * 4 + 2, none⟩ = some (.slice k2.ea k2.ens.length k2.ec) ∧ w'.cell? ⟨g', off' + i * 4 + 3, none⟩ = some (.slice k2.qa k2.pms.length k2.qc)) (go_keep) (first
              | (go_at_call 13; refine (HC.out _ (Gr.drewN wr 1)).mono ?_; rintro e w3 ⟨rfl, hg3⟩; have HG3 := hideL ((Gr.drewN wr 1).trans hg3); obtain ⟨y0, y1, y2, y3, y4, y5, y6, y7, y8, y9⟩ := HS.out w3 HG3.out; clear hg3))
            cases bb
            · have HE : Hid (R = false) := HNY.out _ (by rw [eqL_no HK.out HJ.out HBB.out]; rfl)
              go_wp2
              go_ret
              exact ⟨by rw [HE.out]; rfl, (HG2.out.trans HG.out).trans HG3.out⟩
            · go_wp2
              go_roundw
              case rel =>
                refine ⟨i + 1, by go_num, by omega, HG.out.trans HG3.out, fun j c d hj hc hd => ?_⟩
                by_cases hji : j < i
                · exact HF.out j c d hji hc hd
                · obtain rfl : j = i := by omega
                  rw [HK.out] at hc; rw [HJ.out] at hd
                  cases hc; cases hd; exact HBB.out
              case measure => simp [intOf]; omega
          · have h5' : ¬ (i : Int) < n1 := by omega
            have HE1 : Hid (eqL hoB a.hos b.hos = true) := eqL_yes (by rw [H1.out, H2.out]) (fun j c d hj hc hd => HF.out j c d (by have := H1.out; omega) hc hd)
            have HNZ : Hid (∀ x : Bool, eqL strB a.svs b.svs = x → R = x) := fun x h => HNY.out x (by rw [HE1.out]; simpa using h)
            clear HF HNY HE1 hi
            go_wp2_with fail
            go_loopw [7] (fun t ws => ∃ (i : Nat), t = .int .i64 i ∧ i ≤ n3 ∧ (∃ q, ws = wr.drewN q) ∧ Hid (∀ (j : Nat) c d, j < i → a.svs[j]? = some c → b.svs[j]? = some d → strB c d = true)) (fun t _ => n3 - (intOf t).toNat)
            case atStart => exact ⟨0, rfl, by omega, ⟨0, rfl⟩, fun j c d hj _ => by omega⟩
            case round =>
              obtain ⟨i, rfl, hi, ⟨q, rfl⟩, HF⟩ := hrel
              have i0 : (0 : Int) ≤ i := by omega
              by_cases h5 : i < n3
              · have h5' : (i : Int) < n3 := by omega
                rcases hki : a.svs[i]? with _ | k
                · have := List.getElem?_eq_none_iff.1 hki; have := H3.out; omega
                rcases hkj : b.svs[i]? with _ | k2
                · have := List.getElem?_eq_none_iff.1 hkj; have := H4.out; omega
                obtain ⟨g, off, ea, hcx⟩ := ((HA.out.ss.below HG2.out.below).below HG.out.below).at_ hki
                obtain ⟨g', off', eb, hcy⟩ := ((HB.out.ss.below HG2.out.below).below HG.out.below).at_ hkj
                have c0 := hcx 0 _ rfl
                have d0 := hcy 0 _ rfl
                rw [Nat.add_zero, Nat.mul_one] at c0 d0
                rw [ea] at p2
                rw [eb] at q2
                have HK := hideL hki
                have HJ := hideL hkj
                clear hki hkj hcx hcy
                obtain ⟨bb, hbb⟩ : ∃ bb, strB k k2 = bb := ⟨_, rfl⟩
                have HBB := hideL hbb
                have hq : (k.toList == k2.toList) = bb := hbb
                clear hbb
                cases bb
                · have HE : Hid (R = false) := HNZ.out _ (eqL_no HK.out HJ.out HBB.out)
                  go_wp2_with fail
                  go_quiet (fail)
                  go_wp2
                  go_ret
                  exact ⟨by rw [HE.out]; rfl, (HG2.out.trans HG.out).trans ((Gr.drewN _ _).trans (Gr.drewN _ _))⟩
                · go_wp2_with fail
                  go_quiet (fail)
                  go_wp2
                  go_roundw
                  case rel =>
                    refine ⟨i + 1, by go_num, by omega, ⟨q + nq, rfl⟩, fun j c d hj hc hd => ?_⟩
                    by_cases hji : j < i
                    · exact HF.out j c d hji hc hd
                    · obtain rfl : j = i := by omega
                      rw [HK.out] at hc; rw [HJ.out] at hd
                      cases hc; cases hd; exact HBB.out
                  case measure => simp [intOf]; omega
              · have h5' : ¬ (i : Int) < n3 := by omega
                have HE : Hid (R = true) := HNZ.out _ (eqL_yes (by rw [H3.out, H4.out]) (fun j c d hj hc hd => HF.out j c d (by have := H3.out; omega) hc hd))
                go_wp2
                go_ret
                exact ⟨by rw [HE.out]; rfl, (HG2.out.trans HG.out).trans (Gr.drewN _ _)⟩
      · have h4' : ¬ (n3 : Int) = n4 := by omega
        have HE : Hid (R = false) := HNO.out _ (by rw [h1, eqL_len (l := a.svs) (r := b.svs) (by rw [H3.out, H4.out]; exact h4)]; simp)
        subst h3
        go_wp2
        go_ret
        exact ⟨by rw [HE.out]; rfl, HG2.out⟩
    · have h3' : ¬ (n1 : Int) = n2 := by omega
      have HE : Hid (R = false) := HNO.out _ (by rw [h1, eqL_len (l := a.hos) (r := b.hos) (by rw [H1.out, H2.out]; exact h3)]; simp)
      go_wp2
      go_ret
      exact ⟨by rw [HE.out]; rfl, HG2.out⟩
end Go.Proofs.Ytcihhcolgfaaiaa
