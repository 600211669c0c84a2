/-
  The document's own: hosts compared.
-/
import Derived.Test.YtcihhcolgfaaiaaTh
namespace Go.Proofs.Ytcihhcolgfaaiaa
open Go.RowKit
set_option linter.unusedVariables false
set_option linter.unusedSimpArgs false
set_option maxRecDepth 100000
theorem four_cells {W : World} {b : Nat} {x0 x1 x2 x3 : Value} {t : TypeId} (h : W.heap[b]? = some (.cells #[x0, x1, x2, x3] t (0, 0))) : W.cell? ⟨b, 0, none⟩ = some x0 ∧ W.cell? ⟨b, 1, none⟩ = some x1 ∧ W.cell? ⟨b, 2, none⟩ = some x2 ∧ W.cell? ⟨b, 3, none⟩ = some x3 := by
  refine ⟨?_, ?_, ?_, ?_⟩ <;> (rw [cell_block h]; rfl)
theorem two_new (w : World) (x y : Obj) : ((w.alloc x).alloc y).heap[w.heap.size]? = some x ∧ ((w.alloc x).alloc y).heap[w.heap.size + 1]? = some y := by
  refine ⟨(Gr.alloc _ _).below.cells (heap_alloc_new w _), ?_⟩
  have := heap_alloc_new (w.alloc x) y
  rwa [al_size] at this
set_option maxHeartbeats 16000000 in
theorem rhost_same (w : World) (a b : Ho) (ha : Hin w a) (hb : Hin w b) :
    Calls Try.prog 13 #[.agg #[.string a.ho, .string a.ro, .slice a.ea a.ens.length a.ec, .slice a.qa a.pms.length a.qc], .agg #[.string b.ho, .string b.ro, .slice b.ea b.ens.length b.ec, .slice b.qa b.pms.length b.qc]] w fun e w' => e = .returned (.bool (hoB a b)) ∧ Gr w w' := by
  have HA := hideL ha
  have HB := hideL hb
  clear ha hb
  obtain ⟨R, hR⟩ : ∃ R, hoB a b = R := ⟨_, rfl⟩
  have HR := hideL hR
  rw [hR]
  clear hR
  obtain ⟨n1, hn1⟩ : ∃ n, a.ens.length = n := ⟨_, rfl⟩
  obtain ⟨n2, hn2⟩ : ∃ n, b.ens.length = n := ⟨_, rfl⟩
  obtain ⟨n3, hn3⟩ : ∃ n, a.pms.length = n := ⟨_, rfl⟩
  obtain ⟨n4, hn4⟩ : ∃ n, b.pms.length = n := ⟨_, rfl⟩
  have hl1 : n1 ≤ 140737488355328 := by rw [← hn1]; exact HA.out.le
  have hl3 : n3 ≤ 140737488355328 := by rw [← hn3]; exact HA.out.lp
  rw [hn1, hn2, hn3, hn4]
  have H1 := hideL hn1
  have H2 := hideL hn2
  have H3 := hideL hn3
  have H4 := hideL hn4
  clear hn1 hn2 hn3 hn4
  obtain ⟨w2, hw2⟩ : ∃ X, ((w.alloc (.cells #[.string a.ho, .string a.ro, .slice a.ea n1 a.ec, .slice a.qa n3 a.qc] 33 (0, 0))).alloc (.cells #[.string b.ho, .string b.ro, .slice b.ea n2 b.ec, .slice b.qa n4 b.qc] 33 (0, 0))) = X := ⟨_, rfl⟩
  have HG2 : Hid (Gr w w2) := by rw [← hw2]; exact (Gr.alloc _ _).trans (Gr.alloc _ _)
  have h2n := two_new w (.cells #[.string a.ho, .string a.ro, .slice a.ea n1 a.ec, .slice a.qa n3 a.qc] 33 (0, 0)) (.cells #[.string b.ho, .string b.ro, .slice b.ea n2 b.ec, .slice b.qa n4 b.qc] 33 (0, 0))
  rw [hw2] at h2n
  obtain ⟨p0, p1, p2, p3⟩ := four_cells h2n.1
  obtain ⟨q0, q1, q2, q3⟩ := four_cells h2n.2
  clear h2n
  have HNO : Hid (∀ x : Bool, ((a.ho.toList == b.ho.toList) && ((a.ro.toList == b.ro.toList) && (eqL enB a.ens b.ens && eqL pmB a.pms b.pms))) = x → R = x) := fun x h => by rw [← HR.out]; exact h
  go_enter Try.func13, Try.ntmps13
  cases h1 : (a.ho.toList == b.ho.toList)
  · have HE : Hid (R = false) := HNO.out _ (by rw [h1]; rfl)
    go_wp2
    go_ret
    exact ⟨by rw [HE.out]; rfl, HG2.out⟩
  · cases h2 : (a.ro.toList == b.ro.toList)
    · have HE : Hid (R = false) := HNO.out _ (by rw [h1, h2]; rfl)
      go_wp2
      go_ret
      exact ⟨by rw [HE.out]; rfl, HG2.out⟩
    · by_cases h3 : n1 = n2
      · by_cases h4 : n3 = n4
        · subst h3 h4
          have HNY : Hid (∀ x : Bool, (eqL enB a.ens b.ens && eqL pmB a.pms b.pms) = x → R = x) := fun x h => HNO.out x (by rw [h1, h2]; simpa using h)
          go_wp2_with fail
          go_loopw [5] (fun t wr => ∃ (i : Nat), t = .int .i64 i ∧ i ≤ n1 ∧ (∃ q, wr = w2.drewN q) ∧ Hid (∀ (j : Nat) c d, j < i → a.ens[j]? = some c → b.ens[j]? = some d → enB c d = true)) (fun t _ => n1 - (intOf t).toNat)
          case atStart => exact ⟨0, rfl, by omega, ⟨0, rfl⟩, fun j c d hj _ => by omega⟩
          case round =>
            obtain ⟨i, rfl, hi, ⟨q, rfl⟩, HF⟩ := hrel
            have i0 : (0 : Int) ≤ i := by omega
            by_cases h5 : i < n1
            · have h5' : (i : Int) < n1 := by omega
              rcases hki : a.ens[i]? with _ | k
              · have := List.getElem?_eq_none_iff.1 hki; have := H1.out; omega
              rcases hkj : b.ens[i]? with _ | k2
              · have := List.getElem?_eq_none_iff.1 hkj; have := H2.out; omega
              obtain ⟨g, off, ea, hcx⟩ := (HA.out.es.below HG2.out.below).at_ hki
              obtain ⟨g', off', eb, hcy⟩ := (HB.out.es.below HG2.out.below).at_ hkj
              have c0 := hcx 0 _ rfl
              have d0 := hcy 0 _ rfl
              have c1 := hcx 1 _ rfl
              have d1 := hcy 1 _ rfl
              have c2 := hcx 2 _ rfl
              have d2 := hcy 2 _ rfl
              rw [Nat.add_zero] at c0 d0
              rw [ea] at p2
              rw [eb] at q2
              have HK := hideL hki
              have HJ := hideL hkj
              have HS : Hid (∀ W, Gr w2 W → Calls Try.prog 23 #[.slice k.sa k.shs.length k.sc, .slice k2.sa k2.shs.length k2.sc] W fun e w' => e = .returned (.bool (eqL shB k.shs k2.shs)) ∧ ∃ m, w' = W.drewN m) := fun W hW =>
                rshares_any _ k.sa k2.sa _ _ k.sc k2.sc k.shs k2.shs rfl rfl (HA.out.each k (List.mem_of_getElem? hki)).le (((HA.out.each k (List.mem_of_getElem? hki)).es.below HG2.out.below).below hW.below) (((HB.out.each k2 (List.mem_of_getElem? hkj)).es.below HG2.out.below).below hW.below)
              have HS : Hid (∀ r, Calls Try.prog 23 #[.slice k.sa k.shs.length k.sc, .slice k2.sa k2.shs.length k2.sc] (w2.drewN (q + r)) fun e w' => e = .returned (.bool (eqL shB k.shs k2.shs)) ∧ ∃ m, w' = w2.drewN (q + m)) := fun r => (HS.out _ (Gr.drewN _ _)).mono fun e w' ⟨he, m, hm⟩ => ⟨he, r + m, by rw [hm, drew_two, Nat.add_assoc]⟩
              have HSB : Hid (enB k k2 = ((k.pa.toList == k2.pa.toList) && ((k.me.toList == k2.me.toList) && eqL shB k.shs k2.shs))) := rfl
              generalize eqL shB k.shs k2.shs = b3 at HS HSB
              generalize k.shs.length = m1 at HS c2
              generalize k2.shs.length = m2 at HS d2
              clear hki hkj hcx hcy
              cases hb1 : (k.pa.toList == k2.pa.toList)
              · have HE : Hid (R = false) := HNY.out _ (by rw [eqL_no HK.out HJ.out (by rw [HSB.out, hb1]; rfl)]; rfl)
                go_wp2_with fail
                go_quiet (fail)
                go_wp2
                go_ret
                exact ⟨by rw [HE.out]; rfl, HG2.out.trans ((Gr.drewN _ _).trans (Gr.drewN _ _))⟩
              · cases hb2 : (k.me.toList == k2.me.toList)
                · have HE : Hid (R = false) := HNY.out _ (by rw [eqL_no HK.out HJ.out (by rw [HSB.out, hb1, hb2]; rfl)]; rfl)
                  go_wp2_with fail
                  go_quiet (fail)
                  go_wp2
                  go_ret
                  exact ⟨by rw [HE.out]; rfl, HG2.out.trans ((Gr.drewN _ _).trans (Gr.drewN _ _))⟩
                · cases b3
                  · have HE : Hid (R = false) := HNY.out _ (by rw [eqL_no HK.out HJ.out (by rw [HSB.out, hb1, hb2]; rfl)]; rfl)
                    go_wp2_with fail
                    go_quiet (exact HS.out _)
                    go_wp2
                    go_ret
                    exact ⟨by rw [HE.out]; rfl, HG2.out.trans ((Gr.drewN _ _).trans (Gr.drewN _ _))⟩
                  · have HBB : Hid (enB k k2 = true) := by unfold Hid; rw [HSB.out, hb1, hb2]; rfl
                    go_wp2_with fail
                    go_quiet (exact HS.out _)
                    go_wp2
                    go_roundw
                    case rel =>
                      refine ⟨i + 1, by go_num, by omega, ⟨q + nq, rfl⟩, fun j c d hj hc hd => ?_⟩
                      by_cases hji : j < i
                      · exact HF.out j c d hji hc hd
                      · obtain rfl : j = i := by omega
                        rw [HK.out] at hc; rw [HJ.out] at hd
                        cases hc; cases hd; exact HBB.out
                    case measure => simp [intOf]; omega
            · have h5' : ¬ (i : Int) < n1 := by omega
              have HE1 : Hid (eqL enB a.ens b.ens = true) := eqL_yes (by rw [H1.out, H2.out]) (fun j c d hj hc hd => HF.out j c d (by have := H1.out; omega) hc hd)
              have HNZ : Hid (∀ x : Bool, eqL pmB a.pms b.pms = x → R = x) := fun x h => HNY.out x (by rw [HE1.out]; simpa using h)
              clear HF HNY HE1 hi
              go_wp2_with fail
              go_loopw [6] (fun t wr => ∃ (i : Nat), t = .int .i64 i ∧ i ≤ n3 ∧ (∃ q, wr = w2.drewN q) ∧ Hid (∀ (j : Nat) c d, j < i → a.pms[j]? = some c → b.pms[j]? = some d → pmB c d = true)) (fun t _ => n3 - (intOf t).toNat)
              case atStart => exact ⟨0, rfl, by omega, ⟨q, rfl⟩, fun j c d hj _ => by omega⟩
              case round =>
                obtain ⟨i, rfl, hi, ⟨q, rfl⟩, HF⟩ := hrel
                have i0 : (0 : Int) ≤ i := by omega
                by_cases h5 : i < n3
                · have h5' : (i : Int) < n3 := by omega
                  rcases hki : a.pms[i]? with _ | k
                  · have := List.getElem?_eq_none_iff.1 hki; have := H3.out; omega
                  rcases hkj : b.pms[i]? with _ | k2
                  · have := List.getElem?_eq_none_iff.1 hkj; have := H4.out; omega
                  obtain ⟨g, off, ea, hcx⟩ := (HA.out.ps.below HG2.out.below).at_ hki
                  obtain ⟨g', off', eb, hcy⟩ := (HB.out.ps.below HG2.out.below).at_ hkj
                  have c0 := hcx 0 _ rfl
                  have d0 := hcy 0 _ rfl
                  have c1 := hcx 1 _ rfl
                  have d1 := hcy 1 _ rfl
                  have c2 := hcx 2 _ rfl
                  have d2 := hcy 2 _ rfl
                  rw [Nat.add_zero] at c0 d0
                  rw [ea] at p3
                  rw [eb] at q3
                  have HK := hideL hki
                  have HJ := hideL hkj
                  clear hki hkj hcx hcy
                  obtain ⟨bb, hbb⟩ : ∃ bb, pmB k k2 = bb := ⟨_, rfl⟩
                  have HBB := hideL hbb
                  have hq : ∀ W, (binOp .neq 54 (.agg #[.string k.pa, .string k.me, .bool k.al]) (.agg #[.string k2.pa, .string k2.me, .bool k2.al])).run Try.prog W = .ok (.bool (!bb)) W := fun W => by rw [← hbb]; exact neqPm k k2 W
                  clear hbb
                  cases bb
                  · have HE : Hid (R = false) := HNZ.out _ (eqL_no HK.out HJ.out HBB.out)
                    go_wp2_with fail
                    go_quiet (fail)
                    go_wp2
                    go_ret
                    exact ⟨by rw [HE.out]; rfl, HG2.out.trans ((Gr.drewN _ _).trans (Gr.drewN _ _))⟩
                  · go_wp2_with fail
                    go_quiet (fail)
                    go_wp2
                    go_roundw
                    case rel =>
                      refine ⟨i + 1, by go_num, by omega, ⟨q + nq, rfl⟩, fun j c d hj hc hd => ?_⟩
                      by_cases hji : j < i
                      · exact HF.out j c d hji hc hd
                      · obtain rfl : j = i := by omega
                        rw [HK.out] at hc; rw [HJ.out] at hd
                        cases hc; cases hd; exact HBB.out
                    case measure => simp [intOf]; omega
                · have h5' : ¬ (i : Int) < n3 := by omega
                  have HE : Hid (R = true) := HNZ.out _ (eqL_yes (by rw [H3.out, H4.out]) (fun j c d hj hc hd => HF.out j c d (by have := H3.out; omega) hc hd))
                  go_wp2
                  go_ret
                  exact ⟨by rw [HE.out]; rfl, HG2.out.trans (Gr.drewN _ _)⟩
        · have h4' : ¬ (n3 : Int) = n4 := by omega
          have HE : Hid (R = false) := HNO.out _ (by rw [h1, h2, eqL_len (l := a.pms) (r := b.pms) (by rw [H3.out, H4.out]; exact h4)]; simp)
          subst h3
          go_wp2
          go_ret
          exact ⟨by rw [HE.out]; rfl, HG2.out⟩
      · have h3' : ¬ (n1 : Int) = n2 := by omega
        have HE : Hid (R = false) := HNO.out _ (by rw [h1, h2, eqL_len (l := a.ens) (r := b.ens) (by rw [H1.out, H2.out]; exact h3)]; simp)
        go_wp2
        go_ret
        exact ⟨by rw [HE.out]; rfl, HG2.out⟩
end Go.Proofs.Ytcihhcolgfaaiaa
