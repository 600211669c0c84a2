/- The law RegistryPicks. -/
import Derived.Test.YtidpglbokpgpbaaPk
import Derived.Deep.RegionLaw
import Derived.BigQuiet
namespace Go.Proofs.Ytidpglbokpgpbaa
open Go.RowKit
set_option linter.unusedVariables false
set_option linter.unusedSimpArgs false
set_option maxRecDepth 100000
set_option maxHeartbeats 64000000 in
theorem picks_any (w : World) (ri fa : Int) (a a3 : Option Addr) (m c m3 c3 : Nat) (L : List Cl) (L3 : List Rx) (hri : -9223372036854775808 ≤ ri ∧ ri ≤ 9223372036854775807) (hfa : -9223372036854775808 ≤ fa ∧ fa ≤ 9223372036854775807) (hm : L.length = m) (hl : m ≤ 300000) (hL : Lc w a L) (hm3 : L3.length = m3) (hl3 : m3 ≤ 1048576) (hL3 : Lr w a3 L3) (hb3 : ∀ o ∈ L3, Bare o) :
    Calls Try.prog 4 #[.int .i64 ri, .int .i64 fa, .slice a m c, .slice a3 m3 c3] w fun e w' => e = .returned (.bool true) ∧ Below w.heap.size w w' := by
  have HL := hideL hL
  have HM := hideL hm
  have HL3 := hideL hL3
  have HM3 := hideL hm3
  have HBA := hideL hb3
  have haw := awake_any w
  clear hL hm hL3 hm3 hb3
  by_cases hT : okT ri fa
  · have hn := fun W => newR_ok ri fa W hT
    clear hT hri hfa
    go_enter Try.func4, Try.ntmps4
    go_wp2_with (first
      | (go_at_call 6; refine haw.mono ?_; rintro e w0 ⟨rfl, hb⟩; have HB0 := hideL hb; clear hb haw)
      | (go_at_call 7; refine (hn w0).mono ?_; rintro e w1 ⟨b, rfl, hr, hb⟩; have HR1 := hideL hr; have HB1 := hideL (HB0.out.trans (hb.mono HB0.out.size)); have HBW := hideL HB0.out.size; clear hr hb hn))
    go_loopw [11] (fun t wr => ∃ (i : Nat) (r : Rg), t = .int .i64 i ∧ i ≤ m ∧ Rr wr w0.heap.size b (2 * i) r ∧ Below w.heap.size w wr) (fun t _ => m - (intOf t).toNat)
    case atStart => exact ⟨0, _, rfl, by omega, HR1.out, HB1.out⟩
    case round =>
      obtain ⟨i, r, rfl, hi, hr, hbel⟩ := hrel
      have i0 : (0 : Int) ≤ i := by omega
      have HR := hideL hr
      have HB := hideL hbel
      clear hr hbel HR1 HB1
      by_cases h3 : i < m
      · have h3' : (i : Int) < m := by omega
        rcases hki : L[i]? with _ | x
        · have := List.getElem?_eq_none_iff.1 hki; have := HM.out; omega
        have HD : Hid (∀ W, Below w.heap.size w W → Lc W a L) := fun W hW => HL.out.below hW
        have HX := hideL (HL.out.each x (List.mem_of_getElem? hki))
        have HK := hideL hki
        obtain ⟨g, off, rfl, -⟩ := HL.out.at_ hki
        have HC : Hid (∀ W, Below w.heap.size w W → W.cell? ⟨g, off + i * 5, none⟩ = some (.int .i64 x.kd) ∧ W.cell? ⟨g, off + i * 5 + 1, none⟩ = some (.slice x.sa x.sv.length x.sc) ∧ W.cell? ⟨g, off + i * 5 + 2, none⟩ = some (.string x.en) ∧ W.cell? ⟨g, off + i * 5 + 3, none⟩ = some (.bool x.ok) ∧ W.cell? ⟨g, off + i * 5 + 4, none⟩ = some (.float .f64 x.tk)) := fun W hW => by
          obtain ⟨g', off', e, h⟩ := (HD.out W hW).at_ HK.out
          cases e; exact h
        obtain ⟨kd, hkd⟩ : ∃ k, x.kd = k := ⟨_, rfl⟩
        have HKD := hideL hkd
        clear hki hkd
        obtain ⟨x0, x1, x2, x3, x4⟩ := HC.out wr HB.out
        rw [HKD.out] at x0
        by_cases hk0 : kd = 0
        · subst hk0
          have hset := setD wr w0.heap.size b _ r HR.out (by omega) x (HX.out.below HB.out)
          go_wp2_with (go_at_call 10; refine hset.mono ?_; rintro e w2 ⟨k, rfl, r2, hd⟩; have HDI := hideL hd; have HB2 := hideL (HB.out.trans ((HDI.out.below HR.out.bs).mono HBW.out)); clear hd hset x0 x1 x2 x3 x4; obtain ⟨x0, x1, x2, x3, x4⟩ := HC.out w2 HB2.out; rw [HKD.out] at x0)
          go_roundw
          case rel => exact ⟨i + 1, r2, by go_num, by omega, by rw [show 2 * (i + 1) = 2 * i + 2 by omega]; exact HDI.out.rr, HB2.out⟩
          case measure => simp [intOf]; omega
        · by_cases hk1 : kd = 1
          · subst hk1
            have HPR := hideL (probeD (wr.drewN 1) w0.heap.size b _ r (HR.out.below (Gr.drewN _ _).below) (by omega) x ((HX.out.below HB.out).below (Gr.drewN _ _).below))
            go_wp2_with fail
            go_region_law (go_simp; go_at_call 11; refine HPR.out.mono ?_; rintro e w2 ⟨k, rfl, r2, hd⟩; have HDI := hideL hd.drew; have HB2 := hideL (HB.out.trans ((HDI.out.below HR.out.bs).mono HBW.out)); clear hd)
            all_goals
              try refine NoPanic.normal ?_
              go_wp2_with fail
              go_roundw
              case rel => exact ⟨i + 1, r2, by go_num, by omega, by rw [show 2 * (i + 1) = 2 * i + 2 by omega]; exact HDI.out.rr, HB2.out⟩
              case measure => simp [intOf]; omega
          · have g0 : (kd == 0) = false := by simpa using hk0
            have g1 : (kd == 1) = false := by simpa using hk1
            go_wp2_with fail
            go_roundw
            case rel => exact ⟨i + 1, r, by go_num, by omega, HR.out.mono (by omega), HB.out⟩
            case measure => simp [intOf]; omega
      · have h3' : ¬ (i : Int) < m := by omega
        obtain rfl : i = m := by omega
        have hown := own_any wr a3 m3 c3 L3 (HL3.out.below HB.out) HBA.out HM3.out hl3
        go_wp2_with fail
        refine hown.mono ?_
        rintro e w1 ⟨v, rfl, qs, hql, hoo, hqs, hb1⟩
        obtain ⟨va, vc, rfl, _⟩ := own_form hoo.row
        have hset := set_any w1 w0.heap.size b _ r (HR.out.below hb1) (by omega) va m3 vc _ (list_any w1 va m3 vc qs hql ((hql ▸ hoo : Oo wr w1 wr.heap.size (.slice va m3 vc) qs).lr hb1) hl3)
        rw [hqs] at hset
        have HB1 := hideL (HB.out.trans (hb1.mono HB.out.size))
        have HR1 := hideL (HR.out.below hb1)
        clear hoo hqs hb1 hown
        go_wp2_with fail
        refine hset.mono ?_
        rintro e w2 ⟨k, rfl, r2, hs, hr2, hst⟩
        have HB2 := hideL (HB1.out.trans ((hst.below (base := w0.heap.size) (by intro k hk; simp at hk; subst hk; exact HR1.out.lo) HR1.out.bs).mono HBW.out))
        have hvw := view_any w2 w0.heap.size b _ r2 hr2
        have HR2 := hideL hr2
        clear hset hr2 hst hql
        rcases hs with ⟨rfl, -, -⟩ | ⟨rfl, s1, s2, -, -, s5, -⟩
        · go_wp2_with fail
          go_ret
          exact ⟨rfl, HB2.out⟩
        · go_wp2_with (go_at_call 9; refine hvw.mono ?_; rintro e w3 ⟨v, rfl, os, hos, hsy, hb3⟩; obtain ⟨va, vc, rfl⟩ := hos.form; have HPP := hideL (picks_plain s1 s2 (hsy.trans s5)); have HOS := hideL hos; have HB3 := hideL (HB2.out.trans (hb3.mono HB2.out.size)); have HR3 := hideL (HR2.out.below hb3); clear hos hsy hb3 hvw s1 s2 s5)
          obtain ⟨n1, hn1⟩ : ∃ n, os.length = n := ⟨_, rfl⟩
          have HN1 := hideL hn1
          have hn1b : n1 ≤ 1048576 := hn1 ▸ HOS.out.le
          rw [hn1] at HOS ⊢
          clear hn1 HR1 HB1 HR HB HR2 HB2
          go_loopw [13, 14] (fun nt t wr => ∃ (j : Nat), t = .int .i64 j ∧ nt = .int .i64 (cntF L3 j : Nat) ∧ j ≤ m3 ∧ Below w3.heap.size w3 wr) (fun _ t _ => m3 - (intOf t).toNat)
          case atStart => exact ⟨0, rfl, rfl, by omega, Below.refl _ _⟩
          case round =>
            obtain ⟨j, rfl, rfl, hj, hbel⟩ := hrel
            have j0 : (0 : Int) ≤ j := by omega
            have HB := hideL hbel
            obtain ⟨n, hnn⟩ : ∃ n, cntF L3 j = n := ⟨_, rfl⟩
            have hnj : n ≤ j := hnn ▸ cnt_le L3 j
            have HNN := hideL hnn
            rw [hnn]
            clear hbel hnn
            by_cases h5 : j < m3
            · have h5' : (j : Int) < m3 := by omega
              rcases hki : L3[j]? with _ | x
              · have := List.getElem?_eq_none_iff.1 hki; have := HM3.out; omega
              have HBL := hideL (HB3.out.trans (HB.out.mono HB3.out.size))
              obtain ⟨g, off, rfl, d0, d1, d2, d3, d4, d5, d6, d7⟩ := (HL3.out.row.below HBL.out).cells hki
              have HRX := hideL (HL3.out.each x (List.mem_of_getElem? hki))
              have HMX := hideL (List.mem_of_getElem? hki)
              obtain ⟨W0, hW0⟩ : ∃ W, wr.alloc (boxO x) = W := ⟨_, rfl⟩
              have HX0 : Hid (W0.heap[wr.heap.size]? = some (boxO x)) := hW0 ▸ Go.heap_alloc_new wr _
              have HG0 : Hid (Below wr.heap.size wr W0) := hW0 ▸ (Gr.alloc _ _).below
              have HBW0 := hideL (HB.out.trans (HG0.out.mono HB.out.size))
              have HBWW := hideL (HB3.out.trans (HBW0.out.mono HB3.out.size))
              unfold boxO at hW0
              by_cases hk : x.kd = 1
              · have HC1 := hideL (cnt_one hki hk)
                obtain ⟨j1, o1, e1, e2, e3⟩ := HPP.out.1 x.toRs (List.mem_map.2 ⟨x, HMX.out, rfl⟩) hk
                have HJ := hideL (And.intro e1 (And.intro e2 e3))
                have HK1 := hideL hk
                have hj1 : j1 < n1 := by have := (List.getElem?_eq_some_iff.1 e1).1; have := HN1.out; omega
                obtain ⟨l, hll⟩ : ∃ l, x.eps.length = l := ⟨_, rfl⟩
                have HLL := hideL hll
                have hlb : l ≤ 1048576 := hll ▸ HRX.out.le
                obtain ⟨ea, hea⟩ : ∃ y, x.ea = y := ⟨_, rfl⟩
                have HCE : Hid (∀ W, Below w.heap.size w W → Cel W ea 1 (x.eps.map strR)) := fun W hW => hea ▸ HRX.out.es.below hW
                have HQ : Hid (∀ W, Below W0.heap.size W0 W → W.cell? ⟨wr.heap.size, 0, none⟩ = some (.int .i64 1) ∧ W.cell? ⟨wr.heap.size, 1, none⟩ = some (.string x.nm) ∧ W.cell? ⟨wr.heap.size, 2, none⟩ = some (.slice ea l x.ec)) := fun W hW => by
                  obtain ⟨⟨b0, b1, b2, -⟩, -⟩ := box8 (hW.cells HX0.out)
                  rw [hk] at b0
                  rw [hll, hea] at b2
                  exact ⟨b0, b1, b2⟩
                rw [hk] at d0 hW0
                rw [hll, hea] at d2 hW0
                clear hki hk e1 e2 e3 hll hea
                obtain ⟨y0, y1, y2⟩ := HQ.out W0 (Below.refl _ _)
                go_wp2_with fail
                clear d0 d1 d2 d3 d4 d5 d6 d7 hW0 y0 y1 y2
                obtain ⟨i9, hi9, hx0, hx1, hx2⟩ := info_parts Try.info9
                go_loopw [16, 17] (fun v t wi => ∃ (k : Nat), t = .int .i64 k ∧ k ≤ l ∧ wi.ownsRow W0.heap.size 9 1 v (wantF r2.hl (x.eps.take k)).length (rowsOf strR (wantF r2.hl (x.eps.take k))) ∧ Below W0.heap.size W0 wi) (fun _ t _ => l - (intOf t).toNat)
                case atStart => exact ⟨0, rfl, by omega, ⟨by simp [rowsOf, wantF, uniq, uniqA], .inl ⟨rfl, by simp [wantF, uniq, uniqA]⟩⟩, Below.refl _ _⟩
                case round =>
                  obtain ⟨k, rfl, hkl, hown, hbw⟩ := hrel
                  have k0 : (0 : Int) ≤ k := by omega
                  obtain ⟨qa, qc, rfl, _, hqc, hqm⟩ := own_form hown
                  obtain ⟨lw, hlw⟩ : ∃ n, (wantF r2.hl (x.eps.take k)).length = n := ⟨_, rfl⟩
                  have hlk : lw ≤ k := by
                    rw [← hlw]; refine Nat.le_trans (want_len _ _) ?_
                    rw [List.length_take]; exact Nat.min_le_left _ _
                  rw [hlw] at hown ⊢
                  have HOW := hideL hown
                  have HBI := hideL hbw
                  have HLW := hideL hlw
                  have HWI := hideL (HBWW.out.trans (HBI.out.mono HBWW.out.size))
                  obtain ⟨b0, b1, b2⟩ := HQ.out _ hbw
                  have HRI : Hid (Rr _ w0.heap.size b (2 * i + 1) r2) := HR3.out.below (HBW0.out.trans (HBI.out.mono HBW0.out.size))
                  clear hown hbw hlw hqc
                  by_cases h6 : k < l
                  · have h6' : (k : Int) < l := by omega
                    rcases hkk : x.eps[k]? with _ | s
                    · have := List.getElem?_eq_none_iff.1 hkk; have := HLL.out; omega
                    obtain ⟨p, po, rfl, hcx⟩ := (HCE.out _ HWI.out).at_ hkk
                    have c0 := hcx 0 _ rfl
                    rw [Nat.add_zero, Nat.mul_one] at c0
                    have HKK := hideL hkk
                    have hoks := HRX.out.se s (List.mem_of_getElem? hkk)
                    clear hcx hkk
                    go_wp2_with fail
                    have HWC : Hid (Cel wr qa 1 ((wantF r2.hl (x.eps.take k)).map strR)) := own_cel strR 1 strR_len (by decide) HOW.out
                    go_loopw [18, 19] (fun bt t wj => ∃ (i2 : Nat) (bo : Bool), t = .int .i64 i2 ∧ bt = .bool bo ∧ i2 ≤ lw ∧ (bo = true ↔ s ∈ (wantF r2.hl (x.eps.take k)).take i2) ∧ ∃ q, wj = wr.drewN q) (fun _ t _ => lw - (intOf t).toNat)
                    case atStart => exact ⟨0, false, rfl, rfl, by omega, by simp, ⟨0, rfl⟩⟩
                    case round =>
                      obtain ⟨i2, bo, rfl, rfl, hi2, hbo, q, rfl⟩ := hrel
                      have i20 : (0 : Int) ≤ i2 := by omega
                      have HBO := hideL hbo
                      clear hbo
                      by_cases h7 : i2 < lw
                      · have h7' : (i2 : Int) < lw := by omega
                        rcases hk2 : (wantF r2.hl (x.eps.take k))[i2]? with _ | y
                        · have := List.getElem?_eq_none_iff.1 hk2; have := HLW.out; omega
                        have HT2 := hideL (take_snoc hk2)
                        obtain ⟨p2, po2, rfl, hcy⟩ := HWC.out.at_ hk2
                        have z0 := hcy 0 _ rfl
                        rw [Nat.add_zero, Nat.mul_one] at z0
                        clear hcy hk2
                        cases bo with
                        | true =>
                          go_wp2_with fail
                          go_quiet (fail)
                          go_wp2
                          go_roundw
                          case rel =>
                            refine ⟨i2 + 1, true, by go_num, rfl, by omega, ?_, (by first | exact ⟨_, rfl⟩ | exact ddT _ _ _)⟩
                            rw [HT2.out]
                            exact ⟨fun _ => List.mem_append.2 (.inl (HBO.out.1 (by first | rfl | trivial))), fun _ => rfl⟩
                          case measure => simp [intOf]; omega
                        | false =>
                          have hno : s ∉ (wantF r2.hl (x.eps.take k)).take i2 := fun g => by have := HBO.out.2 g; cases this
                          have HNO := hideL hno
                          clear hno
                          by_cases he : y = s
                          · subst he
                            go_wp2_with fail
                            go_quiet (fail)
                            go_wp2
                            go_roundw
                            case rel =>
                              refine ⟨i2 + 1, true, by go_num, rfl, by omega, ?_, (by first | exact ⟨_, rfl⟩ | exact ddT _ _ _)⟩
                              rw [HT2.out]
                              exact ⟨fun _ => List.mem_append.2 (.inr (List.mem_singleton.2 rfl)), fun _ => rfl⟩
                            case measure => simp [intOf]; omega
                          · have he' := ba_ne he
                            have HE := hideL he
                            clear he
                            go_wp2_with fail
                            go_quiet (fail)
                            go_wp2
                            go_roundw
                            case rel =>
                              refine ⟨i2 + 1, false, by go_num, rfl, by omega, ?_, (by first | exact ⟨_, rfl⟩ | exact ddT _ _ _)⟩
                              rw [HT2.out]
                              refine ⟨fun g => (by cases g), fun g => ?_⟩
                              rcases List.mem_append.1 g with g | g
                              · exact absurd g HNO.out
                              · exact absurd (List.mem_singleton.1 g).symm HE.out
                            case measure => simp [intOf]; omega
                      · have h7' : ¬ (i2 : Int) < lw := by omega
                        obtain rfl : i2 = lw := by omega
                        have hmem : bo = true ↔ s ∈ wantF r2.hl (x.eps.take k) := by
                          have := HBO.out
                          rwa [List.take_of_length_le (by have := HLW.out; omega)] at this
                        have HMEM := hideL hmem
                        clear hmem
                        cases bo with
                        | true =>
                          have HW1 := hideL (want_there HKK.out (HMEM.out.1 rfl))
                          go_wp2_with fail
                          go_roundw
                          case rel =>
                            refine ⟨k + 1, by go_num, by omega, ?_, HBI.out.trans ((Gr.drewN _ _).below.mono HBI.out.size)⟩
                            rw [HW1.out, HLW.out]
                            exact HOW.out
                          case measure => simp [intOf]; omega
                        | false =>
                          have hno : s ∉ wantF r2.hl (x.eps.take k) := fun g => by have := HMEM.out.2 g; cases this
                          have HNO := hideL hno
                          have hcall := healthyE_any (wr.drewN q) w0.heap.size b _ r2 (HRI.out.below (Gr.drewN _ _).below) s hoks
                          clear hno
                          cases hh : r2.hl s with
                          | false =>
                            rw [hh] at hcall
                            have HW1 := hideL (want_no HKK.out hh)
                            go_wp2_with (go_at_call 14; refine hcall.mono ?_; rintro e w' ⟨rfl, hw⟩; have hw := hw.symm; subst hw)
                            go_roundw
                            case rel =>
                              refine ⟨k + 1, by go_num, by omega, ?_, HBI.out.trans ((Gr.drewN _ _).below.mono HBI.out.size)⟩
                              rw [HW1.out, HLW.out]
                              exact HOW.out
                            case measure => simp [intOf]; omega
                          | true =>
                            rw [hh] at hcall
                            have HW1 := hideL (want_new HKK.out HNO.out hh)
                            have hlm : i2 + 1 ≤ maxLen := by unfold maxLen; omega
                            have hlb2 : (i2 + 1) * 16 ≤ 140737488355328 := by omega
                            have HOD : Hid (((wr.drewN q).alloc (Obj.cells #[.string s] 9)).ownsRow W0.heap.size 9 1 (.slice qa i2 qc) i2 (rowsOf strR (wantF r2.hl (x.eps.take k)))) := (show (wr.drewN q).ownsRow W0.heap.size 9 1 (.slice qa i2 qc) i2 (rowsOf strR (wantF r2.hl (x.eps.take k))) from HOW.out).alloc _
                            have HND : Hid (∀ j u, (strR s)[j]? = some u → ((wr.drewN q).alloc (Obj.cells #[.string s] 9)).cell? ((⟨wr.heap.size, 0, none⟩ : Addr).add j) = some u) := World.news_of_block (w := ((wr.drewN q).alloc (Obj.cells #[.string s] 9))) (Go.heap_alloc_new (wr.drewN q) _)
                            have hszD : W0.heap.size ≤ ((wr.drewN q).alloc (Obj.cells #[.string s] 9)).heap.size := Nat.le_trans HBI.out.size (by simp)
                            go_wp2_with (first
                              | (go_at_call 14; refine hcall.mono ?_; rintro e w' ⟨rfl, hw⟩; have hw := hw.symm; subst hw)
                              | (at_builtin; refine wpList_append_at _ rfl (.tmp 136) (.tmp 142) 40 rfl W0.heap.size 9 i9 _ 1 16 Try.underlying40 hi9 hx0 hx1 hx2 rfl (by decide) (.slice qa i2 qc) i2 (rowsOf strR (wantF r2.hl (x.eps.take k))) rfl HOD.out ⟨wr.heap.size, 0, none⟩ 1 1 (strR s) rfl rfl HND.out (strR_one _) hlm hlb2 hszD ?_; intro v3 w4 hown3 hgrow3 hat3; have HB4 := hideL (below_app (mm := 0) (show (wr.drewN q).ownsRow W0.heap.size 9 1 (.slice qa i2 qc) i2 (rowsOf strR (wantF r2.hl (x.eps.take k))) from HOW.out) HBI.out.size hgrow3); have HO3 := hideL hown3; clear hown3 hgrow3 hat3))
                            go_roundw
                            case rel =>
                              refine ⟨k + 1, by go_num, by omega, ?_, HBI.out.trans (((Gr.drewN wr q).below.mono HBI.out.size).trans HB4.out)⟩
                              rw [HW1.out, List.length_append, HLW.out, rowsOf_append, rowsOf_one]
                              exact HO3.out
                            case measure => simp [intOf]; omega
                  · have h6' : ¬ (k : Int) < l := by omega
                    obtain rfl : k = l := by omega
                    have hE : x.eps.take k = x.eps := List.take_of_length_le (by have := HLL.out; omega)
                    rw [hE] at HOW HLW
                    have HWC : Hid (Cel wr qa 1 ((wantF r2.hl x.eps).map strR)) := own_cel strR 1 strR_len (by decide) HOW.out
                    have HOSI : Hid (Ov wr w2.heap.size 47 (.slice va n1 vc) os) := HOS.out.below (HBW0.out.trans (HBI.out.mono HBW0.out.size))
                    clear hE
                    go_wp2_with fail
                    go_loopw [20, 21] (fun bt t wj => ∃ (i2 : Nat) (bo : Bool), t = .int .i64 i2 ∧ bt = .bool bo ∧ i2 ≤ n1 ∧ (bo = true ∨ i2 ≤ j1) ∧ ∃ q, wj = wr.drewN q) (fun _ t _ => n1 - (intOf t).toNat)
                    case atStart => exact ⟨0, false, rfl, rfl, by omega, .inr (by omega), ⟨0, rfl⟩⟩
                    case round =>
                      obtain ⟨i2, bo, rfl, rfl, hi2, hbo, q, rfl⟩ := hrel
                      have i20 : (0 : Int) ≤ i2 := by omega
                      have HBO := hideL hbo
                      clear hbo
                      by_cases h7 : i2 < n1
                      · have h7' : (i2 : Int) < n1 := by omega
                        rcases hk2 : os[i2]? with _ | y
                        · have := List.getElem?_eq_none_iff.1 hk2; have := HN1.out; omega
                        obtain ⟨p2, po2, rfl, z0, z1⟩ := HOSI.out.at_ hk2
                        have HY := hideL (HOSI.out.each y (List.mem_of_getElem? hk2))
                        have HK2 := hideL hk2
                        clear hk2
                        obtain ⟨sy, ey, ay, ky⟩ := y
                        dsimp only at z0 z1
                        obtain ⟨ly, hly⟩ : ∃ n, ey.length = n := ⟨_, rfl⟩
                        have HLY := hideL hly
                        have hlyb : ly ≤ 1048576 := hly ▸ HY.out.le
                        have HCY : Hid (Cel wr ay 1 (ey.map strR)) := HY.out.cel
                        rw [hly] at z1
                        clear hly
                        cases bo with
                        | true =>
                          go_wp2_with fail
                          go_quiet (fail)
                          go_wp2
                          go_roundw
                          case rel => exact ⟨i2 + 1, true, by go_num, rfl, by omega, .inl rfl, (by first | exact ⟨_, rfl⟩ | exact ddT _ _ _)⟩
                          case measure => simp [intOf]; omega
                        | false =>
                          have hle : i2 ≤ j1 := by
                            rcases HBO.out with g | g
                            · cases g
                            · exact g
                          by_cases he : sy = x.nm
                          · have HE := hideL he
                            obtain ⟨t, ht⟩ := bool_of (ey = wantF r2.hl x.eps)
                            have HTX : Hid (∀ n, Calls Try.prog 15 #[.slice ay ly ky, .slice qa lw qc] (wr.drewN (q + n)) fun e w' => e = .returned (.bool t) ∧ ∃ m, w' = wr.drewN (q + m)) := fun n => (texts_any _ ay qa ly lw ky qc ey (wantF r2.hl x.eps) HLY.out HLW.out hlyb (HCY.out.below (Gr.drewN _ _).below) (HWC.out.below (Gr.drewN _ _).below)).mono (fun e w' h => ⟨h.1.fix ht, by obtain ⟨m, rfl⟩ := h.2; exact ⟨n + m, by rw [drew_two, Nat.add_assoc]⟩⟩)
                            have HT := hideL ht
                            clear ht
                            rw [he] at z0
                            clear he
                            cases t with
                            | true =>
                              go_wp2_with fail
                              go_quiet ((go_at_call 15; exact HTX.out _))
                              go_wp2
                              go_roundw
                              case rel => exact ⟨i2 + 1, true, by go_num, rfl, by omega, .inl rfl, (by first | exact ⟨_, rfl⟩ | exact ddT _ _ _)⟩
                              case measure => simp [intOf]; omega
                            | false =>
                              have hne : i2 ≠ j1 := by
                                rintro rfl
                                have e1 := HJ.out.1
                                rw [HK2.out] at e1
                                cases e1
                                have := HT.out.2 HJ.out.2.2
                                cases this
                              go_wp2_with fail
                              go_quiet ((go_at_call 15; exact HTX.out _))
                              go_wp2
                              go_roundw
                              case rel => exact ⟨i2 + 1, false, by go_num, rfl, by omega, .inr (by omega), (by first | exact ⟨_, rfl⟩ | exact ddT _ _ _)⟩
                              case measure => simp [intOf]; omega
                          · have he' := ba_ne he
                            have hne : i2 ≠ j1 := by
                              rintro rfl
                              have e1 := HJ.out.1
                              rw [HK2.out] at e1
                              cases e1
                              exact he HJ.out.2.1
                            clear he
                            go_wp2_with fail
                            go_quiet (fail)
                            go_wp2
                            go_roundw
                            case rel => exact ⟨i2 + 1, false, by go_num, rfl, by omega, .inr (by omega), (by first | exact ⟨_, rfl⟩ | exact ddT _ _ _)⟩
                            case measure => simp [intOf]; omega
                      · have h7' : ¬ (i2 : Int) < n1 := by omega
                        obtain rfl : i2 = n1 := by omega
                        obtain rfl : bo = true := by
                          rcases HBO.out with g | g
                          · exact g
                          · omega
                        go_wp2_with fail
                        go_roundw
                        case rel =>
                          refine ⟨j + 1, by go_num, ?_, by omega, HBW0.out.trans ((HBI.out.trans ((Gr.drewN _ _).below.mono HBI.out.size)).mono HBW0.out.size)⟩
                          rw [HC1.out, HNN.out]
                          go_num
                        case measure => simp [intOf]; omega
              · have HC1 := hideL (cnt_no hki hk)
                obtain ⟨kd, hkd⟩ : ∃ kd, x.kd = kd := ⟨_, rfl⟩
                rw [hkd] at hk d0
                have g0 : (kd == 1) = false := by simpa using hk
                clear hki hkd hk hW0
                go_wp2_with fail
                go_roundw
                case rel => exact ⟨j + 1, by go_num, by rw [HC1.out, HNN.out], by omega, HB.out.trans ((Gr.alloc _ _).below.mono HB.out.size)⟩
                case measure => simp [intOf]; omega
            · have h5' : ¬ (j : Int) < m3 := by omega
              obtain rfl : j = m3 := by omega
              have hnn : n = n1 := by
                rw [← HNN.out, cnt_all L3 (by have := HM3.out; omega), ← HPP.out.2.1, HN1.out]
              subst hnn
              have HOSI : Hid (Ov wr w2.heap.size 47 (.slice va n vc) os) := HOS.out.below HB.out
              go_wp2_with fail
              go_loopw [22] (fun t wj => ∃ (k : Nat), t = .int .i64 k ∧ 1 ≤ k ∧ (k ≤ n ∨ (n = 0 ∧ k = 1)) ∧ ∃ q, wj = wr.drewN q) (fun t _ => n + 1 - (intOf t).toNat)
              case atStart => exact ⟨1, rfl, by omega, by omega, ⟨0, rfl⟩⟩
              case round =>
                obtain ⟨k, rfl, hk1, hk2, q, rfl⟩ := hrel
                have k0 : (0 : Int) ≤ k := by omega
                by_cases h6 : k < n
                · have h6' : (k : Int) < n := by omega
                  obtain ⟨p, hp⟩ : ∃ p, k = p + 1 := ⟨k - 1, by omega⟩
                  have p0 : (0 : Int) ≤ p := by omega
                  have h8' : (p : Int) < n := by omega
                  have e1 : (k : Int) - 1 = p := by omega
                  rcases hkj : os[k]? with _ | y
                  · have := List.getElem?_eq_none_iff.1 hkj; have := HN1.out; omega
                  rcases hki : os[p]? with _ | z
                  · have := List.getElem?_eq_none_iff.1 hki; have := HN1.out; omega
                  have hlt := srt_at HPP.out.2.2 hki (hp ▸ hkj)
                  obtain ⟨g, off, rfl, y0, -⟩ := HOSI.out.at_ hkj
                  obtain ⟨g', off', e', z0, -⟩ := HOSI.out.at_ hki
                  cases e'
                  obtain ⟨sz, ez, az, kz⟩ := z
                  obtain ⟨sy, ey, ay, ky⟩ := y
                  dsimp only at y0 z0 hlt
                  unfold sless at hlt
                  clear hkj hki hp
                  go_wp2_with fail
                  go_quiet (fail)
                  go_wp2
                  go_roundw
                  case rel => exact ⟨k + 1, by go_num, by omega, by omega, (by first | exact ⟨_, rfl⟩ | exact ddT _ _ _)⟩
                  case measure => simp [intOf]; omega
                · have h6' : ¬ (k : Int) < n := by omega
                  go_wp2
                  go_ret
                  exact ⟨rfl, HB3.out.trans ((HB.out.trans ((Gr.drewN _ _).below.mono HB.out.size)).mono HB3.out.size)⟩
  · have hn := fun W => newR_no ri fa W hri hfa hT
    clear hT
    go_enter Try.func4, Try.ntmps4
    go_wp2_with (first
      | (go_at_call 6; refine haw.mono ?_; rintro e w0 ⟨rfl, hb⟩; have HB0 := hideL hb; clear hb haw)
      | (go_at_call 7; refine (hn w0).mono ?_; rintro e w' ⟨rfl, hw⟩; have hw := hw.symm; subst hw))
    go_ret
    exact ⟨rfl, HB0.out⟩
end Go.Proofs.Ytidpglbokpgpbaa
