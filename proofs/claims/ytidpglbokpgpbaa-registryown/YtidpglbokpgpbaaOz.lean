/- The law RegistryOwn. -/
import Derived.Test.YtidpglbokpgpbaaVt
import Derived.Deep.RegionLaw
import Derived.Deep.DeepCutAuto
import Derived.Deep.CutRange
import Derived.BigQuiet
namespace Go.Proofs.Ytidpglbokpgpbaa
open Go.RowKit
set_option linter.unusedVariables false
set_option linter.unusedSimpArgs false
set_option maxRecDepth 100000
set_option maxHeartbeats 64000000 in
theorem ownL_any (w : World) (ri fa : Int) (a : Option Addr) (m c : Nat) (L : List Cl) (hri : -9223372036854775808 ≤ ri ∧ ri ≤ 9223372036854775807) (hfa : -9223372036854775808 ≤ fa ∧ fa ≤ 9223372036854775807) (hm : L.length = m) (hl : m ≤ 300000) (hL : Lc w a L) :
    Calls Try.prog 5 #[.int .i64 ri, .int .i64 fa, .slice a m c] w fun e w' => e = .returned (.bool true) ∧ Below w.heap.size w w' := by
  have HL := hideL hL
  have HM := hideL hm
  have haw := awake_any w
  clear hL hm
  by_cases hT : okT ri fa
  · have hn := fun W => newR_ok ri fa W hT
    clear hT hri hfa
    go_enter Try.func5, Try.ntmps5
    go_wp2_with (first
      | (go_at_call 6; refine haw.mono ?_; rintro e w0 ⟨rfl, hb⟩; have HB0 := hideL hb; clear hb haw)
      | (go_at_call 7; refine (hn w0).mono ?_; rintro e w1 ⟨b, rfl, hr, hb⟩; have HR1 := hideL hr; have HB1 := hideL (HB0.out.trans (hb.mono HB0.out.size)); have HBW := hideL HB0.out.size; clear hr hb hn))
    go_loopw [9] (fun t wr => ∃ (i : Nat) (r : Rg), t = .int .i64 i ∧ i ≤ m ∧ Rr wr w0.heap.size b (2 * i) r ∧ Below w.heap.size w wr) (fun t _ => m - (intOf t).toNat)
    case atStart => exact ⟨0, _, rfl, by omega, HR1.out, HB1.out⟩
    case round =>
      obtain ⟨i, r, rfl, hi, hr, hbel⟩ := hrel
      have i0 : (0 : Int) ≤ i := by omega
      have HR := hideL hr
      have HB := hideL hbel
      clear hr hbel HR1 HB1
      by_cases h3 : i < m
      · have h3' : (i : Int) < m := by omega
        rcases hki : L[i]? with _ | x
        · have := List.getElem?_eq_none_iff.1 hki; have := HM.out; omega
        have HD : Hid (∀ W, Below w.heap.size w W → Lc W a L) := fun W hW => HL.out.below hW
        have HX := hideL (HL.out.each x (List.mem_of_getElem? hki))
        have HK := hideL hki
        obtain ⟨g, off, rfl, -⟩ := HL.out.at_ hki
        have HC : Hid (∀ W, Below w.heap.size w W → W.cell? ⟨g, off + i * 5, none⟩ = some (.int .i64 x.kd) ∧ W.cell? ⟨g, off + i * 5 + 1, none⟩ = some (.slice x.sa x.sv.length x.sc) ∧ W.cell? ⟨g, off + i * 5 + 2, none⟩ = some (.string x.en) ∧ W.cell? ⟨g, off + i * 5 + 3, none⟩ = some (.bool x.ok) ∧ W.cell? ⟨g, off + i * 5 + 4, none⟩ = some (.float .f64 x.tk)) := fun W hW => by
          obtain ⟨g', off', e, h⟩ := (HD.out W hW).at_ HK.out
          cases e; exact h
        obtain ⟨kd, hkd⟩ : ∃ k, x.kd = k := ⟨_, rfl⟩
        have HKD := hideL hkd
        clear hki hkd
        obtain ⟨x0, x1, x2, x3, x4⟩ := HC.out wr HB.out
        rw [HKD.out] at x0
        go_upto_if 42 with fail
        go_cut [] from 43 to 49 (fun wx => Hid (∃ r2, Rr wx w0.heap.size b (2 * i + 2) r2 ∧ (kd ≠ 0 → Rr wx w0.heap.size b (2 * i) r2)) ∧ Hid (Below w.heap.size w wx))
        case first =>
          by_cases hk0 : kd = 0
          · subst hk0
            have hset := setD wr w0.heap.size b _ r HR.out (by omega) x (HX.out.below HB.out)
            go_wp2_with (go_at_call 10; refine hset.mono ?_; rintro e w2 ⟨k, rfl, r2, hd⟩; have HDI := hideL hd; have HB2 := hideL (HB.out.trans ((HDI.out.below HR.out.bs).mono HBW.out)); clear hd hset x0 x1 x2 x3 x4)
            go_meet
            case rel => exact ⟨⟨r2, HDI.out.rr, fun h => absurd rfl h⟩, HB2.out⟩
          · have g0 : (kd == 0) = false := by simpa using hk0
            go_wp2_with fail
            go_meet
            case rel => exact ⟨⟨r, HR.out.mono (by omega), fun _ => HR.out⟩, HB.out⟩
        case rest =>
          obtain ⟨H1, HBC⟩ := hcut
          obtain ⟨r1, HR1a, HR1b⟩ := H1.out
          have HRA := hideL HR1a
          have HRB := hideL HR1b
          clear H1 HR1a HR1b HR x0 x1 x2 x3 x4
          obtain ⟨x0, x1, x2, x3, x4⟩ := HC.out wc HBC.out
          rw [HKD.out] at x0
          go_upto_if 55 with fail
          go_cut [] from 56 to 72 (fun wx => Hid (∃ r2, Rr wx w0.heap.size b (2 * i + 2) r2) ∧ Hid (Below w.heap.size w wx))
          case first =>
            by_cases hk1 : kd = 1
            · subst hk1
              have HR1 : Hid (Rr wc w0.heap.size b (2 * i) r1) := HRB.out (by decide)
              have HPR := hideL (probeD (wc.drewN 1) w0.heap.size b _ r1 (HR1.out.below (Gr.drewN _ _).below) (by omega) x ((HX.out.below HBC.out).below (Gr.drewN _ _).below))
              go_wp2_with fail
              go_region_law (go_simp; go_at_call 11; refine HPR.out.mono ?_; rintro e w2 ⟨k, rfl, r2, hd⟩; have HDI := hideL hd.drew; have HB2 := hideL (HBC.out.trans ((HDI.out.below HR1.out.bs).mono HBW.out)); clear hd)
              all_goals
                try refine NoPanic.normal ?_
                go_wp2_with fail
                go_meet
                case rel => exact ⟨⟨r2, HDI.out.rr⟩, HB2.out⟩
            · have g1 : (kd == 1) = false := by simpa using hk1
              go_wp2_with fail
              go_meet
              case rel => exact ⟨⟨r1, HRA.out⟩, HBC.out⟩
          case rest =>
            obtain ⟨H2, HBD⟩ := hcut
            obtain ⟨r2, hr2⟩ := H2.out
            have HR2 := hideL hr2
            clear H2 hr2 HRA HRB x0 x1 x2 x3 x4 HX HK HD HC HKD
            obtain ⟨K, hK⟩ := endpoints_any wc w0.heap.size b _ r2 HR2.out
            have HKE := hideL hK
            have hva := view2_any wc w0.heap.size b _ r2 HR2.out
            obtain ⟨nk, hnk⟩ : ∃ n, K.length = n := ⟨_, rfl⟩
            have HNK := hideL hnk
            have hnkb : nk ≤ 1099511627776 := hnk ▸ hK.2.1
            clear hK hnk
            go_wp2_with (first
              | (go_at_call 9; refine hva.mono ?_; rintro e w1 ⟨v1, rfl, os, ho1, ho2, hb1, ho3⟩; obtain ⟨va, vc, rfl⟩ := ho1.form; have HO1 := hideL ho1; have HO2 := hideL ho2; have HO3 := hideL ho3; have HB1 := hideL hb1; have hvb := view_any w1 w0.heap.size b _ r2 (HR2.out.below hb1); clear ho1 ho2 ho3 hb1 hva)
              | (go_at_call 9; refine hvb.mono ?_; rintro e w2 ⟨v2, rfl, ps, hp1, hp2, hb2⟩; obtain ⟨vb, ve, rfl⟩ := hp1.form; have HP1 := hideL hp1; have HP2 := hideL hp2; have HB2 := hideL hb2; have hec := HKE.out.2.2 w2 (HB1.out.trans (hb2.mono HB1.out.size)); clear hp1 hp2 hb2 hvb)
              | (go_at_call 16; refine hec.mono ?_; rintro e w3 ⟨v3, rfl, hc1, hb3⟩; obtain ⟨ca, cc, rfl, _⟩ := own_form hc1; have HC1 := hideL hc1; have HB3 := hideL hb3; have hed := HKE.out.2.2 w3 ((HB1.out.trans (HB2.out.mono HB1.out.size)).trans (hb3.mono (HB1.out.trans (HB2.out.mono HB1.out.size)).size)); clear hc1 hb3 hec)
              | (go_at_call 16; refine hed.mono ?_; rintro e w4 ⟨v4, rfl, hd1, hb4⟩; obtain ⟨da, dc, rfl, _⟩ := own_form hd1; have HD1 := hideL hd1; have HB4 := hideL hb4; clear hd1 hb4 hed))
            have z1 := HB1.out.size
            have z2 := HB2.out.size
            have z3 := HB3.out.size
            have z4 := HB4.out.size
            obtain ⟨n, hn⟩ : ∃ n, os.length = n := ⟨_, rfl⟩
            have hnb : n ≤ 1048576 := hn ▸ HO1.out.le
            have HVS : Hid (Vs w4 wc.heap.size w1.heap.size va n vc os) := by
              have h1 := HO1.out
              rw [hn] at h1
              have hv : Vs w1 wc.heap.size w1.heap.size va n vc os := ⟨h1, hn, HO3.out, fun o ho k hk => ((h1.each o ho).own.lt k hk).2, fun k hk => (h1.row.lt k (by rw [hn] at *; exact hk)).2⟩
              exact ((hv.below HB2.out).below HB3.out).below HB4.out
            rw [hn]
            clear hn HO1
            have HI0 : Hid (In1 wc.heap.size w1.heap.size 0 0 w4 w4 va n vc 0 os) := hideL ⟨HVS.out, fun k' m' o hk => by omega, Spo.refl _ _ _ _ _⟩
            clear HVS
            obtain ⟨i9, hi9, hy0, hy1, hy2⟩ := info_parts Try.info9
            obtain ⟨i47, hi47, hx0, hx1, hx2⟩ := info_parts Try.info47
            go_loopw [14] (fun t wr => ∃ (k : Nat) (qs : List Hx), t = .int .i64 k ∧ k ≤ n ∧ In1 wc.heap.size w1.heap.size 0 0 w4 wr va n vc k qs) (fun t _ => n - (intOf t).toNat)
            case atStart => exact ⟨0, os, rfl, by omega, HI0.out⟩
            case round =>
              obtain ⟨k, qs, rfl, hk, hi1⟩ := hrel
              have k0 : (0 : Int) ≤ k := by omega
              have HI1 := hideL hi1
              clear hi1 HI0
              by_cases h4 : k < n
              · have h4' : (k : Int) < n := by omega
                rcases hkk : qs[k]? with _ | o
                · have := List.getElem?_eq_none_iff.1 hkk; have := HI1.out.vs.len; omega
                have hlb := (HI1.out.vs.ov.each o (List.mem_of_getElem? hkk)).le
                have hi2 := In2.start HI1.out hkk
                obtain ⟨l, hll⟩ : ∃ l, o.eps.length = l := ⟨_, rfl⟩
                obtain ⟨oa, hoa⟩ : ∃ a, o.ea = a := ⟨_, rfl⟩
                obtain ⟨oc, hoc⟩ : ∃ a, o.ec = a := ⟨_, rfl⟩
                rw [hll, hoa, hoc] at hi2
                rw [hll] at hlb
                have HI2 := hideL hi2
                obtain ⟨g2, off2, rfl, d1⟩ := hi2.cell
                clear hkk hll hoa hoc hi2
                go_wp2_with fail
                go_loopw [15] (fun t wi => ∃ (m2 : Nat) (ps2 : List Hx) (o2 : Hx), t = .int .i64 m2 ∧ m2 ≤ l ∧ In2 wc.heap.size w1.heap.size 0 0 w4 wi (some ⟨g2, off2, none⟩) n vc k m2 l oa oc ps2 o2) (fun t _ => l - (intOf t).toNat)
                case atStart => exact ⟨0, qs, o, rfl, by omega, HI2.out⟩
                case round =>
                  obtain ⟨m2, ps2, o2, rfl, hm2, hi2⟩ := hrel
                  have m0 : (0 : Int) ≤ m2 := by omega
                  have HJ2 := hideL hi2
                  obtain ⟨g3, off3, e3, d1⟩ := hi2.cell
                  cases e3
                  clear hi2 HI1 HI2
                  by_cases h5 : m2 < l
                  · have h5' : (m2 : Int) < l := by omega
                    obtain ⟨g4, t0, rfl, y0, hfz⟩ := HJ2.out.at_ h5

                    have t1 := tmod26 k
                    have t2 := tmod26 m2
                    have t3 := wrapU8 (97 + k % 26) (by omega)
                    have t4 := wrapU8 (97 + m2 % 26) (by omega)
                    have t5 : (97 : Int) + ((k % 26 : Nat) : Int) = ((97 + k % 26 : Nat) : Int) := by omega
                    have t6 : (97 : Int) + ((m2 % 26 : Nat) : Int) = ((97 + m2 % 26 : Nat) : Int) := by omega
                    obtain ⟨A, hA⟩ : ∃ A, 97 + k % 26 = A := ⟨_, rfl⟩
                    obtain ⟨B, hB⟩ : ∃ A, 97 + m2 % 26 = A := ⟨_, rfl⟩
                    have hAb : A ≤ 122 := by omega
                    have hBb : B ≤ 122 := by omega
                    have HTX : Hid (txT k m2 = txAB A B) := by unfold Hid txT; rw [hA, hB]
                    rw [hA] at t3 t5
                    rw [hB] at t4 t6
                    obtain ⟨k6, hk6⟩ : ∃ x : Int, ((k % 26 : Nat) : Int) = x := ⟨_, rfl⟩
                    obtain ⟨m6, hm6⟩ : ∃ x : Int, ((m2 % 26 : Nat) : Int) = x := ⟨_, rfl⟩
                    have k60 : 0 ≤ k6 ∧ k6 ≤ 25 := by omega
                    have m60 : 0 ≤ m6 ∧ m6 ≤ 25 := by omega
                    rw [hk6] at t1 t5
                    rw [hm6] at t2 t6
                    clear hA hB hk6 hm6
                    have t7 := wrapI A (by omega)
                    have t8 := wrapI B (by omega)
                    have hcv := conv2 ((wr.alloc (Obj.cells #[.int .u8 A, .int .u8 B] 5)).drew) wr.heap.size A B (by omega) (by omega) (by simp) (by simp)
                    have y1 : (wr.alloc (Obj.cells #[.int .u8 A, .int .u8 B] 5)).cell? ⟨g4, m2, none⟩ = some (.string t0) := cell_al y0
                    have y3 : (wr.alloc (Obj.cells #[.int .u8 A, .int .u8 B] 5)).cell? ⟨g2, off2 + k * 2 + 1, none⟩ = some (.slice (some ⟨g4, 0, none⟩) l oc) := cell_al d1
                    have y2 : ∀ o, (wr.alloc (Obj.cells #[.int .u8 A, .int .u8 B] 5)).frozen? ⟨g4, o, none⟩ = false := fun o => frozen_al (show g4 < wr.heap.size from lt_cell y0) (hfz o)
                    go_wp2_with fail
                    refine wp_region_noPanic ?_
                    go_region_law (fail)
                    all_goals
                      refine NoPanic.normal ?_
                      go_wp2_with fail
                      go_roundw
                      case rel =>
                        obtain ⟨qs', o', hst⟩ := HJ2.out.step h5 (Obj.cells #[.int .u8 A, .int .u8 B] 5)
                        rw [HTX.out] at hst
                        exact ⟨m2 + 1, qs', o', by go_num, by omega, hst⟩
                      case measure => simp [intOf]; omega
                  · have h5' : ¬ (m2 : Int) < l := by omega
                    obtain rfl : m2 = l := by omega
                    go_wp2_with fail
                    go_roundw
                    case rel => exact ⟨k + 1, ps2, by go_num, by omega, HJ2.out.stop⟩
                    case measure => simp [intOf]; omega
              · have h4' : ¬ (k : Int) < n := by omega
                obtain rfl : n = k := by omega
                have HQS := hideL HI1.out.stop.1
                have HI3 := hideL HI1.out.stop.2
                clear HI1
                go_wp2_with fail
                go_loopw [16] (fun t wr => ∃ (k : Nat), t = .int .i64 k ∧ k ≤ n ∧ In3 wc.heap.size w1.heap.size 0 0 w4 wr va n vc k qs) (fun t _ => n - (intOf t).toNat)
                case atStart => exact ⟨0, rfl, by omega, HI3.out⟩
                case round =>
                  obtain ⟨k, rfl, hk, hi3⟩ := hrel
                  have k0 : (0 : Int) ≤ k := by omega
                  have HJ3 := hideL hi3
                  clear hi3 HI3
                  by_cases h4 : k < n
                  · have h4' : (k : Int) < n := by omega
                    rcases hkk : qs[k]? with _ | o
                    · have := List.getElem?_eq_none_iff.1 hkk; have := HQS.out.len; omega
                    have HOO := hideL (HJ3.out.each k o (Nat.le_refl _) hkk)
                    have HKK := hideL hkk
                    obtain ⟨g2, rfl, d0, d1, dz⟩ := HJ3.out.at_ hkk h4
                    have hlb := HOO.out.le
                    obtain ⟨l, hll⟩ : ∃ l, o.eps.length = l := ⟨_, rfl⟩
                    obtain ⟨oa, hoa⟩ : ∃ a, o.ea = a := ⟨_, rfl⟩
                    obtain ⟨oc, hoc⟩ : ∃ a, o.ec = a := ⟨_, rfl⟩
                    have HOW : Hid (wr.ownsRow wc.heap.size 9 1 (.slice oa l oc) l (rowsOf strR o.eps)) := by
                      have := HOO.out.own
                      rw [hll, hoa, hoc] at this
                      exact this
                    rw [hll, hoa, hoc] at d1
                    rw [hll] at hlb
                    have HLE := hideL (And.intro hll (And.intro hoa hoc))
                    clear hkk hll hoa hoc d0 dz
                    go_wp2_with fail
                    go_loopw [17] (fun t wi => ∃ (m2 : Nat), t = .int .i64 m2 ∧ m2 ≤ l ∧ Below wr.heap.size wr wi) (fun t _ => l - (intOf t).toNat)
                    case atStart => exact ⟨0, rfl, by omega, Below.refl _ _⟩
                    case round =>
                      obtain ⟨m2, rfl, hm2, hbi⟩ := hrel
                      have m0 : (0 : Int) ≤ m2 := by omega
                      have HBI := hideL hbi
                      replace d1 := cell_of_below hbi d1
                      clear hbi
                      by_cases h5 : m2 < l
                      · have h5' : (m2 : Int) < l := by omega
                        obtain ⟨g4, rfl, hg4, hcel, hfz⟩ := own_at HLE.out.1 (own_stay HOW.out HBI.out) h5
                        have y0 := hcel _ (HQS.out.tx k m2 o HKK.out (by have := HLE.out.1; omega))

                        have t1 := tmod26 k
                        have t2 := tmod26 m2
                        have t3 := wrapU8 (97 + k % 26) (by omega)
                        have t4 := wrapU8 (97 + m2 % 26) (by omega)
                        have t5 : (97 : Int) + ((k % 26 : Nat) : Int) = ((97 + k % 26 : Nat) : Int) := by omega
                        have t6 : (97 : Int) + ((m2 % 26 : Nat) : Int) = ((97 + m2 % 26 : Nat) : Int) := by omega
                        obtain ⟨A, hA⟩ : ∃ A, 97 + k % 26 = A := ⟨_, rfl⟩
                        obtain ⟨B, hB⟩ : ∃ A, 97 + m2 % 26 = A := ⟨_, rfl⟩
                        have hAb : A ≤ 122 := by omega
                        have hBb : B ≤ 122 := by omega
                        have HTX : Hid (txT k m2 = txAB A B) := by unfold Hid txT; rw [hA, hB]
                        rw [hA] at t3 t5
                        rw [hB] at t4 t6
                        obtain ⟨k6, hk6⟩ : ∃ x : Int, ((k % 26 : Nat) : Int) = x := ⟨_, rfl⟩
                        obtain ⟨m6, hm6⟩ : ∃ x : Int, ((m2 % 26 : Nat) : Int) = x := ⟨_, rfl⟩
                        have k60 : 0 ≤ k6 ∧ k6 ≤ 25 := by omega
                        have m60 : 0 ≤ m6 ∧ m6 ≤ 25 := by omega
                        rw [hk6] at t1 t5
                        rw [hm6] at t2 t6
                        clear hA hB hk6 hm6
                        have t7 := wrapI A (by omega)
                        have t8 := wrapI B (by omega)
                        have hcv := conv2 ((wr.alloc (Obj.cells #[.int .u8 A, .int .u8 B] 5)).drew) wr.heap.size A B (by omega) (by omega) (by simp) (by simp)
                        rw [HTX.out] at y0
                        have y1 : (wr.alloc (Obj.cells #[.int .u8 A, .int .u8 B] 5)).cell? ⟨g4, m2, none⟩ = some (.string (txAB A B)) := cell_al y0
                        have y3 : (wr.alloc (Obj.cells #[.int .u8 A, .int .u8 B] 5)).cell? ⟨g2, k * 2 + 1, none⟩ = some (.slice (some ⟨g4, 0, none⟩) l oc) := cell_al d1
                        clear hfz
                        go_wp2_with fail
                        refine wp_region_noPanic ?_
                        go_region_law (fail)
                        all_goals
                          refine NoPanic.normal ?_
                          go_wp2_with fail
                          go_roundw
                          case rel => exact ⟨m2 + 1, by go_num, by omega, HBI.out.trans (((Gr.alloc _ _).trans (Gr.drewN _ 1)).below.mono HBI.out.size)⟩
                          case measure => simp [intOf]; omega
                      · have h5' : ¬ (m2 : Int) < l := by omega
                        obtain rfl : m2 = l := by omega
                        have HJ4 := hideL (HJ3.out.below HBI.out)
                        have HOW4 := hideL (own_stay HOW.out HBI.out)
                        have HOD : Hid ((wr.alloc (Obj.cells #[.string ⟨#[109, 111, 114, 101]⟩, .string ⟨#[109, 111, 114, 101]⟩] 9)).ownsRow wc.heap.size 9 1 (.slice oa m2 oc) m2 (rowsOf strR o.eps)) := HOW4.out.alloc _
                        have HND : Hid (∀ j u, more2[j]? = some u → (wr.alloc (Obj.cells #[.string ⟨#[109, 111, 114, 101]⟩, .string ⟨#[109, 111, 114, 101]⟩] 9)).cell? ((⟨wr.heap.size, 0, none⟩ : Addr).add j) = some u) := World.news_of_block (w := (wr.alloc (Obj.cells #[.string ⟨#[109, 111, 114, 101]⟩, .string ⟨#[109, 111, 114, 101]⟩] 9))) (Go.heap_alloc_new wr _)
                        have hszD : wc.heap.size ≤ (wr.alloc (Obj.cells #[.string ⟨#[109, 111, 114, 101]⟩, .string ⟨#[109, 111, 114, 101]⟩] 9)).heap.size := by
                          have h1 := HJ4.out.sp.size
                          have h2 : wr.heap.size ≤ (wr.alloc (Obj.cells #[.string ⟨#[109, 111, 114, 101]⟩, .string ⟨#[109, 111, 114, 101]⟩] 9)).heap.size := by simp
                          omega
                        have hlm : m2 + 2 ≤ maxLen := by unfold maxLen; omega
                        have hlb2 : (m2 + 2) * 16 ≤ 140737488355328 := by omega
                        go_wp2_with (at_builtin; refine wpList_append_at _ rfl (.tmp 155) (.tmp 156) 40 rfl wc.heap.size 9 i9 _ 1 16 Try.underlying40 hi9 hy0 hy1 hy2 rfl (by decide) (.slice oa m2 oc) m2 (rowsOf strR o.eps) rfl HOD.out ⟨wr.heap.size, 0, none⟩ 2 2 more2 rfl rfl HND.out more2_one hlm hlb2 hszD ?_; intro v5 w5 hown5 hgrow5 hat5; obtain ⟨a5, c5, rfl, _⟩ := own_form hown5; have hst := HJ4.out.step (mm := 0) HQS.out HKK.out (by rw [HLE.out.1, HLE.out.2.1, HLE.out.2.2]; exact hgrow5) (.slice a5 (m2 + 2) c5) (.string ⟨#[115, 112, 111, 105, 108, 116]⟩); obtain ⟨⟨s1, s2, s3⟩, hst2⟩ := hst; have HST := hideL hst2; clear hown5 hgrow5 hat5 hst2)
                        go_roundw
                        case rel => exact ⟨k + 1, by go_num, by omega, HST.out⟩
                        case measure => simp [intOf]; omega
                  · have h4' : ¬ (k : Int) < n := by omega
                    obtain rfl : n = k := by omega
                    obtain ⟨xs, hxs, -⟩ := HJ3.out.row
                    have HXS := hideL hxs
                    have HSP := hideL HJ3.out.sp
                    obtain ⟨_, _, _, _⟩ := own_form hxs
                    clear hxs
                    have HOD : Hid ((wr.alloc (Obj.cells #[.string ⟨#[]⟩, .slice none 0 0, .string ⟨#[]⟩, .slice none 0 0] 47)).ownsRow wc.heap.size 47 2 (.slice va n vc) n xs) := HXS.out.alloc _
                    have HND : Hid (∀ j u, bare2[j]? = some u → (wr.alloc (Obj.cells #[.string ⟨#[]⟩, .slice none 0 0, .string ⟨#[]⟩, .slice none 0 0] 47)).cell? ((⟨wr.heap.size, 0, none⟩ : Addr).add j) = some u) := World.news_of_block (w := (wr.alloc (Obj.cells #[.string ⟨#[]⟩, .slice none 0 0, .string ⟨#[]⟩, .slice none 0 0] 47))) (Go.heap_alloc_new wr _)
                    have hszD : wc.heap.size ≤ (wr.alloc (Obj.cells #[.string ⟨#[]⟩, .slice none 0 0, .string ⟨#[]⟩, .slice none 0 0] 47)).heap.size := by
                      have h1 := HSP.out.size
                      have h2 : wr.heap.size ≤ (wr.alloc (Obj.cells #[.string ⟨#[]⟩, .slice none 0 0, .string ⟨#[]⟩, .slice none 0 0] 47)).heap.size := by simp
                      omega
                    have hlm : n + 2 ≤ maxLen := by unfold maxLen; omega
                    have hlb2 : (n + 2) * 40 ≤ 140737488355328 := by omega
                    go_wp2_with (at_builtin; refine wpList_append_at _ rfl (.tmp 164) (.tmp 167) 29 rfl wc.heap.size 47 i47 _ 2 40 Try.underlying29 hi47 hx0 hx1 hx2 rfl (by decide) (.slice va n vc) n xs rfl HOD.out ⟨wr.heap.size, 0, none⟩ 2 2 bare2 rfl rfl HND.out bare2_one hlm hlb2 hszD ?_; intro v6 w6 hown6 hgrow6 hat6; obtain ⟨a6, c6, rfl, _⟩ := own_form hown6; have HSP6 := hideL (HSP.out.grow (mm := 0) hgrow6 (fun k' hk' => .inl ⟨(HXS.out.lt k' hk').1, HQS.out.rb k' hk'⟩)); clear hown6 hgrow6 hat6)
                    have HCB : Hid (∀ k', (Value.slice ca K.length cc).ownBlock = some k' → w2.heap.size ≤ k' ∧ k' < w3.heap.size) := fun k' hk' => HC1.out.lt k' hk'
                    have HCR : Hid (w6.ownsRow w2.heap.size 9 1 (.slice ca K.length cc) K.length (rowsOf strR K)) := HSP6.out.row (own_stay HC1.out HB4.out) (fun k' hk' => by have := HCB.out k' hk'; unfold Wri; omega)
                    have HSW : Hid (Spo wc.heap.size w1.heap.size w2.heap.size w3.heap.size w4 w6) := HSP6.out.wide
                    have hnk := HNK.out
                    rw [hnk] at HCR HCB HD1 ⊢
                    clear hnk HC1 HSP6 HXS HQS HJ3 hszD hlm hlb2
                    go_loopw [18] (fun t wj => ∃ (k : Nat) (xs : List Value), t = .int .i64 k ∧ k ≤ nk ∧ wj.ownsRow w2.heap.size 9 1 (.slice ca nk cc) nk xs ∧ Spo wc.heap.size w1.heap.size w2.heap.size w3.heap.size w4 wj) (fun t _ => nk - (intOf t).toNat)
                    case atStart => exact ⟨0, _, rfl, by omega, HCR.out, HSW.out⟩
                    case round =>
                      obtain ⟨k, xs, rfl, hk, hrow, hsp⟩ := hrel
                      have k0 : (0 : Int) ≤ k := by omega
                      have HRW := hideL hrow
                      have HSW2 := hideL hsp
                      clear hrow hsp HCR HSW
                      by_cases h4 : k < nk
                      · have h4' : (k : Int) < nk := by omega
                        obtain ⟨g5, u5, rfl, hg5, y0, yz⟩ := own_any1 HRW.out h4
                        go_wp2_with fail
                        go_roundw
                        case rel => exact ⟨k + 1, _, by go_num, by omega, own_putV HRW.out k _, HSW2.out.but (.inr (.inl (HCB.out g5 rfl))) (But.set k _)⟩
                        case measure => simp [intOf]; omega
                      · have h4' : ¬ (k : Int) < nk := by omega
                        obtain rfl : nk = k := by omega
                        have HOD : Hid ((wr.alloc (Obj.cells #[.string ⟨#[109, 111, 114, 101]⟩, .string ⟨#[109, 111, 114, 101]⟩] 9)).ownsRow w2.heap.size 9 1 (.slice ca nk cc) nk xs) := HRW.out.alloc _
                        have HND : Hid (∀ j u, more2[j]? = some u → (wr.alloc (Obj.cells #[.string ⟨#[109, 111, 114, 101]⟩, .string ⟨#[109, 111, 114, 101]⟩] 9)).cell? ((⟨wr.heap.size, 0, none⟩ : Addr).add j) = some u) := World.news_of_block (w := (wr.alloc (Obj.cells #[.string ⟨#[109, 111, 114, 101]⟩, .string ⟨#[109, 111, 114, 101]⟩] 9))) (Go.heap_alloc_new wr _)
                        have hszD : w2.heap.size ≤ (wr.alloc (Obj.cells #[.string ⟨#[109, 111, 114, 101]⟩, .string ⟨#[109, 111, 114, 101]⟩] 9)).heap.size := by
                          have h1 := HSW2.out.size
                          have h2 : wr.heap.size ≤ (wr.alloc (Obj.cells #[.string ⟨#[109, 111, 114, 101]⟩, .string ⟨#[109, 111, 114, 101]⟩] 9)).heap.size := by simp
                          omega
                        have hlm : nk + 2 ≤ maxLen := by unfold maxLen; omega
                        have hlb2 : (nk + 2) * 16 ≤ 140737488355328 := by omega
                        have n20 : ¬ ((n : Int) + 2 < 2) := by omega
                        have n21 : ¬ ((nk : Int) + 2 < 2) := by omega
                        have HB14 : Hid (Below wc.heap.size wc w4) := HB1.out.trans ((HB2.out.trans ((HB3.out.trans (HB4.out.mono (by omega))).mono (by omega))).mono (by omega))
                        have HB24 : Hid (Below w2.heap.size w2 w4) := HB3.out.trans (HB4.out.mono (by omega))
                        go_wp2_with (first
                          | (at_builtin; refine wpList_append_at _ rfl (.tmp 178) (.tmp 179) 40 rfl w2.heap.size 9 i9 _ 1 16 Try.underlying40 hi9 hy0 hy1 hy2 rfl (by decide) (.slice ca nk cc) nk xs rfl HOD.out ⟨wr.heap.size, 0, none⟩ 2 2 more2 rfl rfl HND.out more2_one hlm hlb2 hszD ?_; intro v8 w8 hown8 hgrow8 hat8; obtain ⟨a8, c8, rfl, _⟩ := own_form hown8; have HSP8 := hideL (HSW2.out.grow (mm := 0) hgrow8 (fun k' hk' => .inr (.inl (HCB.out k' hk')))); have HU8 : Hid (Below wc.heap.size wc w8) := (hideL (HB14.out.trans (HSP8.out.under (by omega) (by omega)))); have hv8 := view_any w8 w0.heap.size b _ r2 (HR2.out.below HU8.out); have HPS8 : Hid (Ov w8 w1.heap.size 47 (.slice vb ps.length ve) ps) := (hideL (HP1.out.keep (fun k' cs t hk' hc ht => (HSP8.out.old k' (by have := lt_of_block hc; omega) (by have := lt_of_block hc; unfold Wri; omega)).trans (HB24.out.block k' (lt_of_block hc))))); have HDR8 := hideL (HSP8.out.row HD1.out (fun k' hk' => by have := HD1.out.lt k' hk'; unfold Wri; omega)); clear hown8 hgrow8 hat8)
                          | (go_at_call 9; refine hv8.mono ?_; rintro e w9 ⟨v9, rfl, os9, ho9, hs9, hb9⟩; obtain ⟨v9a, v9c, rfl⟩ := ho9.form; have HSA := hideL (rsame_any w9 _ _ 47 47 v9a vb _ _ v9c ve os9 ps rfl rfl ho9 (HPS8.out.below hb9)); have HS9 := hideL hs9; have HU9 := hideL (HU8.out.trans (hb9.mono HU8.out.size)); have HDR9 := hideL (own_stay HDR8.out hb9); clear ho9 hs9 hb9 hv8)
                          | (go_at_call 12; refine HSA.out.mono ?_; rintro e w10 ⟨⟨t, rfl, ht⟩, q, rfl⟩; obtain rfl : t = true := ht.2 (by rw [HS9.out, HP2.out]); have HU10 := hideL (HU9.out.trans ((Gr.drewN w9 q).below.mono HU9.out.size)); have hec := HKE.out.2.2 (w9.drewN q) HU10.out; rw [HNK.out] at hec; have HDR10 := hideL (own_stay HDR9.out (Gr.drewN w9 q).below); clear ht HSA)
                          | (go_at_call 16; refine hec.mono ?_; rintro e w11 ⟨v11, rfl, hr11, hb11⟩; obtain ⟨a11, c11, rfl, _⟩ := own_form hr11; have HTX := hideL (texts_any w11 a11 da nk nk c11 dc K K HNK.out HNK.out hnkb (own_cel strR 1 strR_len (by decide) hr11) (own_cel strR 1 strR_len (by decide) (own_stay HDR10.out hb11))); have HU11 := hideL (HU10.out.trans (hb11.mono HU10.out.size)); clear hr11 hb11 hec)
                          | (go_at_call 15; refine HTX.out.mono ?_; rintro e w12 ⟨⟨t, rfl, ht⟩, q2, rfl⟩; obtain rfl : t = true := ht.2 (by first | rfl | trivial); have HU12 := hideL (HU11.out.trans ((Gr.drewN w11 q2).below.mono HU11.out.size)); clear ht HTX))
                        go_roundw
                        case rel => exact ⟨i + 1, r2, by go_num, by omega, by rw [show 2 * (i + 1) = 2 * i + 2 by omega]; exact HR2.out.below HU12.out, HBD.out.trans (HU12.out.mono HBD.out.size)⟩
                        case measure => simp [intOf]; omega
      · have h3' : ¬ (i : Int) < m := by omega
        go_wp2
        go_ret
        exact ⟨rfl, HB.out⟩
  · have hn := fun W => newR_no ri fa W hri hfa hT
    clear hT
    go_enter Try.func5, Try.ntmps5
    go_wp2_with (first
      | (go_at_call 6; refine haw.mono ?_; rintro e w0 ⟨rfl, hb⟩; have HB0 := hideL hb; clear hb haw)
      | (go_at_call 7; refine (hn w0).mono ?_; rintro e w' ⟨rfl, hw⟩; have hw := hw.symm; subst hw))
    go_ret
    exact ⟨rfl, HB0.out⟩
end Go.Proofs.Ytidpglbokpgpbaa
