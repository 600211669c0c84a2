/- The law RegistryEpochs. -/
import Derived.Test.YtidpglbokpgpbaaCl
import Derived.Deep.RegionLaw
namespace Go.Proofs.Ytidpglbokpgpbaa
open Go.RowKit
set_option linter.unusedVariables false
set_option linter.unusedSimpArgs false
set_option maxRecDepth 100000
set_option maxHeartbeats 32000000 in
theorem epochs_any (w : World) (ri fa : Int) (a : Option Addr) (m c : Nat) (L : List Cl) (hri : -9223372036854775808 ≤ ri ∧ ri ≤ 9223372036854775807) (hfa : -9223372036854775808 ≤ fa ∧ fa ≤ 9223372036854775807) (hm : L.length = m) (hl : m ≤ 300000) (hL : Lc w a L) :
    Calls Try.prog 3 #[.int .i64 ri, .int .i64 fa, .slice a m c] w fun e w' => e = .returned (.bool true) ∧ Below w.heap.size w w' := by
  have HL := hideL hL
  have HM := hideL hm
  have haw := awake_any w
  clear hL hm
  by_cases hT : okT ri fa
  · have hn := fun W => newR_ok ri fa W hT
    clear hT hri hfa
    go_enter Try.func3, Try.ntmps3
    go_wp2_with (first
      | (go_at_call 6; refine haw.mono ?_; rintro e w0 ⟨rfl, hb⟩; have HB0 := hideL hb; clear hb haw)
      | (go_at_call 7; refine (hn w0).mono ?_; rintro e w1 ⟨b, rfl, hr, hb⟩; have HR1 := hideL hr; have HB1 := hideL (HB0.out.trans (hb.mono HB0.out.size)); have HBW := hideL HB0.out.size; clear hr hb hn))
    go_loopw [9] (fun t wr => ∃ (i : Nat) (r : Rg), t = .int .i64 i ∧ i ≤ m ∧ Rr wr w0.heap.size b (2 * i) r ∧ Below w.heap.size w wr) (fun t _ => m - (intOf t).toNat)
    case atStart => exact ⟨0, _, rfl, by omega, HR1.out, HB1.out⟩
    case round =>
      obtain ⟨i, r, rfl, hi, hr, hbel⟩ := hrel
      have i0 : (0 : Int) ≤ i := by omega
      have HR := hideL hr
      have HB := hideL hbel
      clear hr hbel HR1 HB1
      by_cases h3 : i < m
      · have h3' : (i : Int) < m := by omega
        rcases hki : L[i]? with _ | x
        · have := List.getElem?_eq_none_iff.1 hki; have := HM.out; omega
        have HD : Hid (∀ W, Below w.heap.size w W → Lc W a L) := fun W hW => HL.out.below hW
        have HX := hideL (HL.out.each x (List.mem_of_getElem? hki))
        have HK := hideL hki
        obtain ⟨g, off, rfl, -⟩ := HL.out.at_ hki
        have HC : Hid (∀ W, Below w.heap.size w W → W.cell? ⟨g, off + i * 5, none⟩ = some (.int .i64 x.kd) ∧ W.cell? ⟨g, off + i * 5 + 1, none⟩ = some (.slice x.sa x.sv.length x.sc) ∧ W.cell? ⟨g, off + i * 5 + 2, none⟩ = some (.string x.en) ∧ W.cell? ⟨g, off + i * 5 + 3, none⟩ = some (.bool x.ok) ∧ W.cell? ⟨g, off + i * 5 + 4, none⟩ = some (.float .f64 x.tk)) := fun W hW => by
          obtain ⟨g', off', e, h⟩ := (HD.out W hW).at_ HK.out
          cases e; exact h
        have hep := epoch_any wr w0.heap.size b _ r HR.out
        obtain ⟨p, hp⟩ : ∃ p : Int, (r.ep : Int) = p := ⟨_, rfl⟩
        have hp2 : 0 ≤ p ∧ p ≤ 800000 := by have := HR.out.ep; omega
        rw [hp] at hep
        have HP := hideL hp
        have hvw := view_any wr w0.heap.size b _ r HR.out
        obtain ⟨kd, hkd⟩ : ∃ k, x.kd = k := ⟨_, rfl⟩
        have HKD := hideL hkd
        clear hki hp hkd
        by_cases hk0 : kd = 0
        · subst hk0
          go_wp2_with (first
            | (go_at_call 8; refine hep.mono ?_; rintro e w' ⟨rfl, hw⟩; have hw := hw.symm; subst hw; clear hep)
            | (go_at_call 9; refine hvw.mono ?_; rintro e w1 ⟨v, rfl, os, hos, hsy, hb1⟩; obtain ⟨va, vc, rfl⟩ := hos.form; have HOS := hideL hos; have HSY := hideL hsy; have HB1 := hideL (HB.out.trans (hb1.mono HB.out.size)); have HR1 := hideL (HR.out.below hb1); obtain ⟨x0, x1, x2, x3, x4⟩ := HC.out w1 HB1.out; rw [HKD.out] at x0; have hset := setD w1 w0.heap.size b _ r HR1.out (by omega) x (HX.out.below HB1.out); clear hos hsy hb1 hvw))
          refine hset.mono ?_
          rintro e w2 ⟨k, rfl, r2, hd⟩
          have HDI := hideL hd
          clear hd hset x0 x1 x2 x3 x4
          have HB2 := hideL (HB1.out.trans ((HDI.out.below HR1.out.bs).mono HBW.out))
          have hvw2 := view_any w2 w0.heap.size b _ r2 HDI.out.rr
          have hepq := epoch_any w2 w0.heap.size b _ r2 HDI.out.rr
          obtain ⟨x0, x1, x2, x3, x4⟩ := HC.out w2 HB2.out
          rw [HKD.out] at x0
          rcases HDI.out.se with ⟨h1, h2⟩ | ⟨h1, h2⟩
          · have hep2 : Calls Try.prog 8 #[.pointer (some ⟨b, 0, none⟩)] w2 fun e w' => e = .returned (.int .i64 (p)) ∧ w' = w2 := by
              rw [h2] at hepq; have := HP.out; rw [this] at hepq; exact hepq
            have H1 := hideL h1
            clear h1 h2 hepq
            go_wp2_with (first
              | (go_at_call 8; refine hep2.mono ?_; rintro e w' ⟨rfl, hw⟩; have hw := hw.symm; subst hw; clear hep2)
              | (go_at_call 9; refine hvw2.mono ?_; rintro e w3 ⟨v2, rfl, os2, hos2, hsy2, hb3⟩; obtain ⟨va2, vc2, rfl⟩ := hos2.form; have HSA := hideL (rsame_any w3 _ _ 47 47 va va2 _ _ vc vc2 os os2 rfl rfl ((HDI.out.ov HOS.out).below hb3) hos2); have HSY2 := hideL hsy2; have HB3 := hideL (HB2.out.trans (hb3.mono HB2.out.size)); have HR3 := hideL (HDI.out.rr.below hb3); clear hos2 hsy2 hb3 hvw2)
              | (go_at_call 12; refine HSA.out.mono ?_; rintro e w4 ⟨⟨t, rfl, ht⟩, q, rfl⟩; obtain rfl : t = true := ht.2 (by rw [HSY.out, HSY2.out]; exact H1.out); clear ht))
            go_roundw
            case rel => exact ⟨i + 1, r2, by go_num, by omega, by rw [show 2 * (i + 1) = 2 * i + 2 by omega]; exact HR3.out.below (Gr.drewN _ _).below, HB3.out.trans ((Gr.drewN _ _).below.mono HB3.out.size)⟩
            case measure => simp [intOf]; omega
          · have hep2 : Calls Try.prog 8 #[.pointer (some ⟨b, 0, none⟩)] w2 fun e w' => e = .returned (.int .i64 (p + 1)) ∧ w' = w2 := by
              rw [h2] at hepq; have := HP.out; rw [show ((r.ep + 1 : Nat) : Int) = p + 1 by omega] at hepq; exact hepq
            have H1 := hideL h1
            clear h1 h2 hepq
            go_wp2_with (first
              | (go_at_call 8; refine hep2.mono ?_; rintro e w' ⟨rfl, hw⟩; have hw := hw.symm; subst hw; clear hep2)
              | (go_at_call 9; refine hvw2.mono ?_; rintro e w3 ⟨v2, rfl, os2, hos2, hsy2, hb3⟩; obtain ⟨va2, vc2, rfl⟩ := hos2.form; have HSA := hideL (rsame_any w3 _ _ 47 47 va va2 _ _ vc vc2 os os2 rfl rfl ((HDI.out.ov HOS.out).below hb3) hos2); have HSY2 := hideL hsy2; have HB3 := hideL (HB2.out.trans (hb3.mono HB2.out.size)); have HR3 := hideL (HDI.out.rr.below hb3); clear hos2 hsy2 hb3 hvw2)
              | (go_at_call 12; refine HSA.out.mono ?_; rintro e w4 ⟨⟨t, rfl, ht⟩, q, rfl⟩; obtain rfl : t = false := (by cases t; exact rfl; exact absurd (ht.1 rfl) (by rw [HSY.out, HSY2.out]; exact H1.out)); clear ht))
            go_roundw
            case rel => exact ⟨i + 1, r2, by go_num, by omega, by rw [show 2 * (i + 1) = 2 * i + 2 by omega]; exact HR3.out.below (Gr.drewN _ _).below, HB3.out.trans ((Gr.drewN _ _).below.mono HB3.out.size)⟩
            case measure => simp [intOf]; omega
        · by_cases hk1 : kd = 1
          · subst hk1
            go_wp2_with (first
              | (go_at_call 8; refine hep.mono ?_; rintro e w' ⟨rfl, hw⟩; have hw := hw.symm; subst hw; clear hep)
              | (go_at_call 9; refine hvw.mono ?_; rintro e w1 ⟨v, rfl, os, hos, hsy, hb1⟩; obtain ⟨va, vc, rfl⟩ := hos.form; have HOS := hideL hos; have HSY := hideL hsy; have HB1 := hideL (HB.out.trans (hb1.mono HB.out.size)); have HR1 := hideL (HR.out.below hb1); obtain ⟨x0, x1, x2, x3, x4⟩ := HC.out w1 HB1.out; rw [HKD.out] at x0; have HPR := hideL (probeD (w1.drewN 1) w0.heap.size b _ r (HR1.out.below (Gr.drewN _ _).below) (by omega) x ((HX.out.below HB1.out).below (Gr.drewN _ _).below)); clear hos hsy hb1 hvw))
            go_region_law (go_simp; go_at_call 11; refine HPR.out.mono ?_; rintro e w2 ⟨k, rfl, r2, hd⟩; have HDI := hideL hd.drew; clear hd)
            all_goals
              try refine NoPanic.normal ?_
              clear x0 x1 x2 x3 x4
              have HB2 := hideL (HB1.out.trans ((HDI.out.below HR1.out.bs).mono HBW.out))
              have hvw2 := view_any w2 w0.heap.size b _ r2 HDI.out.rr
              have hepq := epoch_any w2 w0.heap.size b _ r2 HDI.out.rr
              obtain ⟨x0, x1, x2, x3, x4⟩ := HC.out w2 HB2.out
              rw [HKD.out] at x0
              rcases HDI.out.se with ⟨h1, h2⟩ | ⟨h1, h2⟩
              · have hep2 : Calls Try.prog 8 #[.pointer (some ⟨b, 0, none⟩)] w2 fun e w' => e = .returned (.int .i64 (p)) ∧ w' = w2 := by
                  rw [h2] at hepq; have := HP.out; rw [this] at hepq; exact hepq
                have H1 := hideL h1
                clear h1 h2 hepq
                go_wp2_with (first
                  | (go_at_call 8; refine hep2.mono ?_; rintro e w' ⟨rfl, hw⟩; have hw := hw.symm; subst hw; clear hep2)
                  | (go_at_call 9; refine hvw2.mono ?_; rintro e w3 ⟨v2, rfl, os2, hos2, hsy2, hb3⟩; obtain ⟨va2, vc2, rfl⟩ := hos2.form; have HSA := hideL (rsame_any w3 _ _ 47 47 va va2 _ _ vc vc2 os os2 rfl rfl ((HDI.out.ov HOS.out).below hb3) hos2); have HSY2 := hideL hsy2; have HB3 := hideL (HB2.out.trans (hb3.mono HB2.out.size)); have HR3 := hideL (HDI.out.rr.below hb3); clear hos2 hsy2 hb3 hvw2)
                  | (go_at_call 12; refine HSA.out.mono ?_; rintro e w4 ⟨⟨t, rfl, ht⟩, q, rfl⟩; obtain rfl : t = true := ht.2 (by rw [HSY.out, HSY2.out]; exact H1.out); clear ht))
                go_roundw
                case rel => exact ⟨i + 1, r2, by go_num, by omega, by rw [show 2 * (i + 1) = 2 * i + 2 by omega]; exact HR3.out.below (Gr.drewN _ _).below, HB3.out.trans ((Gr.drewN _ _).below.mono HB3.out.size)⟩
                case measure => simp [intOf]; omega
              · have hep2 : Calls Try.prog 8 #[.pointer (some ⟨b, 0, none⟩)] w2 fun e w' => e = .returned (.int .i64 (p + 1)) ∧ w' = w2 := by
                  rw [h2] at hepq; have := HP.out; rw [show ((r.ep + 1 : Nat) : Int) = p + 1 by omega] at hepq; exact hepq
                have H1 := hideL h1
                clear h1 h2 hepq
                go_wp2_with (first
                  | (go_at_call 8; refine hep2.mono ?_; rintro e w' ⟨rfl, hw⟩; have hw := hw.symm; subst hw; clear hep2)
                  | (go_at_call 9; refine hvw2.mono ?_; rintro e w3 ⟨v2, rfl, os2, hos2, hsy2, hb3⟩; obtain ⟨va2, vc2, rfl⟩ := hos2.form; have HSA := hideL (rsame_any w3 _ _ 47 47 va va2 _ _ vc vc2 os os2 rfl rfl ((HDI.out.ov HOS.out).below hb3) hos2); have HSY2 := hideL hsy2; have HB3 := hideL (HB2.out.trans (hb3.mono HB2.out.size)); have HR3 := hideL (HDI.out.rr.below hb3); clear hos2 hsy2 hb3 hvw2)
                  | (go_at_call 12; refine HSA.out.mono ?_; rintro e w4 ⟨⟨t, rfl, ht⟩, q, rfl⟩; obtain rfl : t = false := (by cases t; exact rfl; exact absurd (ht.1 rfl) (by rw [HSY.out, HSY2.out]; exact H1.out)); clear ht))
                go_roundw
                case rel => exact ⟨i + 1, r2, by go_num, by omega, by rw [show 2 * (i + 1) = 2 * i + 2 by omega]; exact HR3.out.below (Gr.drewN _ _).below, HB3.out.trans ((Gr.drewN _ _).below.mono HB3.out.size)⟩
                case measure => simp [intOf]; omega
          · have g0 : (kd == 0) = false := by simpa using hk0
            have g1 : (kd == 1) = false := by simpa using hk1
            go_wp2_with (first
              | (go_at_call 8; refine hep.mono ?_; rintro e w' ⟨rfl, hw⟩; have hw := hw.symm; subst hw; clear hep)
              | (go_at_call 9; refine hvw.mono ?_; rintro e w1 ⟨v, rfl, os, hos, hsy, hb1⟩; obtain ⟨va, vc, rfl⟩ := hos.form; have HOS := hideL hos; have HSY := hideL hsy; have HB1 := hideL (HB.out.trans (hb1.mono HB.out.size)); have HR1 := hideL (HR.out.below hb1); obtain ⟨x0, x1, x2, x3, x4⟩ := HC.out w1 HB1.out; rw [HKD.out] at x0; clear hos hsy hb1 hvw; have HDI : Hid (Did w1 w1 w0.heap.size b (2 * i + 2) r r) := hideL (Did.refl HR1.out (by omega)); have hvw2 := view_any w1 w0.heap.size b _ r HR1.out; have hep2 : Calls Try.prog 8 #[.pointer (some ⟨b, 0, none⟩)] w1 fun e w' => e = .returned (.int .i64 p) ∧ w' = w1 := (by have h := epoch_any w1 w0.heap.size b _ r HR1.out; have := HP.out; rw [this] at h; exact h))
              | (go_at_call 8; refine hep2.mono ?_; rintro e w' ⟨rfl, hw⟩; have hw := hw.symm; subst hw; clear hep2)
              | (go_at_call 9; refine hvw2.mono ?_; rintro e w3 ⟨v2, rfl, os2, hos2, hsy2, hb3⟩; obtain ⟨va2, vc2, rfl⟩ := hos2.form; have HSA := hideL (rsame_any w3 _ _ 47 47 va va2 _ _ vc vc2 os os2 rfl rfl ((HDI.out.ov HOS.out).below hb3) hos2); have HSY2 := hideL hsy2; have HB3 := hideL (HB1.out.trans (hb3.mono HB1.out.size)); have HR3 := hideL (HDI.out.rr.below hb3); clear hos2 hsy2 hb3 hvw2)
              | (go_at_call 12; refine HSA.out.mono ?_; rintro e w4 ⟨⟨t, rfl, ht⟩, q, rfl⟩; obtain rfl : t = true := ht.2 (by rw [HSY.out, HSY2.out]); clear ht))
            go_roundw
            case rel => exact ⟨i + 1, r, by go_num, by omega, by rw [show 2 * (i + 1) = 2 * i + 2 by omega]; exact HR3.out.below (Gr.drewN _ _).below, HB3.out.trans ((Gr.drewN _ _).below.mono HB3.out.size)⟩
            case measure => simp [intOf]; omega
      · have h3' : ¬ (i : Int) < m := by omega
        go_wp2
        go_ret
        exact ⟨rfl, HB.out⟩
  · have hn := fun W => newR_no ri fa W hri hfa hT
    clear hT
    go_enter Try.func3, Try.ntmps3
    go_wp2_with (first
      | (go_at_call 6; refine haw.mono ?_; rintro e w0 ⟨rfl, hb⟩; have HB0 := hideL hb; clear hb haw)
      | (go_at_call 7; refine (hn w0).mono ?_; rintro e w' ⟨rfl, hw⟩; have hw := hw.symm; subst hw))
    go_ret
    exact ⟨rfl, HB0.out⟩
end Go.Proofs.Ytidpglbokpgpbaa
