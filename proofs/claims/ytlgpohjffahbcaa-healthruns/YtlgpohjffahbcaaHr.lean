/- HealthRuns' walk. -/
import Derived.Test.YtlgpohjffahbcaaHq
namespace Go.Proofs.Ytlgpohjffahbcaa
open Go.RowKit Ieee
set_option linter.unusedVariables false
set_option linter.unusedSimpArgs false
theorem runs_nil_is (w : World) : Calls Try.prog 13 #[.pointer none, .pointer none] w fun e w' => e = .returned (.bool true) ∧ Below w.heap.size w w' := is_any _ _ none none w.heap.size [] w .nil .nil
set_option maxRecDepth 100000 in
set_option maxHeartbeats 4000000 in
theorem runs_any (r : Ru) (w : World) (hr : Rin w r) : Calls Try.prog 3 #[r.val] w fun e w' => e = .returned (.bool true) ∧ Below w.heap.size w w' := by
  obtain ⟨w1, hw1⟩ : ∃ w1, w.alloc (.cells #[.int .i64 r.rise, .int .i64 r.fall, .slice r.a r.L.length r.c, .int .i64 r.cp, .bool r.none] 24 (0, 0)) = w1 := ⟨_, rfl⟩
  have hB1 : Below w.heap.size w w1 := hw1 ▸ (Below.refl _ w).alloc (Nat.le_refl _) _
  have hk1 : Rb w1 w.heap.size r := (hw1 ▸ Go.heap_alloc_new w (.cells r.row 24 (0, 0)) : w1.heap[w.heap.size]? = some (.cells r.row 24 (0, 0)))
  have HB := hide2 hB1
  have HR := hide2 (hr.below hB1)
  have HK1 := hide2 hk1
  have hsz : w1.heap.size = w.heap.size + 1 := by rw [← hw1]; exact Array.size_push _
  have HSZ := hide2 hsz
  obtain ⟨m0, m1, m2, m3, m4⟩ := hk1.cells
  obtain ⟨n, hn⟩ : ∃ n, r.L.length = n := ⟨_, rfl⟩
  have HN := hide2 hn
  have hnl : n ≤ 140737488355328 := by rw [← hn]; exact hr.p.len
  unfold Ru.val
  rw [hn] at m2 ⊢
  rw [hn] at hw1
  by_cases hT : okT r.rise r.fall ∧ r.none = false
  · obtain ⟨hT, hno⟩ := hT
    have HTT := hide2 hT
    have hne := new_ok r.rise r.fall w1 hT
    rw [hno] at m4
    have HNO := hide2 hno
    clear hno
    clear hr hB1 hk1 hT hn hsz
    go_enter Try.func3, Try.ntmps3
    go_wp2_with fail
    refine hne.mono ?_
    rintro e w2 ⟨rfl, h2, hb2⟩
    have H2 := hide2 h2
    have HB2 := hide2 hb2
    have hrn := rnew_ok r.rise r.fall w2 HTT.out
    have n0 := cell_of_below hb2 m0
    have n1 := cell_of_below hb2 m1
    clear hne h2 hb2 m0 m1 hw1
    go_wp2_with fail
    refine hrn.mono ?_
    rintro e w3 ⟨rfl, h3, hb3⟩
    have hlt2 := lt_of_block H2.out
    have hLv : Lv w3 (w.heap.size + 1) w1.heap.size w2.heap.size [w2.heap.size] r.rise r.fall [] (.pointer none) (.pointer none) := by
      refine ⟨⟨(H2.out.below hb3 hlt2).pv, .at_ _ _ _ _ _ (h3 _ (by have := HSZ.out; omega)), fun k hk => ?_⟩, ⟨fun x hx => by cases hx; exact HTT.out, fun x hx => by cases hx; simp, fun x hx p hp => by cases hx; simp at hp⟩, .inl ⟨rfl, rfl⟩⟩
      cases hk
      exact ⟨by have := HSZ.out; omega, by simp; omega⟩
    have HLV := hide2 hLv
    have HB3 := hide2 (HB2.out.trans (hb3.mono HB2.out.size))
    have HCell : Hid (∀ wx, Below w1.heap.size w1 wx → wx.cell? ⟨w.heap.size, 2, none⟩ = some (.slice r.a n r.c) ∧ wx.cell? ⟨w.heap.size, 3, none⟩ = some (.int .i64 r.cp)) := fun wx hx => ⟨cell_of_below hx m2, cell_of_below hx m3⟩
    have n4 := cell_of_below HB3.out m4
    obtain ⟨b0, hb0⟩ : ∃ b0, w1.heap.size = b0 := ⟨_, rfl⟩
    obtain ⟨c, hc⟩ : ∃ c, w2.heap.size = c := ⟨_, rfl⟩
    have HBC := hide2 (And.intro hb0 hc)
    rw [hb0, hc] at hLv
    have HLV0 := hide2 hLv
    simp only [hb0, hc]
    clear hrn h3 hb3 n0 n1 m2 m3 m4 hlt2 hLv hb0 hc
    go_wp2_with fail
    go_loopw [3, 7, 8, 9] (fun t3 t7 t8 t9 wr => ∃ (k b : Nat), k ≤ n ∧ k ≤ 400 ∧ t3 = .pointer (some ⟨b, 0, none⟩) ∧ t9 = .int .i64 k ∧ Hid (∃ bs, Lv wr (w.heap.size + 1) b c bs r.rise r.fall (r.L.take k) t7 t8 ∧ Below w1.heap.size w1 wr)) (fun _ _ _ t9 _ => n - (intOf t9).toNat)
    case atStart => exact ⟨0, b0, by omega, by omega, rfl, rfl, (⟨_, HLV0.out, HB3.out⟩ : ∃ bs, Lv w3 (w.heap.size + 1) b0 c bs r.rise r.fall (r.L.take 0) (.pointer none) (.pointer none) ∧ Below w1.heap.size w1 w3)⟩
    case round =>
      obtain ⟨k, b, hk, hk4, rfl, rfl, HV⟩ := hrel
      obtain ⟨bs, hLr, hbr⟩ := HV.out
      have HLR := hide2 hLr
      have HBR := hide2 hbr
      have k0 : (0 : Int) ≤ k := by omega
      obtain ⟨d2, d3⟩ := HCell.out wr hbr
      by_cases hlt : k < n ∧ k < 400
      · obtain ⟨h1, h2⟩ := hlt
        obtain ⟨g, off, ha, q1, q2, hq⟩ := (HR.out.below hbr).p.at_ (k := k) (by have := HN.out; omega)
        obtain ⟨⟨ok, t⟩, hp⟩ : ∃ p, r.L.getD k (false, 0) = p := ⟨_, rfl⟩
        have HPP := hide2 hp
        rw [hp] at q1 q2 hq
        rw [ha] at d2
        obtain ⟨P, hP⟩ : ∃ P, wr.heap.size = P := ⟨_, rfl⟩
        obtain ⟨wp, hwp⟩ : ∃ wp, wr.alloc (.cells #[.bool ok, .float .f64 t] 34 (0, 0)) = wp := ⟨_, rfl⟩
        have hbp : Below wr.heap.size wr wp := hwp ▸ (Below.refl _ wr).alloc (Nat.le_refl _) _
        have hpb : wp.heap[P]? = some (.cells #[.bool ok, .float .f64 t] 34 (0, 0)) := by rw [← hwp, ← hP]; exact Go.heap_alloc_new _ _
        have hLd : Lv wp.drew (w.heap.size + 1) b c bs r.rise r.fall (r.L.take k) u7 u8 := hLr.below (hbp.trans (Below.refl _ _).drew)
        have HLD := hide2 hLd
        have hPb : P ≠ b ∧ P ∉ bs := ⟨by have := hLr.two.pv.lt b rfl; omega, fun hm => by have := (hLr.two.rd.lt P hm).2; omega⟩
        have HPB := hide2 (And.intro hpb hPb)
        have hB1 : Below w1.heap.size w1 wp.drew := hbr.trans ((hbp.trans (Below.refl _ _).drew).mono hbr.size)
        have HB1 := hide2 hB1
        obtain ⟨s, hs⟩ : ∃ s, runL (St.new r.rise r.fall) (r.L.take k) = s := ⟨_, rfl⟩
        have hst : stO (some (r.rise, r.fall, r.L.take k)) = some s := by rw [← hs]; rfl
        have HST := hide2 hst
        have hHs : Hs wp.drew b s := by
          have := hLd.two.pv
          rw [hst] at this
          cases this; assumption
        have hOs : Ok s 500 := hLd.okd.st s hst
        have HP1 := hide2 (probe_any b s 500 ok t wp.drew hHs hOs (by decide) hq)
        have m0 : wp.cell? ⟨P, 0, none⟩ = some (.bool ok) := by simp [World.cell?, hpb]
        have m1 : wp.cell? ⟨P, 1, none⟩ = some (.float .f64 t) := by simp [World.cell?, hpb]
        have HK := hide2 (And.intro h1 (And.intro h2 (And.intro hq hOs)))
        have k1 : (k : Int) < n := by omega
        have k2 : (k : Int) < 400 := by omega
        have stf := st_float
        have hge5 : (r.L.take k).length ≤ 400 := by simp; omega
        have HG5 := hide2 hge5
        clear hLr hbr h1 h2 hq hp hbp hpb hLd hPb hB1 hs hst hHs hOs hk hk4 hge5 ha d3
        go_upto_region 14 with fail
        go_region_held3 (fun w' => w'.cell? ⟨P, 0, none⟩ = some (.bool ok) ∧ w'.cell? ⟨P, 1, none⟩ = some (.float .f64 t)) (go_keep)
          (first
            | (go_at_call 11; refine HP1.out.mono ?_; rintro e w8 ⟨rfl, h8, s8⟩; have H8 := hide2 h8; have S8 := hide2 s8; have hm8 := hide2 (HLD.out.two.half (by rw [HST.out]; exact h8.pv) s8); have hp8 : w8.heap[P]? = some (.cells #[.bool ok, .float .f64 t] 34 (0, 0)) := (s8.old P (lt_of_block HPB.out.1) (by simpa using HPB.out.2.1)).trans HPB.out.1; have HP8 := hide2 hp8; have f0 : w8.cell? ⟨P, 0, none⟩ = some (.bool ok) := (by simp [World.cell?, hp8]); have f1 : w8.cell? ⟨P, 1, none⟩ = some (.float .f64 t) := (by simp [World.cell?, hp8]); have HR8 : Hid (Calls Try.prog 12 #[.pointer (some ⟨c, 0, none⟩), .bool ok, .float .f64 t] w8 fun e w' => e = .returned (.int .i64 0) ∧ ∃ bs', Rd w' (w.heap.size + 1) (.pointer (some ⟨c, 0, none⟩)) bs' (some (r.rise, r.fall, r.L.take k ++ [(ok, t)])) ∧ Stp w8 w' bs bs') := hide2 (rprobeD_any _ _ bs _ ok t w8 hm8.out.rd (Nat.le_trans (HSZ.out ▸ HB1.out.size) S8.out.size) (fun x hx => by cases hx; have := HG5.out; show (r.L.take k).length ≤ 1000000; omega)); clear h8 s8 hp8)
            | (go_at_call 12; refine HR8.out.mono ?_; rintro e w9 ⟨rfl, bs9, h9, s9⟩; have H9 := hide2 (HLD.out.step (ok := ok) (t := t) (by have := HG5.out; omega) HK.out.2.2.1 (by rw [HST.out]; exact H8.out.pv) S8.out h9 s9); have hp9 : w9.heap[P]? = some (.cells #[.bool ok, .float .f64 t] 34 (0, 0)) := (s9.old P (lt_of_block HP8.out) HPB.out.2.2).trans HP8.out; have HP9 := hide2 hp9; have e0 : w9.cell? ⟨P, 0, none⟩ = some (.bool ok) := (by simp [World.cell?, hp9]); have e1 : w9.cell? ⟨P, 1, none⟩ = some (.float .f64 t) := (by simp [World.cell?, hp9]); have HI9 := hide2 (is_any _ _ _ _ _ _ w9 H9.out.two.pv (H9.out.two.rd.rv (H9.out.okd.mono (by decide)))); have HB9 := hide2 (HB1.out.trans ((S8.out.below (base := w1.heap.size) (fun x hx => by have := (HLD.out.two.apart b rfl).1; have := HSZ.out; simp at hx; omega) HB1.out.size).trans (s9.below (base := w1.heap.size) (fun x hx => by have := (HLD.out.two.rd.lt x hx).1; have := HSZ.out; omega) (Nat.le_trans HB1.out.size S8.out.size)))); clear h9 s9 hp9)
            | (go_at_call 13; refine HI9.out.mono ?_; rintro e w10 ⟨rfl, hb10⟩; have H10 := hide2 (H9.out.below hb10); have hp10 : w10.heap[P]? = some (.cells #[.bool ok, .float .f64 t] 34 (0, 0)) := (hb10.block P (lt_of_block HP9.out)).trans HP9.out; have i0 : w10.cell? ⟨P, 0, none⟩ = some (.bool ok) := (by simp [World.cell?, hp10]); have i1 : w10.cell? ⟨P, 1, none⟩ = some (.float .f64 t) := (by simp [World.cell?, hp10]); have HB10 := hide2 (HB9.out.trans (hb10.mono HB9.out.size)); clear hb10 hp10))
        obtain ⟨j2, j3⟩ := HCell.out w10 HB10.out
        have htk : r.L.take (k + 1) = r.L.take k ++ [(ok, t)] := by rw [take_one _ _ (by have := HK.out; have := HN.out; omega), HPP.out]
        have HTK := hide2 htk
        clear htk d2
        by_cases hcp : (k : Int) = r.cp
        · have gcp : ((k : Int) == r.cp) = true := by simpa using hcp
          have hcp' := hide2 hcp
          clear hcp
          have hs10 : Hs w10 b (s.probe ok t) := by
            have := H10.out.two.pv
            have e : stO (some (r.rise, r.fall, r.L.take k ++ [(ok, t)])) = some (s.probe ok t) := by
              have := stO_add (some (r.rise, r.fall, r.L.take k)) ok t
              rw [HST.out] at this
              exact this
            rw [e] at this
            cases this; assumption
          have c1 := copy_any b _ w10 hs10
          have HS10 := hide2 hs10
          clear hs10
          go_wp2_with fail
          refine c1.mono ?_
          rintro e w11 ⟨rfl, h11, hb11⟩
          have H11 := hide2 h11
          have HB11 := hide2 hb11
          clear c1 h11 hb11
          have hrs : Rs w11 (w.heap.size + 1) c r.rise r.fall (r.L.take k ++ [(ok, t)]) bs9 := by
            have := (H10.out.two.below HB11.out).rd
            cases this; assumption
          have c2 := rcopyD_any c r.rise r.fall _ _ bs9 w11 hrs (by have := HG5.out; simp at this ⊢; omega)
          obtain ⟨b', hb'⟩ : ∃ b', w10.heap.size = b' := ⟨_, rfl⟩
          have HBE := hide2 hb'
          rw [hb']
          clear hrs hb'
          go_wp2_with fail
          refine c2.mono ?_
          rintro e w12 ⟨c', bs', rfl, h12, hb12⟩
          have hL12 := Lv.copied (sc := c') (sbs := bs') H10.out (by have := HB10.out.size; have := HSZ.out; omega) (by
              have := stO_add (some (r.rise, r.fall, r.L.take k)) ok t
              rw [HST.out] at this
              exact this) H11.out HB11.out h12 hb12
          rw [HBE.out, ← HTK.out] at hL12
          have HL12 := hide2 hL12
          have HB12 := hide2 (HB10.out.trans ((HB11.out.trans (hb12.mono HB11.out.size)).mono HB10.out.size))
          clear c2 h12 hb12 hL12
          go_wp2_with fail
          go_roundw
          case rel => exact ⟨k + 1, b', by have := HK.out; omega, by have := HK.out; omega, rfl, by go_num, (⟨_, HL12.out, HB12.out⟩ : ∃ bs, Lv w12 (w.heap.size + 1) b' c bs r.rise r.fall (r.L.take (k + 1)) _ _ ∧ Below w1.heap.size w1 w12)⟩
          case measure => simp [intOf]; have := HK.out; omega
        · have gcp : ((k : Int) == r.cp) = false := by simpa using hcp
          clear hcp
          have hL10 := H10.out
          rw [← HTK.out] at hL10
          have HL10 := hide2 hL10
          clear hL10
          go_wp2_with fail
          go_roundw
          case rel => exact ⟨k + 1, b, by have := HK.out; omega, by have := HK.out; omega, rfl, by go_num, (⟨_, HL10.out, HB10.out⟩ : ∃ bs, Lv w10 (w.heap.size + 1) b c bs r.rise r.fall (r.L.take (k + 1)) _ _ ∧ Below w1.heap.size w1 w10)⟩
          case measure => simp [intOf]; have := HK.out; omega
      · have hge : ¬ ((k : Int) < n) ∨ (k : Int) < n ∧ ¬ (k : Int) < 400 := by omega
        have i1 := is_any _ _ _ _ _ _ wr hLr.two.pv (hLr.two.rd.rv (hLr.okd.mono (by decide)))
        have hBF : Below w.heap.size w wr := HB.out.trans (hbr.mono HB.out.size)
        have HBF := hide2 hBF
        clear hLr hbr hlt hk hk4 hBF d3
        rcases HLR.out.left with ⟨hl1, hl2⟩ | ⟨lb, sc, sbs, M, hl1, hl2, t2, o2, -⟩
        · subst hl1 hl2
          have HX : Hid True := trivial
          rcases hge with hge | ⟨hge, hge2⟩
          all_goals
            go_wp2_with fail
            refine i1.mono ?_
            rintro e w9 ⟨rfl, hb9⟩
            have HB9 := hide2 (HBF.out.trans (hb9.mono HBF.out.size))
            clear i1 hb9
            go_wp2_with fail
            go_ret
            exact ⟨rfl, HB9.out⟩
        · subst hl1 hl2
          have HT2 := hide2 (And.intro t2 o2)
          clear t2 o2
          rcases hge with hge | ⟨hge, hge2⟩
          all_goals
            go_wp2_with fail
            refine i1.mono ?_
            rintro e w9 ⟨rfl, hb9⟩
            have HB9 := hide2 (HBF.out.trans (hb9.mono HBF.out.size))
            have i2 := is_any _ _ _ _ _ _ w9 (HT2.out.1.below hb9).pv ((HT2.out.1.below hb9).rd.rv (HT2.out.2.mono (by decide)))
            clear i1 hb9
            go_wp2_with fail
            refine i2.mono ?_
            rintro e w10 ⟨rfl, hb10⟩
            have HB10 := hide2 (HB9.out.trans (hb10.mono HB9.out.size))
            clear i2 hb10
            go_wp2_with fail
            go_ret
            exact ⟨rfl, HB10.out⟩
  · by_cases hk : okT r.rise r.fall
    · have hno : r.none = true := by
        cases h : r.none
        · exact absurd ⟨hk, h⟩ hT
        · rfl
      have HTT := hide2 hk
      have hne := new_ok r.rise r.fall w1 hk
      rw [hno] at m4
      clear hr hB1 hk1 hT hn hsz hno hk
      go_enter Try.func3, Try.ntmps3
      go_wp2_with fail
      refine hne.mono ?_
      rintro e w2 ⟨rfl, -, hb2⟩
      have HB2 := hide2 hb2
      have hrn := rnew_ok r.rise r.fall w2 HTT.out
      have n0 := cell_of_below hb2 m0
      have n1 := cell_of_below hb2 m1
      clear hne hb2 m0 m1 hw1
      go_wp2_with fail
      refine hrn.mono ?_
      rintro e w3 ⟨rfl, -, hb3⟩
      have HBX := hide2 (HB2.out.trans (hb3.mono HB2.out.size))
      have HCell : Hid (∀ wx, Below w1.heap.size w1 wx → wx.cell? ⟨w.heap.size, 2, none⟩ = some (.slice r.a n r.c) ∧ wx.cell? ⟨w.heap.size, 3, none⟩ = some (.int .i64 r.cp)) := fun wx hx => ⟨cell_of_below hx m2, cell_of_below hx m3⟩
      have n4 := cell_of_below HBX.out m4
      obtain ⟨b0, hb0⟩ : ∃ b0, w1.heap.size = b0 := ⟨_, rfl⟩
      obtain ⟨c, hc⟩ : ∃ c, w2.heap.size = c := ⟨_, rfl⟩
      have HBC := hide2 (And.intro hb0 hc)
      simp only [hb0, hc]
      clear hrn hb3 n0 n1 m2 m3 m4 hb0 hc
      go_wp2_with fail
      go_loopw [3, 7, 8, 9] (fun t3 t7 t8 t9 wr => ∃ k : Nat, k ≤ n ∧ k ≤ 400 ∧ t3 = .pointer none ∧ t7 = .pointer none ∧ t8 = .pointer none ∧ t9 = .int .i64 k ∧ Hid (Below w1.heap.size w1 wr)) (fun _ _ _ t9 _ => n - (intOf t9).toNat)
      case atStart => exact ⟨0, by omega, by omega, rfl, rfl, rfl, rfl, HBX⟩
      case round =>
        obtain ⟨k, hk, hk4, rfl, rfl, rfl, rfl, HBR⟩ := hrel
        have k0 : (0 : Int) ≤ k := by omega
        obtain ⟨d2, d3⟩ := HCell.out wr HBR.out
        by_cases hlt : k < n ∧ k < 400
        · obtain ⟨h1, h2⟩ := hlt
          obtain ⟨g, off, ha, q1, q2, hq⟩ := (HR.out.below HBR.out).p.at_ (k := k) (by have := HN.out; omega)
          obtain ⟨⟨ok, t⟩, hp⟩ : ∃ p, r.L.getD k (false, 0) = p := ⟨_, rfl⟩
          rw [hp] at q1 q2 hq
          rw [ha] at d2
          obtain ⟨P, hP⟩ : ∃ P, wr.heap.size = P := ⟨_, rfl⟩
          obtain ⟨wp, hwp⟩ : ∃ wp, wr.alloc (.cells #[.bool ok, .float .f64 t] 34 (0, 0)) = wp := ⟨_, rfl⟩
          have hbp : Below wr.heap.size wr wp := hwp ▸ (Below.refl _ wr).alloc (Nat.le_refl _) _
          have hpb : wp.heap[P]? = some (.cells #[.bool ok, .float .f64 t] 34 (0, 0)) := by rw [← hwp, ← hP]; exact Go.heap_alloc_new _ _
          have hB1 : Below w1.heap.size w1 wp := HBR.out.trans (hbp.mono HBR.out.size)
          have HB1 := hide2 hB1
          have HP1 := hide2 (probe_nil ok t wp.drew)
          have HP2 := hide2 (rprobe_nil ok t wp.drew)
          have HP3 := hide2 (runs_nil_is wp.drew)
          have HPB := hide2 (show wp.drew.heap[P]? = some (.cells #[.bool ok, .float .f64 t] 34 (0, 0)) from hpb)
          have m0 : wp.cell? ⟨P, 0, none⟩ = some (.bool ok) := by simp [World.cell?, hpb]
          have m1 : wp.cell? ⟨P, 1, none⟩ = some (.float .f64 t) := by simp [World.cell?, hpb]
          have HK := hide2 (And.intro h1 h2)
          have k1 : (k : Int) < n := by omega
          have k2 : (k : Int) < 400 := by omega
          have stf := st_float
          clear h1 h2 hq hp hbp hpb hB1 hk hk4 ha d3
          go_upto_region 14 with fail
          go_region_held3 (fun w' => w'.cell? ⟨P, 0, none⟩ = some (.bool ok) ∧ w'.cell? ⟨P, 1, none⟩ = some (.float .f64 t)) (go_keep)
            (first
              | (go_at_call 11; refine HP1.out.mono ?_; rintro e w8 ⟨rfl, rfl⟩)
              | (go_at_call 12; refine HP2.out.mono ?_; rintro e w9 ⟨rfl, rfl⟩)
              | (go_at_call 13; refine HP3.out.mono ?_; rintro e w10 ⟨rfl, hb10⟩; have hp10 : w10.heap[P]? = some (.cells #[.bool ok, .float .f64 t] 34 (0, 0)) := (hb10.block P (lt_of_block HPB.out)).trans HPB.out; have i0 : w10.cell? ⟨P, 0, none⟩ = some (.bool ok) := (by simp [World.cell?, hp10]); have i1 : w10.cell? ⟨P, 1, none⟩ = some (.float .f64 t) := (by simp [World.cell?, hp10]); have HB10 := hide2 (HB1.out.trans (((Below.refl _ wp).drew.trans hb10).mono HB1.out.size)); clear hb10 hp10))
          obtain ⟨j2, j3⟩ := HCell.out w10 HB10.out
          have c1 := copy_nil w10
          have c2 := rcopy_nil w10
          clear d2
          by_cases hcp : (k : Int) = r.cp
          · have gcp : ((k : Int) == r.cp) = true := by simpa using hcp
            have hcp' := hide2 hcp
            clear hcp
            go_wp2_with (first
              | (go_at_call 14; refine c1.mono ?_; rintro e w11 ⟨rfl, rfl⟩)
              | (go_at_call 15; refine c2.mono ?_; rintro e w11 ⟨rfl, rfl⟩))
            go_roundw
            case rel => exact ⟨k + 1, by have := HK.out; omega, by have := HK.out; omega, rfl, rfl, rfl, by go_num, HB10⟩
            case measure => simp [intOf]; have := HK.out; omega
          · have gcp : ((k : Int) == r.cp) = false := by simpa using hcp
            clear hcp
            go_wp2_with fail
            go_roundw
            case rel => exact ⟨k + 1, by have := HK.out; omega, by have := HK.out; omega, rfl, rfl, rfl, by go_num, HB10⟩
            case measure => simp [intOf]; have := HK.out; omega
        · have hge : ¬ ((k : Int) < n) ∨ (k : Int) < n ∧ ¬ (k : Int) < 400 := by omega
          have i1 := runs_nil_is wr
          have hBF : Below w.heap.size w wr := HB.out.trans (HBR.out.mono HB.out.size)
          have HBF := hide2 hBF
          clear hlt hk hk4 hBF d3
          rcases hge with hge | ⟨hge, hge2⟩
          all_goals
            go_wp2_with fail
            refine i1.mono ?_
            rintro e w9 ⟨rfl, hb9⟩
            have HB9 := hide2 (HBF.out.trans (hb9.mono HBF.out.size))
            clear i1 hb9
            go_wp2_with fail
            go_ret
            exact ⟨rfl, HB9.out⟩
    · have hne := new_no r.rise r.fall w1 (hr.r1) (hr.f1) hk
      have hrn := rnew_no r.rise r.fall w1 (hr.r1) (hr.f1) hk
      have HBX : Hid (Below w1.heap.size w1 w1) := Below.refl _ _
      have HCell : Hid (∀ wx, Below w1.heap.size w1 wx → wx.cell? ⟨w.heap.size, 2, none⟩ = some (.slice r.a n r.c) ∧ wx.cell? ⟨w.heap.size, 3, none⟩ = some (.int .i64 r.cp)) := fun wx hx => ⟨cell_of_below hx m2, cell_of_below hx m3⟩
      clear hr hB1 hk1 hT hn hsz hk
      obtain ⟨nb, hnb⟩ : ∃ nb, r.none = nb := ⟨_, rfl⟩
      rw [hnb] at m4 hw1 ⊢
      clear hnb
      cases nb
      all_goals
        go_enter Try.func3, Try.ntmps3
        go_wp2_with (first
          | (go_at_call 9; refine hne.mono ?_; rintro e w2 ⟨rfl, rfl⟩; clear hw1)
          | (go_at_call 10; refine hrn.mono ?_; rintro e w2 ⟨rfl, rfl⟩))
        go_loopw [3, 7, 8, 9] (fun t3 t7 t8 t9 wr => ∃ k : Nat, k ≤ n ∧ k ≤ 400 ∧ t3 = .pointer none ∧ t7 = .pointer none ∧ t8 = .pointer none ∧ t9 = .int .i64 k ∧ Hid (Below w2.heap.size w2 wr)) (fun _ _ _ t9 _ => n - (intOf t9).toNat)
        case atStart => exact ⟨0, by omega, by omega, rfl, rfl, rfl, rfl, HBX⟩
        case round =>
          obtain ⟨k, hk, hk4, rfl, rfl, rfl, rfl, HBR⟩ := hrel
          have k0 : (0 : Int) ≤ k := by omega
          obtain ⟨d2, d3⟩ := HCell.out wr HBR.out
          by_cases hlt : k < n ∧ k < 400
          · obtain ⟨h1, h2⟩ := hlt
            obtain ⟨g, off, ha, q1, q2, hq⟩ := (HR.out.below HBR.out).p.at_ (k := k) (by have := HN.out; omega)
            obtain ⟨⟨ok, t⟩, hp⟩ : ∃ p, r.L.getD k (false, 0) = p := ⟨_, rfl⟩
            rw [hp] at q1 q2 hq
            rw [ha] at d2
            obtain ⟨P, hP⟩ : ∃ P, wr.heap.size = P := ⟨_, rfl⟩
            obtain ⟨wp, hwp⟩ : ∃ wp, wr.alloc (.cells #[.bool ok, .float .f64 t] 34 (0, 0)) = wp := ⟨_, rfl⟩
            have hbp : Below wr.heap.size wr wp := hwp ▸ (Below.refl _ wr).alloc (Nat.le_refl _) _
            have hpb : wp.heap[P]? = some (.cells #[.bool ok, .float .f64 t] 34 (0, 0)) := by rw [← hwp, ← hP]; exact Go.heap_alloc_new _ _
            have hB1 : Below w2.heap.size w2 wp := HBR.out.trans (hbp.mono HBR.out.size)
            have HB1 := hide2 hB1
            have HP1 := hide2 (probe_nil ok t wp.drew)
            have HP2 := hide2 (rprobe_nil ok t wp.drew)
            have HP3 := hide2 (runs_nil_is wp.drew)
            have HPB := hide2 (show wp.drew.heap[P]? = some (.cells #[.bool ok, .float .f64 t] 34 (0, 0)) from hpb)
            have m0 : wp.cell? ⟨P, 0, none⟩ = some (.bool ok) := by simp [World.cell?, hpb]
            have m1 : wp.cell? ⟨P, 1, none⟩ = some (.float .f64 t) := by simp [World.cell?, hpb]
            have HK := hide2 (And.intro h1 h2)
            have k1 : (k : Int) < n := by omega
            have k2 : (k : Int) < 400 := by omega
            have stf := st_float
            clear h1 h2 hq hp hbp hpb hB1 hk hk4 ha d3
            go_upto_region 14 with fail
            go_region_held3 (fun w' => w'.cell? ⟨P, 0, none⟩ = some (.bool ok) ∧ w'.cell? ⟨P, 1, none⟩ = some (.float .f64 t)) (go_keep)
              (first
                | (go_at_call 11; refine HP1.out.mono ?_; rintro e w8 ⟨rfl, rfl⟩)
                | (go_at_call 12; refine HP2.out.mono ?_; rintro e w9 ⟨rfl, rfl⟩)
                | (go_at_call 13; refine HP3.out.mono ?_; rintro e w10 ⟨rfl, hb10⟩; have hp10 : w10.heap[P]? = some (.cells #[.bool ok, .float .f64 t] 34 (0, 0)) := (hb10.block P (lt_of_block HPB.out)).trans HPB.out; have i0 : w10.cell? ⟨P, 0, none⟩ = some (.bool ok) := (by simp [World.cell?, hp10]); have i1 : w10.cell? ⟨P, 1, none⟩ = some (.float .f64 t) := (by simp [World.cell?, hp10]); have HB10 := hide2 (HB1.out.trans (((Below.refl _ wp).drew.trans hb10).mono HB1.out.size)); clear hb10 hp10))
            obtain ⟨j2, j3⟩ := HCell.out w10 HB10.out
            have c1 := copy_nil w10
            have c2 := rcopy_nil w10
            clear d2
            by_cases hcp : (k : Int) = r.cp
            · have gcp : ((k : Int) == r.cp) = true := by simpa using hcp
              have hcp' := hide2 hcp
              clear hcp
              go_wp2_with (first
                | (go_at_call 14; refine c1.mono ?_; rintro e w11 ⟨rfl, rfl⟩)
                | (go_at_call 15; refine c2.mono ?_; rintro e w11 ⟨rfl, rfl⟩))
              go_roundw
              case rel => exact ⟨k + 1, by have := HK.out; omega, by have := HK.out; omega, rfl, rfl, rfl, by go_num, HB10⟩
              case measure => simp [intOf]; have := HK.out; omega
            · have gcp : ((k : Int) == r.cp) = false := by simpa using hcp
              clear hcp
              go_wp2_with fail
              go_roundw
              case rel => exact ⟨k + 1, by have := HK.out; omega, by have := HK.out; omega, rfl, rfl, rfl, by go_num, HB10⟩
              case measure => simp [intOf]; have := HK.out; omega
          · have hge : ¬ ((k : Int) < n) ∨ (k : Int) < n ∧ ¬ (k : Int) < 400 := by omega
            have i1 := runs_nil_is wr
            have hBF : Below w.heap.size w wr := HB.out.trans (HBR.out.mono HB.out.size)
            have HBF := hide2 hBF
            clear hlt hk hk4 hBF d3
            rcases hge with hge | ⟨hge, hge2⟩
            all_goals
              go_wp2_with fail
              refine i1.mono ?_
              rintro e w9 ⟨rfl, hb9⟩
              have HB9 := hide2 (HBF.out.trans (hb9.mono HBF.out.size))
              clear i1 hb9
              go_wp2_with fail
              go_ret
              exact ⟨rfl, HB9.out⟩
end Go.Proofs.Ytlgpohjffahbcaa
