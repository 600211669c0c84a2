/-
  The walk of DecideSteps.
-/
import Derived.Test.YtfhobglcploaoaaDc
import Derived.Deep.RegionHeld3
namespace Go.Proofs.Ytfhobglcploaoaa
open Go.RowKit
set_option linter.unusedVariables false
set_option linter.unusedSimpArgs false
set_option maxRecDepth 100000
/-- a request -/
structure Rq where
  me : ByteArray
  ho : ByteArray
  pa : ByteArray
  u : Nat
  n : Int
  a : Int
  b : Int
theorem seven_cells {W : World} {b : Nat} {x0 x1 x2 x3 x4 x5 x6 : Value} {t : TypeId} (h : W.heap[b]? = some (.cells #[x0, x1, x2, x3, x4, x5, x6] t (0, 0))) : W.cell? ⟨b, 0, none⟩ = some x0 ∧ W.cell? ⟨b, 1, none⟩ = some x1 ∧ W.cell? ⟨b, 2, none⟩ = some x2 ∧ W.cell? ⟨b, 3, none⟩ = some x3 ∧ W.cell? ⟨b, 4, none⟩ = some x4 ∧ W.cell? ⟨b, 5, none⟩ = some x5 ∧ W.cell? ⟨b, 6, none⟩ = some x6 := by
  refine ⟨?_, ?_, ?_, ?_, ?_, ?_, ?_⟩ <;> (rw [cell_block h]; rfl)
set_option maxHeartbeats 32000000 in
theorem steps_any (w : World) (t : Tb) (q : Rq) (ht : Tin w t) (h1 : okS q.ho) (h2 : okS q.pa) :
    Calls Try.prog 3 #[.agg #[.int .i64 t.ver, .slice t.ha t.hos.length t.hc, .slice t.sa t.svs.length t.sc], .agg #[.string q.me, .string q.ho, .string q.pa, .float .f64 q.u, .int .i64 q.n, .int .u64 q.a, .int .u64 q.b]] w fun e w' => e = .returned (.bool true) ∧ Below w.heap.size w w' := by
  have HT := hideL ht
  have HS1 := hideL h1
  have HS2 := hideL h2
  obtain ⟨n, hn⟩ : ∃ n, t.hos.length = n := ⟨_, rfl⟩
  have hl : n ≤ 140737488355328 := by rw [← hn]; exact ht.lh
  have HN := hideL hn
  rw [hn]
  obtain ⟨w2, hw2⟩ : ∃ X, ((w.alloc (.cells #[.int .i64 t.ver, .slice t.ha n t.hc, .slice t.sa t.svs.length t.sc] 25 (0, 0))).alloc (.cells #[.string q.me, .string q.ho, .string q.pa, .float .f64 q.u, .int .i64 q.n, .int .u64 q.a, .int .u64 q.b] 29 (0, 0))) = X := ⟨_, rfl⟩
  have HG2 : Hid (Below w.heap.size w w2) := by rw [← hw2]; exact ((Gr.alloc _ _).trans (Gr.alloc _ _)).below
  have h2n := two_new w (.cells #[.int .i64 t.ver, .slice t.ha n t.hc, .slice t.sa t.svs.length t.sc] 25 (0, 0)) (.cells #[.string q.me, .string q.ho, .string q.pa, .float .f64 q.u, .int .i64 q.n, .int .u64 q.a, .int .u64 q.b] 29 (0, 0))
  rw [hw2] at h2n
  obtain ⟨B0, hB0⟩ : ∃ B, w.heap.size = B := ⟨_, rfl⟩
  obtain ⟨B1, hB1⟩ : ∃ B, B0 + 1 = B := ⟨_, rfl⟩
  rw [hB0, hB1] at h2n
  have HX := hideL h2n
  obtain ⟨p0, p1, p2⟩ := three_cells HX.out.1
  obtain ⟨p3, p4, p5, p6, -, -, -⟩ := seven_cells HX.out.2
  have HTI := hideL (ht.below HG2.out)
  have HF := hideL (fun W (h : Below w2.heap.size w2 W) => find_any W t q.ho (HTI.out.below h) HS1.out)
  have HRF := hideL (fun W (h : Below w2.heap.size w2 W) => rfind_any W t q.ho (HTI.out.below h) HS1.out)
  rw [hn] at HF HRF
  generalize ixI (fndF t.hos q.ho) = x at HF HRF
  have HS := hideL (fun (w' : World) (h : Below w2.heap.size w2 w') => show (w'.cell? ⟨B0, 0, none⟩ = some (.int .i64 t.ver) ∧ w'.cell? ⟨B0, 1, none⟩ = some (.slice t.ha n t.hc) ∧ w'.cell? ⟨B0, 2, none⟩ = some (.slice t.sa t.svs.length t.sc) ∧ w'.cell? ⟨B1, 0, none⟩ = some (.string q.me) ∧ w'.cell? ⟨B1, 1, none⟩ = some (.string q.ho) ∧ w'.cell? ⟨B1, 2, none⟩ = some (.string q.pa) ∧ w'.cell? ⟨B1, 3, none⟩ = some (.float .f64 q.u)) from ⟨cell_of_below h p0, cell_of_below h p1, cell_of_below h p2, cell_of_below h p3, cell_of_below h p4, cell_of_below h p5, cell_of_below h p6⟩)
  clear ht hn h1 h2 h2n
  go_enter Try.func3, Try.ntmps3
  go_wp2_with fail
  go_region_held3 (fun w' => w'.cell? ⟨B0, 0, none⟩ = some (.int .i64 t.ver) ∧ w'.cell? ⟨B0, 1, none⟩ = some (.slice t.ha n t.hc) ∧ w'.cell? ⟨B0, 2, none⟩ = some (.slice t.sa t.svs.length t.sc) ∧ w'.cell? ⟨B1, 0, none⟩ = some (.string q.me) ∧ w'.cell? ⟨B1, 1, none⟩ = some (.string q.ho) ∧ w'.cell? ⟨B1, 2, none⟩ = some (.string q.pa) ∧ w'.cell? ⟨B1, 3, none⟩ = some (.float .f64 q.u)) (go_keep) (first
    | (go_at_call 5; refine (HRF.out _ HG11.out).mono ?_; rintro e w12 ⟨rfl, hgx⟩; have HG12 := hideL (HG11.out.trans (hgx.mono HG11.out.size)); obtain ⟨y0, y1, y2, y3, y4, y5, y6⟩ := HS.out w12 HG12.out; clear hgx)
    | (go_at_call 4; refine (HF.out _ (below_drewN (Below.refl _ w2) 1)).mono ?_; rintro e w11 ⟨rfl, hgx⟩; have HG11 := hideL ((below_drewN (Below.refl w2.heap.size w2) 1).trans hgx); obtain ⟨y0, y1, y2, y3, y4, y5, y6⟩ := HS.out w11 HG11.out; clear hgx))
  clear hB0 hB1 hw2 HF HRF HX
  clear p0 p1 p2 p3 p4 p5 p6
  clear y0 y1 y2 y3 y4 y5 y6
  clear y0 y1 y2 y3 y4 y5 y6
  go_wp2_with fail
  go_loopw [5] (fun u wr => ∃ (i : Nat), u = .int .i64 i ∧ i ≤ n ∧ Below w2.heap.size w2 wr) (fun u _ => n - (intOf u).toNat)
  case atStart => exact ⟨0, rfl, by omega, HG12.out⟩
  case round =>
    obtain ⟨i, rfl, hi, hbel⟩ := hrel
    have HB := hideL hbel
    clear hbel
    obtain ⟨p0, p1, p2, p3, p4, p5, p6⟩ := HS.out wr HB.out
    have i0 : (0 : Int) ≤ i := by omega
    by_cases h3 : i < n
    · have h3' : (i : Int) < n := by omega
      rcases hki : t.hos[i]? with _ | o
      · have := List.getElem?_eq_none_iff.1 hki; have := HN.out; omega
      obtain ⟨g, off, ea, hcx⟩ := (HTI.out.below HB.out).hs.at_ hki
      have c0 := hcx 0 _ rfl
      have c1 := hcx 1 _ rfl
      have c2 := hcx 2 _ rfl
      have c3 := hcx 3 _ rfl
      rw [Nat.add_zero] at c0
      have HI := hideL ((HTI.out.below HB.out).each o (List.mem_of_getElem? hki))
      obtain ⟨m, hm⟩ : ∃ m, o.ens.length = m := ⟨_, rfl⟩
      have HM := hideL hm
      have hml : m ≤ 140737488355328 := by rw [← hm]; exact HI.out.le
      rw [hm] at c2
      rw [ea] at p1
      have HSR := hideL (fun (w' : World) (h : Below wr.heap.size wr w') => show (w'.cell? ⟨B0, 0, none⟩ = some (.int .i64 t.ver) ∧ w'.cell? ⟨B0, 1, none⟩ = some (.slice (some ⟨g, off, none⟩) n t.hc) ∧ w'.cell? ⟨B0, 2, none⟩ = some (.slice t.sa t.svs.length t.sc) ∧ w'.cell? ⟨B1, 0, none⟩ = some (.string q.me) ∧ w'.cell? ⟨B1, 1, none⟩ = some (.string q.ho) ∧ w'.cell? ⟨B1, 2, none⟩ = some (.string q.pa) ∧ w'.cell? ⟨B1, 3, none⟩ = some (.float .f64 q.u) ∧ w'.cell? ⟨g, off + i * 4, none⟩ = some (.string o.ho) ∧ w'.cell? ⟨g, off + i * 4 + 1, none⟩ = some (.string o.ro) ∧ w'.cell? ⟨g, off + i * 4 + 2, none⟩ = some (.slice o.ea m o.ec) ∧ w'.cell? ⟨g, off + i * 4 + 3, none⟩ = some (.slice o.qa o.pms.length o.qc)) from ⟨cell_of_below h p0, cell_of_below h p1, cell_of_below h p2, cell_of_below h p3, cell_of_below h p4, cell_of_below h p5, cell_of_below h p6, cell_of_below h c0, cell_of_below h c1, cell_of_below h c2, cell_of_below h c3⟩)
      have HA1 := hideL (fun W (h : Below wr.heap.size wr W) => allowed_any W o q.me q.pa (HI.out.below h) HS2.out)
      have HA2 := hideL (fun W (h : Below wr.heap.size wr W) => rallowed_any W o q.me q.pa (HI.out.below h) HS2.out)
      have HR1 := hideL (fun W (h : Below wr.heap.size wr W) => rule_any W o q.me q.pa (HI.out.below h) HS2.out)
      have HR2 := hideL (fun W (h : Below wr.heap.size wr W) => rrule_any W o q.me q.pa (HI.out.below h) HS2.out)
      rw [hm] at HA1 HA2 HR1 HR2
      generalize alwB o.pms q.me q.pa = a1 at HA1 HA2
      generalize ixI (alwF o.pms q.me q.pa) = a2 at HA1 HA2
      generalize ixI (rulF o.ens q.me q.pa) = a3 at HR1 HR2
      clear hki hcx ea hm
      go_wp2_with fail
      go_region_held3 (fun w' => w'.cell? ⟨B0, 0, none⟩ = some (.int .i64 t.ver) ∧ w'.cell? ⟨B0, 1, none⟩ = some (.slice (some ⟨g, off, none⟩) n t.hc) ∧ w'.cell? ⟨B0, 2, none⟩ = some (.slice t.sa t.svs.length t.sc) ∧ w'.cell? ⟨B1, 0, none⟩ = some (.string q.me) ∧ w'.cell? ⟨B1, 1, none⟩ = some (.string q.ho) ∧ w'.cell? ⟨B1, 2, none⟩ = some (.string q.pa) ∧ w'.cell? ⟨B1, 3, none⟩ = some (.float .f64 q.u) ∧ w'.cell? ⟨g, off + i * 4, none⟩ = some (.string o.ho) ∧ w'.cell? ⟨g, off + i * 4 + 1, none⟩ = some (.string o.ro) ∧ w'.cell? ⟨g, off + i * 4 + 2, none⟩ = some (.slice o.ea m o.ec) ∧ w'.cell? ⟨g, off + i * 4 + 3, none⟩ = some (.slice o.qa o.pms.length o.qc)) (go_keep) (first
        | (go_at_call 6; refine (HA1.out _ (below_drewN (Below.refl wr.heap.size wr) 1)).mono ?_; rintro e w6 ⟨rfl, hgx⟩; have HG6 := hideL ((below_drewN (Below.refl wr.heap.size wr) 1).trans (hgx.mono (below_drewN (Below.refl wr.heap.size wr) 1).size)); obtain ⟨x0, x1, x2, x3, x4, x5, x6, x7, x8, x9, x10⟩ := HSR.out w6 HG6.out; clear hgx))
      clear p0 p1 p2 p3 p4 p5 p6 c0 c1 c2 c3
      go_wp2_with fail
      go_region_held3 (fun w' => w'.cell? ⟨B0, 0, none⟩ = some (.int .i64 t.ver) ∧ w'.cell? ⟨B0, 1, none⟩ = some (.slice (some ⟨g, off, none⟩) n t.hc) ∧ w'.cell? ⟨B0, 2, none⟩ = some (.slice t.sa t.svs.length t.sc) ∧ w'.cell? ⟨B1, 0, none⟩ = some (.string q.me) ∧ w'.cell? ⟨B1, 1, none⟩ = some (.string q.ho) ∧ w'.cell? ⟨B1, 2, none⟩ = some (.string q.pa) ∧ w'.cell? ⟨B1, 3, none⟩ = some (.float .f64 q.u) ∧ w'.cell? ⟨g, off + i * 4, none⟩ = some (.string o.ho) ∧ w'.cell? ⟨g, off + i * 4 + 1, none⟩ = some (.string o.ro) ∧ w'.cell? ⟨g, off + i * 4 + 2, none⟩ = some (.slice o.ea m o.ec) ∧ w'.cell? ⟨g, off + i * 4 + 3, none⟩ = some (.slice o.qa o.pms.length o.qc)) (go_keep) (first
        | (go_at_call 7; refine (HA2.out _ (below_drewN HG6.out 1)).mono ?_; rintro e w7 ⟨rfl, hgx⟩; have HG7 := hideL ((below_drewN HG6.out 1).trans (hgx.mono (below_drewN HG6.out 1).size)); obtain ⟨y0, y1, y2, y3, y4, y5, y6, y7, y8, y9, y10⟩ := HSR.out w7 HG7.out; clear hgx))
      clear x0 x1 x2 x3 x4 x5 x6 x7 x8 x9 x10
      go_wp2_with fail
      go_region_held3 (fun w' => w'.cell? ⟨B0, 0, none⟩ = some (.int .i64 t.ver) ∧ w'.cell? ⟨B0, 1, none⟩ = some (.slice (some ⟨g, off, none⟩) n t.hc) ∧ w'.cell? ⟨B0, 2, none⟩ = some (.slice t.sa t.svs.length t.sc) ∧ w'.cell? ⟨B1, 0, none⟩ = some (.string q.me) ∧ w'.cell? ⟨B1, 1, none⟩ = some (.string q.ho) ∧ w'.cell? ⟨B1, 2, none⟩ = some (.string q.pa) ∧ w'.cell? ⟨B1, 3, none⟩ = some (.float .f64 q.u) ∧ w'.cell? ⟨g, off + i * 4, none⟩ = some (.string o.ho) ∧ w'.cell? ⟨g, off + i * 4 + 1, none⟩ = some (.string o.ro) ∧ w'.cell? ⟨g, off + i * 4 + 2, none⟩ = some (.slice o.ea m o.ec) ∧ w'.cell? ⟨g, off + i * 4 + 3, none⟩ = some (.slice o.qa o.pms.length o.qc)) (go_keep) (first
        | (go_at_call 9; refine (HR2.out _ HG8.out).mono ?_; rintro e w9 ⟨rfl, hgx⟩; have HG9 := hideL (HG8.out.trans (hgx.mono HG8.out.size)); obtain ⟨v0, v1, v2, v3, v4, v5, v6, v7, v8, v9, v10⟩ := HSR.out w9 HG9.out; clear hgx)
        | (go_at_call 8; refine (HR1.out _ (below_drewN HG7.out 1)).mono ?_; rintro e w8 ⟨rfl, hgx⟩; have HG8 := hideL ((below_drewN HG7.out 1).trans (hgx.mono (below_drewN HG7.out 1).size)); obtain ⟨z0, z1, z2, z3, z4, z5, z6, z7, z8, z9, z10⟩ := HSR.out w8 HG8.out; clear hgx))
      clear y0 y1 y2 y3 y4 y5 y6 y7 y8 y9 y10 z0 z1 z2 z3 z4 z5 z6 z7 z8 z9 z10
      clear v0 v1 v2 v3 v4 v5 v6 v7 v8 v9 v10
      go_wp2_with fail
      go_loopw [10] (fun u wi => ∃ (k : Nat), u = .int .i64 k ∧ k ≤ m ∧ Below w9.heap.size w9 wi) (fun u _ => m - (intOf u).toNat)
      case atStart => exact ⟨0, rfl, by omega, Below.refl _ _⟩
      case round =>
        obtain ⟨k, rfl, hk, hbi⟩ := hrel
        have HBI := hideL hbi
        clear hbi
        have HBJ := hideL (HG9.out.trans (HBI.out.mono HG9.out.size))
        obtain ⟨p0, p1, p2, p3, p4, p5, p6, p7, p8, p9, p10⟩ := HSR.out wr HBJ.out
        have k0 : (0 : Int) ≤ k := by omega
        by_cases h5 : k < m
        · have h5' : (k : Int) < m := by omega
          rcases hkd : o.ens[k]? with _ | d
          · have := List.getElem?_eq_none_iff.1 hkd; have := HM.out; omega
          obtain ⟨g2, off2, eb, dcx⟩ := (HI.out.below HBJ.out).es.at_ hkd
          have d0 := dcx 0 _ rfl
          have d1 := dcx 1 _ rfl
          have d2 := dcx 2 _ rfl
          rw [Nat.add_zero] at d0
          rw [eb] at p9
          have HE := hideL ((HI.out.below HBJ.out).each d (List.mem_of_getElem? hkd))
          have HQ1 := hideL (fun W (h : Below wr.heap.size wr W) => share_any W d q.u (HE.out.below h))
          have HQ2 := hideL (fun W (h : Below wr.heap.size wr W) => rshare_any W d q.u (HE.out.below h))
          generalize shF d.shs q.u = sv at HQ1 HQ2
          have HSK := hideL (fun (w' : World) (h : Below wr.heap.size wr w') => show (w'.cell? ⟨B0, 0, none⟩ = some (.int .i64 t.ver) ∧ w'.cell? ⟨B0, 1, none⟩ = some (.slice (some ⟨g, off, none⟩) n t.hc) ∧ w'.cell? ⟨B0, 2, none⟩ = some (.slice t.sa t.svs.length t.sc) ∧ w'.cell? ⟨B1, 0, none⟩ = some (.string q.me) ∧ w'.cell? ⟨B1, 1, none⟩ = some (.string q.ho) ∧ w'.cell? ⟨B1, 2, none⟩ = some (.string q.pa) ∧ w'.cell? ⟨B1, 3, none⟩ = some (.float .f64 q.u) ∧ w'.cell? ⟨g, off + i * 4, none⟩ = some (.string o.ho) ∧ w'.cell? ⟨g, off + i * 4 + 1, none⟩ = some (.string o.ro) ∧ w'.cell? ⟨g, off + i * 4 + 2, none⟩ = some (.slice (some ⟨g2, off2, none⟩) m o.ec) ∧ w'.cell? ⟨g, off + i * 4 + 3, none⟩ = some (.slice o.qa o.pms.length o.qc) ∧ w'.cell? ⟨g2, off2 + k * 3, none⟩ = some (.string d.pa) ∧ w'.cell? ⟨g2, off2 + k * 3 + 1, none⟩ = some (.string d.me) ∧ w'.cell? ⟨g2, off2 + k * 3 + 2, none⟩ = some (.slice d.sa d.shs.length d.sc)) from ⟨cell_of_below h p0, cell_of_below h p1, cell_of_below h p2, cell_of_below h p3, cell_of_below h p4, cell_of_below h p5, cell_of_below h p6, cell_of_below h p7, cell_of_below h p8, cell_of_below h p9, cell_of_below h p10, cell_of_below h d0, cell_of_below h d1, cell_of_below h d2⟩)
          clear hkd dcx eb
          go_wp2_with fail
          go_region_held3 (fun w' => w'.cell? ⟨B0, 0, none⟩ = some (.int .i64 t.ver) ∧ w'.cell? ⟨B0, 1, none⟩ = some (.slice (some ⟨g, off, none⟩) n t.hc) ∧ w'.cell? ⟨B0, 2, none⟩ = some (.slice t.sa t.svs.length t.sc) ∧ w'.cell? ⟨B1, 0, none⟩ = some (.string q.me) ∧ w'.cell? ⟨B1, 1, none⟩ = some (.string q.ho) ∧ w'.cell? ⟨B1, 2, none⟩ = some (.string q.pa) ∧ w'.cell? ⟨B1, 3, none⟩ = some (.float .f64 q.u) ∧ w'.cell? ⟨g, off + i * 4, none⟩ = some (.string o.ho) ∧ w'.cell? ⟨g, off + i * 4 + 1, none⟩ = some (.string o.ro) ∧ w'.cell? ⟨g, off + i * 4 + 2, none⟩ = some (.slice (some ⟨g2, off2, none⟩) m o.ec) ∧ w'.cell? ⟨g, off + i * 4 + 3, none⟩ = some (.slice o.qa o.pms.length o.qc) ∧ w'.cell? ⟨g2, off2 + k * 3, none⟩ = some (.string d.pa) ∧ w'.cell? ⟨g2, off2 + k * 3 + 1, none⟩ = some (.string d.me) ∧ w'.cell? ⟨g2, off2 + k * 3 + 2, none⟩ = some (.slice d.sa d.shs.length d.sc)) (go_keep) (first
            | (go_at_call 11; refine (HQ2.out _ HG12.out).mono ?_; rintro e w13 ⟨rfl, hgx⟩; have HG13 := hideL (HG12.out.trans (hgx.mono HG12.out.size)); obtain ⟨v0, v1, v2, v3, v4, v5, v6, v7, v8, v9, v10, v11, v12, v13⟩ := HSK.out w13 HG13.out; clear hgx)
            | (go_at_call 10; refine (HQ1.out _ (below_drewN (Below.refl wr.heap.size wr) 1)).mono ?_; rintro e w12 ⟨rfl, hgx⟩; have HG12 := hideL ((below_drewN (Below.refl wr.heap.size wr) 1).trans (hgx.mono (below_drewN (Below.refl wr.heap.size wr) 1).size)); obtain ⟨x0, x1, x2, x3, x4, x5, x6, x7, x8, x9, x10, x11, x12, x13⟩ := HSK.out w12 HG12.out; clear hgx))
          clear v0 v1 v2 v3 v4 v5 v6 v7 v8 v9 v10 v11 v12 v13
          clear x0 x1 x2 x3 x4 x5 x6 x7 x8 x9 x10 x11 x12 x13 p0 p1 p2 p3 p4 p5 p6 p7 p8 p9 p10 d0 d1 d2
          go_wp2_with fail
          go_roundw
          case rel => exact ⟨k + 1, by go_num, by omega, HBI.out.trans (HG13.out.mono HBI.out.size)⟩
          case measure => simp [intOf]; omega
        · have h5' : ¬ (k : Int) < m := by omega
          go_wp2_with fail
          go_roundw
          case rel => exact ⟨i + 1, by go_num, by omega, HB.out.trans (HBJ.out.mono HB.out.size)⟩
          case measure => simp [intOf]; omega
    · have h3' : ¬ (i : Int) < n := by omega
      go_wp2
      go_ret
      exact ⟨rfl, HG2.out.trans (HB.out.mono HG2.out.size)⟩
end Go.Proofs.Ytfhobglcploaoaa
