/-
  The walk of TablesFinds.
-/
import Derived.Test.YtcihhcolgfaaiaaTj
import Derived.Test.YtcihhcolgfaaiaaTk
namespace Go.Proofs.Ytcihhcolgfaaiaa
open Go.RowKit
set_option linter.unusedVariables false
set_option linter.unusedSimpArgs false
set_option maxRecDepth 100000
set_option maxHeartbeats 16000000 in
theorem finds_any (w : World) (a b : Tb) (s : ByteArray) (ha : Tin w a) (hb : Tin w b) (hs : okS s) :
    Calls Try.prog 3 #[.agg #[.int .i64 a.ver, .slice a.ha a.hos.length a.hc, .slice a.sa a.svs.length a.sc], .agg #[.int .i64 b.ver, .slice b.ha b.hos.length b.hc, .slice b.sa b.svs.length b.sc], .string s] w fun e w' => e = .returned (.bool true) ∧ Below w.heap.size w w' := by
  have HA := hideL ha
  have HB := hideL hb
  have HSS := hideL hs
  clear ha hb hs
  obtain ⟨w2, hw2⟩ : ∃ X, ((w.alloc (.cells #[.int .i64 a.ver, .slice a.ha a.hos.length a.hc, .slice a.sa a.svs.length a.sc] 25 (0, 0))).alloc (.cells #[.int .i64 b.ver, .slice b.ha b.hos.length b.hc, .slice b.sa b.svs.length b.sc] 25 (0, 0))) = X := ⟨_, rfl⟩
  have HG2 : Hid (Gr w w2) := by rw [← hw2]; exact (Gr.alloc _ _).trans (Gr.alloc _ _)
  have h2n := two_new w (.cells #[.int .i64 a.ver, .slice a.ha a.hos.length a.hc, .slice a.sa a.svs.length a.sc] 25 (0, 0)) (.cells #[.int .i64 b.ver, .slice b.ha b.hos.length b.hc, .slice b.sa b.svs.length b.sc] 25 (0, 0))
  rw [hw2] at h2n
  have HX := hideL h2n
  obtain ⟨p0, p1, p2⟩ := three_cells HX.out.1
  clear h2n
  obtain ⟨B0, hB0⟩ : ∃ B, w.heap.size = B := ⟨_, rfl⟩
  obtain ⟨B1, hB1⟩ : ∃ B, B0 + 1 = B := ⟨_, rfl⟩
  rw [hB0, hB1] at HX
  rw [hB0] at p0 p1 p2
  have HF := hideL (fun W (h : Below w2.heap.size w2 W) => find_any W a s ((HA.out.below HG2.out.below).below h) HSS.out)
  have HRF := hideL (fun W (h : Below w2.heap.size w2 W) => rfind_any W a s ((HA.out.below HG2.out.below).below h) HSS.out)
  unfold FiE at HF HRF
  generalize finA (finF a.hos s) = x at HF HRF
  generalize (finF a.hos s).isSome = y at HF HRF
  go_enter Try.func3, Try.ntmps3
  go_wp2_with fail
  refine (HF.out w2 (Below.refl _ _)).mono ?_
  rintro e w3 ⟨rfl, hb3⟩
  have HB3 := hideL hb3
  clear hb3 p0 p1 p2
  obtain ⟨p0, p1, p2⟩ := three_cells (HB3.out.cells HX.out.1)
  go_wp2_with fail
  refine (HRF.out w3 HB3.out).mono ?_
  rintro e w4 ⟨rfl, hb4⟩
  have HB4 := hideL (HB3.out.trans (hb4.mono HB3.out.size))
  clear hb4 p0 p1 p2 HF HRF hw2
  obtain ⟨p0, p1, p2⟩ := three_cells (HB4.out.cells HX.out.1)
  obtain ⟨q0, q1, q2⟩ := three_cells (HB4.out.cells HX.out.2)
  have HBW := hideL (HG2.out.below.trans (HB4.out.mono HG2.out.below.size))
  have HC1 := hideL (fun W (h : Gr w4 W) => same_any W a b ((HA.out.below HBW.out).below h.below) ((HB.out.below HBW.out).below h.below))
  have HC2 := hideL (fun W (h : Gr w4 W) => same_any W a a ((HA.out.below HBW.out).below h.below) ((HA.out.below HBW.out).below h.below))
  have HD1 := hideL (fun W (h : Gr w4 W) => rsame_any W a b ((HA.out.below HBW.out).below h.below) ((HB.out.below HBW.out).below h.below))
  have HD2 := hideL (fun W (h : Gr w4 W) => rsame_any W a a ((HA.out.below HBW.out).below h.below) ((HA.out.below HBW.out).below h.below))
  generalize tbB a b = b1 at HC1 HD1
  generalize tbB a a = b2 at HC2 HD2
  have HS := hideL (fun (w' : World) (h : Gr w4 w') => show (w'.cell? ⟨B0, 0, none⟩ = some (.int .i64 a.ver) ∧ w'.cell? ⟨B0, 1, none⟩ = some (.slice a.ha a.hos.length a.hc) ∧ w'.cell? ⟨B0, 2, none⟩ = some (.slice a.sa a.svs.length a.sc) ∧ w'.cell? ⟨B1, 0, none⟩ = some (.int .i64 b.ver) ∧ w'.cell? ⟨B1, 1, none⟩ = some (.slice b.ha b.hos.length b.hc) ∧ w'.cell? ⟨B1, 2, none⟩ = some (.slice b.sa b.svs.length b.sc)) from ⟨h.cell p0, h.cell p1, h.cell p2, h.cell q0, h.cell q1, h.cell q2⟩)
  clear hB0 hB1
  go_wp2_with fail
  go_region_held3 (fun w' => w'.cell? ⟨B0, 0, none⟩ = some (.int .i64 a.ver) ∧ w'.cell? ⟨B0, 1, none⟩ = some (.slice a.ha a.hos.length a.hc) ∧ w'.cell? ⟨B0, 2, none⟩ = some (.slice a.sa a.svs.length a.sc) ∧ w'.cell? ⟨B1, 0, none⟩ = some (.int .i64 b.ver) ∧ w'.cell? ⟨B1, 1, none⟩ = some (.slice b.ha b.hos.length b.hc) ∧ w'.cell? ⟨B1, 2, none⟩ = some (.slice b.sa b.svs.length b.sc)) (go_keep) (first
    | (go_at_call 7; refine (HD2.out _ HG13.out).mono ?_; rintro e w14 ⟨rfl, hgx⟩; have HG14 := hideL (HG13.out.trans hgx); obtain ⟨y0, y1, y2, y3, y4, y5⟩ := HS.out w14 HG14.out; clear hgx)
    | (go_at_call 6; refine (HC2.out _ HG12.out).mono ?_; rintro e w13 ⟨rfl, hgx⟩; have HG13 := hideL (HG12.out.trans hgx); obtain ⟨y0, y1, y2, y3, y4, y5⟩ := HS.out w13 HG13.out; clear hgx)
    | (go_at_call 7; refine (HD1.out _ HG11.out).mono ?_; rintro e w12 ⟨rfl, hgx⟩; have HG12 := hideL (HG11.out.trans hgx); obtain ⟨y0, y1, y2, y3, y4, y5⟩ := HS.out w12 HG12.out; clear hgx)
    | (go_at_call 6; refine (HC1.out _ (Gr.drewN w4 1)).mono ?_; rintro e w11 ⟨rfl, hgx⟩; have HG11 := hideL ((Gr.drewN w4 1).trans hgx); obtain ⟨y0, y1, y2, y3, y4, y5⟩ := HS.out w11 HG11.out; clear hgx))
  go_wp2
  go_ret
  exact ⟨rfl, HBW.out.trans (HG14.out.below.mono HBW.out.size)⟩
end Go.Proofs.Ytcihhcolgfaaiaa
