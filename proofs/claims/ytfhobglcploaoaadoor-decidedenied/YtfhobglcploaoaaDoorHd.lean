/-
  The walk of DecideDenied.
-/
import Derived.Test.YtfhobglcploaoaaDoorHc
import Derived.Deep.RegionHeld3
namespace Go.Proofs.YtfhobglcploaoaaDoor
open Go.RowKit
set_option linter.unusedVariables false
set_option linter.unusedSimpArgs false
set_option maxRecDepth 100000
theorem three_new (w : World) (x y z : Obj) : (((w.alloc x).alloc y).alloc z).heap[w.heap.size]? = some x ∧ (((w.alloc x).alloc y).alloc z).heap[w.heap.size + 1]? = some y ∧ (((w.alloc x).alloc y).alloc z).heap[w.heap.size + 1 + 1]? = some z := by
  have hs1 : (w.alloc x).heap.size = w.heap.size + 1 := al_size _ _
  have hs2 : ((w.alloc x).alloc y).heap.size = w.heap.size + 1 + 1 := by rw [al_size, hs1]
  refine ⟨((Gr.alloc _ _).trans (Gr.alloc _ _)).below.cells (heap_alloc_new w _), ?_, ?_⟩
  · have := (Gr.alloc _ z).below.cells (heap_alloc_new (w.alloc x) y); rwa [hs1] at this
  · have := heap_alloc_new ((w.alloc x).alloc y) z; rwa [hs2] at this
theorem dec15 {l : List Ho} {hs : List Hy} {me ho pa : ByteArray} {u : Nat} {n : Int} {i r : Nat} {x : Ho} (h : fndF l ho = some i) (hx : l[i]? = some x) (h2 : rulF x.ens me pa = some r) (h3 : alwB x.pms me pa = true) : (decF l hs me ho pa u n).kd = 1 ∨ (decF l hs me ho pa u n).kd = 5 := by
  obtain ⟨en, hr, -⟩ := idx_spec h2
  unfold decF; rw [h]; simp only [hx, h2, h3, hr]
  split
  · exact .inr rfl
  · exact .inl rfl
set_option maxHeartbeats 32000000 in
theorem denied_any (w : World) (t : Tb) (ya za : Option Addr) (yn yc zn zc : Nat) (L M : List Hy) (q r : Rq) (ht : Tin w t) (hy : Lin w ya yn L) (hz : Lin w za zn M) (g1 : okS q.ho) (g2 : okS q.pa) (hst : Sts w) :
    Calls Tryd.prog 4 #[.agg #[.int .i64 t.ver, .slice t.ha t.hos.length t.hc, .slice t.sa t.svs.length t.sc], .slice ya yn yc, .slice za zn zc, .agg #[.string q.me, .string q.ho, .string q.pa, .float .f64 q.u, .int .i64 q.n, .int .u64 q.a, .int .u64 q.b], .agg #[.string r.me, .string r.ho, .string r.pa, .float .f64 r.u, .int .i64 r.n, .int .u64 r.a, .int .u64 r.b]] w fun e w' => e = .returned (.bool true) ∧ Below w.heap.size w w' := by
  have G1 := hideL g1
  have G2 := hideL g2
  obtain ⟨hn, hhn⟩ : ∃ hn, t.hos.length = hn := ⟨_, rfl⟩
  have HN := hideL hhn
  rw [hhn]
  obtain ⟨w3, hw3⟩ : ∃ X, (((w.alloc (.cells #[.int .i64 t.ver, .slice t.ha hn t.hc, .slice t.sa t.svs.length t.sc] 25 (0, 0))).alloc (.cells #[.string q.me, .string q.ho, .string q.pa, .float .f64 q.u, .int .i64 q.n, .int .u64 q.a, .int .u64 q.b] 30 (0, 0))).alloc (.cells #[.string r.me, .string r.ho, .string r.pa, .float .f64 r.u, .int .i64 r.n, .int .u64 r.a, .int .u64 r.b] 30 (0, 0))) = X := ⟨_, rfl⟩
  have h3n := three_new w (.cells #[.int .i64 t.ver, .slice t.ha hn t.hc, .slice t.sa t.svs.length t.sc] 25 (0, 0)) (.cells #[.string q.me, .string q.ho, .string q.pa, .float .f64 q.u, .int .i64 q.n, .int .u64 q.a, .int .u64 q.b] 30 (0, 0)) (.cells #[.string r.me, .string r.ho, .string r.pa, .float .f64 r.u, .int .i64 r.n, .int .u64 r.a, .int .u64 r.b] 30 (0, 0))
  have HG3 : Hid (Below w.heap.size w w3) := by rw [← hw3]; exact (((Gr.alloc _ _).trans (Gr.alloc _ _)).trans (Gr.alloc _ _)).below
  rw [hw3] at h3n
  obtain ⟨B0, hB0⟩ : ∃ B, w.heap.size = B := ⟨_, rfl⟩
  obtain ⟨B1, hB1⟩ : ∃ B, B0 + 1 = B := ⟨_, rfl⟩
  obtain ⟨B2, hB2⟩ : ∃ B, B1 + 1 = B := ⟨_, rfl⟩
  rw [hB0, hB1, hB2] at h3n
  have HX := hideL h3n
  have HT := hideL (fun W (h : Below w3.heap.size w3 W) => (ht.below HG3.out).below h)
  have HD : ∀ (D : Dn), decF t.hos L q.me q.ho q.pa q.u q.n = D → Hid (∀ W, Below w3.heap.size w3 W → Calls Tryd.prog 8 #[.agg #[.int .i64 t.ver, .slice t.ha hn t.hc, .slice t.sa t.svs.length t.sc], .slice ya yn yc, .string q.me, .string q.ho, .string q.pa, .float .f64 q.u, .int .i64 q.n] W fun e w' => e = .returned D.val ∧ Below W.heap.size W w') := fun D hD W h => by
    have := decide_any W t ya yn yc L q.me q.ho q.pa q.u q.n (HT.out W h) ((hy.below HG3.out).below h) G1.out G2.out ((hst.below HG3.out).below h)
    rwa [hhn, hD] at this
  have HE : ∀ (D : Dn), decF t.hos M q.me q.ho q.pa r.u r.n = D → Hid (∀ W, Below w3.heap.size w3 W → Calls Tryd.prog 8 #[.agg #[.int .i64 t.ver, .slice t.ha hn t.hc, .slice t.sa t.svs.length t.sc], .slice za zn zc, .string q.me, .string q.ho, .string q.pa, .float .f64 r.u, .int .i64 r.n] W fun e w' => e = .returned D.val ∧ Below W.heap.size W w') := fun D hD W h => by
    have := decide_any W t za zn zc M q.me q.ho q.pa r.u r.n (HT.out W h) ((hz.below HG3.out).below h) G1.out G2.out ((hst.below HG3.out).below h)
    rwa [hhn, hD] at this
  have HAW := hideL (awake_any w3 (hst.below HG3.out))
  have HFI := fun W (h : Below w3.heap.size w3 W) => find_any W t q.ho (HT.out W h) G1.out
  rw [hhn] at HFI
  replace HFI := hideL HFI
  clear ht hy hz g1 g2 hst h3n hhn
  go_enter Tryd.func4, Tryd.ntmps4
  go_wp2_with fail
  refine HAW.out.mono ?_
  rintro e w4 ⟨rfl, hb4⟩
  have HB4 := hideL hb4
  clear hb4 HAW hw3 hB0 hB1 hB2
  obtain ⟨p0, p1, p2⟩ := three_cells (HB4.out.cells HX.out.1)
  obtain ⟨q0, q1, q2, q3, q4, q5, q6⟩ := seven_cells (HB4.out.cells HX.out.2.1)
  go_wp2_with fail
  rcases hfi : fndF t.hos q.ho with _ | i
  · have HD1 : Hid (∀ W, Below w3.heap.size w3 W → Calls Tryd.prog 8 #[.agg #[.int .i64 t.ver, .slice t.ha hn t.hc, .slice t.sa t.svs.length t.sc], .slice ya yn yc, .string q.me, .string q.ho, .string q.pa, .float .f64 q.u, .int .i64 q.n] W fun e w' => e = .returned (.agg #[.int .i64 2, .int .i64 404, .string ⟨#[]⟩, .int .i64 (-1), .string ⟨#[]⟩, .string ⟨#[]⟩]) ∧ Below W.heap.size W w') := HD _ (dec2 hfi)
    have HE1 : Hid (∀ W, Below w3.heap.size w3 W → Calls Tryd.prog 8 #[.agg #[.int .i64 t.ver, .slice t.ha hn t.hc, .slice t.sa t.svs.length t.sc], .slice za zn zc, .string q.me, .string q.ho, .string q.pa, .float .f64 r.u, .int .i64 r.n] W fun e w' => e = .returned (.agg #[.int .i64 2, .int .i64 404, .string ⟨#[]⟩, .int .i64 (-1), .string ⟨#[]⟩, .string ⟨#[]⟩]) ∧ Below W.heap.size W w') := HE _ (dec2 hfi)
    clear HD HE
    refine (HD1.out _ HB4.out).mono ?_
    rintro e w5 ⟨rfl, hb5⟩
    have HB5 := hideL ((HB4.out.trans (hb5.mono HB4.out.size)).trans ((Gr.alloc w5 (.cells #[.int .i64 2, .int .i64 404, .string ⟨#[]⟩, .int .i64 (-1), .string ⟨#[]⟩, .string ⟨#[]⟩] 33 (0, 0))).below.mono (Nat.le_trans HB4.out.size hb5.size)))
    have hn5 := heap_alloc_new w5 (.cells #[.int .i64 2, .int .i64 404, .string ⟨#[]⟩, .int .i64 (-1), .string ⟨#[]⟩, .string ⟨#[]⟩] 33 (0, 0))
    obtain ⟨C, hC⟩ : ∃ C, w5.heap.size = C := ⟨_, rfl⟩
    rw [hC] at hn5
    have HN5 := hideL hn5
    clear hb5 p0 p1 p2 q0 q1 q2 q3 q4 q5 q6 hn5
    obtain ⟨p0, p1, p2⟩ := three_cells (HB5.out.cells HX.out.1)
    obtain ⟨q0, q1, q2, q3, q4, q5, q6⟩ := seven_cells (HB5.out.cells HX.out.2.1)
    obtain ⟨r0, r1, r2, r3, r4, r5, r6⟩ := seven_cells (HB5.out.cells HX.out.2.2)
    obtain ⟨k0, k1, k2, k3, k4, k5⟩ := six_cells HN5.out
    go_wp2_with fail
    refine (HE1.out _ HB5.out).mono ?_
    rintro e w7 ⟨rfl, hb7⟩
    have HB7 := hideL ((HB5.out.trans (hb7.mono HB5.out.size)).trans ((Gr.alloc w7 (.cells #[.int .i64 2, .int .i64 404, .string ⟨#[]⟩, .int .i64 (-1), .string ⟨#[]⟩, .string ⟨#[]⟩] 33 (0, 0))).below.mono (Nat.le_trans HB5.out.size hb7.size)))
    have HN7 := hideL ((Gr.alloc w7 (.cells #[.int .i64 2, .int .i64 404, .string ⟨#[]⟩, .int .i64 (-1), .string ⟨#[]⟩, .string ⟨#[]⟩] 33 (0, 0))).below.cells (hb7.cells HN5.out))
    have hm7 := heap_alloc_new w7 (.cells #[.int .i64 2, .int .i64 404, .string ⟨#[]⟩, .int .i64 (-1), .string ⟨#[]⟩, .string ⟨#[]⟩] 33 (0, 0))
    obtain ⟨C2, hC2⟩ : ∃ C2, w7.heap.size = C2 := ⟨_, rfl⟩
    rw [hC2] at hm7
    have HM7 := hideL hm7
    clear hb7 p0 p1 p2 q0 q1 q2 q3 q4 q5 q6 r0 r1 r2 r3 r4 r5 r6 k0 k1 k2 k3 k4 k5 hm7 hC HD1 HE1
    go_wp2_with fail
    obtain ⟨wz, hwz⟩ : ∃ X, w7.alloc (.cells #[.int .i64 2, .int .i64 404, .string ⟨#[]⟩, .int .i64 (-1), .string ⟨#[]⟩, .string ⟨#[]⟩] 33 (0, 0)) = X := ⟨_, rfl⟩
    rw [hwz] at HB7 HN7 HM7 ⊢
    obtain ⟨p0, p1, p2⟩ := three_cells (HB7.out.cells HX.out.1)
    obtain ⟨q0, q1, q2, q3, q4, q5, q6⟩ := seven_cells (HB7.out.cells HX.out.2.1)
    obtain ⟨k0, k1, k2, k3, k4, k5⟩ := six_cells HN7.out
    obtain ⟨l0, l1, l2, l3, l4, l5⟩ := six_cells HM7.out
    clear hC2 hwz
    have HF1 : Hid (∀ W, Below w3.heap.size w3 W → Calls Tryd.prog 14 #[.agg #[.int .i64 t.ver, .slice t.ha hn t.hc, .slice t.sa t.svs.length t.sc], .string q.ho] W fun e w' => e = .returned (.int .i64 (-1)) ∧ Below W.heap.size W w') := by have := HFI.out; rw [hfi] at this; exact this
    have HS := hideL (fun (w' : World) (h : Below wz.heap.size wz w') => show (w'.cell? ⟨C, 0, none⟩ = some (.int .i64 2) ∧ w'.cell? ⟨C, 1, none⟩ = some (.int .i64 404) ∧ w'.cell? ⟨C, 2, none⟩ = some (.string ⟨#[]⟩) ∧ w'.cell? ⟨C, 3, none⟩ = some (.int .i64 (-1)) ∧ w'.cell? ⟨C, 4, none⟩ = some (.string ⟨#[]⟩) ∧ w'.cell? ⟨C, 5, none⟩ = some (.string ⟨#[]⟩) ∧ w'.cell? ⟨C2, 0, none⟩ = some (.int .i64 2) ∧ w'.cell? ⟨C2, 1, none⟩ = some (.int .i64 404) ∧ w'.cell? ⟨C2, 2, none⟩ = some (.string ⟨#[]⟩) ∧ w'.cell? ⟨C2, 3, none⟩ = some (.int .i64 (-1)) ∧ w'.cell? ⟨C2, 4, none⟩ = some (.string ⟨#[]⟩) ∧ w'.cell? ⟨C2, 5, none⟩ = some (.string ⟨#[]⟩) ∧ w'.cell? ⟨B0, 0, none⟩ = some (.int .i64 t.ver) ∧ w'.cell? ⟨B0, 1, none⟩ = some (.slice t.ha hn t.hc) ∧ w'.cell? ⟨B0, 2, none⟩ = some (.slice t.sa t.svs.length t.sc) ∧ w'.cell? ⟨B1, 1, none⟩ = some (.string q.ho)) from ⟨cell_of_below h k0, cell_of_below h k1, cell_of_below h k2, cell_of_below h k3, cell_of_below h k4, cell_of_below h k5, cell_of_below h l0, cell_of_below h l1, cell_of_below h l2, cell_of_below h l3, cell_of_below h l4, cell_of_below h l5, cell_of_below h p0, cell_of_below h p1, cell_of_below h p2, cell_of_below h q1⟩)
    clear hfi
    go_region_held3 (fun w' => w'.cell? ⟨C, 0, none⟩ = some (.int .i64 2) ∧ w'.cell? ⟨C, 1, none⟩ = some (.int .i64 404) ∧ w'.cell? ⟨C, 2, none⟩ = some (.string ⟨#[]⟩) ∧ w'.cell? ⟨C, 3, none⟩ = some (.int .i64 (-1)) ∧ w'.cell? ⟨C, 4, none⟩ = some (.string ⟨#[]⟩) ∧ w'.cell? ⟨C, 5, none⟩ = some (.string ⟨#[]⟩) ∧ w'.cell? ⟨C2, 0, none⟩ = some (.int .i64 2) ∧ w'.cell? ⟨C2, 1, none⟩ = some (.int .i64 404) ∧ w'.cell? ⟨C2, 2, none⟩ = some (.string ⟨#[]⟩) ∧ w'.cell? ⟨C2, 3, none⟩ = some (.int .i64 (-1)) ∧ w'.cell? ⟨C2, 4, none⟩ = some (.string ⟨#[]⟩) ∧ w'.cell? ⟨C2, 5, none⟩ = some (.string ⟨#[]⟩) ∧ w'.cell? ⟨B0, 0, none⟩ = some (.int .i64 t.ver) ∧ w'.cell? ⟨B0, 1, none⟩ = some (.slice t.ha hn t.hc) ∧ w'.cell? ⟨B0, 2, none⟩ = some (.slice t.sa t.svs.length t.sc) ∧ w'.cell? ⟨B1, 1, none⟩ = some (.string q.ho)) (go_keep) (first
      | (go_at_call 14; refine (HF1.out _ (below_drewN HB7.out 1)).mono ?_; rintro e w9 ⟨rfl, hgx⟩; have HG9 := hideL ((below_drewN (Below.refl wz.heap.size wz) 1).trans hgx); obtain ⟨y0, y1, y2, y3, y4, y5, y6, y7, y8, y9, y10, y11, y12, y13, y14, y15⟩ := HS.out w9 HG9.out; clear hgx))
    go_wp2_with fail
    go_ret
    exact ⟨rfl, HG3.out.trans ((HB7.out.trans (HG9.out.mono HB7.out.size)).mono HG3.out.size)⟩
  · obtain ⟨x, hix, -⟩ := idx_spec hfi
    have i0 : (0 : Int) ≤ i := by omega
    rcases hru : rulF x.ens q.me q.pa with _ | m
    · have HD1 : Hid (∀ W, Below w3.heap.size w3 W → Calls Tryd.prog 8 #[.agg #[.int .i64 t.ver, .slice t.ha hn t.hc, .slice t.sa t.svs.length t.sc], .slice ya yn yc, .string q.me, .string q.ho, .string q.pa, .float .f64 q.u, .int .i64 q.n] W fun e w' => e = .returned (.agg #[.int .i64 3, .int .i64 404, .string x.ro, .int .i64 (-1), .string ⟨#[]⟩, .string ⟨#[]⟩]) ∧ Below W.heap.size W w') := HD _ (dec3 hfi hix hru)
      have HE1 : Hid (∀ W, Below w3.heap.size w3 W → Calls Tryd.prog 8 #[.agg #[.int .i64 t.ver, .slice t.ha hn t.hc, .slice t.sa t.svs.length t.sc], .slice za zn zc, .string q.me, .string q.ho, .string q.pa, .float .f64 r.u, .int .i64 r.n] W fun e w' => e = .returned (.agg #[.int .i64 3, .int .i64 404, .string x.ro, .int .i64 (-1), .string ⟨#[]⟩, .string ⟨#[]⟩]) ∧ Below W.heap.size W w') := HE _ (dec3 hfi hix hru)
      clear HD HE
      refine (HD1.out _ HB4.out).mono ?_
      rintro e w5 ⟨rfl, hb5⟩
      have HB5 := hideL ((HB4.out.trans (hb5.mono HB4.out.size)).trans ((Gr.alloc w5 (.cells #[.int .i64 3, .int .i64 404, .string x.ro, .int .i64 (-1), .string ⟨#[]⟩, .string ⟨#[]⟩] 33 (0, 0))).below.mono (Nat.le_trans HB4.out.size hb5.size)))
      have hn5 := heap_alloc_new w5 (.cells #[.int .i64 3, .int .i64 404, .string x.ro, .int .i64 (-1), .string ⟨#[]⟩, .string ⟨#[]⟩] 33 (0, 0))
      obtain ⟨C, hC⟩ : ∃ C, w5.heap.size = C := ⟨_, rfl⟩
      rw [hC] at hn5
      have HN5 := hideL hn5
      clear hb5 p0 p1 p2 q0 q1 q2 q3 q4 q5 q6 hn5
      obtain ⟨p0, p1, p2⟩ := three_cells (HB5.out.cells HX.out.1)
      obtain ⟨q0, q1, q2, q3, q4, q5, q6⟩ := seven_cells (HB5.out.cells HX.out.2.1)
      obtain ⟨r0, r1, r2, r3, r4, r5, r6⟩ := seven_cells (HB5.out.cells HX.out.2.2)
      obtain ⟨k0, k1, k2, k3, k4, k5⟩ := six_cells HN5.out
      go_wp2_with fail
      refine (HE1.out _ HB5.out).mono ?_
      rintro e w7 ⟨rfl, hb7⟩
      have HB7 := hideL ((HB5.out.trans (hb7.mono HB5.out.size)).trans ((Gr.alloc w7 (.cells #[.int .i64 3, .int .i64 404, .string x.ro, .int .i64 (-1), .string ⟨#[]⟩, .string ⟨#[]⟩] 33 (0, 0))).below.mono (Nat.le_trans HB5.out.size hb7.size)))
      have HN7 := hideL ((Gr.alloc w7 (.cells #[.int .i64 3, .int .i64 404, .string x.ro, .int .i64 (-1), .string ⟨#[]⟩, .string ⟨#[]⟩] 33 (0, 0))).below.cells (hb7.cells HN5.out))
      have hm7 := heap_alloc_new w7 (.cells #[.int .i64 3, .int .i64 404, .string x.ro, .int .i64 (-1), .string ⟨#[]⟩, .string ⟨#[]⟩] 33 (0, 0))
      obtain ⟨C2, hC2⟩ : ∃ C2, w7.heap.size = C2 := ⟨_, rfl⟩
      rw [hC2] at hm7
      have HM7 := hideL hm7
      clear hb7 p0 p1 p2 q0 q1 q2 q3 q4 q5 q6 r0 r1 r2 r3 r4 r5 r6 k0 k1 k2 k3 k4 k5 hm7 hC HD1 HE1
      go_wp2_with fail
      obtain ⟨wz, hwz⟩ : ∃ X, w7.alloc (.cells #[.int .i64 3, .int .i64 404, .string x.ro, .int .i64 (-1), .string ⟨#[]⟩, .string ⟨#[]⟩] 33 (0, 0)) = X := ⟨_, rfl⟩
      rw [hwz] at HB7 HN7 HM7 ⊢
      obtain ⟨p0, p1, p2⟩ := three_cells (HB7.out.cells HX.out.1)
      obtain ⟨q0, q1, q2, q3, q4, q5, q6⟩ := seven_cells (HB7.out.cells HX.out.2.1)
      obtain ⟨k0, k1, k2, k3, k4, k5⟩ := six_cells HN7.out
      obtain ⟨l0, l1, l2, l3, l4, l5⟩ := six_cells HM7.out
      clear hC2 hwz
      clear hix hru
      cases hro : x.ro.toList.isEmpty
      · clear hfi
        go_quiet (fail)
        go_wp2_with fail
        go_ret
        exact ⟨rfl, HG3.out.trans ((below_drewN HB7.out _).mono HG3.out.size)⟩
      · have HF1 : Hid (∀ W, Below w3.heap.size w3 W → Calls Tryd.prog 14 #[.agg #[.int .i64 t.ver, .slice t.ha hn t.hc, .slice t.sa t.svs.length t.sc], .string q.ho] W fun e w' => e = .returned (.int .i64 (i : Int)) ∧ Below W.heap.size W w') := by have := HFI.out; rw [hfi] at this; exact this
        have HS := hideL (fun (w' : World) (h : Below wz.heap.size wz w') => show (w'.cell? ⟨C, 0, none⟩ = some (.int .i64 3) ∧ w'.cell? ⟨C, 1, none⟩ = some (.int .i64 404) ∧ w'.cell? ⟨C, 2, none⟩ = some (.string x.ro) ∧ w'.cell? ⟨C, 3, none⟩ = some (.int .i64 (-1)) ∧ w'.cell? ⟨C, 4, none⟩ = some (.string ⟨#[]⟩) ∧ w'.cell? ⟨C, 5, none⟩ = some (.string ⟨#[]⟩) ∧ w'.cell? ⟨C2, 0, none⟩ = some (.int .i64 3) ∧ w'.cell? ⟨C2, 1, none⟩ = some (.int .i64 404) ∧ w'.cell? ⟨C2, 2, none⟩ = some (.string x.ro) ∧ w'.cell? ⟨C2, 3, none⟩ = some (.int .i64 (-1)) ∧ w'.cell? ⟨C2, 4, none⟩ = some (.string ⟨#[]⟩) ∧ w'.cell? ⟨C2, 5, none⟩ = some (.string ⟨#[]⟩) ∧ w'.cell? ⟨B0, 0, none⟩ = some (.int .i64 t.ver) ∧ w'.cell? ⟨B0, 1, none⟩ = some (.slice t.ha hn t.hc) ∧ w'.cell? ⟨B0, 2, none⟩ = some (.slice t.sa t.svs.length t.sc) ∧ w'.cell? ⟨B1, 1, none⟩ = some (.string q.ho)) from ⟨cell_of_below h k0, cell_of_below h k1, cell_of_below h k2, cell_of_below h k3, cell_of_below h k4, cell_of_below h k5, cell_of_below h l0, cell_of_below h l1, cell_of_below h l2, cell_of_below h l3, cell_of_below h l4, cell_of_below h l5, cell_of_below h p0, cell_of_below h p1, cell_of_below h p2, cell_of_below h q1⟩)
        clear hfi
        go_region_held3 (fun w' => w'.cell? ⟨C, 0, none⟩ = some (.int .i64 3) ∧ w'.cell? ⟨C, 1, none⟩ = some (.int .i64 404) ∧ w'.cell? ⟨C, 2, none⟩ = some (.string x.ro) ∧ w'.cell? ⟨C, 3, none⟩ = some (.int .i64 (-1)) ∧ w'.cell? ⟨C, 4, none⟩ = some (.string ⟨#[]⟩) ∧ w'.cell? ⟨C, 5, none⟩ = some (.string ⟨#[]⟩) ∧ w'.cell? ⟨C2, 0, none⟩ = some (.int .i64 3) ∧ w'.cell? ⟨C2, 1, none⟩ = some (.int .i64 404) ∧ w'.cell? ⟨C2, 2, none⟩ = some (.string x.ro) ∧ w'.cell? ⟨C2, 3, none⟩ = some (.int .i64 (-1)) ∧ w'.cell? ⟨C2, 4, none⟩ = some (.string ⟨#[]⟩) ∧ w'.cell? ⟨C2, 5, none⟩ = some (.string ⟨#[]⟩) ∧ w'.cell? ⟨B0, 0, none⟩ = some (.int .i64 t.ver) ∧ w'.cell? ⟨B0, 1, none⟩ = some (.slice t.ha hn t.hc) ∧ w'.cell? ⟨B0, 2, none⟩ = some (.slice t.sa t.svs.length t.sc) ∧ w'.cell? ⟨B1, 1, none⟩ = some (.string q.ho)) (go_keep) (first
          | (go_at_call 14; refine (HF1.out _ (below_drewN HB7.out 1)).mono ?_; rintro e w9 ⟨rfl, hgx⟩; have HG9 := hideL ((below_drewN (Below.refl wz.heap.size wz) 1).trans hgx); obtain ⟨y0, y1, y2, y3, y4, y5, y6, y7, y8, y9, y10, y11, y12, y13, y14, y15⟩ := HS.out w9 HG9.out; clear hgx))
        go_wp2_with fail
        go_ret
        exact ⟨rfl, HG3.out.trans ((HB7.out.trans (HG9.out.mono HB7.out.size)).mono HG3.out.size)⟩
    · have m0 : (0 : Int) ≤ m := by omega
      rcases hal : alwB x.pms q.me q.pa with _ | _
      · have HD1 : Hid (∀ W, Below w3.heap.size w3 W → Calls Tryd.prog 8 #[.agg #[.int .i64 t.ver, .slice t.ha hn t.hc, .slice t.sa t.svs.length t.sc], .slice ya yn yc, .string q.me, .string q.ho, .string q.pa, .float .f64 q.u, .int .i64 q.n] W fun e w' => e = .returned (.agg #[.int .i64 4, .int .i64 403, .string x.ro, .int .i64 (m : Int), .string ⟨#[]⟩, .string ⟨#[]⟩]) ∧ Below W.heap.size W w') := HD _ (dec4 hfi hix hru hal)
        have HE1 : Hid (∀ W, Below w3.heap.size w3 W → Calls Tryd.prog 8 #[.agg #[.int .i64 t.ver, .slice t.ha hn t.hc, .slice t.sa t.svs.length t.sc], .slice za zn zc, .string q.me, .string q.ho, .string q.pa, .float .f64 r.u, .int .i64 r.n] W fun e w' => e = .returned (.agg #[.int .i64 4, .int .i64 403, .string x.ro, .int .i64 (m : Int), .string ⟨#[]⟩, .string ⟨#[]⟩]) ∧ Below W.heap.size W w') := HE _ (dec4 hfi hix hru hal)
        clear HD HE
        refine (HD1.out _ HB4.out).mono ?_
        rintro e w5 ⟨rfl, hb5⟩
        have HB5 := hideL ((HB4.out.trans (hb5.mono HB4.out.size)).trans ((Gr.alloc w5 (.cells #[.int .i64 4, .int .i64 403, .string x.ro, .int .i64 (m : Int), .string ⟨#[]⟩, .string ⟨#[]⟩] 33 (0, 0))).below.mono (Nat.le_trans HB4.out.size hb5.size)))
        have hn5 := heap_alloc_new w5 (.cells #[.int .i64 4, .int .i64 403, .string x.ro, .int .i64 (m : Int), .string ⟨#[]⟩, .string ⟨#[]⟩] 33 (0, 0))
        obtain ⟨C, hC⟩ : ∃ C, w5.heap.size = C := ⟨_, rfl⟩
        rw [hC] at hn5
        have HN5 := hideL hn5
        clear hb5 p0 p1 p2 q0 q1 q2 q3 q4 q5 q6 hn5
        obtain ⟨p0, p1, p2⟩ := three_cells (HB5.out.cells HX.out.1)
        obtain ⟨q0, q1, q2, q3, q4, q5, q6⟩ := seven_cells (HB5.out.cells HX.out.2.1)
        obtain ⟨r0, r1, r2, r3, r4, r5, r6⟩ := seven_cells (HB5.out.cells HX.out.2.2)
        obtain ⟨k0, k1, k2, k3, k4, k5⟩ := six_cells HN5.out
        go_wp2_with fail
        refine (HE1.out _ HB5.out).mono ?_
        rintro e w7 ⟨rfl, hb7⟩
        have HB7 := hideL ((HB5.out.trans (hb7.mono HB5.out.size)).trans ((Gr.alloc w7 (.cells #[.int .i64 4, .int .i64 403, .string x.ro, .int .i64 (m : Int), .string ⟨#[]⟩, .string ⟨#[]⟩] 33 (0, 0))).below.mono (Nat.le_trans HB5.out.size hb7.size)))
        have HN7 := hideL ((Gr.alloc w7 (.cells #[.int .i64 4, .int .i64 403, .string x.ro, .int .i64 (m : Int), .string ⟨#[]⟩, .string ⟨#[]⟩] 33 (0, 0))).below.cells (hb7.cells HN5.out))
        have hm7 := heap_alloc_new w7 (.cells #[.int .i64 4, .int .i64 403, .string x.ro, .int .i64 (m : Int), .string ⟨#[]⟩, .string ⟨#[]⟩] 33 (0, 0))
        obtain ⟨C2, hC2⟩ : ∃ C2, w7.heap.size = C2 := ⟨_, rfl⟩
        rw [hC2] at hm7
        have HM7 := hideL hm7
        clear hb7 p0 p1 p2 q0 q1 q2 q3 q4 q5 q6 r0 r1 r2 r3 r4 r5 r6 k0 k1 k2 k3 k4 k5 hm7 hC HD1 HE1
        go_wp2_with fail
        obtain ⟨wz, hwz⟩ : ∃ X, w7.alloc (.cells #[.int .i64 4, .int .i64 403, .string x.ro, .int .i64 (m : Int), .string ⟨#[]⟩, .string ⟨#[]⟩] 33 (0, 0)) = X := ⟨_, rfl⟩
        rw [hwz] at HB7 HN7 HM7 ⊢
        obtain ⟨p0, p1, p2⟩ := three_cells (HB7.out.cells HX.out.1)
        obtain ⟨q0, q1, q2, q3, q4, q5, q6⟩ := seven_cells (HB7.out.cells HX.out.2.1)
        obtain ⟨k0, k1, k2, k3, k4, k5⟩ := six_cells HN7.out
        obtain ⟨l0, l1, l2, l3, l4, l5⟩ := six_cells HM7.out
        clear hC2 hwz
        clear hix hru hal hfi
        have hm1 : ((m : Int) == -1) = false := by simp
        cases hro : x.ro.toList.isEmpty
        · go_quiet (fail)
          go_wp2_with fail
          go_ret
          exact ⟨rfl, HG3.out.trans ((below_drewN HB7.out _).mono HG3.out.size)⟩
        · go_quiet (fail)
          go_wp2_with fail
          go_ret
          exact ⟨rfl, HG3.out.trans ((below_drewN HB7.out _).mono HG3.out.size)⟩
      · obtain ⟨D, hD⟩ : ∃ D, decF t.hos L q.me q.ho q.pa q.u q.n = D := ⟨_, rfl⟩
        have hk := dec15 (hs := L) (u := q.u) (n := q.n) hfi hix hru hal
        rw [hD] at hk
        have HD1 := HD D hD
        obtain ⟨kd, st, ro, ru, sv, ep⟩ := D
        unfold Dn.val at HD1
        simp only at hk HD1
        clear HD HE hD hfi hix hru hal
        refine (HD1.out _ HB4.out).mono ?_
        rintro e w5 ⟨rfl, hb5⟩
        have HB5 := hideL ((HB4.out.trans (hb5.mono HB4.out.size)).trans ((Gr.alloc w5 (.cells #[.int .i64 kd, .int .i64 st, .string ro, .int .i64 ru, .string sv, .string ep] 33 (0, 0))).below.mono (Nat.le_trans HB4.out.size hb5.size)))
        clear hb5
        rcases hk with rfl | rfl
        · go_wp2_with fail
          go_ret
          exact ⟨rfl, HG3.out.trans (HB5.out.mono HG3.out.size)⟩
        · go_wp2_with fail
          go_ret
          exact ⟨rfl, HG3.out.trans (HB5.out.mono HG3.out.size)⟩
end Go.Proofs.YtfhobglcploaoaaDoor
