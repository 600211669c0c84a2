/-
  The walk of DecideForward.
-/
import Derived.Test.YtfhobglcploaoaaDoorHc
import Derived.Test.YtfhobglcploaoaaDoorHp
import Derived.Deep.RegionHeld3
import Derived.BigQuiet
namespace Go.Proofs.YtfhobglcploaoaaDoor
open Go.RowKit
set_option linter.unusedVariables false
set_option linter.unusedSimpArgs false
set_option maxRecDepth 100000
set_option maxHeartbeats 32000000 in
theorem forward_any (w : World) (t : Tb) (ya : Option Addr) (yn yc : Nat) (L : List Hy) (q : Rq) (ht : Tin w t) (hy : Lin w ya yn L) (g1 : okS q.ho) (g2 : okS q.pa) (hst : Sts w) :
    Calls Tryd.prog 5 #[.agg #[.int .i64 t.ver, .slice t.ha t.hos.length t.hc, .slice t.sa t.svs.length t.sc], .slice ya yn yc, .agg #[.string q.me, .string q.ho, .string q.pa, .float .f64 q.u, .int .i64 q.n, .int .u64 q.a, .int .u64 q.b]] w fun e w' => e = .returned (.bool true) ∧ Below w.heap.size w w' := by
  have G1 := hideL g1
  have G2 := hideL g2
  obtain ⟨hn, hhn⟩ : ∃ hn, t.hos.length = hn := ⟨_, rfl⟩
  have HN := hideL hhn
  have hln : hn ≤ 140737488355328 := by rw [← hhn]; exact ht.lh
  have hly : yn ≤ 140737488355328 := hy.le
  rw [hhn]
  obtain ⟨w3, hw3⟩ : ∃ X, ((w.alloc (.cells #[.int .i64 t.ver, .slice t.ha hn t.hc, .slice t.sa t.svs.length t.sc] 25 (0, 0))).alloc (.cells #[.string q.me, .string q.ho, .string q.pa, .float .f64 q.u, .int .i64 q.n, .int .u64 q.a, .int .u64 q.b] 30 (0, 0))) = X := ⟨_, rfl⟩
  have h3n := two_new w (.cells #[.int .i64 t.ver, .slice t.ha hn t.hc, .slice t.sa t.svs.length t.sc] 25 (0, 0)) (.cells #[.string q.me, .string q.ho, .string q.pa, .float .f64 q.u, .int .i64 q.n, .int .u64 q.a, .int .u64 q.b] 30 (0, 0))
  have HG3 : Hid (Below w.heap.size w w3) := by rw [← hw3]; exact ((Gr.alloc _ _).trans (Gr.alloc _ _)).below
  rw [hw3] at h3n
  obtain ⟨B0, hB0⟩ : ∃ B, w.heap.size = B := ⟨_, rfl⟩
  obtain ⟨B1, hB1⟩ : ∃ B, B0 + 1 = B := ⟨_, rfl⟩
  rw [hB0, hB1] at h3n
  have HX := hideL h3n
  have HT := hideL (fun W (h : Below w3.heap.size w3 W) => (ht.below HG3.out).below h)
  have HY := hideL (fun W (h : Below w3.heap.size w3 W) => (hy.below HG3.out).below h)
  have HD : ∀ (D : Dn), decF t.hos L q.me q.ho q.pa q.u q.n = D → Hid (∀ W, Below w3.heap.size w3 W → Calls Tryd.prog 8 #[.agg #[.int .i64 t.ver, .slice t.ha hn t.hc, .slice t.sa t.svs.length t.sc], .slice ya yn yc, .string q.me, .string q.ho, .string q.pa, .float .f64 q.u, .int .i64 q.n] W fun e w' => e = .returned D.val ∧ Below W.heap.size W w') := fun D hD W h => by
    have := decide_any W t ya yn yc L q.me q.ho q.pa q.u q.n (HT.out W h) ((hy.below HG3.out).below h) G1.out G2.out ((hst.below HG3.out).below h)
    rwa [hhn, hD] at this
  have HAW := hideL (awake_any w3 (hst.below HG3.out))
  have HFI := fun W (h : Below w3.heap.size w3 W) => find_any W t q.ho (HT.out W h) G1.out
  rw [hhn] at HFI
  replace HFI := hideL HFI
  clear ht hy g1 g2 hst h3n hhn
  go_enter Tryd.func5, Tryd.ntmps5
  go_wp2_with fail
  refine HAW.out.mono ?_
  rintro e w4 ⟨rfl, hb4⟩
  have HB4 := hideL hb4
  clear hb4 HAW hw3 hB0 hB1
  obtain ⟨p0, p1, p2⟩ := three_cells (HB4.out.cells HX.out.1)
  obtain ⟨q0, q1, q2, q3, q4, q5, q6⟩ := seven_cells (HB4.out.cells HX.out.2)
  go_wp2_with fail
  rcases dec_all t.hos L q.me q.ho q.pa q.u q.n with ⟨i, x, r, en, o, p, hfi, hix, hru, hal, hrk, hep, hpk, hD⟩ | ⟨hk1, hk2, hk3⟩
  · obtain ⟨sv, hsv⟩ : ∃ sv, shF en.shs q.u = sv := ⟨_, rfl⟩
    have HSV := hideL hsv
    rw [hsv] at hep hD
    obtain ⟨jo, hjo, hos, hse⟩ := epsF_at2 hep
    have HJO := hideL hjo
    have HOS := hideL hos
    have HPK := hideL hpk
    obtain ⟨js, os_, hjs, hjv⟩ := shF_mem (l := en.shs) (u := q.u) (by rw [hsv]; exact hse)
    rw [hsv] at hjv
    have HJS := hideL hjs
    have HJV := hideL hjv
    have HIX := hideL hix
    have HRK := hideL hrk
    obtain ⟨m, hm⟩ : ∃ m, x.ens.length = m := ⟨_, rfl⟩
    have HM := hideL hm
    obtain ⟨ms, hms⟩ : ∃ ms, en.shs.length = ms := ⟨_, rfl⟩
    have HMS := hideL hms
    have hil : i < hn := by have := (List.getElem?_eq_some_iff.1 hix).1; have := HN.out; omega
    have hil' : (i : Int) < hn := by omega
    have hrl : r < m := by have := (List.getElem?_eq_some_iff.1 hrk).1; omega
    have hrl' : (r : Int) < m := by omega
    have i0 : (0 : Int) ≤ i := by omega
    have r0 : (0 : Int) ≤ r := by omega
    have HD1 : Hid (∀ W, Below w3.heap.size w3 W → Calls Tryd.prog 8 #[.agg #[.int .i64 t.ver, .slice t.ha hn t.hc, .slice t.sa t.svs.length t.sc], .slice ya yn yc, .string q.me, .string q.ho, .string q.pa, .float .f64 q.u, .int .i64 q.n] W fun e w' => e = .returned (.agg #[.int .i64 1, .int .i64 0, .string x.ro, .int .i64 r, .string sv, .string p]) ∧ Below W.heap.size W w') := HD _ hD
    have HI := hideL (fun W (h : Below w3.heap.size w3 W) => (HT.out W h).each x (List.mem_of_getElem? HIX.out))
    have HFI1 : Hid (∀ W, Below w3.heap.size w3 W → Calls Tryd.prog 14 #[.agg #[.int .i64 t.ver, .slice t.ha hn t.hc, .slice t.sa t.svs.length t.sc], .string q.ho] W fun e w' => e = .returned (.int .i64 i) ∧ Below W.heap.size W w') := by have := HFI.out; rw [hfi] at this; exact this
    have HRU := fun W (h : Below w3.heap.size w3 W) => rule_any W x q.me q.pa (HI.out W h) G2.out
    have HAL := fun W (h : Below w3.heap.size w3 W) => allowed_any W x q.me q.pa (HI.out W h) G2.out
    rw [hm, hru] at HRU
    rw [hm, hal] at HAL
    obtain ⟨pl, hpl⟩ : ∃ pl, ixI (alwF x.pms q.me q.pa) = pl := ⟨_, rfl⟩
    rw [hpl] at HAL
    replace HRU : Hid (∀ W, Below w3.heap.size w3 W → Calls Tryd.prog 15 #[.agg #[.string x.ho, .string x.ro, .slice x.ea m x.ec, .slice x.qa x.pms.length x.qc], .string q.me, .string q.pa] W fun e w' => e = .returned (.int .i64 r) ∧ Below W.heap.size W w') := HRU
    replace HAL := hideL HAL
    have hml : m ≤ 140737488355328 := by rw [← hm]; exact (HI.out _ HB4.out).le
    have hmsl : ms ≤ 140737488355328 := by rw [← hms]; exact ((HI.out _ HB4.out).each en (List.mem_of_getElem? hrk)).le
    clear HFI HD hfi hix hru hal hrk hep hpk hD hsv hjo hos hjs hjv hm hms hpl
    refine (HD1.out _ HB4.out).mono ?_
    rintro e w5 ⟨rfl, hb5⟩
    have HB5 := hideL ((HB4.out.trans (hb5.mono HB4.out.size)).trans ((Gr.alloc w5 (.cells #[.int .i64 1, .int .i64 0, .string x.ro, .int .i64 r, .string sv, .string p] 33 (0, 0))).below.mono (Nat.le_trans HB4.out.size hb5.size)))
    have hn5 := heap_alloc_new w5 (.cells #[.int .i64 1, .int .i64 0, .string x.ro, .int .i64 r, .string sv, .string p] 33 (0, 0))
    obtain ⟨C, hC⟩ : ∃ C, w5.heap.size = C := ⟨_, rfl⟩
    rw [hC] at hn5
    have HN5 := hideL hn5
    clear hb5 p0 p1 p2 q0 q1 q2 q3 q4 q5 q6 hn5
    obtain ⟨p0, p1, p2⟩ := three_cells (HB5.out.cells HX.out.1)
    obtain ⟨q0, q1, q2, q3, q4, q5, q6⟩ := seven_cells (HB5.out.cells HX.out.2)
    obtain ⟨k0, k1, k2, k3, k4, k5⟩ := six_cells HN5.out

    go_wp2_with fail
    refine (HFI1.out _ HB5.out).mono ?_
    rintro e w6 ⟨rfl, hb6⟩
    have HB6 := hideL (HB5.out.trans (hb6.mono HB5.out.size))
    have HN6 := hideL (hb6.cells HN5.out)
    clear hb6 p0 p1 p2 q0 q1 q2 q3 q4 q5 q6 k0 k1 k2 k3 k4 k5 hC HN5 HB5 HD1 HFI1
    obtain ⟨g, off, ea, hcx⟩ := (HT.out _ HB6.out).hs.at_ HIX.out
    obtain ⟨g2, off2, eb, dcx⟩ := (HI.out _ HB6.out).es.at_ HRK.out
    have c0 := hcx 0 _ rfl
    have c1 := hcx 1 _ rfl
    have c2 := hcx 2 _ rfl
    have c3 := hcx 3 _ rfl
    rw [Nat.add_zero] at c0
    have d0 := dcx 0 _ rfl
    have d1 := dcx 1 _ rfl
    have d2 := dcx 2 _ rfl
    rw [Nat.add_zero] at d0
    rw [HM.out] at c2
    rw [HMS.out] at d2
    obtain ⟨p0, p1, p2⟩ := three_cells (HB6.out.cells HX.out.1)
    obtain ⟨q0, q1, q2, q3, q4, q5, q6⟩ := seven_cells (HB6.out.cells HX.out.2)
    obtain ⟨k0, k1, k2, k3, k4, k5⟩ := six_cells HN6.out
    rw [ea] at p1
    have HEB := hideL eb
    have HS := hideL (fun (w' : World) (h : Below w6.heap.size w6 w') => show (w'.cell? ⟨C, 0, none⟩ = some (.int .i64 1) ∧ w'.cell? ⟨C, 1, none⟩ = some (.int .i64 0) ∧ w'.cell? ⟨C, 2, none⟩ = some (.string x.ro) ∧ w'.cell? ⟨C, 3, none⟩ = some (.int .i64 r) ∧ w'.cell? ⟨C, 4, none⟩ = some (.string sv) ∧ w'.cell? ⟨C, 5, none⟩ = some (.string p) ∧ w'.cell? ⟨B0, 1, none⟩ = some (.slice (some ⟨g, off, none⟩) hn t.hc) ∧ w'.cell? ⟨B1, 0, none⟩ = some (.string q.me) ∧ w'.cell? ⟨B1, 2, none⟩ = some (.string q.pa) ∧ w'.cell? ⟨g, off + i * 4, none⟩ = some (.string x.ho) ∧ w'.cell? ⟨g, off + i * 4 + 1, none⟩ = some (.string x.ro) ∧ w'.cell? ⟨g, off + i * 4 + 2, none⟩ = some (.slice x.ea m x.ec) ∧ w'.cell? ⟨g, off + i * 4 + 3, none⟩ = some (.slice x.qa x.pms.length x.qc)) from ⟨cell_of_below h k0, cell_of_below h k1, cell_of_below h k2, cell_of_below h k3, cell_of_below h k4, cell_of_below h k5, cell_of_below h p1, cell_of_below h q0, cell_of_below h q2, cell_of_below h c0, cell_of_below h c1, cell_of_below h c2, cell_of_below h c3⟩)
    have HDC := hideL (fun (w' : World) (h : Below w6.heap.size w6 w') => cell_of_below h d2)
    clear hcx dcx ea eb
    go_wp2_with fail
    go_region_held3 (fun w' => w'.cell? ⟨C, 0, none⟩ = some (.int .i64 1) ∧ w'.cell? ⟨C, 1, none⟩ = some (.int .i64 0) ∧ w'.cell? ⟨C, 2, none⟩ = some (.string x.ro) ∧ w'.cell? ⟨C, 3, none⟩ = some (.int .i64 r) ∧ w'.cell? ⟨C, 4, none⟩ = some (.string sv) ∧ w'.cell? ⟨C, 5, none⟩ = some (.string p) ∧ w'.cell? ⟨B0, 1, none⟩ = some (.slice (some ⟨g, off, none⟩) hn t.hc) ∧ w'.cell? ⟨B1, 0, none⟩ = some (.string q.me) ∧ w'.cell? ⟨B1, 2, none⟩ = some (.string q.pa) ∧ w'.cell? ⟨g, off + i * 4, none⟩ = some (.string x.ho) ∧ w'.cell? ⟨g, off + i * 4 + 1, none⟩ = some (.string x.ro) ∧ w'.cell? ⟨g, off + i * 4 + 2, none⟩ = some (.slice x.ea m x.ec) ∧ w'.cell? ⟨g, off + i * 4 + 3, none⟩ = some (.slice x.qa x.pms.length x.qc)) (go_keep) (first
      | (go_at_call 15; refine (HRU.out _ (below_drewN HB6.out 1)).mono ?_; rintro e w7 ⟨rfl, hgx⟩; have HG7 := hideL ((below_drewN (Below.refl w6.heap.size w6) 1).trans hgx); obtain ⟨x0, x1, x2, x3, x4, x5, x6, x7, x8, x9, x10, x11, x12⟩ := HS.out w7 HG7.out; clear hgx))
    clear p0 p1 p2 q0 q1 q2 q3 q4 q5 q6 k0 k1 k2 k3 k4 k5 c0 c1 c2 c3 d0 d1 d2
    go_wp2_with fail
    go_region_held3 (fun w' => w'.cell? ⟨C, 0, none⟩ = some (.int .i64 1) ∧ w'.cell? ⟨C, 1, none⟩ = some (.int .i64 0) ∧ w'.cell? ⟨C, 2, none⟩ = some (.string x.ro) ∧ w'.cell? ⟨C, 3, none⟩ = some (.int .i64 r) ∧ w'.cell? ⟨C, 4, none⟩ = some (.string sv) ∧ w'.cell? ⟨C, 5, none⟩ = some (.string p) ∧ w'.cell? ⟨B0, 1, none⟩ = some (.slice (some ⟨g, off, none⟩) hn t.hc) ∧ w'.cell? ⟨B1, 0, none⟩ = some (.string q.me) ∧ w'.cell? ⟨B1, 2, none⟩ = some (.string q.pa) ∧ w'.cell? ⟨g, off + i * 4, none⟩ = some (.string x.ho) ∧ w'.cell? ⟨g, off + i * 4 + 1, none⟩ = some (.string x.ro) ∧ w'.cell? ⟨g, off + i * 4 + 2, none⟩ = some (.slice x.ea m x.ec) ∧ w'.cell? ⟨g, off + i * 4 + 3, none⟩ = some (.slice x.qa x.pms.length x.qc)) (go_keep) (first
      | (go_at_call 16; refine (HAL.out _ (below_drewN (HB6.out.trans (HG7.out.mono HB6.out.size)) 1)).mono ?_; rintro e w9 ⟨rfl, hgx⟩; have HG9 := hideL ((below_drewN HG7.out 1).trans (hgx.mono HG7.out.size)); obtain ⟨y0, y1, y2, y3, y4, y5, y6, y7, y8, y9, y10, y11, y12⟩ := HS.out w9 HG9.out; clear hgx))
    clear x0 x1 x2 x3 x4 x5 x6 x7 x8 x9 x10 x11 x12
    go_wp2_with fail
    go_quiet (fail)
    go_wp2_with fail
    clear y0 y1 y2 y3 y4 y5 y6 y7 y8 y9 y10 y11 y12
    go_loopw [11, 13] (fun b u wr => ∃ (bb : Bool) (j : Nat), b = .bool bb ∧ u = .int .i64 j ∧ j ≤ ms ∧ Below w6.heap.size w6 wr ∧ Hid (js < j → bb = true)) (fun _ u _ => ms - (intOf u).toNat)
    case atStart => exact ⟨false, 0, rfl, rfl, by omega, below_drewN HG9.out _, fun h => by omega⟩
    case round =>
      obtain ⟨bb, j, rfl, rfl, hj, hbel, HJ⟩ := hrel
      have HB := hideL hbel
      clear hbel
      obtain ⟨k0, k1, k2, k3, k4, k5, p1, q0, q2, c0, c1, c2, c3⟩ := HS.out wr HB.out
      rw [HEB.out] at c2
      have d2 := HDC.out wr HB.out

      have j0 : (0 : Int) ≤ j := by omega
      by_cases h3 : j < ms
      · have h3' : (j : Int) < ms := by omega
        rcases hkj : en.shs[j]? with _ | o2
        · have := List.getElem?_eq_none_iff.1 hkj; have := HMS.out; omega
        obtain ⟨g3, off3, ec, ecx⟩ := ((HI.out _ (HB6.out.trans (HB.out.mono HB6.out.size))).each en (List.mem_of_getElem? HRK.out)).es.at_ hkj
        have e0' := ecx 0 _ rfl
        rw [Nat.add_zero] at e0'
        rw [ec] at d2
        have HKJ := hideL hkj
        have HEC := hideL ec
        have HE0 := hideL (fun (w' : World) (h : Below wr.heap.size wr w') => cell_of_below h e0')
        clear hkj ecx ec
        go_wp2_with fail
        go_quiet (fail)
        go_wp2_with fail
        obtain ⟨wq, hwq⟩ : ∃ X, wr.drewN nq = X := ⟨_, rfl⟩
        rw [hwq]
        have hrq : Below wr.heap.size wr wq := by rw [← hwq]; exact below_drewN (Below.refl _ _) _
        have HBQ := hideL (HB.out.trans (hrq.mono HB.out.size))
        have e0q := HE0.out wq hrq
        clear hwq hrq e0'
        clear k0 k1 k2 k3 k4 k5 p1 q0 q2 c0 c1 c2 c3 d2
        obtain ⟨k0q, k1q, k2q, k3q, k4q, k5q, p1q, q0q, q2q, c0q, c1q, c2q, c3q⟩ := HS.out wq HBQ.out
        rw [HEB.out] at c2q
        have d2q := HDC.out wq HBQ.out

        rw [HEC.out] at d2q
        cases bb
        · obtain ⟨bc, hbc⟩ : ∃ bc, (o2.sv.toList == sv.toList) = bc := ⟨_, rfl⟩
          have HBC := hideL hbc
          go_quiet (fail)
          go_wp2_with fail
          go_roundw
          case rel => exact ⟨bc, j + 1, rfl, by go_num, by omega, below_drewN HBQ.out _, fun h => by
            by_cases h4 : js < j
            · have := HJ.out h4; cases this
            · obtain rfl : js = j := by omega
              have e := HKJ.out.symm.trans HJS.out
              cases e
              rw [← HBC.out, HJV.out]; simp⟩
          case measure => simp [intOf]; omega
        · go_quiet (fail)
          go_wp2_with fail
          go_roundw
          case rel => exact ⟨true, j + 1, rfl, by go_num, by omega, below_drewN HBQ.out _, fun _ => rfl⟩
          case measure => simp [intOf]; omega
      · have h3' : ¬ (j : Int) < ms := by omega
        go_wp2_with fail
        go_quiet (fail)
        have hbt : bb = true := HJ.out (by have := (List.getElem?_eq_some_iff.1 HJS.out).1; have := HMS.out; omega)
        subst hbt
        go_wp2_with fail
        clear k0 k1 k2 k3 k4 k5 p1 q0 q2 c0 c1 c2 c3 d2
        go_loopw [12, 14] (fun b u wi => ∃ (bb : Bool) (j : Nat), b = .bool bb ∧ u = .int .i64 j ∧ j ≤ yn ∧ Below w6.heap.size w6 wi ∧ Hid (jo < j → bb = true)) (fun _ u _ => yn - (intOf u).toNat)
        case atStart => exact ⟨false, 0, rfl, rfl, by omega, below_drewN HB.out _, fun h => by omega⟩
        case round =>
          obtain ⟨bb, j, rfl, rfl, hj, hbel, HJ⟩ := hrel
          have HB := hideL hbel
          clear hbel
          have j0 : (0 : Int) ≤ j := by omega
          have HB3 := hideL (HB6.out.trans (HB.out.mono HB6.out.size))
          by_cases h3 : j < yn
          · have h3' : (j : Int) < yn := by omega
            rcases hkj : L[j]? with _ | o2
            · have := List.getElem?_eq_none_iff.1 hkj; have := (HY.out _ HB3.out).len; omega
            obtain ⟨g4, off4, hya, ecx⟩ := (HY.out _ HB3.out).es.at_ hkj
            subst hya
            have e0' := ecx 0 _ rfl
            have e1' := ecx 1 _ rfl
            rw [Nat.add_zero] at e0'
            have HKJ := hideL hkj
            obtain ⟨kk, hkk⟩ : ∃ kk, o2.eps.length = kk := ⟨_, rfl⟩
            have HKK := hideL hkk
            have hkl : kk ≤ 140737488355328 := by rw [← hkk]; exact ((HY.out _ HB3.out).each o2 (List.mem_of_getElem? hkj)).le
            rw [hkk] at e1'
            have HE0 := hideL (fun (w' : World) (h : Below wr.heap.size wr w') => (⟨cell_of_below h e0', cell_of_below h e1'⟩ : w'.cell? ⟨g4, off4 + j * 2, none⟩ = some (.string o2.sv) ∧ w'.cell? ⟨g4, off4 + j * 2 + 1, none⟩ = some (.slice o2.ea kk o2.ec)))
            clear hkj ecx hkk e0' e1'
            go_wp2_with fail
            rename World => wo
            go_loopw [12, 15] (fun b u wi => ∃ (b2 : Bool) (k : Nat), b = .bool b2 ∧ u = .int .i64 k ∧ k ≤ kk ∧ Below wo.heap.size wo wi ∧ Hid (bb = true → b2 = true) ∧ Hid (j = jo → pickN q.n o.eps.length < k → b2 = true)) (fun _ u _ => kk - (intOf u).toNat)
            case atStart => exact ⟨bb, 0, rfl, rfl, by omega, Below.refl _ _, fun h => h, fun _ h => by omega⟩
            case round =>
              obtain ⟨b2, k, rfl, rfl, hk, hbel, HB2, HK2⟩ := hrel
              have HBI := hideL hbel
              clear hbel
              have k0 : (0 : Int) ≤ k := by omega
              have HBJ := hideL (HB.out.trans (HBI.out.mono HB.out.size))
              have HBJ3 := hideL (HB6.out.trans (HBJ.out.mono HB6.out.size))
              obtain ⟨y0, y1⟩ := HE0.out _ HBI.out
              have k4 := (HS.out _ HBJ.out).2.2.2.2.1
              by_cases h5 : k < kk
              · have h5' : (k : Int) < kk := by omega
                cases hbs : (o2.sv.toList == sv.toList)
                · have HBS := hideL hbs
                  go_wp2_with fail
                  go_quiet (fail)
                  go_wp2_with fail
                  go_roundw
                  case rel => exact ⟨b2, j + 1, rfl, by go_num, by omega, below_drewN HBJ.out _, fun h => by
                    by_cases h6 : jo < j
                    · exact HB2.out (HJ.out h6)
                    · obtain rfl : jo = j := by omega
                      have e := HKJ.out.symm.trans HJO.out
                      cases e
                      have h7 := HBS.out
                      rw [HOS.out] at h7; simp at h7⟩
                  case measure => simp [intOf]; omega
                · have HBS := hideL hbs
                  rcases hkp : o2.eps[k]? with _ | p2
                  · have := List.getElem?_eq_none_iff.1 hkp; have := HKK.out; omega
                  obtain ⟨g5, off5, ec, ecx⟩ := ((HY.out _ HBJ3.out).each o2 (List.mem_of_getElem? HKJ.out)).es.at_ hkp
                  have z0 := ecx 0 _ rfl
                  simp only [Nat.add_zero, Nat.mul_one] at z0
                  have HKP := hideL hkp
                  rw [ec] at y1
                  have HZ0 := hideL (fun (w' : World) (h : Below wr.heap.size wr w') => cell_of_below h z0)
                  have HY1 := hideL (fun (w' : World) (h : Below wr.heap.size wr w') => cell_of_below h y1)
                  clear hkp ecx ec
                  go_wp2_with fail
                  go_quiet (fail)
                  go_wp2_with fail
                  obtain ⟨wq, hwq⟩ : ∃ X, wr.drewN nq = X := ⟨_, rfl⟩
                  rw [hwq]
                  have hrq : Below wr.heap.size wr wq := by rw [← hwq]; exact below_drewN (Below.refl _ _) _
                  have HBQ := hideL (HBI.out.trans (hrq.mono HBI.out.size))
                  have zq := HZ0.out wq hrq
                  have yq := HY1.out wq hrq
                  have k5 := (HS.out _ (HBJ.out.trans (hrq.mono HBJ.out.size))).2.2.2.2.2.1
                  clear hwq hrq z0 y0 y1 k4
                  cases b2
                  · obtain ⟨bc, hbc⟩ : ∃ bc, (p2.toList == p.toList) = bc := ⟨_, rfl⟩
                    have HBC := hideL hbc
                    go_quiet (fail)
                    go_wp2_with fail
                    go_roundw
                    case rel => exact ⟨bc, k + 1, rfl, by go_num, by omega, below_drewN HBQ.out _, fun h => (by have := HB2.out h; cases this), fun hjj h => by
                      by_cases h6 : pickN q.n o.eps.length < k
                      · have := HK2.out hjj h6; cases this
                      · have h8 : pickN q.n o.eps.length = k := by omega
                        subst hjj
                        have e := HKJ.out.symm.trans HJO.out
                        cases e
                        have e2 := HPK.out
                        rw [h8] at e2
                        have e3 := HKP.out.symm.trans e2
                        cases e3
                        rw [← HBC.out]; simp⟩
                    case measure => simp [intOf]; omega
                  · go_quiet (fail)
                    go_wp2_with fail
                    go_roundw
                    case rel => exact ⟨true, k + 1, rfl, by go_num, by omega, below_drewN HBQ.out _, fun _ => rfl, fun _ _ => rfl⟩
                    case measure => simp [intOf]; omega
              · have h5' : ¬ (k : Int) < kk := by omega
                go_wp2_with fail
                go_quiet (fail)
                go_wp2_with fail
                go_roundw
                case rel => exact ⟨b2, j + 1, rfl, by go_num, by omega, below_drewN HBJ.out _, fun h => by
                  by_cases h6 : jo < j
                  · exact HB2.out (HJ.out h6)
                  · obtain rfl : jo = j := by omega
                    have e := HKJ.out.symm.trans HJO.out
                    cases e
                    exact HK2.out rfl (by have := (List.getElem?_eq_some_iff.1 HPK.out).1; have := HKK.out; omega)⟩
                case measure => simp [intOf]; omega
          · have h3' : ¬ (j : Int) < yn := by omega
            have hbt : bb = true := HJ.out (by have := (List.getElem?_eq_some_iff.1 HJO.out).1; have := (HY.out _ HB3.out).len; omega)
            subst hbt
            go_wp2_with fail
            go_ret
            exact ⟨rfl, HG3.out.trans (HB3.out.mono HG3.out.size)⟩
  · obtain ⟨D, hD⟩ : ∃ D, decF t.hos L q.me q.ho q.pa q.u q.n = D := ⟨_, rfl⟩
    rw [hD] at hk1 hk2 hk3
    have HD1 := HD D hD
    obtain ⟨kd, st, ro, ru, sv, ep⟩ := D
    unfold Dn.val at HD1
    simp only at hk1 hk2 hk3 HD1
    have hk1' : (kd == 1) = false := by simp [hk1]
    have hk2' : ep = ⟨#[]⟩ := hk2
    subst hk2'
    have hk4 : (400 : Int) ≤ st := hk3
    have HK1 := hideL hk1
    clear HD hD hk1 hk2 hk3
    refine (HD1.out _ HB4.out).mono ?_
    rintro e w5 ⟨rfl, hb5⟩
    have HB5 := hideL ((HB4.out.trans (hb5.mono HB4.out.size)).trans ((Gr.alloc w5 (.cells #[.int .i64 kd, .int .i64 st, .string ro, .int .i64 ru, .string sv, .string ⟨#[]⟩] 33 (0, 0))).below.mono (Nat.le_trans HB4.out.size hb5.size)))
    have hn5 := heap_alloc_new w5 (.cells #[.int .i64 kd, .int .i64 st, .string ro, .int .i64 ru, .string sv, .string ⟨#[]⟩] 33 (0, 0))
    obtain ⟨C, hC⟩ : ∃ C, w5.heap.size = C := ⟨_, rfl⟩
    rw [hC] at hn5
    have HN5 := hideL hn5
    clear hb5 p0 p1 p2 q0 q1 q2 q3 q4 q5 q6 hn5
    obtain ⟨p0, p1, p2⟩ := three_cells (HB5.out.cells HX.out.1)
    obtain ⟨q0, q1, q2, q3, q4, q5, q6⟩ := seven_cells (HB5.out.cells HX.out.2)
    obtain ⟨k0, k1, k2, k3, k4, k5⟩ := six_cells HN5.out

    go_wp2_with fail
    go_ret
    exact ⟨rfl, HG3.out.trans (HB5.out.mono HG3.out.size)⟩
end Go.Proofs.YtfhobglcploaoaaDoor
