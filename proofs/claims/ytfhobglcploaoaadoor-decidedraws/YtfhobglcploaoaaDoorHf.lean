/-
  The walk of DecideDraws.
-/
import Derived.Test.YtfhobglcploaoaaDoorHc
import Derived.Test.YtfhobglcploaoaaDoorHp
import Derived.Test.YtfhobglcploaoaaDoorFt
import Derived.Deep.RegionHeld3
import Derived.BigQuiet
import Derived.Deep.DeepCutAuto
namespace Go.Proofs.YtfhobglcploaoaaDoor
open Go.RowKit
set_option linter.unusedVariables false
set_option linter.unusedSimpArgs false
set_option maxRecDepth 100000
theorem pick_small {k kk : Nat} (h : k < kk) : pickN (k : Int) kk = k := by
  unfold pickN
  rw [show max (k : Int) 0 = k by omega, Int.emod_eq_of_lt (by omega) (by omega)]
  omega
theorem pick_more {k kk : Nat} (h : k < kk) : pickN ((k : Int) + (kk : Int)) kk = k := by
  unfold pickN
  rw [show max ((k : Int) + (kk : Int)) 0 = (k : Int) + (kk : Int) by omega, Int.add_emod_right, Int.emod_eq_of_lt (by omega) (by omega)]
  omega
set_option maxHeartbeats 8000000 in
theorem place_any (w : World) (t : En) (x : Nat) (ht : Ein w t) :
    Calls Tryd.prog 17 #[.agg #[.string t.pa, .string t.me, .slice t.sa t.shs.length t.sc], .float .f64 x] w fun e w' => e = .returned (.int .i64 (plF t.shs x)) ∧ Below w.heap.size w w' := by
  have HT := hideL ht
  obtain ⟨n, hn⟩ : ∃ n, t.shs.length = n := ⟨_, rfl⟩
  have hl : n ≤ 140737488355328 := by rw [← hn]; exact ht.le
  have HN := hideL hn
  obtain ⟨A, hA⟩ : ∃ A, plF t.shs x = A := ⟨_, rfl⟩
  have HAA := hideL hA
  rw [hn, hA]
  clear ht hn hA
  obtain ⟨w1, hw1⟩ : ∃ X, w.alloc (.cells #[.string t.pa, .string t.me, .slice t.sa n t.sc] 50 (0, 0)) = X := ⟨_, rfl⟩
  have HG1 : Hid (Gr w w1) := by rw [← hw1]; exact Gr.alloc _ _
  have HX1 : Hid (w1.heap[w.heap.size]? = some (.cells #[.string t.pa, .string t.me, .slice t.sa n t.sc] 50 (0, 0))) := by rw [← hw1]; exact heap_alloc_new w _
  have p1 := (three_cells HX1.out).2.2
  have HP1 := hideL p1
  go_enter Tryd.func17, Tryd.ntmps17
  go_wp2_with fail
  go_loopw [5] (fun u wr => ∃ (i : Nat), u = .int .i64 i ∧ i ≤ n ∧ wr = w1 ∧ Hid (∀ (j : Nat) (y : Sh), j < i → t.shs[j]? = some y → gtF y.up x = false)) (fun u _ => n - (intOf u).toNat)
  case atStart => exact ⟨0, rfl, by omega, (by first | trivial | rfl), fun j y hj => by omega⟩
  case round =>
    obtain ⟨i, rfl, hi, hww, HF⟩ := hrel
    subst hww
    have i0 : (0 : Int) ≤ i := by omega
    by_cases h3 : i < n
    · have h3' : (i : Int) < n := by omega
      rcases hki : t.shs[i]? with _ | o
      · have := List.getElem?_eq_none_iff.1 hki; have := HN.out; omega
      obtain ⟨g, off, ea, hcx⟩ := (HT.out.es.below HG1.out.below).at_ hki
      have c0 := hcx 0 _ rfl
      have c1 := hcx 1 _ rfl
      rw [Nat.add_zero] at c0
      rw [ea] at p1 ⊢
      have HK := hideL hki
      clear hki hcx
      obtain ⟨bb, hbb⟩ : ∃ bb, gtF o.up x = bb := ⟨_, rfl⟩
      have HBB := hideL hbb
      have hbo : (FloatKind.f64.format.order o.up x == some .gt) = bb := hbb
      clear hbb
      cases bb
      · go_wp2_with fail
        go_roundw
        case rel => exact ⟨i + 1, by go_num, by omega, (by first | trivial | rfl), fun j y hj hy => by
          by_cases hji : j < i
          · exact HF.out j y hji hy
          · obtain rfl : j = i := by omega
            rw [HK.out] at hy; cases hy; exact HBB.out⟩
        case measure => simp [intOf]; omega
      · have HR : Hid (A = i) := by unfold Hid; rw [← HAA.out]; exact plF_at HF.out HK.out HBB.out
        go_wp2
        go_ret
        exact ⟨by rw [HR.out]; rfl, HG1.out.below⟩
    · have h3' : ¬ (i : Int) < n := by omega
      have HR : Hid (A = n) := by
        unfold Hid; rw [← HAA.out, ← HN.out]
        exact plF_no (fun j y hy => HF.out j y (by have := (List.getElem?_eq_some_iff.1 hy).1; have := HN.out; omega) hy)
      go_wp2
      go_ret
      exact ⟨by rw [HR.out]; rfl, HG1.out.below⟩
set_option maxHeartbeats 32000000 in
theorem draws_any (w : World) (t : Tb) (ya : Option Addr) (yn yc : Nat) (L : List Hy) (q : Rq) (v : Nat) (ht : Tin w t) (hy : Lin w ya yn L) (g1 : okS q.ho) (g2 : okS q.pa) (hst : Sts w) :
    Calls Tryd.prog 6 #[.agg #[.int .i64 t.ver, .slice t.ha t.hos.length t.hc, .slice t.sa t.svs.length t.sc], .slice ya yn yc, .agg #[.string q.me, .string q.ho, .string q.pa, .float .f64 q.u, .int .i64 q.n, .int .u64 q.a, .int .u64 q.b], .float .f64 v] w fun e w' => e = .returned (.bool true) ∧ Below w.heap.size w w' := by
  have G1 := hideL g1
  have G2 := hideL g2
  obtain ⟨hn, hhn⟩ : ∃ hn, t.hos.length = hn := ⟨_, rfl⟩
  have HN := hideL hhn
  have hln : hn ≤ 140737488355328 := by rw [← hhn]; exact ht.lh
  have hly : yn ≤ 140737488355328 := hy.le
  rw [hhn]
  obtain ⟨w3, hw3⟩ : ∃ X, ((w.alloc (.cells #[.int .i64 t.ver, .slice t.ha hn t.hc, .slice t.sa t.svs.length t.sc] 25 (0, 0))).alloc (.cells #[.string q.me, .string q.ho, .string q.pa, .float .f64 q.u, .int .i64 q.n, .int .u64 q.a, .int .u64 q.b] 30 (0, 0))) = X := ⟨_, rfl⟩
  have h3n := two_new w (.cells #[.int .i64 t.ver, .slice t.ha hn t.hc, .slice t.sa t.svs.length t.sc] 25 (0, 0)) (.cells #[.string q.me, .string q.ho, .string q.pa, .float .f64 q.u, .int .i64 q.n, .int .u64 q.a, .int .u64 q.b] 30 (0, 0))
  have HG3 : Hid (Below w.heap.size w w3) := by rw [← hw3]; exact ((Gr.alloc _ _).trans (Gr.alloc _ _)).below
  rw [hw3] at h3n
  obtain ⟨B0, hB0⟩ : ∃ B, w.heap.size = B := ⟨_, rfl⟩
  obtain ⟨B1, hB1⟩ : ∃ B, B0 + 1 = B := ⟨_, rfl⟩
  rw [hB0, hB1] at h3n
  have HX := hideL h3n
  have HT := hideL (fun W (h : Below w3.heap.size w3 W) => (ht.below HG3.out).below h)
  have HY := hideL (fun W (h : Below w3.heap.size w3 W) => (hy.below HG3.out).below h)
  have HD : Hid (∀ (n : Int) (D : Dn), decF t.hos L q.me q.ho q.pa q.u n = D → ∀ W, Below w3.heap.size w3 W → Calls Tryd.prog 8 #[.agg #[.int .i64 t.ver, .slice t.ha hn t.hc, .slice t.sa t.svs.length t.sc], .slice ya yn yc, .string q.me, .string q.ho, .string q.pa, .float .f64 q.u, .int .i64 n] W fun e w' => e = .returned D.val ∧ Below W.heap.size W w') := fun n D hD W h => by
    have := decide_any W t ya yn yc L q.me q.ho q.pa q.u n (HT.out W h) ((hy.below HG3.out).below h) G1.out G2.out ((hst.below HG3.out).below h)
    rwa [hhn, hD] at this
  have HAW := hideL (awake_any w3 (hst.below HG3.out))
  clear ht hy g1 g2 hst h3n hhn
  obtain ⟨D0, hD0⟩ : ∃ D, decF t.hos L q.me q.ho q.pa q.u 0 = D := ⟨_, rfl⟩
  have HD1 := hideL (HD.out 0 D0 hD0)
  obtain ⟨kd, st, ro, ru, sv, ep⟩ := D0
  unfold Dn.val at HD1
  simp only at HD1
  have HD0 := hideL hD0
  clear hD0
  go_enter Tryd.func6, Tryd.ntmps6
  go_wp2_with fail
  refine HAW.out.mono ?_
  rintro e w4 ⟨rfl, hb4⟩
  have HB4 := hideL hb4
  clear hb4 HAW hw3 hB0 hB1
  obtain ⟨p0, p1, p2⟩ := three_cells (HB4.out.cells HX.out.1)
  obtain ⟨q0, q1, q2, q3, q4, q5, q6⟩ := seven_cells (HB4.out.cells HX.out.2)
  go_wp2_with fail
  refine (HD1.out _ HB4.out).mono ?_
  rintro e w5 ⟨rfl, hb5⟩
  have HB5 := hideL ((HB4.out.trans (hb5.mono HB4.out.size)).trans ((Gr.alloc w5 (.cells #[.int .i64 kd, .int .i64 st, .string ro, .int .i64 ru, .string sv, .string ep] 33 (0, 0))).below.mono (Nat.le_trans HB4.out.size hb5.size)))
  have hn5 := heap_alloc_new w5 (.cells #[.int .i64 kd, .int .i64 st, .string ro, .int .i64 ru, .string sv, .string ep] 33 (0, 0))
  obtain ⟨C, hC⟩ : ∃ C, w5.heap.size = C := ⟨_, rfl⟩
  rw [hC] at hn5
  have HN5 := hideL hn5
  clear hb5 p0 p1 p2 q0 q1 q2 q3 q4 q5 q6 hn5 HD1
  obtain ⟨k0, k1, k2, k3, k4, k5⟩ := six_cells HN5.out
  obtain ⟨kb, hkb⟩ : ∃ kb, (kd == 1) = kb := ⟨_, rfl⟩
  have HKB := hideL hkb
  go_upto_if 35 with fail
  obtain ⟨w6, hw6⟩ : ∃ X, w5.alloc (.cells #[.int .i64 kd, .int .i64 st, .string ro, .int .i64 ru, .string sv, .string ep] 33 (0, 0)) = X := ⟨_, rfl⟩
  rw [hw6] at HB5 HN5 k0 k1 k2 k3 k4 k5 ⊢
  clear hw6 hC
  clear hkb
  go_cut [] (fun wx => Below w3.heap.size w3 wx)
  case first =>
    rcases dec_all t.hos L q.me q.ho q.pa q.u 0 with ⟨i, x, r, en, o, p, hfi, hix, hru, hal, hrk, hep, hpk, hD⟩ | ⟨hk1, hk2, hk3⟩
    · have hD2 := hD.symm.trans HD0.out
      obtain ⟨sv', hsv⟩ : ∃ sv', shF en.shs q.u = sv' := ⟨_, rfl⟩
      rw [hsv] at hep hD2
      cases hD2
      obtain rfl : true = kb := HKB.out
      have hX : ∀ (n : Int) (k : Nat) (p' : ByteArray), pickN n o.eps.length = k → o.eps[k]? = some p' → decF t.hos L q.me q.ho q.pa q.u n = ⟨1, 0, x.ro, r, sv, p'⟩ := fun n k p' h1 h2 => by
        have := dec1 (hs := L) (u := q.u) (n := n) (p := p') hfi hix hru hal hrk (by rw [hsv, hep]; show o.eps[pickN n o.eps.length]? = some p'; rw [h1]; exact h2)
        rw [hsv] at this
        exact this
      have HXX := hideL hX
      obtain ⟨jo, hjo, hos, hse⟩ := epsF_at2 hep
      have HJO := hideL hjo
      have HOS := hideL hos
      have HSE := hideL hse
      have HEP := hideL hep
      clear hfi hix hru hal hrk hep hpk hD hX hjo hos hsv hse
      go_wp2_with fail
      have HCX : Hid (∀ (n : Int) (k : Nat) (p' : ByteArray), pickN n o.eps.length = k → o.eps[k]? = some p' → ∀ W, Below w3.heap.size w3 W → Calls Tryd.prog 8 #[.agg #[.int .i64 t.ver, .slice t.ha hn t.hc, .slice t.sa t.svs.length t.sc], .slice ya yn yc, .string q.me, .string q.ho, .string q.pa, .float .f64 q.u, .int .i64 n] W fun e w' => e = .returned (.agg #[.int .i64 1, .int .i64 0, .string x.ro, .int .i64 r, .string sv, .string p']) ∧ Below W.heap.size W w') := fun n k p' h1 h2 => HD.out n _ (HXX.out n k p' h1 h2)
      clear HD0 HXX
      go_loopw [10, 11] (fun a u wx => ∃ (j : Nat), a = .slice none 0 0 ∧ u = .int .i64 j ∧ j ≤ yn ∧ Below w6.heap.size w6 wx ∧ Hid (∀ (jj : Nat) (y : Hy), jj < j → L[jj]? = some y → (y.sv.toList == sv.toList) = false)) (fun _ u _ => yn - (intOf u).toNat)
      case atStart => exact ⟨0, rfl, rfl, by omega, Below.refl _ _, fun jj y h => by omega⟩
      case round =>
        obtain ⟨j, rfl, rfl, hj, hbel, HF⟩ := hrel
        have HB := hideL hbel
        clear hbel
        have j0 : (0 : Int) ≤ j := by omega
        have HB3 := hideL (HB5.out.trans (HB.out.mono HB5.out.size))
        have k4' := cell_of_below HB.out k4
        by_cases h3 : j < yn
        · have h3' : (j : Int) < yn := by omega
          rcases hkj : L[j]? with _ | o2
          · have := List.getElem?_eq_none_iff.1 hkj; have := (HY.out _ HB3.out).len; omega
          obtain ⟨g4, off4, hya, ecx⟩ := (HY.out _ HB3.out).es.at_ hkj
          subst hya
          have e0' := ecx 0 _ rfl
          have e1' := ecx 1 _ rfl
          rw [Nat.add_zero] at e0'
          have HKJ := hideL hkj
          obtain ⟨kk, hkk⟩ : ∃ kk, o2.eps.length = kk := ⟨_, rfl⟩
          have HKK := hideL hkk
          have hkl : kk ≤ 140737488355328 := by rw [← hkk]; exact ((HY.out _ HB3.out).each o2 (List.mem_of_getElem? hkj)).le
          obtain ⟨oa, hoa⟩ : ∃ oa, o2.ea = oa := ⟨_, rfl⟩
          have HOA := hideL hoa
          rw [hkk, hoa] at e1'
          have HE1 := hideL (fun (w' : World) (h : Below wr.heap.size wr w') => cell_of_below h e1')
          clear hkj ecx hkk hoa
          cases hbs : (o2.sv.toList == sv.toList)
          · have HBS := hideL hbs
            go_wp2_with fail
            go_quiet (fail)
            go_wp2_with fail
            go_roundw
            case rel => exact ⟨j + 1, rfl, by go_num, by omega, below_drewN HB.out _, fun jj y h hy => by
              by_cases h6 : jj < j
              · exact HF.out jj y h6 hy
              · obtain rfl : jj = j := by omega
                have e := HKJ.out.symm.trans hy
                cases e
                exact HBS.out⟩
            case measure => simp [intOf]; omega
          · have heq : o2 = o := by
              have := epsF_at HSE.out HF.out HKJ.out hbs
              rw [HEP.out] at this
              cases this; rfl
            subst heq
            go_wp2_with fail
            go_quiet (fail)
            go_wp2_with fail
            obtain ⟨wq, hwq⟩ : ∃ X, wr.drewN nq = X := ⟨_, rfl⟩
            rw [hwq]
            have hrq : Below wr.heap.size wr wq := by rw [← hwq]; exact below_drewN (Below.refl _ _) _
            have HBQ := hideL (HB3.out.trans (hrq.mono HB3.out.size))
            have e1q := HE1.out wq hrq
            clear hwq hrq e0' e1' k4' k0 k1 k2 k3 k4 k5
            go_loopw [12] (fun u wx => ∃ (k : Nat), u = .int .i64 k ∧ k ≤ kk ∧ Below wq.heap.size wq wx) (fun u _ => kk - (intOf u).toNat)
            case atStart => exact ⟨0, rfl, by omega, Below.refl _ _⟩
            case round =>
              obtain ⟨k, rfl, hk, hbel⟩ := hrel
              have HBW := hideL hbel
              clear hbel
              have k0 : (0 : Int) ≤ k := by omega
              have HB7 := hideL (HBQ.out.trans (HBW.out.mono HBQ.out.size))
              obtain ⟨p0, p1, p2⟩ := three_cells (HB7.out.cells HX.out.1)
              obtain ⟨q0, q1, q2, q3, q4, q5, q6⟩ := seven_cells (HB7.out.cells HX.out.2)
              by_cases h5 : k < kk
              · have h5' : (k : Int) < kk := by omega
                rcases hkp : o2.eps[k]? with _ | pk
                · have := List.getElem?_eq_none_iff.1 hkp; have := HKK.out; omega
                have HC1 := hideL (HCX.out k k pk (by rw [HKK.out]; exact pick_small h5) hkp)
                have HC2 := hideL (HCX.out ((k : Int) + (kk : Int)) k pk (by rw [HKK.out]; exact pick_more h5) hkp)
                obtain ⟨g5, off5, ec, ecx⟩ := ((HY.out _ HB7.out).each o2 (List.mem_of_getElem? HKJ.out)).es.at_ hkp
                have z0 := ecx 0 _ rfl
                simp only [Nat.add_zero, Nat.mul_one] at z0
                have HZ0 := hideL (fun (w' : World) (h : Below wr.heap.size wr w') => cell_of_below h z0)
                have hoa2 := HOA.out.symm.trans ec
                clear hkp ecx z0 ec
                subst hoa2
                go_wp2_with fail
                refine (HC1.out _ HB7.out).mono ?_
                rintro e w8 ⟨rfl, hb8⟩
                have HB8 := hideL (hb8.trans ((Gr.alloc w8 (.cells #[.int .i64 1, .int .i64 0, .string x.ro, .int .i64 r, .string sv, .string pk] 33 (0, 0))).below.mono hb8.size))
                have hn8 := heap_alloc_new w8 (.cells #[.int .i64 1, .int .i64 0, .string x.ro, .int .i64 r, .string sv, .string pk] 33 (0, 0))
                obtain ⟨C8, hC8⟩ : ∃ C8, w8.heap.size = C8 := ⟨_, rfl⟩
                rw [hC8] at hn8
                have HN8 := hideL hn8
                have HB83 := hideL (HB7.out.trans (HB8.out.mono HB7.out.size))
                clear hb8 hn8 p0 p1 p2 q0 q1 q2 q3 q4 q5 q6
                obtain ⟨p0, p1, p2⟩ := three_cells (HB83.out.cells HX.out.1)
                obtain ⟨q0, q1, q2, q3, q4, q5, q6⟩ := seven_cells (HB83.out.cells HX.out.2)
                go_wp2_with fail
                refine (HC2.out _ HB83.out).mono ?_
                rintro e w9 ⟨rfl, hb9⟩
                have HB9 := hideL (HB8.out.trans ((hb9.trans ((Gr.alloc w9 (.cells #[.int .i64 1, .int .i64 0, .string x.ro, .int .i64 r, .string sv, .string pk] 33 (0, 0))).below.mono hb9.size)).mono HB8.out.size))
                have HN9 := hideL ((Gr.alloc w9 (.cells #[.int .i64 1, .int .i64 0, .string x.ro, .int .i64 r, .string sv, .string pk] 33 (0, 0))).below.cells (hb9.cells HN8.out))
                have hm9 := heap_alloc_new w9 (.cells #[.int .i64 1, .int .i64 0, .string x.ro, .int .i64 r, .string sv, .string pk] 33 (0, 0))
                obtain ⟨C9, hC9⟩ : ∃ C9, w9.heap.size = C9 := ⟨_, rfl⟩
                rw [hC9] at hm9
                have HM9 := hideL hm9
                clear hb9 hm9 p0 p1 p2 q0 q1 q2 q3 q4 q5 q6
                go_wp2_with fail
                obtain ⟨wz, hwz⟩ : ∃ X, w9.alloc (.cells #[.int .i64 1, .int .i64 0, .string x.ro, .int .i64 r, .string sv, .string pk] 33 (0, 0)) = X := ⟨_, rfl⟩
                rw [hwz] at HB9 HN9 HM9 ⊢
                obtain ⟨k0', k1, k2, k3, k4, k5⟩ := six_cells HN9.out
                obtain ⟨l0, l1, l2, l3, l4, l5⟩ := six_cells HM9.out
                have zz := HZ0.out wz HB9.out
                clear hC8 hC9 hwz
                go_quiet (fail)
                go_wp2_with fail
                go_roundw
                case rel => exact ⟨k + 1, by go_num, by omega, HBW.out.trans ((below_drewN HB9.out _).mono HBW.out.size)⟩
                case measure => simp [intOf]; omega
              · have h5' : ¬ (k : Int) < kk := by omega
                go_wp2_with fail
                go_meet
                case rel => exact HB7.out
        · exfalso
          have := (List.getElem?_eq_some_iff.1 HJO.out).1
          have h8 := HF.out jo o (by have := (HY.out _ HB3.out).len; omega) HJO.out
          rw [HOS.out] at h8
          simp at h8
    · rw [HD0.out] at hk1
      obtain rfl : false = kb := by rw [← HKB.out]; symm; simpa using hk1
      clear hk1 hk2 hk3
      go_wp2_with fail
      go_meet
      case rel => exact HB5.out
  case rest =>
    have HBC := hideL hcut
    clear hcut HD0 HD k0 k1 k2 k3 k4 k5
    go_wp2_with fail
    go_loopw [15] (fun u wx => ∃ (i : Nat), u = .int .i64 i ∧ i ≤ hn ∧ Below w3.heap.size w3 wx) (fun u _ => hn - (intOf u).toNat)
    case atStart => exact ⟨0, rfl, by omega, HBC.out⟩
    case round =>
      obtain ⟨i, rfl, hi, hbel⟩ := hrel
      have HB := hideL hbel
      clear hbel
      obtain ⟨p0, p1, p2⟩ := three_cells (HB.out.cells HX.out.1)
      have i0 : (0 : Int) ≤ i := by omega
      by_cases h3 : i < hn
      · have h3' : (i : Int) < hn := by omega
        rcases hki : t.hos[i]? with _ | x
        · have := List.getElem?_eq_none_iff.1 hki; have := HN.out; omega
        obtain ⟨g, off, ea, hcx⟩ := (HT.out _ HB.out).hs.at_ hki
        have c2 := hcx 2 _ rfl
        have HI := hideL (fun W (h : Below w3.heap.size w3 W) => (HT.out W h).each x (List.mem_of_getElem? hki))
        obtain ⟨m, hm⟩ : ∃ m, x.ens.length = m := ⟨_, rfl⟩
        have HM := hideL hm
        have hml : m ≤ 140737488355328 := by rw [← hm]; exact (HI.out _ HB.out).le
        rw [hm] at c2
        rw [ea] at p1
        have HP1 := hideL (fun (w' : World) (h : Below wr.heap.size wr w') => cell_of_below h p1)
        have HC2 := hideL (fun (w' : World) (h : Below wr.heap.size wr w') => cell_of_below h c2)
        clear hki hcx ea hm
        go_wp2_with fail
        rename World => wo
        clear p0 p1 p2 c2
        go_loopw [16] (fun u wx => ∃ (k : Nat), u = .int .i64 k ∧ k ≤ m ∧ Below wo.heap.size wo wx) (fun u _ => m - (intOf u).toNat)
        case atStart => exact ⟨0, rfl, by omega, Below.refl _ _⟩
        case round =>
          obtain ⟨k, rfl, hk, hbel⟩ := hrel
          have HBI := hideL hbel
          clear hbel
          have HBJ := hideL (HB.out.trans (HBI.out.mono HB.out.size))
          have p1 := HP1.out _ HBI.out
          have c2 := HC2.out _ HBI.out
          obtain ⟨-, -, -, q3, -, -, -⟩ := seven_cells (HBJ.out.cells HX.out.2)
          have k0 : (0 : Int) ≤ k := by omega
          by_cases h5 : k < m
          · have h5' : (k : Int) < m := by omega
            rcases hkd : x.ens[k]? with _ | d
            · have := List.getElem?_eq_none_iff.1 hkd; have := HM.out; omega
            obtain ⟨g2, off2, eb, dcx⟩ := (HI.out _ HBJ.out).es.at_ hkd
            have d0 := dcx 0 _ rfl
            have d1 := dcx 1 _ rfl
            have d2 := dcx 2 _ rfl
            rw [Nat.add_zero] at d0
            rw [eb] at c2
            have HE := hideL ((HI.out _ HBJ.out).each d (List.mem_of_getElem? hkd))
            obtain ⟨ms, hms⟩ : ∃ ms, d.shs.length = ms := ⟨_, rfl⟩
            have HMS := hideL hms
            have hmsl : ms ≤ 140737488355328 := by rw [← hms]; exact HE.out.le
            rw [hms] at d2
            have hq3 := World.block_lt_of_cell? wr _ q3
            have q3' := fun X => (alloc_cell wr X hq3).trans q3
            have HQ3 := hideL q3
            obtain ⟨lb, hlb⟩ : ∃ lb, leF q.u v = lb := ⟨_, rfl⟩
            have HLB := hideL hlb
            have hlo : (FloatKind.f64.format.order q.u v == some .lt || FloatKind.f64.format.order q.u v == some .eq) = lb := hlb
            clear hkd dcx eb hms hq3 hlb q3
            cases lb
            · go_wp2_with fail
              go_roundw
              case rel => exact ⟨k + 1, by go_num, by omega, HBI.out.trans ((Gr.alloc wr _).below.mono HBI.out.size)⟩
              case measure => simp [intOf]; omega
            · go_wp2_with fail
              obtain ⟨we, hwe⟩ : ∃ X, wr.alloc (.cells #[.string d.pa, .string d.me, .slice d.sa ms d.sc] 50 (0, 0)) = X := ⟨_, rfl⟩
              have HBE := hideL (Gr.alloc wr (.cells #[.string d.pa, .string d.me, .slice d.sa ms d.sc] 50 (0, 0))).below
              have HNE := hideL (heap_alloc_new wr (.cells #[.string d.pa, .string d.me, .slice d.sa ms d.sc] 50 (0, 0)))
              obtain ⟨E, hE⟩ : ∃ E, wr.heap.size = E := ⟨_, rfl⟩
              rw [hwe] at HBE HNE ⊢
              rw [hE] at HNE ⊢
              obtain ⟨x0, x1, x2⟩ := three_cells HNE.out
              have x3 := cell_of_below HBE.out HQ3.out
              have HPL : Hid (∀ (W : World) (y : Nat), Below we.heap.size we W → Calls Tryd.prog 17 #[.agg #[.string d.pa, .string d.me, .slice d.sa ms d.sc], .float .f64 y] W fun e w' => e = .returned (.int .i64 (plF d.shs y)) ∧ Below W.heap.size W w') := fun W y h => by
                have := place_any W d y ((HE.out.below HBE.out).below h)
                rwa [HMS.out] at this
              have HSH : Hid (∀ (W : World) (y : Nat), Below we.heap.size we W → Calls Tryd.prog 18 #[.agg #[.string d.pa, .string d.me, .slice d.sa ms d.sc], .float .f64 y] W fun e w' => e = .returned (.string (shF d.shs y)) ∧ Below W.heap.size W w') := fun W y h => by
                have := share_any W d y ((HE.out.below HBE.out).below h)
                rwa [HMS.out] at this
              have HPA := hideL (fun W h => HPL.out W q.u h)
              have HPB := hideL (fun W h => HPL.out W v h)
              have hab := plF_le (l := d.shs) HLB.out
              have hbl := plF_len d.shs v
              rw [HMS.out] at hbl
              have HA := hideL (show ∀ o : Sh, d.shs[plF d.shs q.u]? = some o → shF d.shs q.u = o.sv from fun o h => shF_pl h)
              have HBS := hideL (show ∀ o : Sh, d.shs[plF d.shs v]? = some o → shF d.shs v = o.sv from fun o h => shF_pl h)
              generalize plF d.shs q.u = a at HPA HA hab
              generalize plF d.shs v = b at HPB HBS hab hbl
              have HS := hideL (fun (w' : World) (h : Below we.heap.size we w') => show (w'.cell? ⟨E, 0, none⟩ = some (.string d.pa) ∧ w'.cell? ⟨E, 1, none⟩ = some (.string d.me) ∧ w'.cell? ⟨E, 2, none⟩ = some (.slice d.sa ms d.sc) ∧ w'.cell? ⟨B1, 3, none⟩ = some (.float .f64 q.u)) from ⟨cell_of_below h x0, cell_of_below h x1, cell_of_below h x2, cell_of_below h x3⟩)
              clear hwe hE hlo d0 d1 d2 p1 c2 q3'
              go_region_held3 (fun w' => w'.cell? ⟨E, 0, none⟩ = some (.string d.pa) ∧ w'.cell? ⟨E, 1, none⟩ = some (.string d.me) ∧ w'.cell? ⟨E, 2, none⟩ = some (.slice d.sa ms d.sc) ∧ w'.cell? ⟨B1, 3, none⟩ = some (.float .f64 q.u)) (go_keep) (first
                | (go_at_call 17; refine (HPB.out _ HG11.out).mono ?_; rintro e w12 ⟨rfl, hgx⟩; have HG12 := hideL (HG11.out.trans (hgx.mono HG11.out.size)); obtain ⟨y0, y1, y2, y3⟩ := HS.out w12 HG12.out; clear hgx)
                | (go_at_call 17; refine (HPA.out _ (below_drewN (Below.refl we.heap.size we) 1)).mono ?_; rintro e w11 ⟨rfl, hgx⟩; have HG11 := hideL ((below_drewN (Below.refl we.heap.size we) 1).trans hgx); obtain ⟨z0, z1, z2, z3⟩ := HS.out w11 HG11.out; clear hgx))
              have HGE := hideL (HBE.out.trans (HG12.out.mono HBE.out.size))
              clear x0 x1 x2 x3 z0 z1 z2 z3 HPA HPB
              have hba : ¬ (b : Int) < a := by omega
              have a0 : (0 : Int) ≤ a := by omega
              have b0 : (0 : Int) ≤ b := by omega
              have HS2 := hideL (show ∀ w', Below w12.heap.size w12 w' → (w'.cell? ⟨E, 0, none⟩ = some (.string d.pa) ∧ w'.cell? ⟨E, 1, none⟩ = some (.string d.me) ∧ w'.cell? ⟨E, 2, none⟩ = some (.slice d.sa ms d.sc) ∧ w'.cell? ⟨B1, 3, none⟩ = some (.float .f64 q.u)) from fun w' h => HS.out w' (HG12.out.trans (h.mono HG12.out.size)))
              go_wp2_with fail
              by_cases ha : a < ms
              · have ha' : (a : Int) < ms := by omega
                rcases hsa : d.shs[a]? with _ | s1
                · have := List.getElem?_eq_none_iff.1 hsa; have := HMS.out; omega
                obtain ⟨g3, off3, ec, ecx⟩ := (((HE.out.below HBE.out).below HG12.out)).es.at_ hsa
                have n0 := ecx 0 _ rfl
                rw [Nat.add_zero] at n0
                have HSA := hideL (fun W h => HSH.out W q.u h)
                rw [HA.out s1 hsa] at HSA
                rw [ec] at HSA
                by_cases hb : b < ms
                · have hb' : (b : Int) < ms := by omega
                  rcases hsb : d.shs[b]? with _ | s2
                  · have := List.getElem?_eq_none_iff.1 hsb; have := HMS.out; omega
                  obtain ⟨g4, off4, ec2, ecx2⟩ := (((HE.out.below HBE.out).below HG12.out)).es.at_ hsb
                  have hcc := ec.symm.trans ec2
                  simp only [Option.some.injEq, Addr.mk.injEq, and_true] at hcc
                  obtain ⟨rfl, rfl⟩ := hcc
                  have n1 := ecx2 0 _ rfl
                  rw [Nat.add_zero] at n1
                  have HSB := hideL (fun W h => HSH.out W v h)
                  rw [HBS.out s2 hsb] at HSB
                  rw [ec] at HSB y2
                  have HS3 := hideL (fun (w' : World) (h : Below w12.heap.size w12 w') => show (w'.cell? ⟨E, 0, none⟩ = some (.string d.pa) ∧ w'.cell? ⟨E, 1, none⟩ = some (.string d.me) ∧ w'.cell? ⟨E, 2, none⟩ = some (.slice (some ⟨g3, off3, none⟩) ms d.sc) ∧ w'.cell? ⟨B1, 3, none⟩ = some (.float .f64 q.u) ∧ w'.cell? ⟨g3, off3 + a * 2, none⟩ = some (.string s1.sv) ∧ w'.cell? ⟨g3, off3 + b * 2, none⟩ = some (.string s2.sv)) from ⟨cell_of_below h y0, cell_of_below h y1, cell_of_below h y2, cell_of_below h y3, cell_of_below h n0, cell_of_below h n1⟩)
                  have e1 : decide ((b : Int) < a) = false := decide_eq_false (by omega)
                  have e2 : decide ((a : Int) < ms) = true := decide_eq_true (by omega)
                  have e3 : decide ((b : Int) < ms) = true := decide_eq_true (by omega)
                  have f1 : decide (b < a) = false := decide_eq_false (by omega)
                  have f2 : decide (a < ms) = true := decide_eq_true (by omega)
                  have f3 : decide (b < ms) = true := decide_eq_true (by omega)
                  clear hsa hsb ec2 ecx ecx2 HSH
                  go_region_held3 (fun w' => w'.cell? ⟨E, 0, none⟩ = some (.string d.pa) ∧ w'.cell? ⟨E, 1, none⟩ = some (.string d.me) ∧ w'.cell? ⟨E, 2, none⟩ = some (.slice (some ⟨g3, off3, none⟩) ms d.sc) ∧ w'.cell? ⟨B1, 3, none⟩ = some (.float .f64 q.u) ∧ w'.cell? ⟨g3, off3 + a * 2, none⟩ = some (.string s1.sv) ∧ w'.cell? ⟨g3, off3 + b * 2, none⟩ = some (.string s2.sv)) (go_keep) (first
                    | (go_at_call 18; refine (HSB.out _ (HG12.out.trans (HG13.out.mono HG12.out.size))).mono ?_; rintro e w14 ⟨rfl, hgx⟩; have HG14 := hideL (HG13.out.trans (hgx.mono HG13.out.size)); obtain ⟨z0, z1, z2, z3, z4, z5⟩ := HS3.out w14 HG14.out; clear hgx)
                    | (go_at_call 18; refine (HSA.out _ (below_drewN HG12.out 1)).mono ?_; rintro e w13 ⟨rfl, hgx⟩; have HG13 := hideL ((below_drewN (Below.refl w12.heap.size w12) 1).trans hgx); obtain ⟨x0, x1, x2, x3, x4, x5⟩ := HS3.out w13 HG13.out; clear hgx))
                  go_wp2_with fail
                  go_roundw
                  case rel => exact ⟨k + 1, by go_num, by omega, HBI.out.trans ((HGE.out.trans (HG14.out.mono HGE.out.size)).mono HBI.out.size)⟩
                  case measure => simp [intOf]; omega
                · have hb' : ¬ (b : Int) < ms := by omega
                  rw [ec] at y2
                  have HS3 := hideL (fun (w' : World) (h : Below w12.heap.size w12 w') => show (w'.cell? ⟨E, 0, none⟩ = some (.string d.pa) ∧ w'.cell? ⟨E, 1, none⟩ = some (.string d.me) ∧ w'.cell? ⟨E, 2, none⟩ = some (.slice (some ⟨g3, off3, none⟩) ms d.sc) ∧ w'.cell? ⟨B1, 3, none⟩ = some (.float .f64 q.u) ∧ w'.cell? ⟨g3, off3 + a * 2, none⟩ = some (.string s1.sv)) from ⟨cell_of_below h y0, cell_of_below h y1, cell_of_below h y2, cell_of_below h y3, cell_of_below h n0⟩)
                  have e1 : decide ((b : Int) < a) = false := decide_eq_false (by omega)
                  have e2 : decide ((a : Int) < ms) = true := decide_eq_true (by omega)
                  have e3 : decide ((b : Int) < ms) = false := decide_eq_false (by omega)
                  have f1 : decide (b < a) = false := decide_eq_false (by omega)
                  have f2 : decide (a < ms) = true := decide_eq_true (by omega)
                  have f3 : decide (b < ms) = false := decide_eq_false (by omega)
                  clear hsa ecx HSH
                  refine wp_region_noPanic ?_
                  refine wp_region_held_drew (S := (fun w' => w'.cell? ⟨E, 0, none⟩ = some (.string d.pa) ∧ w'.cell? ⟨E, 1, none⟩ = some (.string d.me) ∧ w'.cell? ⟨E, 2, none⟩ = some (.slice (some ⟨g3, off3, none⟩) ms d.sc) ∧ w'.cell? ⟨B1, 3, none⟩ = some (.float .f64 q.u) ∧ w'.cell? ⟨g3, off3 + a * 2, none⟩ = some (.string s1.sv))) (by kernel_rfl) (by go_keep) (fun hS1 => ?_)
                  refine wpAnyH_take (i := 0) (oi := { dst := some 139, op := Op.move (Operand.tmp 18), type := 3, pos := "outright.go:88", after := #[], guard := none }) (v := .int .i64 a) rfl (by kernel_rfl) (by kernel_rfl) (by kernel_rfl) (fun _ _ _ h => h) (Or.inl ⟨by rfl, ?_⟩) hS1 ?_
                  · intro w9 hSw; (try dsimp only at hSw); obtain ⟨s0, s1_, s2_, s3, s4⟩ := hSw; go_simp
                  try simp only [Act.put, List.setIfInBounds_toArray, List.set_cons_zero, List.set_cons_succ]
                  refine wpAnyH_take (i := 1) (oi := { dst := some 140, op := Op.move (Operand.tmp 19), type := 3, pos := "outright.go:88", after := #[], guard := none }) (v := .int .i64 b) rfl (by kernel_rfl) (by kernel_rfl) (by kernel_rfl) (fun _ _ _ h => h) (Or.inl ⟨by rfl, ?_⟩) hS1 ?_
                  · intro w9 hSw; (try dsimp only at hSw); obtain ⟨s0, s1_, s2_, s3, s4⟩ := hSw; go_simp
                  try simp only [Act.put, List.setIfInBounds_toArray, List.set_cons_zero, List.set_cons_succ]
                  refine wpAnyH_take (i := 2) (oi := { dst := some 141, op := Op.binOp BinOp.gtr 3 (Operand.tmp 139) (Operand.tmp 140) 3, type := 4, pos := "outright.go:88", after := #[{ on := 0, ground := Ground.data }, { on := 1, ground := Ground.data }], guard := none }) (v := .bool false) rfl (by kernel_rfl) (by kernel_rfl) (by kernel_rfl) (fun _ _ _ h => h) (Or.inl ⟨by rfl, ?_⟩) hS1 ?_
                  · intro w9 hSw; (try dsimp only at hSw); obtain ⟨s0, s1_, s2_, s3, s4⟩ := hSw; go_simp
                  try simp only [Act.put, List.setIfInBounds_toArray, List.set_cons_zero, List.set_cons_succ]
                  refine wpAnyH_take (i := 3) (oi := { dst := some 142, op := Op.move (Operand.tmp 141), type := 4, pos := "outright.go:88", after := #[{ on := 2, ground := Ground.data }], guard := none }) (v := .bool false) rfl (by kernel_rfl) (by kernel_rfl) (by kernel_rfl) (fun _ _ _ h => h) (Or.inl ⟨by rfl, ?_⟩) hS1 ?_
                  · intro w9 hSw; (try dsimp only at hSw); obtain ⟨s0, s1_, s2_, s3, s4⟩ := hSw; go_simp
                  try simp only [Act.put, List.setIfInBounds_toArray, List.set_cons_zero, List.set_cons_succ]
                  refine wpAnyH_take (i := 4) (oi := { dst := some 143, op := Op.move (Operand.tmp 18), type := 3, pos := "outright.go:88", after := #[{ on := 3, ground := Ground.guard }], guard := some (3, false) }) (v := .int .i64 a) rfl (by kernel_rfl) (by kernel_rfl) (by kernel_rfl) (fun _ _ _ h => h) (Or.inl ⟨by rfl, ?_⟩) hS1 ?_
                  · intro w9 hSw; (try dsimp only at hSw); obtain ⟨s0, s1_, s2_, s3, s4⟩ := hSw; go_simp
                  try simp only [Act.put, List.setIfInBounds_toArray, List.set_cons_zero, List.set_cons_succ]
                  refine wpAnyH_take (i := 5) (oi := { dst := some 144, op := Op.fieldAddr 50 (Operand.tmp 17) 2, type := 0, pos := "outright.go:88", after := #[{ on := 3, ground := Ground.guard }], guard := some (3, false) }) (v := .pointer (some ⟨E, 2, none⟩)) rfl (by kernel_rfl) (by kernel_rfl) (by kernel_rfl) (fun _ _ _ h => h) (Or.inl ⟨by rfl, ?_⟩) hS1 ?_
                  · intro w9 hSw; (try dsimp only at hSw); obtain ⟨s0, s1_, s2_, s3, s4⟩ := hSw; go_simp
                  try simp only [Act.put, List.setIfInBounds_toArray, List.set_cons_zero, List.set_cons_succ]
                  refine wpAnyH_take (i := 6) (oi := { dst := some 145, op := Op.load 48 (Operand.tmp 144), type := 48, pos := "outright.go:88", after := #[{ on := 5, ground := Ground.data }, { on := 3, ground := Ground.guard }], guard := some (3, false) }) (v := .slice (some ⟨g3, off3, none⟩) ms d.sc) rfl (by kernel_rfl) (by kernel_rfl) (by kernel_rfl) (fun _ _ _ h => h) (Or.inl ⟨by rfl, ?_⟩) hS1 ?_
                  · intro w9 hSw; (try dsimp only at hSw); obtain ⟨s0, s1_, s2_, s3, s4⟩ := hSw; go_simp
                  try simp only [Act.put, List.setIfInBounds_toArray, List.set_cons_zero, List.set_cons_succ]
                  refine wpAnyH_take (i := 7) (oi := { dst := some 146, op := Op.call { callee := Callee.builtin Builtin.len, args := #[Operand.tmp 145], argTypes := #[48] }, type := 3, pos := "outright.go:88", after := #[{ on := 6, ground := Ground.data }, { on := 3, ground := Ground.guard }], guard := some (3, false) }) (v := .int .i64 ms) rfl (by kernel_rfl) (by kernel_rfl) (by kernel_rfl) (fun _ _ _ h => h) (Or.inl ⟨by rfl, ?_⟩) hS1 ?_
                  · intro w9 hSw; (try dsimp only at hSw); obtain ⟨s0, s1_, s2_, s3, s4⟩ := hSw; go_simp
                  try simp only [Act.put, List.setIfInBounds_toArray, List.set_cons_zero, List.set_cons_succ]
                  refine wpAnyH_take (i := 8) (oi := { dst := some 147, op := Op.binOp BinOp.lss 3 (Operand.tmp 143) (Operand.tmp 146) 3, type := 4, pos := "outright.go:88", after := #[{ on := 4, ground := Ground.data }, { on := 7, ground := Ground.data }, { on := 3, ground := Ground.guard }], guard := some (3, false) }) (v := .bool true) rfl (by kernel_rfl) (by kernel_rfl) (by kernel_rfl) (fun _ _ _ h => h) (Or.inl ⟨by rfl, ?_⟩) hS1 ?_
                  · intro w9 hSw; (try dsimp only at hSw); obtain ⟨s0, s1_, s2_, s3, s4⟩ := hSw; go_simp
                  try simp only [Act.put, List.setIfInBounds_toArray, List.set_cons_zero, List.set_cons_succ]
                  refine wpAnyH_take (i := 9) (oi := { dst := some 148, op := Op.move (Operand.tmp 147), type := 4, pos := "outright.go:88", after := #[{ on := 8, ground := Ground.data }, { on := 3, ground := Ground.chain }, { on := 3, ground := Ground.guard }], guard := some (3, false) }) (v := .bool true) rfl (by kernel_rfl) (by kernel_rfl) (by kernel_rfl) (fun _ _ _ h => h) (Or.inl ⟨by rfl, ?_⟩) hS1 ?_
                  · intro w9 hSw; (try dsimp only at hSw); obtain ⟨s0, s1_, s2_, s3, s4⟩ := hSw; go_simp
                  try simp only [Act.put, List.setIfInBounds_toArray, List.set_cons_zero, List.set_cons_succ]
                  refine wpAnyH_take (i := 10) (oi := { dst := some 149, op := Op.load 50 (Operand.tmp 17), type := 50, pos := "outright.go:88", after := #[{ on := 9, ground := Ground.guard }], guard := some (9, true) }) (v := .agg #[.string d.pa, .string d.me, .slice (some ⟨g3, off3, none⟩) ms d.sc]) rfl (by kernel_rfl) (by kernel_rfl) (by kernel_rfl) (fun _ _ _ h => h) (Or.inl ⟨by rfl, ?_⟩) hS1 ?_
                  · intro w9 hSw; (try dsimp only at hSw); obtain ⟨s0, s1_, s2_, s3, s4⟩ := hSw; go_simp
                  try simp only [Act.put, List.setIfInBounds_toArray, List.set_cons_zero, List.set_cons_succ]
                  refine wpAnyH_take (i := 11) (oi := { dst := some 150, op := Op.fieldAddr 30 (Operand.tmp 6) 3, type := 0, pos := "outright.go:88", after := #[{ on := 9, ground := Ground.guard }], guard := some (9, true) }) (v := .pointer (some ⟨B1, 3, none⟩)) rfl (by kernel_rfl) (by kernel_rfl) (by kernel_rfl) (fun _ _ _ h => h) (Or.inl ⟨by rfl, ?_⟩) hS1 ?_
                  · intro w9 hSw; (try dsimp only at hSw); obtain ⟨s0, s1_, s2_, s3, s4⟩ := hSw; go_simp
                  try simp only [Act.put, List.setIfInBounds_toArray, List.set_cons_zero, List.set_cons_succ]
                  refine wpAnyH_take (i := 12) (oi := { dst := some 151, op := Op.load 27 (Operand.tmp 150), type := 27, pos := "outright.go:88", after := #[{ on := 11, ground := Ground.data }, { on := 9, ground := Ground.guard }], guard := some (9, true) }) (v := .float .f64 q.u) rfl (by kernel_rfl) (by kernel_rfl) (by kernel_rfl) (fun _ _ _ h => h) (Or.inl ⟨by rfl, ?_⟩) hS1 ?_
                  · intro w9 hSw; (try dsimp only at hSw); obtain ⟨s0, s1_, s2_, s3, s4⟩ := hSw; go_simp
                  try simp only [Act.put, List.setIfInBounds_toArray, List.set_cons_zero, List.set_cons_succ]
                  refine wpAnyH_take (i := 14) (oi := { dst := some 153, op := Op.fieldAddr 50 (Operand.tmp 17) 2, type := 0, pos := "outright.go:88", after := #[{ on := 9, ground := Ground.guard }], guard := some (9, true) }) (v := .pointer (some ⟨E, 2, none⟩)) rfl (by kernel_rfl) (by kernel_rfl) (by kernel_rfl) (fun _ _ _ h => h) (Or.inl ⟨by rfl, ?_⟩) hS1 ?_
                  · intro w9 hSw; (try dsimp only at hSw); obtain ⟨s0, s1_, s2_, s3, s4⟩ := hSw; go_simp
                  try simp only [Act.put, List.setIfInBounds_toArray, List.set_cons_zero, List.set_cons_succ]
                  refine wpAnyH_take (i := 15) (oi := { dst := some 154, op := Op.load 48 (Operand.tmp 153), type := 48, pos := "outright.go:88", after := #[{ on := 14, ground := Ground.data }, { on := 9, ground := Ground.guard }], guard := some (9, true) }) (v := .slice (some ⟨g3, off3, none⟩) ms d.sc) rfl (by kernel_rfl) (by kernel_rfl) (by kernel_rfl) (fun _ _ _ h => h) (Or.inl ⟨by rfl, ?_⟩) hS1 ?_
                  · intro w9 hSw; (try dsimp only at hSw); obtain ⟨s0, s1_, s2_, s3, s4⟩ := hSw; go_simp
                  try simp only [Act.put, List.setIfInBounds_toArray, List.set_cons_zero, List.set_cons_succ]
                  refine wpAnyH_take (i := 16) (oi := { dst := some 155, op := Op.move (Operand.tmp 18), type := 3, pos := "outright.go:88", after := #[{ on := 9, ground := Ground.guard }], guard := some (9, true) }) (v := .int .i64 a) rfl (by kernel_rfl) (by kernel_rfl) (by kernel_rfl) (fun _ _ _ h => h) (Or.inl ⟨by rfl, ?_⟩) hS1 ?_
                  · intro w9 hSw; (try dsimp only at hSw); obtain ⟨s0, s1_, s2_, s3, s4⟩ := hSw; go_simp
                  try simp only [Act.put, List.setIfInBounds_toArray, List.set_cons_zero, List.set_cons_succ]
                  refine wpAnyH_take (i := 17) (oi := { dst := some 156, op := Op.indexAddr 48 (Operand.tmp 154) (Operand.tmp 155), type := 0, pos := "outright.go:88", after := #[{ on := 15, ground := Ground.data }, { on := 16, ground := Ground.data }, { on := 9, ground := Ground.guard }], guard := some (9, true) }) (v := .pointer (some ⟨g3, off3 + a * 2, none⟩)) rfl (by kernel_rfl) (by kernel_rfl) (by kernel_rfl) (fun _ _ _ h => h) (Or.inl ⟨by rfl, ?_⟩) hS1 ?_
                  · intro w9 hSw; (try dsimp only at hSw); obtain ⟨s0, s1_, s2_, s3, s4⟩ := hSw; go_simp
                  try simp only [Act.put, List.setIfInBounds_toArray, List.set_cons_zero, List.set_cons_succ]
                  refine wpAnyH_take (i := 18) (oi := { dst := some 157, op := Op.fieldAddr 52 (Operand.tmp 156) 0, type := 0, pos := "outright.go:88", after := #[{ on := 17, ground := Ground.data }, { on := 9, ground := Ground.guard }], guard := some (9, true) }) (v := .pointer (some ⟨g3, off3 + a * 2, none⟩)) rfl (by kernel_rfl) (by kernel_rfl) (by kernel_rfl) (fun _ _ _ h => h) (Or.inl ⟨by rfl, ?_⟩) hS1 ?_
                  · intro w9 hSw; (try dsimp only at hSw); obtain ⟨s0, s1_, s2_, s3, s4⟩ := hSw; go_simp
                  try simp only [Act.put, List.setIfInBounds_toArray, List.set_cons_zero, List.set_cons_succ]
                  refine wpAnyH_take (i := 19) (oi := { dst := some 158, op := Op.load 9 (Operand.tmp 157), type := 9, pos := "outright.go:88", after := #[{ on := 18, ground := Ground.data }, { on := 9, ground := Ground.guard }], guard := some (9, true) }) (v := .string s1.sv) rfl (by kernel_rfl) (by kernel_rfl) (by kernel_rfl) (fun _ _ _ h => h) (Or.inl ⟨by rfl, ?_⟩) hS1 ?_
                  · intro w9 hSw; (try dsimp only at hSw); obtain ⟨s0, s1_, s2_, s3, s4⟩ := hSw; go_simp
                  try simp only [Act.put, List.setIfInBounds_toArray, List.set_cons_zero, List.set_cons_succ]
                  refine wpAnyH_ready (rs := [13]) (by kernel_rfl) (by simp) ?_
                  refine AllReadyH.cons (o := { dst := some 152, op := Op.call { callee := Callee.value (Operand.func 18), args := #[Operand.tmp 149, Operand.tmp 151], argTypes := #[50, 27] }, type := 9, pos := "outright.go:88", after := #[{ on := 10, ground := Ground.data }, { on := 12, ground := Ground.data }, { on := 9, ground := Ground.chain }, { on := 9, ground := Ground.guard }], guard := some (9, true) }) rfl (fun K hK => ?_) AllReadyH.nil
                  go_simp
                  refine (HSA.out _ (below_drewN HG12.out 1)).mono ?_
                  rintro e w13 ⟨rfl, hgx⟩
                  have HG13 := hideL ((below_drewN (Below.refl w12.heap.size w12) 1).trans hgx)
                  obtain ⟨x0, x1, x2, x3, x4⟩ := HS3.out w13 HG13.out
                  clear hgx
                  go_wp2_with fail
                  clear hS1
                  refine hK.out _ _ (by go_keep) (fun hS1 => ?_)
                  clear hK K
                  try simp only [Act.put, List.setIfInBounds_toArray, List.set_cons_zero, List.set_cons_succ]
                  refine wpAnyH_take (i := 20) (oi := { dst := some 159, op := Op.binOp BinOp.neq 9 (Operand.tmp 152) (Operand.tmp 158) 9, type := 4, pos := "outright.go:88", after := #[{ on := 13, ground := Ground.data }, { on := 19, ground := Ground.data }, { on := 9, ground := Ground.guard }], guard := some (9, true) }) (v := .bool false) rfl (by kernel_rfl) (by kernel_rfl) (by kernel_rfl) (fun _ _ _ h => h) (Or.inl ⟨by rfl, ?_⟩) hS1 ?_
                  · intro w9 hSw; (try dsimp only at hSw); obtain ⟨s0, s1_, s2_, s3, s4⟩ := hSw; go_simp
                  try simp only [Act.put, List.setIfInBounds_toArray, List.set_cons_zero, List.set_cons_succ]
                  refine wpAnyH_take (i := 21) (oi := { dst := some 160, op := Op.pick (Operand.tmp 148) (Operand.tmp 159) (Operand.const (Value.bool false)), type := 4, pos := "outright.go:88", after := #[{ on := 9, ground := Ground.data }, { on := 20, ground := Ground.data }, { on := 3, ground := Ground.guard }], guard := some (3, false) }) (v := .bool false) rfl (by kernel_rfl) (by kernel_rfl) (by kernel_rfl) (fun _ _ _ h => h) (Or.inl ⟨by rfl, ?_⟩) hS1 ?_
                  · intro w9 hSw; (try dsimp only at hSw); obtain ⟨s0, s1_, s2_, s3, s4⟩ := hSw; go_simp
                  try simp only [Act.put, List.setIfInBounds_toArray, List.set_cons_zero, List.set_cons_succ]
                  refine wpAnyH_take (i := 22) (oi := { dst := some 161, op := Op.pick (Operand.tmp 142) (Operand.const (Value.bool true)) (Operand.tmp 160), type := 4, pos := "outright.go:88", after := #[{ on := 3, ground := Ground.data }, { on := 21, ground := Ground.data }], guard := none }) (v := .bool false) rfl (by kernel_rfl) (by kernel_rfl) (by kernel_rfl) (fun _ _ _ h => h) (Or.inl ⟨by rfl, ?_⟩) hS1 ?_
                  · intro w9 hSw; (try dsimp only at hSw); obtain ⟨s0, s1_, s2_, s3, s4⟩ := hSw; go_simp
                  try simp only [Act.put, List.setIfInBounds_toArray, List.set_cons_zero, List.set_cons_succ]
                  refine wpAnyH_take (i := 23) (oi := { dst := some 162, op := Op.move (Operand.tmp 161), type := 4, pos := "outright.go:88", after := #[{ on := 22, ground := Ground.data }, { on := 13, ground := Ground.chain }], guard := none }) (v := .bool false) rfl (by kernel_rfl) (by kernel_rfl) (by kernel_rfl) (fun _ _ _ h => h) (Or.inl ⟨by rfl, ?_⟩) hS1 ?_
                  · intro w9 hSw; (try dsimp only at hSw); obtain ⟨s0, s1_, s2_, s3, s4⟩ := hSw; go_simp
                  try simp only [Act.put, List.setIfInBounds_toArray, List.set_cons_zero, List.set_cons_succ]
                  refine wpAnyH_take (i := 24) (oi := { dst := some 163, op := Op.move (Operand.tmp 19), type := 3, pos := "outright.go:88", after := #[{ on := 23, ground := Ground.guard }], guard := some (23, false) }) (v := .int .i64 b) rfl (by kernel_rfl) (by kernel_rfl) (by kernel_rfl) (fun _ _ _ h => h) (Or.inl ⟨by rfl, ?_⟩) hS1 ?_
                  · intro w9 hSw; (try dsimp only at hSw); obtain ⟨s0, s1_, s2_, s3, s4⟩ := hSw; go_simp
                  try simp only [Act.put, List.setIfInBounds_toArray, List.set_cons_zero, List.set_cons_succ]
                  refine wpAnyH_take (i := 25) (oi := { dst := some 164, op := Op.fieldAddr 50 (Operand.tmp 17) 2, type := 0, pos := "outright.go:88", after := #[{ on := 23, ground := Ground.guard }], guard := some (23, false) }) (v := .pointer (some ⟨E, 2, none⟩)) rfl (by kernel_rfl) (by kernel_rfl) (by kernel_rfl) (fun _ _ _ h => h) (Or.inl ⟨by rfl, ?_⟩) hS1 ?_
                  · intro w9 hSw; (try dsimp only at hSw); obtain ⟨s0, s1_, s2_, s3, s4⟩ := hSw; go_simp
                  try simp only [Act.put, List.setIfInBounds_toArray, List.set_cons_zero, List.set_cons_succ]
                  refine wpAnyH_take (i := 26) (oi := { dst := some 165, op := Op.load 48 (Operand.tmp 164), type := 48, pos := "outright.go:88", after := #[{ on := 25, ground := Ground.data }, { on := 23, ground := Ground.guard }], guard := some (23, false) }) (v := .slice (some ⟨g3, off3, none⟩) ms d.sc) rfl (by kernel_rfl) (by kernel_rfl) (by kernel_rfl) (fun _ _ _ h => h) (Or.inl ⟨by rfl, ?_⟩) hS1 ?_
                  · intro w9 hSw; (try dsimp only at hSw); obtain ⟨s0, s1_, s2_, s3, s4⟩ := hSw; go_simp
                  try simp only [Act.put, List.setIfInBounds_toArray, List.set_cons_zero, List.set_cons_succ]
                  refine wpAnyH_take (i := 27) (oi := { dst := some 166, op := Op.call { callee := Callee.builtin Builtin.len, args := #[Operand.tmp 165], argTypes := #[48] }, type := 3, pos := "outright.go:88", after := #[{ on := 26, ground := Ground.data }, { on := 23, ground := Ground.guard }], guard := some (23, false) }) (v := .int .i64 ms) rfl (by kernel_rfl) (by kernel_rfl) (by kernel_rfl) (fun _ _ _ h => h) (Or.inl ⟨by rfl, ?_⟩) hS1 ?_
                  · intro w9 hSw; (try dsimp only at hSw); obtain ⟨s0, s1_, s2_, s3, s4⟩ := hSw; go_simp
                  try simp only [Act.put, List.setIfInBounds_toArray, List.set_cons_zero, List.set_cons_succ]
                  refine wpAnyH_take (i := 28) (oi := { dst := some 167, op := Op.binOp BinOp.lss 3 (Operand.tmp 163) (Operand.tmp 166) 3, type := 4, pos := "outright.go:88", after := #[{ on := 24, ground := Ground.data }, { on := 27, ground := Ground.data }, { on := 23, ground := Ground.guard }], guard := some (23, false) }) (v := .bool false) rfl (by kernel_rfl) (by kernel_rfl) (by kernel_rfl) (fun _ _ _ h => h) (Or.inl ⟨by rfl, ?_⟩) hS1 ?_
                  · intro w9 hSw; (try dsimp only at hSw); obtain ⟨s0, s1_, s2_, s3, s4⟩ := hSw; go_simp
                  try simp only [Act.put, List.setIfInBounds_toArray, List.set_cons_zero, List.set_cons_succ]
                  refine wpAnyH_take (i := 29) (oi := { dst := some 168, op := Op.move (Operand.tmp 167), type := 4, pos := "outright.go:88", after := #[{ on := 28, ground := Ground.data }, { on := 23, ground := Ground.chain }, { on := 23, ground := Ground.guard }], guard := some (23, false) }) (v := .bool false) rfl (by kernel_rfl) (by kernel_rfl) (by kernel_rfl) (fun _ _ _ h => h) (Or.inl ⟨by rfl, ?_⟩) hS1 ?_
                  · intro w9 hSw; (try dsimp only at hSw); obtain ⟨s0, s1_, s2_, s3, s4⟩ := hSw; go_simp
                  try simp only [Act.put, List.setIfInBounds_toArray, List.set_cons_zero, List.set_cons_succ]
                  refine wpAnyH_take (i := 30) (oi := { dst := some 169, op := Op.load 50 (Operand.tmp 17), type := 50, pos := "outright.go:88", after := #[{ on := 29, ground := Ground.guard }], guard := some (29, true) }) (v := undef) rfl (by kernel_rfl) (by kernel_rfl) (by kernel_rfl) (fun _ _ _ h => h) (Or.inr ⟨by rfl, rfl⟩) hS1 ?_
                  try simp only [Act.put, List.setIfInBounds_toArray, List.set_cons_zero, List.set_cons_succ]
                  refine wpAnyH_take (i := 31) (oi := { dst := some 170, op := Op.move (Operand.tmp 3), type := 27, pos := "outright.go:88", after := #[{ on := 29, ground := Ground.guard }], guard := some (29, true) }) (v := undef) rfl (by kernel_rfl) (by kernel_rfl) (by kernel_rfl) (fun _ _ _ h => h) (Or.inr ⟨by rfl, rfl⟩) hS1 ?_
                  try simp only [Act.put, List.setIfInBounds_toArray, List.set_cons_zero, List.set_cons_succ]
                  refine wpAnyH_take (i := 32) (oi := { dst := some 171, op := Op.call { callee := Callee.value (Operand.func 18), args := #[Operand.tmp 169, Operand.tmp 170], argTypes := #[50, 27] }, type := 9, pos := "outright.go:88", after := #[{ on := 30, ground := Ground.data }, { on := 31, ground := Ground.data }, { on := 29, ground := Ground.chain }, { on := 29, ground := Ground.guard }], guard := some (29, true) }) (v := undef) rfl (by kernel_rfl) (by kernel_rfl) (by kernel_rfl) (fun _ _ _ h => h) (Or.inr ⟨by rfl, rfl⟩) hS1 ?_
                  try simp only [Act.put, List.setIfInBounds_toArray, List.set_cons_zero, List.set_cons_succ]
                  refine wpAnyH_take (i := 33) (oi := { dst := some 172, op := Op.fieldAddr 50 (Operand.tmp 17) 2, type := 0, pos := "outright.go:88", after := #[{ on := 29, ground := Ground.guard }], guard := some (29, true) }) (v := undef) rfl (by kernel_rfl) (by kernel_rfl) (by kernel_rfl) (fun _ _ _ h => h) (Or.inr ⟨by rfl, rfl⟩) hS1 ?_
                  try simp only [Act.put, List.setIfInBounds_toArray, List.set_cons_zero, List.set_cons_succ]
                  refine wpAnyH_take (i := 34) (oi := { dst := some 173, op := Op.load 48 (Operand.tmp 172), type := 48, pos := "outright.go:88", after := #[{ on := 33, ground := Ground.data }, { on := 29, ground := Ground.guard }], guard := some (29, true) }) (v := undef) rfl (by kernel_rfl) (by kernel_rfl) (by kernel_rfl) (fun _ _ _ h => h) (Or.inr ⟨by rfl, rfl⟩) hS1 ?_
                  try simp only [Act.put, List.setIfInBounds_toArray, List.set_cons_zero, List.set_cons_succ]
                  refine wpAnyH_take (i := 35) (oi := { dst := some 174, op := Op.move (Operand.tmp 19), type := 3, pos := "outright.go:88", after := #[{ on := 29, ground := Ground.guard }], guard := some (29, true) }) (v := undef) rfl (by kernel_rfl) (by kernel_rfl) (by kernel_rfl) (fun _ _ _ h => h) (Or.inr ⟨by rfl, rfl⟩) hS1 ?_
                  try simp only [Act.put, List.setIfInBounds_toArray, List.set_cons_zero, List.set_cons_succ]
                  refine wpAnyH_take (i := 36) (oi := { dst := some 175, op := Op.indexAddr 48 (Operand.tmp 173) (Operand.tmp 174), type := 0, pos := "outright.go:88", after := #[{ on := 34, ground := Ground.data }, { on := 35, ground := Ground.data }, { on := 29, ground := Ground.guard }], guard := some (29, true) }) (v := undef) rfl (by kernel_rfl) (by kernel_rfl) (by kernel_rfl) (fun _ _ _ h => h) (Or.inr ⟨by rfl, rfl⟩) hS1 ?_
                  try simp only [Act.put, List.setIfInBounds_toArray, List.set_cons_zero, List.set_cons_succ]
                  refine wpAnyH_take (i := 37) (oi := { dst := some 176, op := Op.fieldAddr 52 (Operand.tmp 175) 0, type := 0, pos := "outright.go:88", after := #[{ on := 36, ground := Ground.data }, { on := 29, ground := Ground.guard }], guard := some (29, true) }) (v := undef) rfl (by kernel_rfl) (by kernel_rfl) (by kernel_rfl) (fun _ _ _ h => h) (Or.inr ⟨by rfl, rfl⟩) hS1 ?_
                  try simp only [Act.put, List.setIfInBounds_toArray, List.set_cons_zero, List.set_cons_succ]
                  refine wpAnyH_take (i := 38) (oi := { dst := some 177, op := Op.load 9 (Operand.tmp 176), type := 9, pos := "outright.go:88", after := #[{ on := 37, ground := Ground.data }, { on := 29, ground := Ground.guard }], guard := some (29, true) }) (v := undef) rfl (by kernel_rfl) (by kernel_rfl) (by kernel_rfl) (fun _ _ _ h => h) (Or.inr ⟨by rfl, rfl⟩) hS1 ?_
                  try simp only [Act.put, List.setIfInBounds_toArray, List.set_cons_zero, List.set_cons_succ]
                  refine wpAnyH_take (i := 39) (oi := { dst := some 178, op := Op.binOp BinOp.neq 9 (Operand.tmp 171) (Operand.tmp 177) 9, type := 4, pos := "outright.go:88", after := #[{ on := 32, ground := Ground.data }, { on := 38, ground := Ground.data }, { on := 29, ground := Ground.guard }], guard := some (29, true) }) (v := undef) rfl (by kernel_rfl) (by kernel_rfl) (by kernel_rfl) (fun _ _ _ h => h) (Or.inr ⟨by rfl, rfl⟩) hS1 ?_
                  try simp only [Act.put, List.setIfInBounds_toArray, List.set_cons_zero, List.set_cons_succ]
                  refine wpAnyH_take (i := 40) (oi := { dst := some 179, op := Op.pick (Operand.tmp 168) (Operand.tmp 178) (Operand.const (Value.bool false)), type := 4, pos := "outright.go:88", after := #[{ on := 29, ground := Ground.data }, { on := 39, ground := Ground.data }, { on := 23, ground := Ground.guard }], guard := some (23, false) }) (v := .bool false) rfl (by kernel_rfl) (by kernel_rfl) (by kernel_rfl) (fun _ _ _ h => h) (Or.inl ⟨by rfl, ?_⟩) hS1 ?_
                  · intro w9 hSw; (try dsimp only at hSw); obtain ⟨s0, s1_, s2_, s3, s4⟩ := hSw; go_simp
                  try simp only [Act.put, List.setIfInBounds_toArray, List.set_cons_zero, List.set_cons_succ]
                  refine wpAnyH_take (i := 41) (oi := { dst := some 180, op := Op.pick (Operand.tmp 162) (Operand.const (Value.bool true)) (Operand.tmp 179), type := 4, pos := "outright.go:88", after := #[{ on := 23, ground := Ground.data }, { on := 40, ground := Ground.data }], guard := none }) (v := .bool false) rfl (by kernel_rfl) (by kernel_rfl) (by kernel_rfl) (fun _ _ _ h => h) (Or.inl ⟨by rfl, ?_⟩) hS1 ?_
                  · intro w9 hSw; (try dsimp only at hSw); obtain ⟨s0, s1_, s2_, s3, s4⟩ := hSw; go_simp
                  try simp only [Act.put, List.setIfInBounds_toArray, List.set_cons_zero, List.set_cons_succ]
                  refine wpAnyH_done (by kernel_rfl) (NoPanic.normal ?_) _
                  go_wp2_with fail
                  go_roundw
                  case rel => exact ⟨k + 1, by go_num, by omega, HBI.out.trans ((HGE.out.trans (HG13.out.mono HGE.out.size)).mono HBI.out.size)⟩
                  case measure => simp [intOf]; omega
              · have ha' : ¬ (a : Int) < ms := by omega
                have hb' : ¬ (b : Int) < ms := by omega
                have e1 : decide ((b : Int) < a) = false := decide_eq_false (by omega)
                have e2 : decide ((a : Int) < ms) = false := decide_eq_false (by omega)
                have e3 : decide ((b : Int) < ms) = false := decide_eq_false (by omega)
                have f1 : decide (b < a) = false := decide_eq_false (by omega)
                have f2 : decide (a < ms) = false := decide_eq_false (by omega)
                have f3 : decide (b < ms) = false := decide_eq_false (by omega)
                refine wp_region_noPanic ?_
                refine wp_region_held_drew (S := (fun w' => w'.cell? ⟨E, 0, none⟩ = some (.string d.pa) ∧ w'.cell? ⟨E, 1, none⟩ = some (.string d.me) ∧ w'.cell? ⟨E, 2, none⟩ = some (.slice d.sa ms d.sc) ∧ w'.cell? ⟨B1, 3, none⟩ = some (.float .f64 q.u))) (by kernel_rfl) (by go_keep) (fun hS1 => ?_)
                refine wpAnyH_take (i := 0) (oi := { dst := some 139, op := Op.move (Operand.tmp 18), type := 3, pos := "outright.go:88", after := #[], guard := none }) (v := .int .i64 a) rfl (by kernel_rfl) (by kernel_rfl) (by kernel_rfl) (fun _ _ _ h => h) (Or.inl ⟨by rfl, ?_⟩) hS1 ?_
                · intro w9 hSw; (try dsimp only at hSw); obtain ⟨s0, s1_, s2_, s3⟩ := hSw; go_simp
                try simp only [Act.put, List.setIfInBounds_toArray, List.set_cons_zero, List.set_cons_succ]
                refine wpAnyH_take (i := 1) (oi := { dst := some 140, op := Op.move (Operand.tmp 19), type := 3, pos := "outright.go:88", after := #[], guard := none }) (v := .int .i64 b) rfl (by kernel_rfl) (by kernel_rfl) (by kernel_rfl) (fun _ _ _ h => h) (Or.inl ⟨by rfl, ?_⟩) hS1 ?_
                · intro w9 hSw; (try dsimp only at hSw); obtain ⟨s0, s1_, s2_, s3⟩ := hSw; go_simp
                try simp only [Act.put, List.setIfInBounds_toArray, List.set_cons_zero, List.set_cons_succ]
                refine wpAnyH_take (i := 2) (oi := { dst := some 141, op := Op.binOp BinOp.gtr 3 (Operand.tmp 139) (Operand.tmp 140) 3, type := 4, pos := "outright.go:88", after := #[{ on := 0, ground := Ground.data }, { on := 1, ground := Ground.data }], guard := none }) (v := .bool false) rfl (by kernel_rfl) (by kernel_rfl) (by kernel_rfl) (fun _ _ _ h => h) (Or.inl ⟨by rfl, ?_⟩) hS1 ?_
                · intro w9 hSw; (try dsimp only at hSw); obtain ⟨s0, s1_, s2_, s3⟩ := hSw; go_simp
                try simp only [Act.put, List.setIfInBounds_toArray, List.set_cons_zero, List.set_cons_succ]
                refine wpAnyH_take (i := 3) (oi := { dst := some 142, op := Op.move (Operand.tmp 141), type := 4, pos := "outright.go:88", after := #[{ on := 2, ground := Ground.data }], guard := none }) (v := .bool false) rfl (by kernel_rfl) (by kernel_rfl) (by kernel_rfl) (fun _ _ _ h => h) (Or.inl ⟨by rfl, ?_⟩) hS1 ?_
                · intro w9 hSw; (try dsimp only at hSw); obtain ⟨s0, s1_, s2_, s3⟩ := hSw; go_simp
                try simp only [Act.put, List.setIfInBounds_toArray, List.set_cons_zero, List.set_cons_succ]
                refine wpAnyH_take (i := 4) (oi := { dst := some 143, op := Op.move (Operand.tmp 18), type := 3, pos := "outright.go:88", after := #[{ on := 3, ground := Ground.guard }], guard := some (3, false) }) (v := .int .i64 a) rfl (by kernel_rfl) (by kernel_rfl) (by kernel_rfl) (fun _ _ _ h => h) (Or.inl ⟨by rfl, ?_⟩) hS1 ?_
                · intro w9 hSw; (try dsimp only at hSw); obtain ⟨s0, s1_, s2_, s3⟩ := hSw; go_simp
                try simp only [Act.put, List.setIfInBounds_toArray, List.set_cons_zero, List.set_cons_succ]
                refine wpAnyH_take (i := 5) (oi := { dst := some 144, op := Op.fieldAddr 50 (Operand.tmp 17) 2, type := 0, pos := "outright.go:88", after := #[{ on := 3, ground := Ground.guard }], guard := some (3, false) }) (v := .pointer (some ⟨E, 2, none⟩)) rfl (by kernel_rfl) (by kernel_rfl) (by kernel_rfl) (fun _ _ _ h => h) (Or.inl ⟨by rfl, ?_⟩) hS1 ?_
                · intro w9 hSw; (try dsimp only at hSw); obtain ⟨s0, s1_, s2_, s3⟩ := hSw; go_simp
                try simp only [Act.put, List.setIfInBounds_toArray, List.set_cons_zero, List.set_cons_succ]
                refine wpAnyH_take (i := 6) (oi := { dst := some 145, op := Op.load 48 (Operand.tmp 144), type := 48, pos := "outright.go:88", after := #[{ on := 5, ground := Ground.data }, { on := 3, ground := Ground.guard }], guard := some (3, false) }) (v := .slice d.sa ms d.sc) rfl (by kernel_rfl) (by kernel_rfl) (by kernel_rfl) (fun _ _ _ h => h) (Or.inl ⟨by rfl, ?_⟩) hS1 ?_
                · intro w9 hSw; (try dsimp only at hSw); obtain ⟨s0, s1_, s2_, s3⟩ := hSw; go_simp
                try simp only [Act.put, List.setIfInBounds_toArray, List.set_cons_zero, List.set_cons_succ]
                refine wpAnyH_take (i := 7) (oi := { dst := some 146, op := Op.call { callee := Callee.builtin Builtin.len, args := #[Operand.tmp 145], argTypes := #[48] }, type := 3, pos := "outright.go:88", after := #[{ on := 6, ground := Ground.data }, { on := 3, ground := Ground.guard }], guard := some (3, false) }) (v := .int .i64 ms) rfl (by kernel_rfl) (by kernel_rfl) (by kernel_rfl) (fun _ _ _ h => h) (Or.inl ⟨by rfl, ?_⟩) hS1 ?_
                · intro w9 hSw; (try dsimp only at hSw); obtain ⟨s0, s1_, s2_, s3⟩ := hSw; go_simp
                try simp only [Act.put, List.setIfInBounds_toArray, List.set_cons_zero, List.set_cons_succ]
                refine wpAnyH_take (i := 8) (oi := { dst := some 147, op := Op.binOp BinOp.lss 3 (Operand.tmp 143) (Operand.tmp 146) 3, type := 4, pos := "outright.go:88", after := #[{ on := 4, ground := Ground.data }, { on := 7, ground := Ground.data }, { on := 3, ground := Ground.guard }], guard := some (3, false) }) (v := .bool false) rfl (by kernel_rfl) (by kernel_rfl) (by kernel_rfl) (fun _ _ _ h => h) (Or.inl ⟨by rfl, ?_⟩) hS1 ?_
                · intro w9 hSw; (try dsimp only at hSw); obtain ⟨s0, s1_, s2_, s3⟩ := hSw; go_simp
                try simp only [Act.put, List.setIfInBounds_toArray, List.set_cons_zero, List.set_cons_succ]
                refine wpAnyH_take (i := 9) (oi := { dst := some 148, op := Op.move (Operand.tmp 147), type := 4, pos := "outright.go:88", after := #[{ on := 8, ground := Ground.data }, { on := 3, ground := Ground.chain }, { on := 3, ground := Ground.guard }], guard := some (3, false) }) (v := .bool false) rfl (by kernel_rfl) (by kernel_rfl) (by kernel_rfl) (fun _ _ _ h => h) (Or.inl ⟨by rfl, ?_⟩) hS1 ?_
                · intro w9 hSw; (try dsimp only at hSw); obtain ⟨s0, s1_, s2_, s3⟩ := hSw; go_simp
                try simp only [Act.put, List.setIfInBounds_toArray, List.set_cons_zero, List.set_cons_succ]
                refine wpAnyH_take (i := 10) (oi := { dst := some 149, op := Op.load 50 (Operand.tmp 17), type := 50, pos := "outright.go:88", after := #[{ on := 9, ground := Ground.guard }], guard := some (9, true) }) (v := undef) rfl (by kernel_rfl) (by kernel_rfl) (by kernel_rfl) (fun _ _ _ h => h) (Or.inr ⟨by rfl, rfl⟩) hS1 ?_
                try simp only [Act.put, List.setIfInBounds_toArray, List.set_cons_zero, List.set_cons_succ]
                refine wpAnyH_take (i := 11) (oi := { dst := some 150, op := Op.fieldAddr 30 (Operand.tmp 6) 3, type := 0, pos := "outright.go:88", after := #[{ on := 9, ground := Ground.guard }], guard := some (9, true) }) (v := undef) rfl (by kernel_rfl) (by kernel_rfl) (by kernel_rfl) (fun _ _ _ h => h) (Or.inr ⟨by rfl, rfl⟩) hS1 ?_
                try simp only [Act.put, List.setIfInBounds_toArray, List.set_cons_zero, List.set_cons_succ]
                refine wpAnyH_take (i := 12) (oi := { dst := some 151, op := Op.load 27 (Operand.tmp 150), type := 27, pos := "outright.go:88", after := #[{ on := 11, ground := Ground.data }, { on := 9, ground := Ground.guard }], guard := some (9, true) }) (v := undef) rfl (by kernel_rfl) (by kernel_rfl) (by kernel_rfl) (fun _ _ _ h => h) (Or.inr ⟨by rfl, rfl⟩) hS1 ?_
                try simp only [Act.put, List.setIfInBounds_toArray, List.set_cons_zero, List.set_cons_succ]
                refine wpAnyH_take (i := 13) (oi := { dst := some 152, op := Op.call { callee := Callee.value (Operand.func 18), args := #[Operand.tmp 149, Operand.tmp 151], argTypes := #[50, 27] }, type := 9, pos := "outright.go:88", after := #[{ on := 10, ground := Ground.data }, { on := 12, ground := Ground.data }, { on := 9, ground := Ground.chain }, { on := 9, ground := Ground.guard }], guard := some (9, true) }) (v := undef) rfl (by kernel_rfl) (by kernel_rfl) (by kernel_rfl) (fun _ _ _ h => h) (Or.inr ⟨by rfl, rfl⟩) hS1 ?_
                try simp only [Act.put, List.setIfInBounds_toArray, List.set_cons_zero, List.set_cons_succ]
                refine wpAnyH_take (i := 14) (oi := { dst := some 153, op := Op.fieldAddr 50 (Operand.tmp 17) 2, type := 0, pos := "outright.go:88", after := #[{ on := 9, ground := Ground.guard }], guard := some (9, true) }) (v := undef) rfl (by kernel_rfl) (by kernel_rfl) (by kernel_rfl) (fun _ _ _ h => h) (Or.inr ⟨by rfl, rfl⟩) hS1 ?_
                try simp only [Act.put, List.setIfInBounds_toArray, List.set_cons_zero, List.set_cons_succ]
                refine wpAnyH_take (i := 15) (oi := { dst := some 154, op := Op.load 48 (Operand.tmp 153), type := 48, pos := "outright.go:88", after := #[{ on := 14, ground := Ground.data }, { on := 9, ground := Ground.guard }], guard := some (9, true) }) (v := undef) rfl (by kernel_rfl) (by kernel_rfl) (by kernel_rfl) (fun _ _ _ h => h) (Or.inr ⟨by rfl, rfl⟩) hS1 ?_
                try simp only [Act.put, List.setIfInBounds_toArray, List.set_cons_zero, List.set_cons_succ]
                refine wpAnyH_take (i := 16) (oi := { dst := some 155, op := Op.move (Operand.tmp 18), type := 3, pos := "outright.go:88", after := #[{ on := 9, ground := Ground.guard }], guard := some (9, true) }) (v := undef) rfl (by kernel_rfl) (by kernel_rfl) (by kernel_rfl) (fun _ _ _ h => h) (Or.inr ⟨by rfl, rfl⟩) hS1 ?_
                try simp only [Act.put, List.setIfInBounds_toArray, List.set_cons_zero, List.set_cons_succ]
                refine wpAnyH_take (i := 17) (oi := { dst := some 156, op := Op.indexAddr 48 (Operand.tmp 154) (Operand.tmp 155), type := 0, pos := "outright.go:88", after := #[{ on := 15, ground := Ground.data }, { on := 16, ground := Ground.data }, { on := 9, ground := Ground.guard }], guard := some (9, true) }) (v := undef) rfl (by kernel_rfl) (by kernel_rfl) (by kernel_rfl) (fun _ _ _ h => h) (Or.inr ⟨by rfl, rfl⟩) hS1 ?_
                try simp only [Act.put, List.setIfInBounds_toArray, List.set_cons_zero, List.set_cons_succ]
                refine wpAnyH_take (i := 18) (oi := { dst := some 157, op := Op.fieldAddr 52 (Operand.tmp 156) 0, type := 0, pos := "outright.go:88", after := #[{ on := 17, ground := Ground.data }, { on := 9, ground := Ground.guard }], guard := some (9, true) }) (v := undef) rfl (by kernel_rfl) (by kernel_rfl) (by kernel_rfl) (fun _ _ _ h => h) (Or.inr ⟨by rfl, rfl⟩) hS1 ?_
                try simp only [Act.put, List.setIfInBounds_toArray, List.set_cons_zero, List.set_cons_succ]
                refine wpAnyH_take (i := 19) (oi := { dst := some 158, op := Op.load 9 (Operand.tmp 157), type := 9, pos := "outright.go:88", after := #[{ on := 18, ground := Ground.data }, { on := 9, ground := Ground.guard }], guard := some (9, true) }) (v := undef) rfl (by kernel_rfl) (by kernel_rfl) (by kernel_rfl) (fun _ _ _ h => h) (Or.inr ⟨by rfl, rfl⟩) hS1 ?_
                try simp only [Act.put, List.setIfInBounds_toArray, List.set_cons_zero, List.set_cons_succ]
                refine wpAnyH_take (i := 20) (oi := { dst := some 159, op := Op.binOp BinOp.neq 9 (Operand.tmp 152) (Operand.tmp 158) 9, type := 4, pos := "outright.go:88", after := #[{ on := 13, ground := Ground.data }, { on := 19, ground := Ground.data }, { on := 9, ground := Ground.guard }], guard := some (9, true) }) (v := undef) rfl (by kernel_rfl) (by kernel_rfl) (by kernel_rfl) (fun _ _ _ h => h) (Or.inr ⟨by rfl, rfl⟩) hS1 ?_
                try simp only [Act.put, List.setIfInBounds_toArray, List.set_cons_zero, List.set_cons_succ]
                refine wpAnyH_take (i := 21) (oi := { dst := some 160, op := Op.pick (Operand.tmp 148) (Operand.tmp 159) (Operand.const (Value.bool false)), type := 4, pos := "outright.go:88", after := #[{ on := 9, ground := Ground.data }, { on := 20, ground := Ground.data }, { on := 3, ground := Ground.guard }], guard := some (3, false) }) (v := .bool false) rfl (by kernel_rfl) (by kernel_rfl) (by kernel_rfl) (fun _ _ _ h => h) (Or.inl ⟨by rfl, ?_⟩) hS1 ?_
                · intro w9 hSw; (try dsimp only at hSw); obtain ⟨s0, s1_, s2_, s3⟩ := hSw; go_simp
                try simp only [Act.put, List.setIfInBounds_toArray, List.set_cons_zero, List.set_cons_succ]
                refine wpAnyH_take (i := 22) (oi := { dst := some 161, op := Op.pick (Operand.tmp 142) (Operand.const (Value.bool true)) (Operand.tmp 160), type := 4, pos := "outright.go:88", after := #[{ on := 3, ground := Ground.data }, { on := 21, ground := Ground.data }], guard := none }) (v := .bool false) rfl (by kernel_rfl) (by kernel_rfl) (by kernel_rfl) (fun _ _ _ h => h) (Or.inl ⟨by rfl, ?_⟩) hS1 ?_
                · intro w9 hSw; (try dsimp only at hSw); obtain ⟨s0, s1_, s2_, s3⟩ := hSw; go_simp
                try simp only [Act.put, List.setIfInBounds_toArray, List.set_cons_zero, List.set_cons_succ]
                refine wpAnyH_take (i := 23) (oi := { dst := some 162, op := Op.move (Operand.tmp 161), type := 4, pos := "outright.go:88", after := #[{ on := 22, ground := Ground.data }, { on := 13, ground := Ground.chain }], guard := none }) (v := .bool false) rfl (by kernel_rfl) (by kernel_rfl) (by kernel_rfl) (fun _ _ _ h => h) (Or.inl ⟨by rfl, ?_⟩) hS1 ?_
                · intro w9 hSw; (try dsimp only at hSw); obtain ⟨s0, s1_, s2_, s3⟩ := hSw; go_simp
                try simp only [Act.put, List.setIfInBounds_toArray, List.set_cons_zero, List.set_cons_succ]
                refine wpAnyH_take (i := 24) (oi := { dst := some 163, op := Op.move (Operand.tmp 19), type := 3, pos := "outright.go:88", after := #[{ on := 23, ground := Ground.guard }], guard := some (23, false) }) (v := .int .i64 b) rfl (by kernel_rfl) (by kernel_rfl) (by kernel_rfl) (fun _ _ _ h => h) (Or.inl ⟨by rfl, ?_⟩) hS1 ?_
                · intro w9 hSw; (try dsimp only at hSw); obtain ⟨s0, s1_, s2_, s3⟩ := hSw; go_simp
                try simp only [Act.put, List.setIfInBounds_toArray, List.set_cons_zero, List.set_cons_succ]
                refine wpAnyH_take (i := 25) (oi := { dst := some 164, op := Op.fieldAddr 50 (Operand.tmp 17) 2, type := 0, pos := "outright.go:88", after := #[{ on := 23, ground := Ground.guard }], guard := some (23, false) }) (v := .pointer (some ⟨E, 2, none⟩)) rfl (by kernel_rfl) (by kernel_rfl) (by kernel_rfl) (fun _ _ _ h => h) (Or.inl ⟨by rfl, ?_⟩) hS1 ?_
                · intro w9 hSw; (try dsimp only at hSw); obtain ⟨s0, s1_, s2_, s3⟩ := hSw; go_simp
                try simp only [Act.put, List.setIfInBounds_toArray, List.set_cons_zero, List.set_cons_succ]
                refine wpAnyH_take (i := 26) (oi := { dst := some 165, op := Op.load 48 (Operand.tmp 164), type := 48, pos := "outright.go:88", after := #[{ on := 25, ground := Ground.data }, { on := 23, ground := Ground.guard }], guard := some (23, false) }) (v := .slice d.sa ms d.sc) rfl (by kernel_rfl) (by kernel_rfl) (by kernel_rfl) (fun _ _ _ h => h) (Or.inl ⟨by rfl, ?_⟩) hS1 ?_
                · intro w9 hSw; (try dsimp only at hSw); obtain ⟨s0, s1_, s2_, s3⟩ := hSw; go_simp
                try simp only [Act.put, List.setIfInBounds_toArray, List.set_cons_zero, List.set_cons_succ]
                refine wpAnyH_take (i := 27) (oi := { dst := some 166, op := Op.call { callee := Callee.builtin Builtin.len, args := #[Operand.tmp 165], argTypes := #[48] }, type := 3, pos := "outright.go:88", after := #[{ on := 26, ground := Ground.data }, { on := 23, ground := Ground.guard }], guard := some (23, false) }) (v := .int .i64 ms) rfl (by kernel_rfl) (by kernel_rfl) (by kernel_rfl) (fun _ _ _ h => h) (Or.inl ⟨by rfl, ?_⟩) hS1 ?_
                · intro w9 hSw; (try dsimp only at hSw); obtain ⟨s0, s1_, s2_, s3⟩ := hSw; go_simp
                try simp only [Act.put, List.setIfInBounds_toArray, List.set_cons_zero, List.set_cons_succ]
                refine wpAnyH_take (i := 28) (oi := { dst := some 167, op := Op.binOp BinOp.lss 3 (Operand.tmp 163) (Operand.tmp 166) 3, type := 4, pos := "outright.go:88", after := #[{ on := 24, ground := Ground.data }, { on := 27, ground := Ground.data }, { on := 23, ground := Ground.guard }], guard := some (23, false) }) (v := .bool false) rfl (by kernel_rfl) (by kernel_rfl) (by kernel_rfl) (fun _ _ _ h => h) (Or.inl ⟨by rfl, ?_⟩) hS1 ?_
                · intro w9 hSw; (try dsimp only at hSw); obtain ⟨s0, s1_, s2_, s3⟩ := hSw; go_simp
                try simp only [Act.put, List.setIfInBounds_toArray, List.set_cons_zero, List.set_cons_succ]
                refine wpAnyH_take (i := 29) (oi := { dst := some 168, op := Op.move (Operand.tmp 167), type := 4, pos := "outright.go:88", after := #[{ on := 28, ground := Ground.data }, { on := 23, ground := Ground.chain }, { on := 23, ground := Ground.guard }], guard := some (23, false) }) (v := .bool false) rfl (by kernel_rfl) (by kernel_rfl) (by kernel_rfl) (fun _ _ _ h => h) (Or.inl ⟨by rfl, ?_⟩) hS1 ?_
                · intro w9 hSw; (try dsimp only at hSw); obtain ⟨s0, s1_, s2_, s3⟩ := hSw; go_simp
                try simp only [Act.put, List.setIfInBounds_toArray, List.set_cons_zero, List.set_cons_succ]
                refine wpAnyH_take (i := 30) (oi := { dst := some 169, op := Op.load 50 (Operand.tmp 17), type := 50, pos := "outright.go:88", after := #[{ on := 29, ground := Ground.guard }], guard := some (29, true) }) (v := undef) rfl (by kernel_rfl) (by kernel_rfl) (by kernel_rfl) (fun _ _ _ h => h) (Or.inr ⟨by rfl, rfl⟩) hS1 ?_
                try simp only [Act.put, List.setIfInBounds_toArray, List.set_cons_zero, List.set_cons_succ]
                refine wpAnyH_take (i := 31) (oi := { dst := some 170, op := Op.move (Operand.tmp 3), type := 27, pos := "outright.go:88", after := #[{ on := 29, ground := Ground.guard }], guard := some (29, true) }) (v := undef) rfl (by kernel_rfl) (by kernel_rfl) (by kernel_rfl) (fun _ _ _ h => h) (Or.inr ⟨by rfl, rfl⟩) hS1 ?_
                try simp only [Act.put, List.setIfInBounds_toArray, List.set_cons_zero, List.set_cons_succ]
                refine wpAnyH_take (i := 32) (oi := { dst := some 171, op := Op.call { callee := Callee.value (Operand.func 18), args := #[Operand.tmp 169, Operand.tmp 170], argTypes := #[50, 27] }, type := 9, pos := "outright.go:88", after := #[{ on := 30, ground := Ground.data }, { on := 31, ground := Ground.data }, { on := 29, ground := Ground.chain }, { on := 29, ground := Ground.guard }], guard := some (29, true) }) (v := undef) rfl (by kernel_rfl) (by kernel_rfl) (by kernel_rfl) (fun _ _ _ h => h) (Or.inr ⟨by rfl, rfl⟩) hS1 ?_
                try simp only [Act.put, List.setIfInBounds_toArray, List.set_cons_zero, List.set_cons_succ]
                refine wpAnyH_take (i := 33) (oi := { dst := some 172, op := Op.fieldAddr 50 (Operand.tmp 17) 2, type := 0, pos := "outright.go:88", after := #[{ on := 29, ground := Ground.guard }], guard := some (29, true) }) (v := undef) rfl (by kernel_rfl) (by kernel_rfl) (by kernel_rfl) (fun _ _ _ h => h) (Or.inr ⟨by rfl, rfl⟩) hS1 ?_
                try simp only [Act.put, List.setIfInBounds_toArray, List.set_cons_zero, List.set_cons_succ]
                refine wpAnyH_take (i := 34) (oi := { dst := some 173, op := Op.load 48 (Operand.tmp 172), type := 48, pos := "outright.go:88", after := #[{ on := 33, ground := Ground.data }, { on := 29, ground := Ground.guard }], guard := some (29, true) }) (v := undef) rfl (by kernel_rfl) (by kernel_rfl) (by kernel_rfl) (fun _ _ _ h => h) (Or.inr ⟨by rfl, rfl⟩) hS1 ?_
                try simp only [Act.put, List.setIfInBounds_toArray, List.set_cons_zero, List.set_cons_succ]
                refine wpAnyH_take (i := 35) (oi := { dst := some 174, op := Op.move (Operand.tmp 19), type := 3, pos := "outright.go:88", after := #[{ on := 29, ground := Ground.guard }], guard := some (29, true) }) (v := undef) rfl (by kernel_rfl) (by kernel_rfl) (by kernel_rfl) (fun _ _ _ h => h) (Or.inr ⟨by rfl, rfl⟩) hS1 ?_
                try simp only [Act.put, List.setIfInBounds_toArray, List.set_cons_zero, List.set_cons_succ]
                refine wpAnyH_take (i := 36) (oi := { dst := some 175, op := Op.indexAddr 48 (Operand.tmp 173) (Operand.tmp 174), type := 0, pos := "outright.go:88", after := #[{ on := 34, ground := Ground.data }, { on := 35, ground := Ground.data }, { on := 29, ground := Ground.guard }], guard := some (29, true) }) (v := undef) rfl (by kernel_rfl) (by kernel_rfl) (by kernel_rfl) (fun _ _ _ h => h) (Or.inr ⟨by rfl, rfl⟩) hS1 ?_
                try simp only [Act.put, List.setIfInBounds_toArray, List.set_cons_zero, List.set_cons_succ]
                refine wpAnyH_take (i := 37) (oi := { dst := some 176, op := Op.fieldAddr 52 (Operand.tmp 175) 0, type := 0, pos := "outright.go:88", after := #[{ on := 36, ground := Ground.data }, { on := 29, ground := Ground.guard }], guard := some (29, true) }) (v := undef) rfl (by kernel_rfl) (by kernel_rfl) (by kernel_rfl) (fun _ _ _ h => h) (Or.inr ⟨by rfl, rfl⟩) hS1 ?_
                try simp only [Act.put, List.setIfInBounds_toArray, List.set_cons_zero, List.set_cons_succ]
                refine wpAnyH_take (i := 38) (oi := { dst := some 177, op := Op.load 9 (Operand.tmp 176), type := 9, pos := "outright.go:88", after := #[{ on := 37, ground := Ground.data }, { on := 29, ground := Ground.guard }], guard := some (29, true) }) (v := undef) rfl (by kernel_rfl) (by kernel_rfl) (by kernel_rfl) (fun _ _ _ h => h) (Or.inr ⟨by rfl, rfl⟩) hS1 ?_
                try simp only [Act.put, List.setIfInBounds_toArray, List.set_cons_zero, List.set_cons_succ]
                refine wpAnyH_take (i := 39) (oi := { dst := some 178, op := Op.binOp BinOp.neq 9 (Operand.tmp 171) (Operand.tmp 177) 9, type := 4, pos := "outright.go:88", after := #[{ on := 32, ground := Ground.data }, { on := 38, ground := Ground.data }, { on := 29, ground := Ground.guard }], guard := some (29, true) }) (v := undef) rfl (by kernel_rfl) (by kernel_rfl) (by kernel_rfl) (fun _ _ _ h => h) (Or.inr ⟨by rfl, rfl⟩) hS1 ?_
                try simp only [Act.put, List.setIfInBounds_toArray, List.set_cons_zero, List.set_cons_succ]
                refine wpAnyH_take (i := 40) (oi := { dst := some 179, op := Op.pick (Operand.tmp 168) (Operand.tmp 178) (Operand.const (Value.bool false)), type := 4, pos := "outright.go:88", after := #[{ on := 29, ground := Ground.data }, { on := 39, ground := Ground.data }, { on := 23, ground := Ground.guard }], guard := some (23, false) }) (v := .bool false) rfl (by kernel_rfl) (by kernel_rfl) (by kernel_rfl) (fun _ _ _ h => h) (Or.inl ⟨by rfl, ?_⟩) hS1 ?_
                · intro w9 hSw; (try dsimp only at hSw); obtain ⟨s0, s1_, s2_, s3⟩ := hSw; go_simp
                try simp only [Act.put, List.setIfInBounds_toArray, List.set_cons_zero, List.set_cons_succ]
                refine wpAnyH_take (i := 41) (oi := { dst := some 180, op := Op.pick (Operand.tmp 162) (Operand.const (Value.bool true)) (Operand.tmp 179), type := 4, pos := "outright.go:88", after := #[{ on := 23, ground := Ground.data }, { on := 40, ground := Ground.data }], guard := none }) (v := .bool false) rfl (by kernel_rfl) (by kernel_rfl) (by kernel_rfl) (fun _ _ _ h => h) (Or.inl ⟨by rfl, ?_⟩) hS1 ?_
                · intro w9 hSw; (try dsimp only at hSw); obtain ⟨s0, s1_, s2_, s3⟩ := hSw; go_simp
                try simp only [Act.put, List.setIfInBounds_toArray, List.set_cons_zero, List.set_cons_succ]
                refine wpAnyH_done (by kernel_rfl) (NoPanic.normal ?_) _
                go_wp2_with fail
                go_roundw
                case rel => exact ⟨k + 1, by go_num, by omega, HBI.out.trans ((below_drewN HGE.out 1).mono HBI.out.size)⟩
                case measure => simp [intOf]; omega
          · have h5' : ¬ (k : Int) < m := by omega
            go_wp2_with fail
            go_roundw
            case rel => exact ⟨i + 1, by go_num, by omega, HBJ.out⟩
            case measure => simp [intOf]; omega
      · have h3' : ¬ (i : Int) < hn := by omega
        go_wp2_with fail
        go_ret
        exact ⟨rfl, HG3.out.trans (HB.out.mono HG3.out.size)⟩
end Go.Proofs.YtfhobglcploaoaaDoor
