import Derived.Test.YtmmnpnhffgpchaaGreatDoorBn26
import Derived.Test.YtmmnpnhffgpchaaGreatDoorBn23
/-
  The document's value, where a token comes next.
-/
namespace Go.Proofs.YtmmnpnhffgpchaaGreatDoor
open Go.RowKit
set_option linter.unusedVariables false
set_option linter.unusedSimpArgs false
set_option maxRecDepth 100000
theorem RrE.ret {w : World} {rp : Nat} {a : Option Addr} {n cap : Nat} {L : List Tk} {r : Rr} {e : Ending} {w' : World} (h : RrE w rp a n cap L r e w') : ∃ v, e = .returned v := by
  cases r with
  | ok t q m => obtain ⟨p, h1, _⟩ := h; exact ⟨_, h1⟩
  | bad l er q m => exact ⟨_, h.1⟩
/-- a Key's value begins so -/
def v3 (u t : Tk) : Bool := decide (u.kd = 3) && (decide (2 ≤ t.kd ∧ t.kd ≤ 4) && ((decide (t.line = u.line) && decide (t.kd = 4)) || (!decide (t.line = u.line) && (decide (u.col < t.col) || (decide (t.kd = 2) && decide (t.col = u.col))))))
/-- an Item's value begins so -/
def v2 (u t : Tk) : Bool := decide (u.kd = 2) && (decide (2 ≤ t.kd ∧ t.kd ≤ 4) && (decide (t.line = u.line) || decide (u.col < t.col)))
theorem isVal_or (u t : Tk) : isVal u t = (v3 u t || v2 u t) := by
  unfold isVal v3 v2
  cases decide (2 ≤ t.kd ∧ t.kd ≤ 4) <;> simp
set_option maxHeartbeats 16000000 in
theorem value_at (w : World) (rp : Nat) (a : Option Addr) (n cap : Nat) (L : List Tk) (u t : Tk) (q made d f : Nat) (hd : d + f = 17) (B : Nat → Nat → Rr) (h : Rg w rp a n cap L q 0 0 made) (ht : L[q]? = some t)
    (ih : ∀ (w : World), Rg w rp a n cap L q 0 0 made → Calls Tryz.prog 37 #[.pointer (some ⟨rp, 0, none⟩), .int .i64 d] w (RrE w rp a n cap L (B q made))) :
    Calls Tryz.prog 60 #[.pointer (some ⟨rp, 0, none⟩), .agg u.row.toArray, .int .i64 d] w (RrE w rp a n cap L (valM B (decide (f = 0)) L u q made)) := by
  have hqn : q < n := by have := (List.getElem?_eq_some_iff.1 ht).1; have := h.len; omega
  have hqn' : (q : Int) < n := by omega
  have q0 : (0 : Int) ≤ q := by omega
  have hsm := h.small
  have hmd := h.made
  have hrp := h.lt
  have HIH := hideL ih
  have HVY := hideL (fun hv => valM_yes (B := B) (dead := decide (f = 0)) (u := u) (made := made) ht hv)
  have HVN := hideL (nxtV_at (u := u) ht)
  obtain ⟨ku, lu, cu, xu, qu⟩ := u
  obtain ⟨W1, hW1⟩ : ∃ W1, w.alloc (.cells #[.int .i64 ku, .int .i64 lu, .int .i64 cu, .string xu, .bool qu] 61) = W1 := ⟨_, rfl⟩
  have h1 : Below w.heap.size w W1 := by rw [← hW1]; exact (Below.refl _ _).alloc (Nat.le_refl _) _
  have hR1 := h.below h1
  obtain ⟨z0, z1, z2, z3, z4⟩ := hR1.cells
  have f4 := hR1.free 4
  have HR := hideL hR1
  have HB1 := hideL h1
  have hblk1 : W1.heap[w.heap.size]? = some (.cells #[.int .i64 ku, .int .i64 lu, .int .i64 cu, .string xu, .bool qu] 61 (0, 0)) := by rw [← hW1]; exact Go.heap_alloc_new w _
  have HBK1 := hideL hblk1
  have HW1 := hideL hW1
  rcases hR1.ts.row with hx | ⟨g, off, rfl, hc⟩
  · rw [hx] at ht; simp at ht
  have t0 := hc q t ht 0 _ rfl
  have t1 := hc q t ht 1 _ rfl
  have t2 := hc q t ht 2 _ rfl
  have t3 := hc q t ht 3 _ rfl
  have t4 := hc q t ht 4 _ rfl
  rw [Nat.add_zero] at t0
  obtain ⟨kt, lt, ct, xt, qt⟩ := t
  dsimp only at t0 t1 t2 t3 t4
  clear h h1 hW1 hR1 hc ht ih hblk1
  obtain ⟨R, hR⟩ : ∃ R, valM B (decide (f = 0)) L ⟨ku, lu, cu, xu, qu⟩ q made = R := ⟨_, rfl⟩
  rw [hR]
  have HRV := hideL hR
  clear hR
  show Calls Tryz.prog 60 #[.pointer (some ⟨rp, 0, none⟩), .agg #[.int .i64 ku, .int .i64 lu, .int .i64 cu, .string xu, .bool qu], .int .i64 d] w _
  go_enter Tryz.func60, Tryz.ntmps60
  go_wp2_with fail
  rw [HW1.out]
  go_quiet (fail)
  go_wp2_with fail
  obtain ⟨W2, hW2⟩ : ∃ W2, W1.drewN nq = W2 := ⟨_, rfl⟩
  have hb2 : Below W1.heap.size W1 W2 := by rw [← hW2]; exact below_drewN (Below.refl _ _) _
  have HR2 := hideL (HR.out.below hb2)
  have HB2 := hideL (HB1.out.trans (hb2.mono HB1.out.size))
  have HBK2 : Hid (W2.heap[w.heap.size]? = some (.cells #[.int .i64 ku, .int .i64 lu, .int .i64 cu, .string xu, .bool qu] 61 (0, 0))) := (hb2.block _ (Array.getElem?_eq_some_iff.1 HBK1.out).1).trans HBK1.out
  have s0 := cell_of_below hb2 z0
  have s1 := cell_of_below hb2 z1
  have n0 := cell_of_below hb2 t0
  have n1 := cell_of_below hb2 t1
  have n2 := cell_of_below hb2 t2
  have n3 := cell_of_below hb2 t3
  have n4 := cell_of_below hb2 t4
  rw [hW2]
  clear z0 z1 z2 z3 z4 t0 t1 t2 t3 t4 f4 hb2 hW2 HBK1
  go_region_held3 (fun w' => w'.cell? ⟨rp, 0, none⟩ = some (.slice (some ⟨g, off, none⟩) n cap) ∧ w'.cell? ⟨rp, 1, none⟩ = some (.int .i64 q) ∧ w'.cell? ⟨g, off + q * 5, none⟩ = some (.int .i64 kt) ∧ w'.cell? ⟨g, off + q * 5 + 1, none⟩ = some (.int .i64 lt) ∧ w'.cell? ⟨g, off + q * 5 + 2, none⟩ = some (.int .i64 ct) ∧ w'.cell? ⟨g, off + q * 5 + 3, none⟩ = some (.string xt) ∧ w'.cell? ⟨g, off + q * 5 + 4, none⟩ = some (.bool qt)) (go_keep) (fail)
  obtain ⟨W3, hW3⟩ : ∃ W3, (W2.alloc (Obj.cells #[.int .i64 kt, .int .i64 lt, .int .i64 ct, .string xt, .bool qt] 61)).drew = W3 := ⟨_, rfl⟩
  have hb3 : Below W2.heap.size W2 W3 := by
    rw [← hW3]
    exact ((Below.refl _ _).alloc (Nat.le_refl _) _).trans ⟨rfl, rfl, rfl, Nat.le_refl _, fun _ _ => rfl⟩
  have hk3 : W3.heap[W2.heap.size]? = some (.cells #[.int .i64 kt, .int .i64 lt, .int .i64 ct, .string xt, .bool qt] 61 (0, 0)) := by rw [← hW3]; exact Go.heap_alloc_new W2 _
  have hu3 := (hb3.block _ (Array.getElem?_eq_some_iff.1 HBK2.out).1).trans HBK2.out
  have hR3 := HR2.out.below hb3
  have HR3 := hideL hR3
  have HB3 := hideL (HB2.out.trans (hb3.mono HB2.out.size))
  obtain ⟨z0, z1, z2, z3, z4⟩ := hR3.cells
  have f4 := hR3.free 4
  obtain ⟨b2, hb2e⟩ : ∃ b2, W2.heap.size = b2 := ⟨_, rfl⟩
  obtain ⟨bu, hbue⟩ : ∃ bu, w.heap.size = bu := ⟨_, rfl⟩
  rw [hb2e] at hk3
  rw [hbue] at hu3
  have x0 : W3.cell? ⟨b2, 0, none⟩ = some (.int .i64 kt) := by rw [cell_block hk3]; rfl
  have x1 : W3.cell? ⟨b2, 1, none⟩ = some (.int .i64 lt) := by rw [cell_block hk3]; rfl
  have x2 : W3.cell? ⟨b2, 2, none⟩ = some (.int .i64 ct) := by rw [cell_block hk3]; rfl
  have y0 : W3.cell? ⟨bu, 0, none⟩ = some (.int .i64 ku) := by rw [cell_block hu3]; rfl
  have y1 : W3.cell? ⟨bu, 1, none⟩ = some (.int .i64 lu) := by rw [cell_block hu3]; rfl
  have y2 : W3.cell? ⟨bu, 2, none⟩ = some (.int .i64 cu) := by rw [cell_block hu3]; rfl
  have HBU := hideL hbue
  have HU3 := hideL hu3
  rw [hW3, hb2e, hbue]
  rw [hbue] at hrp
  clear hW3 hb3 hk3 hu3 hR3 s0 s1 n0 n1 n2 n3 n4 HBK2 HR2 HB2 HW1 HR HB1 hb2e
  have b1x : (W3.setCell ⟨rp, 4, none⟩ (.int .i64 ((made : Int) + 1))).cell? ⟨bu, 1, none⟩ = some (.int .i64 lu) := by
    rw [← y1]
    exact World.cell?_of_block (w := W3) (a := ⟨bu, 1, none⟩) (Below.heap_setCell _ _ _ _ (by show bu ≠ rp; omega))
  have HXA : Hid (¬ made = 4096 → Rg (W3.setCell ⟨rp, 4, none⟩ (.int .i64 ((made : Int) + 1))) rp (some ⟨g, off, none⟩) n cap L q 0 0 (made + 1)) := fun hm => by
    have := HR3.out.set.2.2.2 (made + 1) (by omega)
    exact this
  have HXS : Hid ((W3.setCell ⟨rp, 4, none⟩ (.int .i64 ((made : Int) + 1))).heap.size = W3.heap.size) := by show _ = _; simp
  by_cases c1 : ku = 3
  · have c1b : (ku == 3) = true := by simpa using c1
    by_cases c2 : 2 ≤ kt
    · have c2b : decide (2 ≤ kt) = true := by simpa using c2
      by_cases c3 : kt ≤ 4
      · have c3b : decide (kt ≤ 4) = true := by simpa using c3
        by_cases c4 : lt = lu
        · have c4b : (lt == lu) = true := by simpa using c4
          by_cases c5 : kt = 4
          · have c5b : (kt == 4) = true := by simpa using c5
            have HV : Hid (isVal ⟨ku, lu, cu, xu, qu⟩ ⟨kt, lt, ct, xt, qt⟩ = true) := by show _ = _; simp [isVal, c1, c2, c3, c4, c5]
            have HQ : Hid (B q made = R) := (HVY.out HV.out).symm.trans HRV.out
            go_wp2_with fail
            refine (HIH.out W3 HR3.out).mono ?_
            rintro e w4 hE
            obtain ⟨v, rfl⟩ := hE.ret
            go_wp2
            go_ret
            rw [← HQ.out]
            exact hE.later (But.of_below HB3.out)
          · have c5b : (kt == 4) = false := by simpa using c5
            have HV : Hid (isVal ⟨ku, lu, cu, xu, qu⟩ ⟨kt, lt, ct, xt, qt⟩ = false) := by show _ = _; simp [isVal, c1, c2, c3, c4, c5]
            by_cases hf : f = 0
            · have hd16 : (16 : Int) < d := by omega
              have HQ : Hid (Rr.bad lu 92 q made = R) := (valM_bad (B := B) (HVN.out.trans HV.out) (.inl (by simpa using hf))).symm.trans HRV.out
              go_wp2_with fail
              refine (fail_any _ rp _ n cap L q 0 _ lu 92 HR3.out).mono ?_
              rintro e w4 ⟨rfl, hR4, hB4⟩
              go_wp2
              go_ret
              rw [← HQ.out]
              exact ⟨rfl, hR4, (But.of_below HB3.out).trans hB4⟩
            have hd16 : ¬ (16 : Int) < d := by omega
            by_cases hm : made = 4096
            · have hmb : ((made : Int) == 4096) = true := by rw [beq_iff_eq]; omega
              have HQ : Hid (Rr.bad lu 92 q made = R) := (valM_bad (B := B) (HVN.out.trans HV.out) (.inr hm)).symm.trans HRV.out
              have HMM := hideL hm
              clear hm
              go_wp2_with fail
              refine (fail_any _ rp _ n cap L q 0 _ lu 92 HR3.out).mono ?_
              rintro e w4 ⟨rfl, hR4, hB4⟩
              go_wp2
              go_ret
              rw [← HQ.out]
              exact ⟨rfl, hR4, (But.of_below HB3.out).trans hB4⟩
            have hm' : ((made : Int) == 4096) = false := by rw [beq_eq_false_iff_ne]; omega
            have HQ : Hid (Rr.ok (leafT lu) q (made + 1) = R) := (valM_leaf (B := B) (dead := decide (f = 0)) (HVN.out.trans HV.out) (fun h => h.elim (fun h => hf (by simpa using h)) (fun h => hm h))).symm.trans HRV.out
            have HX := hideL (HXA.out hm)
            go_wp2
            go_ret
            rw [← HQ.out]
            have hL := leaf_in (ln := lu) HX.out ((But.of_below HB3.out).trans (But.set 4 _)) rfl
            rw [HXS.out] at hL
            exact hL
        · have c4b : (lt == lu) = false := by simpa using c4
          by_cases c6 : cu < ct
          · have c6b : decide (cu < ct) = true := by simpa using c6
            have HV : Hid (isVal ⟨ku, lu, cu, xu, qu⟩ ⟨kt, lt, ct, xt, qt⟩ = true) := by show _ = _; simp [isVal, c1, c2, c3, c4, c6]
            have HQ : Hid (B q made = R) := (HVY.out HV.out).symm.trans HRV.out
            go_wp2_with fail
            refine (HIH.out W3 HR3.out).mono ?_
            rintro e w4 hE
            obtain ⟨v, rfl⟩ := hE.ret
            go_wp2
            go_ret
            rw [← HQ.out]
            exact hE.later (But.of_below HB3.out)
          · have c6b : decide (cu < ct) = false := by simpa using c6
            by_cases c7 : kt = 2
            · have c7b : (kt == 2) = true := by simpa using c7
              by_cases c8 : ct = cu
              · have c8b : (ct == cu) = true := by simpa using c8
                have HV : Hid (isVal ⟨ku, lu, cu, xu, qu⟩ ⟨kt, lt, ct, xt, qt⟩ = true) := by show _ = _; simp [isVal, c1, c2, c3, c4, c6, c7, c8]
                have HQ : Hid (B q made = R) := (HVY.out HV.out).symm.trans HRV.out
                go_wp2_with fail
                refine (HIH.out W3 HR3.out).mono ?_
                rintro e w4 hE
                obtain ⟨v, rfl⟩ := hE.ret
                go_wp2
                go_ret
                rw [← HQ.out]
                exact hE.later (But.of_below HB3.out)
              · have c8b : (ct == cu) = false := by simpa using c8
                have HV : Hid (isVal ⟨ku, lu, cu, xu, qu⟩ ⟨kt, lt, ct, xt, qt⟩ = false) := by show _ = _; simp [isVal, c1, c2, c3, c4, c6, c7, c8]
                by_cases hf : f = 0
                · have hd16 : (16 : Int) < d := by omega
                  have HQ : Hid (Rr.bad lu 92 q made = R) := (valM_bad (B := B) (HVN.out.trans HV.out) (.inl (by simpa using hf))).symm.trans HRV.out
                  go_wp2_with fail
                  refine (fail_any _ rp _ n cap L q 0 _ lu 92 HR3.out).mono ?_
                  rintro e w4 ⟨rfl, hR4, hB4⟩
                  go_wp2
                  go_ret
                  rw [← HQ.out]
                  exact ⟨rfl, hR4, (But.of_below HB3.out).trans hB4⟩
                have hd16 : ¬ (16 : Int) < d := by omega
                by_cases hm : made = 4096
                · have hmb : ((made : Int) == 4096) = true := by rw [beq_iff_eq]; omega
                  have HQ : Hid (Rr.bad lu 92 q made = R) := (valM_bad (B := B) (HVN.out.trans HV.out) (.inr hm)).symm.trans HRV.out
                  have HMM := hideL hm
                  clear hm
                  go_wp2_with fail
                  refine (fail_any _ rp _ n cap L q 0 _ lu 92 HR3.out).mono ?_
                  rintro e w4 ⟨rfl, hR4, hB4⟩
                  go_wp2
                  go_ret
                  rw [← HQ.out]
                  exact ⟨rfl, hR4, (But.of_below HB3.out).trans hB4⟩
                have hm' : ((made : Int) == 4096) = false := by rw [beq_eq_false_iff_ne]; omega
                have HQ : Hid (Rr.ok (leafT lu) q (made + 1) = R) := (valM_leaf (B := B) (dead := decide (f = 0)) (HVN.out.trans HV.out) (fun h => h.elim (fun h => hf (by simpa using h)) (fun h => hm h))).symm.trans HRV.out
                have HX := hideL (HXA.out hm)
                go_wp2
                go_ret
                rw [← HQ.out]
                have hL := leaf_in (ln := lu) HX.out ((But.of_below HB3.out).trans (But.set 4 _)) rfl
                rw [HXS.out] at hL
                exact hL
            · have c7b : (kt == 2) = false := by simpa using c7
              have HV : Hid (isVal ⟨ku, lu, cu, xu, qu⟩ ⟨kt, lt, ct, xt, qt⟩ = false) := by show _ = _; simp [isVal, c1, c2, c3, c4, c6, c7]
              by_cases hf : f = 0
              · have hd16 : (16 : Int) < d := by omega
                have HQ : Hid (Rr.bad lu 92 q made = R) := (valM_bad (B := B) (HVN.out.trans HV.out) (.inl (by simpa using hf))).symm.trans HRV.out
                go_wp2_with fail
                refine (fail_any _ rp _ n cap L q 0 _ lu 92 HR3.out).mono ?_
                rintro e w4 ⟨rfl, hR4, hB4⟩
                go_wp2
                go_ret
                rw [← HQ.out]
                exact ⟨rfl, hR4, (But.of_below HB3.out).trans hB4⟩
              have hd16 : ¬ (16 : Int) < d := by omega
              by_cases hm : made = 4096
              · have hmb : ((made : Int) == 4096) = true := by rw [beq_iff_eq]; omega
                have HQ : Hid (Rr.bad lu 92 q made = R) := (valM_bad (B := B) (HVN.out.trans HV.out) (.inr hm)).symm.trans HRV.out
                have HMM := hideL hm
                clear hm
                go_wp2_with fail
                refine (fail_any _ rp _ n cap L q 0 _ lu 92 HR3.out).mono ?_
                rintro e w4 ⟨rfl, hR4, hB4⟩
                go_wp2
                go_ret
                rw [← HQ.out]
                exact ⟨rfl, hR4, (But.of_below HB3.out).trans hB4⟩
              have hm' : ((made : Int) == 4096) = false := by rw [beq_eq_false_iff_ne]; omega
              have HQ : Hid (Rr.ok (leafT lu) q (made + 1) = R) := (valM_leaf (B := B) (dead := decide (f = 0)) (HVN.out.trans HV.out) (fun h => h.elim (fun h => hf (by simpa using h)) (fun h => hm h))).symm.trans HRV.out
              have HX := hideL (HXA.out hm)
              go_wp2
              go_ret
              rw [← HQ.out]
              have hL := leaf_in (ln := lu) HX.out ((But.of_below HB3.out).trans (But.set 4 _)) rfl
              rw [HXS.out] at hL
              exact hL
      · have c3b : decide (kt ≤ 4) = false := by simpa using c3
        have HV : Hid (isVal ⟨ku, lu, cu, xu, qu⟩ ⟨kt, lt, ct, xt, qt⟩ = false) := by show _ = _; simp [isVal, c1, c2, c3]
        by_cases hf : f = 0
        · have hd16 : (16 : Int) < d := by omega
          have HQ : Hid (Rr.bad lu 92 q made = R) := (valM_bad (B := B) (HVN.out.trans HV.out) (.inl (by simpa using hf))).symm.trans HRV.out
          go_wp2_with fail
          refine (fail_any _ rp _ n cap L q 0 _ lu 92 HR3.out).mono ?_
          rintro e w4 ⟨rfl, hR4, hB4⟩
          go_wp2
          go_ret
          rw [← HQ.out]
          exact ⟨rfl, hR4, (But.of_below HB3.out).trans hB4⟩
        have hd16 : ¬ (16 : Int) < d := by omega
        by_cases hm : made = 4096
        · have hmb : ((made : Int) == 4096) = true := by rw [beq_iff_eq]; omega
          have HQ : Hid (Rr.bad lu 92 q made = R) := (valM_bad (B := B) (HVN.out.trans HV.out) (.inr hm)).symm.trans HRV.out
          have HMM := hideL hm
          clear hm
          go_wp2_with fail
          refine (fail_any _ rp _ n cap L q 0 _ lu 92 HR3.out).mono ?_
          rintro e w4 ⟨rfl, hR4, hB4⟩
          go_wp2
          go_ret
          rw [← HQ.out]
          exact ⟨rfl, hR4, (But.of_below HB3.out).trans hB4⟩
        have hm' : ((made : Int) == 4096) = false := by rw [beq_eq_false_iff_ne]; omega
        have HQ : Hid (Rr.ok (leafT lu) q (made + 1) = R) := (valM_leaf (B := B) (dead := decide (f = 0)) (HVN.out.trans HV.out) (fun h => h.elim (fun h => hf (by simpa using h)) (fun h => hm h))).symm.trans HRV.out
        have HX := hideL (HXA.out hm)
        go_wp2
        go_ret
        rw [← HQ.out]
        have hL := leaf_in (ln := lu) HX.out ((But.of_below HB3.out).trans (But.set 4 _)) rfl
        rw [HXS.out] at hL
        exact hL
    · have c2b : decide (2 ≤ kt) = false := by simpa using c2
      have HV : Hid (isVal ⟨ku, lu, cu, xu, qu⟩ ⟨kt, lt, ct, xt, qt⟩ = false) := by show _ = _; simp [isVal, c1, c2]
      by_cases hf : f = 0
      · have hd16 : (16 : Int) < d := by omega
        have HQ : Hid (Rr.bad lu 92 q made = R) := (valM_bad (B := B) (HVN.out.trans HV.out) (.inl (by simpa using hf))).symm.trans HRV.out
        go_wp2_with fail
        refine (fail_any _ rp _ n cap L q 0 _ lu 92 HR3.out).mono ?_
        rintro e w4 ⟨rfl, hR4, hB4⟩
        go_wp2
        go_ret
        rw [← HQ.out]
        exact ⟨rfl, hR4, (But.of_below HB3.out).trans hB4⟩
      have hd16 : ¬ (16 : Int) < d := by omega
      by_cases hm : made = 4096
      · have hmb : ((made : Int) == 4096) = true := by rw [beq_iff_eq]; omega
        have HQ : Hid (Rr.bad lu 92 q made = R) := (valM_bad (B := B) (HVN.out.trans HV.out) (.inr hm)).symm.trans HRV.out
        have HMM := hideL hm
        clear hm
        go_wp2_with fail
        refine (fail_any _ rp _ n cap L q 0 _ lu 92 HR3.out).mono ?_
        rintro e w4 ⟨rfl, hR4, hB4⟩
        go_wp2
        go_ret
        rw [← HQ.out]
        exact ⟨rfl, hR4, (But.of_below HB3.out).trans hB4⟩
      have hm' : ((made : Int) == 4096) = false := by rw [beq_eq_false_iff_ne]; omega
      have HQ : Hid (Rr.ok (leafT lu) q (made + 1) = R) := (valM_leaf (B := B) (dead := decide (f = 0)) (HVN.out.trans HV.out) (fun h => h.elim (fun h => hf (by simpa using h)) (fun h => hm h))).symm.trans HRV.out
      have HX := hideL (HXA.out hm)
      go_wp2
      go_ret
      rw [← HQ.out]
      have hL := leaf_in (ln := lu) HX.out ((But.of_below HB3.out).trans (But.set 4 _)) rfl
      rw [HXS.out] at hL
      exact hL
  · have c1b : (ku == 3) = false := by simpa using c1
    by_cases c9 : ku = 2
    · have c9b : (ku == 2) = true := by simpa using c9
      by_cases c10 : 2 ≤ kt
      · have c10b : decide (2 ≤ kt) = true := by simpa using c10
        by_cases c11 : kt ≤ 4
        · have c11b : decide (kt ≤ 4) = true := by simpa using c11
          by_cases c12 : lt = lu
          · have c12b : (lt == lu) = true := by simpa using c12
            have HV : Hid (isVal ⟨ku, lu, cu, xu, qu⟩ ⟨kt, lt, ct, xt, qt⟩ = true) := by show _ = _; simp [isVal, c1, c9, c10, c11, c12]
            have HQ : Hid (B q made = R) := (HVY.out HV.out).symm.trans HRV.out
            go_wp2_with fail
            refine (HIH.out W3 HR3.out).mono ?_
            rintro e w4 hE
            obtain ⟨v, rfl⟩ := hE.ret
            go_wp2
            go_ret
            rw [← HQ.out]
            exact hE.later (But.of_below HB3.out)
          · have c12b : (lt == lu) = false := by simpa using c12
            by_cases c13 : cu < ct
            · have c13b : decide (cu < ct) = true := by simpa using c13
              have HV : Hid (isVal ⟨ku, lu, cu, xu, qu⟩ ⟨kt, lt, ct, xt, qt⟩ = true) := by show _ = _; simp [isVal, c1, c9, c10, c11, c12, c13]
              have HQ : Hid (B q made = R) := (HVY.out HV.out).symm.trans HRV.out
              go_wp2_with fail
              refine (HIH.out W3 HR3.out).mono ?_
              rintro e w4 hE
              obtain ⟨v, rfl⟩ := hE.ret
              go_wp2
              go_ret
              rw [← HQ.out]
              exact hE.later (But.of_below HB3.out)
            · have c13b : decide (cu < ct) = false := by simpa using c13
              have HV : Hid (isVal ⟨ku, lu, cu, xu, qu⟩ ⟨kt, lt, ct, xt, qt⟩ = false) := by show _ = _; simp [isVal, c1, c9, c10, c11, c12, c13]
              by_cases hf : f = 0
              · have hd16 : (16 : Int) < d := by omega
                have HQ : Hid (Rr.bad lu 92 q made = R) := (valM_bad (B := B) (HVN.out.trans HV.out) (.inl (by simpa using hf))).symm.trans HRV.out
                go_wp2_with fail
                refine (fail_any _ rp _ n cap L q 0 _ lu 92 HR3.out).mono ?_
                rintro e w4 ⟨rfl, hR4, hB4⟩
                go_wp2
                go_ret
                rw [← HQ.out]
                exact ⟨rfl, hR4, (But.of_below HB3.out).trans hB4⟩
              have hd16 : ¬ (16 : Int) < d := by omega
              by_cases hm : made = 4096
              · have hmb : ((made : Int) == 4096) = true := by rw [beq_iff_eq]; omega
                have HQ : Hid (Rr.bad lu 92 q made = R) := (valM_bad (B := B) (HVN.out.trans HV.out) (.inr hm)).symm.trans HRV.out
                have HMM := hideL hm
                clear hm
                go_wp2_with fail
                refine (fail_any _ rp _ n cap L q 0 _ lu 92 HR3.out).mono ?_
                rintro e w4 ⟨rfl, hR4, hB4⟩
                go_wp2
                go_ret
                rw [← HQ.out]
                exact ⟨rfl, hR4, (But.of_below HB3.out).trans hB4⟩
              have hm' : ((made : Int) == 4096) = false := by rw [beq_eq_false_iff_ne]; omega
              have HQ : Hid (Rr.ok (leafT lu) q (made + 1) = R) := (valM_leaf (B := B) (dead := decide (f = 0)) (HVN.out.trans HV.out) (fun h => h.elim (fun h => hf (by simpa using h)) (fun h => hm h))).symm.trans HRV.out
              have HX := hideL (HXA.out hm)
              go_wp2
              go_ret
              rw [← HQ.out]
              have hL := leaf_in (ln := lu) HX.out ((But.of_below HB3.out).trans (But.set 4 _)) rfl
              rw [HXS.out] at hL
              exact hL
        · have c11b : decide (kt ≤ 4) = false := by simpa using c11
          have HV : Hid (isVal ⟨ku, lu, cu, xu, qu⟩ ⟨kt, lt, ct, xt, qt⟩ = false) := by show _ = _; simp [isVal, c1, c9, c10, c11]
          by_cases hf : f = 0
          · have hd16 : (16 : Int) < d := by omega
            have HQ : Hid (Rr.bad lu 92 q made = R) := (valM_bad (B := B) (HVN.out.trans HV.out) (.inl (by simpa using hf))).symm.trans HRV.out
            go_wp2_with fail
            refine (fail_any _ rp _ n cap L q 0 _ lu 92 HR3.out).mono ?_
            rintro e w4 ⟨rfl, hR4, hB4⟩
            go_wp2
            go_ret
            rw [← HQ.out]
            exact ⟨rfl, hR4, (But.of_below HB3.out).trans hB4⟩
          have hd16 : ¬ (16 : Int) < d := by omega
          by_cases hm : made = 4096
          · have hmb : ((made : Int) == 4096) = true := by rw [beq_iff_eq]; omega
            have HQ : Hid (Rr.bad lu 92 q made = R) := (valM_bad (B := B) (HVN.out.trans HV.out) (.inr hm)).symm.trans HRV.out
            have HMM := hideL hm
            clear hm
            go_wp2_with fail
            refine (fail_any _ rp _ n cap L q 0 _ lu 92 HR3.out).mono ?_
            rintro e w4 ⟨rfl, hR4, hB4⟩
            go_wp2
            go_ret
            rw [← HQ.out]
            exact ⟨rfl, hR4, (But.of_below HB3.out).trans hB4⟩
          have hm' : ((made : Int) == 4096) = false := by rw [beq_eq_false_iff_ne]; omega
          have HQ : Hid (Rr.ok (leafT lu) q (made + 1) = R) := (valM_leaf (B := B) (dead := decide (f = 0)) (HVN.out.trans HV.out) (fun h => h.elim (fun h => hf (by simpa using h)) (fun h => hm h))).symm.trans HRV.out
          have HX := hideL (HXA.out hm)
          go_wp2
          go_ret
          rw [← HQ.out]
          have hL := leaf_in (ln := lu) HX.out ((But.of_below HB3.out).trans (But.set 4 _)) rfl
          rw [HXS.out] at hL
          exact hL
      · have c10b : decide (2 ≤ kt) = false := by simpa using c10
        have HV : Hid (isVal ⟨ku, lu, cu, xu, qu⟩ ⟨kt, lt, ct, xt, qt⟩ = false) := by show _ = _; simp [isVal, c1, c9, c10]
        by_cases hf : f = 0
        · have hd16 : (16 : Int) < d := by omega
          have HQ : Hid (Rr.bad lu 92 q made = R) := (valM_bad (B := B) (HVN.out.trans HV.out) (.inl (by simpa using hf))).symm.trans HRV.out
          go_wp2_with fail
          refine (fail_any _ rp _ n cap L q 0 _ lu 92 HR3.out).mono ?_
          rintro e w4 ⟨rfl, hR4, hB4⟩
          go_wp2
          go_ret
          rw [← HQ.out]
          exact ⟨rfl, hR4, (But.of_below HB3.out).trans hB4⟩
        have hd16 : ¬ (16 : Int) < d := by omega
        by_cases hm : made = 4096
        · have hmb : ((made : Int) == 4096) = true := by rw [beq_iff_eq]; omega
          have HQ : Hid (Rr.bad lu 92 q made = R) := (valM_bad (B := B) (HVN.out.trans HV.out) (.inr hm)).symm.trans HRV.out
          have HMM := hideL hm
          clear hm
          go_wp2_with fail
          refine (fail_any _ rp _ n cap L q 0 _ lu 92 HR3.out).mono ?_
          rintro e w4 ⟨rfl, hR4, hB4⟩
          go_wp2
          go_ret
          rw [← HQ.out]
          exact ⟨rfl, hR4, (But.of_below HB3.out).trans hB4⟩
        have hm' : ((made : Int) == 4096) = false := by rw [beq_eq_false_iff_ne]; omega
        have HQ : Hid (Rr.ok (leafT lu) q (made + 1) = R) := (valM_leaf (B := B) (dead := decide (f = 0)) (HVN.out.trans HV.out) (fun h => h.elim (fun h => hf (by simpa using h)) (fun h => hm h))).symm.trans HRV.out
        have HX := hideL (HXA.out hm)
        go_wp2
        go_ret
        rw [← HQ.out]
        have hL := leaf_in (ln := lu) HX.out ((But.of_below HB3.out).trans (But.set 4 _)) rfl
        rw [HXS.out] at hL
        exact hL
    · have c9b : (ku == 2) = false := by simpa using c9
      by_cases c14 : 2 ≤ kt
      · have c14b : decide (2 ≤ kt) = true := by simpa using c14
        by_cases c15 : kt ≤ 4
        · have c15b : decide (kt ≤ 4) = true := by simpa using c15
          by_cases c16 : lt = lu
          · have c16b : (lt == lu) = true := by simpa using c16
            have HV : Hid (isVal ⟨ku, lu, cu, xu, qu⟩ ⟨kt, lt, ct, xt, qt⟩ = false) := by show _ = _; simp [isVal, c1, c9, c14, c15, c16]
            by_cases hf : f = 0
            · have hd16 : (16 : Int) < d := by omega
              have HQ : Hid (Rr.bad lu 92 q made = R) := (valM_bad (B := B) (HVN.out.trans HV.out) (.inl (by simpa using hf))).symm.trans HRV.out
              go_wp2_with fail
              refine (fail_any _ rp _ n cap L q 0 _ lu 92 HR3.out).mono ?_
              rintro e w4 ⟨rfl, hR4, hB4⟩
              go_wp2
              go_ret
              rw [← HQ.out]
              exact ⟨rfl, hR4, (But.of_below HB3.out).trans hB4⟩
            have hd16 : ¬ (16 : Int) < d := by omega
            by_cases hm : made = 4096
            · have hmb : ((made : Int) == 4096) = true := by rw [beq_iff_eq]; omega
              have HQ : Hid (Rr.bad lu 92 q made = R) := (valM_bad (B := B) (HVN.out.trans HV.out) (.inr hm)).symm.trans HRV.out
              have HMM := hideL hm
              clear hm
              go_wp2_with fail
              refine (fail_any _ rp _ n cap L q 0 _ lu 92 HR3.out).mono ?_
              rintro e w4 ⟨rfl, hR4, hB4⟩
              go_wp2
              go_ret
              rw [← HQ.out]
              exact ⟨rfl, hR4, (But.of_below HB3.out).trans hB4⟩
            have hm' : ((made : Int) == 4096) = false := by rw [beq_eq_false_iff_ne]; omega
            have HQ : Hid (Rr.ok (leafT lu) q (made + 1) = R) := (valM_leaf (B := B) (dead := decide (f = 0)) (HVN.out.trans HV.out) (fun h => h.elim (fun h => hf (by simpa using h)) (fun h => hm h))).symm.trans HRV.out
            have HX := hideL (HXA.out hm)
            go_wp2
            go_ret
            rw [← HQ.out]
            have hL := leaf_in (ln := lu) HX.out ((But.of_below HB3.out).trans (But.set 4 _)) rfl
            rw [HXS.out] at hL
            exact hL
          · have c16b : (lt == lu) = false := by simpa using c16
            have HV : Hid (isVal ⟨ku, lu, cu, xu, qu⟩ ⟨kt, lt, ct, xt, qt⟩ = false) := by show _ = _; simp [isVal, c1, c9, c14, c15, c16]
            by_cases hf : f = 0
            · have hd16 : (16 : Int) < d := by omega
              have HQ : Hid (Rr.bad lu 92 q made = R) := (valM_bad (B := B) (HVN.out.trans HV.out) (.inl (by simpa using hf))).symm.trans HRV.out
              go_wp2_with fail
              refine (fail_any _ rp _ n cap L q 0 _ lu 92 HR3.out).mono ?_
              rintro e w4 ⟨rfl, hR4, hB4⟩
              go_wp2
              go_ret
              rw [← HQ.out]
              exact ⟨rfl, hR4, (But.of_below HB3.out).trans hB4⟩
            have hd16 : ¬ (16 : Int) < d := by omega
            by_cases hm : made = 4096
            · have hmb : ((made : Int) == 4096) = true := by rw [beq_iff_eq]; omega
              have HQ : Hid (Rr.bad lu 92 q made = R) := (valM_bad (B := B) (HVN.out.trans HV.out) (.inr hm)).symm.trans HRV.out
              have HMM := hideL hm
              clear hm
              go_wp2_with fail
              refine (fail_any _ rp _ n cap L q 0 _ lu 92 HR3.out).mono ?_
              rintro e w4 ⟨rfl, hR4, hB4⟩
              go_wp2
              go_ret
              rw [← HQ.out]
              exact ⟨rfl, hR4, (But.of_below HB3.out).trans hB4⟩
            have hm' : ((made : Int) == 4096) = false := by rw [beq_eq_false_iff_ne]; omega
            have HQ : Hid (Rr.ok (leafT lu) q (made + 1) = R) := (valM_leaf (B := B) (dead := decide (f = 0)) (HVN.out.trans HV.out) (fun h => h.elim (fun h => hf (by simpa using h)) (fun h => hm h))).symm.trans HRV.out
            have HX := hideL (HXA.out hm)
            go_wp2
            go_ret
            rw [← HQ.out]
            have hL := leaf_in (ln := lu) HX.out ((But.of_below HB3.out).trans (But.set 4 _)) rfl
            rw [HXS.out] at hL
            exact hL
        · have c15b : decide (kt ≤ 4) = false := by simpa using c15
          have HV : Hid (isVal ⟨ku, lu, cu, xu, qu⟩ ⟨kt, lt, ct, xt, qt⟩ = false) := by show _ = _; simp [isVal, c1, c9, c14, c15]
          by_cases hf : f = 0
          · have hd16 : (16 : Int) < d := by omega
            have HQ : Hid (Rr.bad lu 92 q made = R) := (valM_bad (B := B) (HVN.out.trans HV.out) (.inl (by simpa using hf))).symm.trans HRV.out
            go_wp2_with fail
            refine (fail_any _ rp _ n cap L q 0 _ lu 92 HR3.out).mono ?_
            rintro e w4 ⟨rfl, hR4, hB4⟩
            go_wp2
            go_ret
            rw [← HQ.out]
            exact ⟨rfl, hR4, (But.of_below HB3.out).trans hB4⟩
          have hd16 : ¬ (16 : Int) < d := by omega
          by_cases hm : made = 4096
          · have hmb : ((made : Int) == 4096) = true := by rw [beq_iff_eq]; omega
            have HQ : Hid (Rr.bad lu 92 q made = R) := (valM_bad (B := B) (HVN.out.trans HV.out) (.inr hm)).symm.trans HRV.out
            have HMM := hideL hm
            clear hm
            go_wp2_with fail
            refine (fail_any _ rp _ n cap L q 0 _ lu 92 HR3.out).mono ?_
            rintro e w4 ⟨rfl, hR4, hB4⟩
            go_wp2
            go_ret
            rw [← HQ.out]
            exact ⟨rfl, hR4, (But.of_below HB3.out).trans hB4⟩
          have hm' : ((made : Int) == 4096) = false := by rw [beq_eq_false_iff_ne]; omega
          have HQ : Hid (Rr.ok (leafT lu) q (made + 1) = R) := (valM_leaf (B := B) (dead := decide (f = 0)) (HVN.out.trans HV.out) (fun h => h.elim (fun h => hf (by simpa using h)) (fun h => hm h))).symm.trans HRV.out
          have HX := hideL (HXA.out hm)
          go_wp2
          go_ret
          rw [← HQ.out]
          have hL := leaf_in (ln := lu) HX.out ((But.of_below HB3.out).trans (But.set 4 _)) rfl
          rw [HXS.out] at hL
          exact hL
      · have c14b : decide (2 ≤ kt) = false := by simpa using c14
        have HV : Hid (isVal ⟨ku, lu, cu, xu, qu⟩ ⟨kt, lt, ct, xt, qt⟩ = false) := by show _ = _; simp [isVal, c1, c9, c14]
        by_cases hf : f = 0
        · have hd16 : (16 : Int) < d := by omega
          have HQ : Hid (Rr.bad lu 92 q made = R) := (valM_bad (B := B) (HVN.out.trans HV.out) (.inl (by simpa using hf))).symm.trans HRV.out
          go_wp2_with fail
          refine (fail_any _ rp _ n cap L q 0 _ lu 92 HR3.out).mono ?_
          rintro e w4 ⟨rfl, hR4, hB4⟩
          go_wp2
          go_ret
          rw [← HQ.out]
          exact ⟨rfl, hR4, (But.of_below HB3.out).trans hB4⟩
        have hd16 : ¬ (16 : Int) < d := by omega
        by_cases hm : made = 4096
        · have hmb : ((made : Int) == 4096) = true := by rw [beq_iff_eq]; omega
          have HQ : Hid (Rr.bad lu 92 q made = R) := (valM_bad (B := B) (HVN.out.trans HV.out) (.inr hm)).symm.trans HRV.out
          have HMM := hideL hm
          clear hm
          go_wp2_with fail
          refine (fail_any _ rp _ n cap L q 0 _ lu 92 HR3.out).mono ?_
          rintro e w4 ⟨rfl, hR4, hB4⟩
          go_wp2
          go_ret
          rw [← HQ.out]
          exact ⟨rfl, hR4, (But.of_below HB3.out).trans hB4⟩
        have hm' : ((made : Int) == 4096) = false := by rw [beq_eq_false_iff_ne]; omega
        have HQ : Hid (Rr.ok (leafT lu) q (made + 1) = R) := (valM_leaf (B := B) (dead := decide (f = 0)) (HVN.out.trans HV.out) (fun h => h.elim (fun h => hf (by simpa using h)) (fun h => hm h))).symm.trans HRV.out
        have HX := hideL (HXA.out hm)
        go_wp2
        go_ret
        rw [← HQ.out]
        have hL := leaf_in (ln := lu) HX.out ((But.of_below HB3.out).trans (But.set 4 _)) rfl
        rw [HXS.out] at hL
        exact hL
end Go.Proofs.YtmmnpnhffgpchaaGreatDoor

/-
  The document's block: what its loop goes by.
-/
namespace Go.Proofs.YtmmnpnhffgpchaaGreatDoor
open Go.RowKit
set_option linter.unusedVariables false
set_option linter.unusedSimpArgs false
set_option maxRecDepth 100000
/-- value, whole -/
theorem value_any (w : World) (rp : Nat) (a : Option Addr) (n cap : Nat) (L : List Tk) (u : Tk) (q made d f : Nat) (hd : d + f = 17) (B : Nat → Nat → Rr) (h : Rg w rp a n cap L q 0 0 made)
    (ih : ∀ (w : World) (q made : Nat), Rg w rp a n cap L q 0 0 made → q < n → Calls Tryz.prog 37 #[.pointer (some ⟨rp, 0, none⟩), .int .i64 d] w (RrE w rp a n cap L (B q made))) :
    Calls Tryz.prog 60 #[.pointer (some ⟨rp, 0, none⟩), .agg u.row.toArray, .int .i64 d] w (RrE w rp a n cap L (valM B (decide (f = 0)) L u q made)) := by
  rcases ht : L[q]? with _ | t
  · have h1 := List.getElem?_eq_none_iff.1 ht
    obtain rfl : q = n := by have := h.q; have := h.len; omega
    exact value_end w rp a q cap L u made d f hd B h
  · have hq := (List.getElem?_eq_some_iff.1 ht).1
    exact value_at w rp a n cap L u t q made d f hd B h ht (fun w' h' => ih w' q made h' (by have := h.len; omega))
/-- a tree's root under a key -/
theorem TrIn.rekey {w : World} {F : Nat → Prop} {t : Tr} {p : Nat} (h : TrIn w F t p) (key : ByteArray) (hk : key.size ≤ maxLen) : w.frozen? ⟨p, 1, none⟩ = false ∧ TrIn (w.setCell ⟨p, 1, none⟩ (.string key)) F (t.withKey key) p := by
  obtain ⟨kd, key0, tx, quo, ln, kids⟩ := t
  rw [TrIn] at h
  obtain ⟨h1, h2, v, ps, h3, h4, h5, h6⟩ := h
  have ho : ∀ k, k ≠ p → (w.setCell ⟨p, 1, none⟩ (.string key)).heap[k]? = w.heap[k]? := fun k hk => Below.heap_setCell _ _ _ _ hk
  refine ⟨by simp [World.frozen?, h3], ?_⟩
  rw [Tr.withKey, TrIn]
  refine ⟨h1, hk, v, ps, ?_, h4, own_block h5 (fun k hk => ho k ?_), TrsIn.turn (fun k hk => hk) (fun k hk => ho k hk.2) kids ps h6⟩
  · rw [heap_setCell_same w p 1 _ 95 _ h3]; rfl
  · rintro rfl
    obtain ⟨cur, hc⟩ := own_cells h5 k hk
    rw [hc] at h3
    cases h3
theorem withKey_key (t : Tr) (key : ByteArray) : (t.withKey key).key = key := by cases t; rfl
/-- one more entry -/
theorem lpM_step {V : Tk → Nat → Nat → Rr} {L : List Tk} {t0 u : Tk} {k q made q' made' : Nat} {acc : List Tr} {v : Tr} (hu : L[q]? = some u) (h1 : u.kd = t0.kd) (h2 : u.col = t0.col) (h3 : ¬ (u.kd = 3 ∧ ∃ x ∈ acc, x.key = u.tx)) (hv : V u (q + 1) made = .ok v q' made') :
    lpM V L t0 (k + 1) acc q made = lpM V L t0 k (acc ++ [v.withKey (if u.kd = 3 then u.tx else ByteArray.empty)]) q' made' := by
  rw [lpM, hu]
  dsimp only
  rw [if_pos ⟨h1, h2⟩, if_neg h3, hv]
theorem lpM_bad {V : Tk → Nat → Nat → Rr} {L : List Tk} {t0 u : Tk} {k q made q' made' : Nat} {l e : Int} {acc : List Tr} (hu : L[q]? = some u) (h1 : u.kd = t0.kd) (h2 : u.col = t0.col) (h3 : ¬ (u.kd = 3 ∧ ∃ x ∈ acc, x.key = u.tx)) (hv : V u (q + 1) made = .bad l e q' made') :
    lpM V L t0 (k + 1) acc q made = .bad l e q' made' := by
  rw [lpM, hu]
  dsimp only
  rw [if_pos ⟨h1, h2⟩, if_neg h3, hv]
theorem lpM_twice {V : Tk → Nat → Nat → Rr} {L : List Tk} {t0 u : Tk} {k q made : Nat} {acc : List Tr} (hu : L[q]? = some u) (h1 : u.kd = t0.kd) (h2 : u.col = t0.col) (h3 : u.kd = 3 ∧ ∃ x ∈ acc, x.key = u.tx) :
    lpM V L t0 (k + 1) acc q made = .bad u.line 91 q made := by
  rw [lpM, hu]
  dsimp only
  rw [if_pos ⟨h1, h2⟩, if_pos h3]
theorem lpM_end {V : Tk → Nat → Nat → Rr} {L : List Tk} {t0 : Tk} {k q made : Nat} {acc : List Tr} (h : L[q]? = none ∨ ∃ u, L[q]? = some u ∧ ¬ (u.kd = t0.kd ∧ u.col = t0.col)) : lpM V L t0 k acc q made = .ok acc q made := by
  cases k with
  | zero => rfl
  | succ k =>
    rw [lpM]
    rcases h with h | ⟨u, h, hne⟩
    · rw [h]
    · rw [h]
      dsimp only
      rw [if_neg hne]
/-- the tree under way: its kids so far -/
structure Bw (w wr : World) (rp : Nat) (tk : Tk) (kx : Int) (v : Value) (ts : List Tr) (ps : List Nat) : Prop where
  bel : But rp w wr
  n : wr.heap[w.heap.size]? = some (.cells tk.row.toArray 61 (0, 0))
  t : wr.heap[w.heap.size + 1]? = some (.cells #[.int .i64 kx, .string ⟨#[]⟩, .string ⟨#[]⟩, .bool false, .int .i64 tk.line, v] 95 (0, 0))
  own : wr.ownsRow 0 62 1 v ts.length (ptrs ps)
  far : ∀ r, v.ownBlock = some r → w.heap.size + 1 < r
  kids : TrsIn wr (fun k => w.heap.size + 1 < k ∧ k < wr.heap.size ∧ v.ownBlock ≠ some k) ts ps
/-- behind a kid's call -/
theorem Bw.call {w wr w' : World} {rp : Nat} {tk : Tk} {kx : Int} {v : Value} {ts : List Tr} {ps : List Nat} (h : Bw w wr rp tk kx v ts ps) (hrp : rp < w.heap.size) (hb : But rp wr w') : Bw w w' rp tk kx v ts ps := by
  have hs : ∀ {k : Nat} {x : Obj}, k ≠ rp → wr.heap[k]? = some x → w'.heap[k]? = some x := fun {k x} hne hk => (hb.block k (Array.getElem?_eq_some_iff.1 hk).1 hne).trans hk
  refine ⟨h.bel.trans hb, hs (by omega) h.n, hs (by omega) h.t, own_block h.own (fun k hk => hb.block k (h.own.lt k hk).2 (by have := h.far k hk; omega)), h.far, ?_⟩
  exact TrsIn.turn (fun k hk => ⟨hk.1, Nat.lt_of_lt_of_le hk.2.1 hb.size, hk.2.2⟩) (fun k hk => hb.block k hk.2.1 (by omega)) ts ps h.kids
/-- a kid more: appended, and stored -/
theorem Bw.more {w wr w' : World} {rp : Nat} {tk : Tk} {kx : Int} {v v' : Value} {ts : List Tr} {ps : List Nat} {t : Tr} {p : Nat} {lo : Nat} (h : Bw w wr rp tk kx v ts ps) (ht : TrIn wr (fun k => lo ≤ k ∧ k < wr.heap.size) t p) (hlo : w.heap.size + 1 < lo) (hlo2 : ∀ r, v.ownBlock = some r → r < lo)
    (hown : w'.ownsRow 0 62 1 v' (ts.length + 1) (ptrs ps ++ [.pointer (some ⟨p, 0, none⟩)])) (hsz : wr.heap.size ≤ w'.heap.size) (hos : w'.os = wr.os ∧ w'.tape = wr.tape ∧ w'.output = wr.output) (hblk : ∀ k, k < wr.heap.size → v.ownBlock ≠ some k → w'.heap[k]? = wr.heap[k]?) (hv' : v'.ownBlock = v.ownBlock ∨ ∀ r, v'.ownBlock = some r → wr.heap.size ≤ r) :
    Bw w (w'.setCell ⟨w.heap.size + 1, 5, none⟩ v') rp tk kx v' (ts ++ [t]) (ps ++ [p]) := by
  have hfar' : ∀ r, v'.ownBlock = some r → w.heap.size + 1 < r := by
    intro r hr
    rcases hv' with e | e
    · exact h.far r (e ▸ hr)
    · have := e r hr
      have := (Array.getElem?_eq_some_iff.1 h.t).1
      omega
  have ht1 : w.heap.size + 1 < wr.heap.size := (Array.getElem?_eq_some_iff.1 h.t).1
  have hn : ∀ k, k ≤ w.heap.size + 1 → w'.heap[k]? = wr.heap[k]? := fun k hk => hblk k (by omega) (fun e => by have := h.far k e; omega)
  have ho : ∀ k, k ≠ w.heap.size + 1 → (w'.setCell ⟨w.heap.size + 1, 5, none⟩ v').heap[k]? = w'.heap[k]? := fun k hk => Below.heap_setCell _ _ _ _ hk
  refine ⟨?_, ?_, ?_, ?_, hfar', ?_⟩
  · refine ⟨hos.1.trans h.bel.os, hos.2.1.trans h.bel.tape, hos.2.2.trans h.bel.output, Nat.le_trans h.bel.size (by simpa [World.setCell] using hsz), fun k hk hne => ?_⟩
    rw [ho k (by omega), hn k (by omega)]
    exact h.bel.block k hk hne
  · rw [ho _ (by omega), hn _ (by omega)]; exact h.n
  · rw [heap_setCell_same w' (w.heap.size + 1) 5 _ 95 _ ((hn _ (by omega)).trans h.t)]; rfl
  · refine own_block (w := w') (n := (ts ++ [t]).length) (xs := ptrs (ps ++ [p])) ?_ (fun k hk => ho k (by have := hfar' k hk; omega))
    simpa [ptrs] using hown
  · have hszc : (w'.setCell ⟨w.heap.size + 1, 5, none⟩ v').heap.size = w'.heap.size := by simp [World.setCell]
    have hF : ∀ k, (w.heap.size + 1 < k ∧ k < wr.heap.size ∧ v.ownBlock ≠ some k) → (w.heap.size + 1 < k ∧ k < (w'.setCell ⟨w.heap.size + 1, 5, none⟩ v').heap.size ∧ v'.ownBlock ≠ some k) := by
      intro k hk
      refine ⟨hk.1, by rw [hszc]; omega, fun e => ?_⟩
      rcases hv' with e2 | e2
      · exact hk.2.2 (e2 ▸ e)
      · have := e2 k e; omega
    have hW : ∀ k, (w.heap.size + 1 < k ∧ k < wr.heap.size ∧ v.ownBlock ≠ some k) → (w'.setCell ⟨w.heap.size + 1, 5, none⟩ v').heap[k]? = wr.heap[k]? := fun k hk => by
      rw [ho k (by omega), hblk k hk.2.1 hk.2.2]
    have hT : ∀ k, (lo ≤ k ∧ k < wr.heap.size) → (w.heap.size + 1 < k ∧ k < wr.heap.size ∧ v.ownBlock ≠ some k) := fun k hk => ⟨by omega, hk.2, fun e => by have := hlo2 k e; omega⟩
    exact TrsIn.snoc (TrIn.turn (fun k hk => hF k (hT k hk)) (fun k hk => hW k (hT k hk)) t p ht) (TrsIn.turn hF hW ts ps h.kids)
theorem Bw.app {w w1 w3 : World} {rp : Nat} {tk : Tk} {kx : Int} {ao : Option Addr} {i cp mm lo p : Nat} {ts : List Tr} {ps : List Nat} {t : Tr} {v3 : Value} {ob : Obj} (h : Bw w w1 rp tk kx (.slice ao i cp) ts ps) (ht : TrIn w1 (fun k => lo ≤ k ∧ k < w1.heap.size) t p) (hlo : w.heap.size + 1 < lo) (hlo2 : ∀ r, (Value.slice ao i cp).ownBlock = some r → r < lo) (hl : ts.length = i)
    (hown : w3.ownsRow 0 62 1 v3 (i + 1) (ptrs ps ++ [.pointer (some ⟨p, 0, none⟩)])) (hg : ((w1.drewN mm).alloc ob).grownBy w3 (Value.slice ao i cp).ownBlock) (hat : v3.ownBlock = (Value.slice ao i cp).ownBlock ∨ v3.ownBlock = some ((w1.drewN mm).alloc ob).heap.size) :
    w3.cell? ⟨w.heap.size + 1, 5, none⟩ = some (.slice ao i cp) ∧ w3.frozen? ⟨w.heap.size + 1, 5, none⟩ = false ∧ Bw w (w3.setCell ⟨w.heap.size + 1, 5, none⟩ v3) rp tk kx v3 (ts ++ [t]) (ps ++ [p]) := by
  have hsz : ((w1.drewN mm).alloc ob).heap.size = w1.heap.size + 1 := by simp
  have hblk : ∀ k, k < w1.heap.size → (Value.slice ao i cp).ownBlock ≠ some k → w3.heap[k]? = w1.heap[k]? := fun k hk hne => (hg.block k (by omega) (fun e => hne e.symm)).trans (Below.heap_alloc (w1.drewN mm) ob k hk)
  have ht1 : w.heap.size + 1 < w1.heap.size := (Array.getElem?_eq_some_iff.1 h.t).1
  have hb : w3.heap[w.heap.size + 1]? = _ := (hblk _ ht1 (fun e => by have := h.far _ e; omega)).trans h.t
  refine ⟨by rw [cell_block hb]; rfl, by simp [World.frozen?, hb], Bw.more h ht hlo hlo2 (by rw [hl]; exact hown) (by have := hg.size; omega) ⟨hg.os, hg.tape, hg.output⟩ hblk ?_⟩
  rcases hat with e | e
  · exact .inl e
  · refine .inr fun r hr => ?_
    rw [e] at hr; cases hr; omega
theorem Bw.done {w wr : World} {rp : Nat} {tk : Tk} {kx : Int} {v : Value} {ts : List Tr} {ps : List Nat} (h : Bw w wr rp tk kx v ts ps) : TrIn wr (fun k => w.heap.size ≤ k ∧ k < wr.heap.size) (.node kx ByteArray.empty ByteArray.empty false tk.line ts) (w.heap.size + 1) := by
  rw [TrIn]
  have ht1 : w.heap.size + 1 < wr.heap.size := (Array.getElem?_eq_some_iff.1 h.t).1
  exact ⟨⟨by omega, ht1⟩, by decide, v, ps, h.t, fun r hr => ⟨by have := h.far r hr; omega, (h.own.lt r hr).2⟩, h.own, TrsIn.turn (fun k hk => ⟨⟨by omega, hk.2.1⟩, by omega⟩) (fun k hk => rfl) ts ps h.kids⟩
end Go.Proofs.YtmmnpnhffgpchaaGreatDoor
