/-
  What is in order: astray, Ordered, and the document's Out.
-/
import Derived.Test.YtmljljpldljpjabMm
import Derived.Deep.QuietTactic
namespace Go.Proofs.Ytmljljpldljpjab
open Go.RowKit
set_option linter.unusedVariables false
set_option linter.unusedSimpArgs false
set_option maxRecDepth 100000
def kindB (k : Int) : Bool := decide (1 ≤ k) && decide (k ≤ 4)
theorem isKind_any (k : Int) (w : World) : Calls Try.prog 29 #[.int .i64 k] w fun e w' => e = .returned (.bool (kindB k)) ∧ w' = w := by
  unfold kindB
  by_cases h1 : 1 ≤ k
  · by_cases h2 : k ≤ 4
    · go_enter Try.func29, Try.ntmps29
      go_wp2
      go_ret
      exact ⟨ret_bool (by simp [h1, h2]), rfl⟩
    · go_enter Try.func29, Try.ntmps29
      go_wp2
      go_ret
      exact ⟨ret_bool (by simp [h1, h2]; try omega), rfl⟩
  · have h1' : decide (1 ≤ k) = false := by simp; omega
    go_enter Try.func29, Try.ntmps29
    go_wp2
    go_ret
    exact ⟨ret_bool (by simp; try omega), rfl⟩
theorem okAt_eq (C : List Rs) (i : Nat) (r : Rs) : okAt C i r = (kindB r.kd && !r.del && (decide (i = 0) || (match C[i - 1]? with | some q => lessB q r | none => true))) := rfl
set_option maxHeartbeats 32000000 in
theorem astray_any (w : World) (a : Option Addr) (n c : Nat) (os : List Rx) (hL : Lr w a os) (hn : os.length = n) (hs : n ≤ 4194304) :
    Calls Try.prog 28 #[.slice a n c] w fun e w' => e = .returned (.int .i64 (astF (os.map Rx.toRs))) ∧ Gr w w' := by
  have HL := hideL hL
  have HN := hideL hn
  clear hL hn
  have HST : Hid (∀ (i : Nat) (r : Rs), (∀ (j : Nat) (x : Rs), j < i → (os.map Rx.toRs)[j]? = some x → okAt (os.map Rx.toRs) j x = true) → (os.map Rx.toRs)[i]? = some r → okAt (os.map Rx.toRs) i r = false → astF (os.map Rx.toRs) = i) := fun i r h1 h2 h3 => astF_stop h1 h2 h3
  have HAL : Hid ((∀ (j : Nat) (x : Rs), (os.map Rx.toRs)[j]? = some x → okAt (os.map Rx.toRs) j x = true) → astF (os.map Rx.toRs) = n) := fun h => by rw [astF_all h]; simp [HN.out]
  generalize astF (os.map Rx.toRs) = A at HST HAL ⊢
  go_enter Try.func28, Try.ntmps28
  go_wp2_with fail
  go_loopw [7] (fun t wr => ∃ (i : Nat), t = .int .i64 i ∧ i ≤ n ∧ Gr w wr ∧ Hid (∀ (j : Nat) (x : Rs), j < i → (os.map Rx.toRs)[j]? = some x → okAt (os.map Rx.toRs) j x = true)) (fun t _ => n - (intOf t).toNat)
  case atStart => exact ⟨0, rfl, by omega, Gr.refl _, fun j x hj => by omega⟩
  case round =>
    obtain ⟨i, rfl, hi, hgr, HF⟩ := hrel
    have HG := hideL hgr
    clear hgr
    have i0 : (0 : Int) ≤ i := by omega
    by_cases h3 : i < n
    · have h3' : (i : Int) < n := by omega
      rcases hki : os[i]? with _ | o
      · have := List.getElem?_eq_none_iff.1 hki; have := HN.out; omega
      have HKI : Hid ((os.map Rx.toRs)[i]? = some o.toRs) := by unfold Hid; simp [hki]
      obtain ⟨g, off, rfl, d0, d1, d2, d3, d4, d5, d6, d7⟩ := (HL.out.row.below HG.out.below).cells hki
      have HBAD : Hid (okAt (os.map Rx.toRs) i o.toRs = false → A = i) := fun h => HST.out i o.toRs HF.out HKI.out h
      have HGOOD : Hid (okAt (os.map Rx.toRs) i o.toRs = true → ∀ (j : Nat) (x : Rs), j < i + 1 → (os.map Rx.toRs)[j]? = some x → okAt (os.map Rx.toRs) j x = true) := fun h j x hj hx => by
        by_cases hji : j < i
        · exact HF.out j x hji hx
        · obtain rfl : j = i := by omega
          rw [HKI.out] at hx; cases hx; exact h
      have HIK : Hid (∀ W, Calls Try.prog 29 #[.int .i64 o.kd] W fun e w' => e = .returned (.bool (kindB o.kd)) ∧ w' = W) := fun W => isKind_any o.kd W
      have HOK : Hid (okAt (os.map Rx.toRs) i o.toRs = (kindB o.kd && !o.del && (decide (i = 0) || (match (os.map Rx.toRs)[i - 1]? with | some q => lessB q o.toRs | none => true)))) := okAt_eq _ _ _
      clear hki
      obtain ⟨w1, hw1⟩ : ∃ X, wr.alloc (boxO o) = X := ⟨_, rfl⟩
      have HG1 : Hid (Gr wr w1) := by rw [← hw1]; exact Gr.alloc _ _
      have HX1 : Hid (w1.heap[wr.heap.size]? = some (boxO o)) := by rw [← hw1]; exact heap_alloc_new wr _
      unfold boxO at hw1
      go_wp2_with fail
      try rw [hw1]
      clear hw1 d0 d1 d2 d3 d4 d5 d6 d7
      obtain ⟨B, hB⟩ : ∃ B, wr.heap.size = B := ⟨_, rfl⟩
      rw [hB] at HX1 ⊢
      clear hB
      obtain ⟨e0, e1, e2, e3, e4, e5, e6, e7⟩ := box8 HX1.out
      have HGW := hideL (HG.out.trans HG1.out)
      generalize kindB o.kd = kb at HIK HOK
      cases kb
      · have HR := hideL (HBAD.out (by rw [HOK.out]; rfl))
        go_quiet (exact (HIK.out _).mono fun e w' ⟨he, hw⟩ => ⟨he, _, hw⟩)
        go_wp2
        go_ret
        exact ⟨ret_int (by rw [HR.out]), HGW.out.trans (Gr.drewN _ _)⟩
      · cases hdl : o.del
        · rcases i with _ | k
          · have HR := hideL (HGOOD.out (by rw [HOK.out, hdl]; rfl))
            rw [hdl] at e7
            go_quiet (exact (HIK.out _).mono fun e w' ⟨he, hw⟩ => ⟨he, _, hw⟩)
            go_wp2
            go_roundw
            case rel => exact ⟨0 + 1, by go_num, by omega, HGW.out.trans (Gr.drewN _ _), HR.out⟩
            case measure => simp [intOf]; omega
          · rcases hkq : os[k]? with _ | q
            · have := List.getElem?_eq_none_iff.1 hkq; have := HN.out; omega
            obtain ⟨g', off', eq1, y0, y1, y2, y3, y4, y5, y6, y7⟩ := (HL.out.row.below HGW.out.below).cells hkq
            cases eq1
            have HOK2 : Hid (okAt (os.map Rx.toRs) (k + 1) o.toRs = lessB q.toRs o.toRs) := by
              unfold Hid
              rw [HOK.out, hdl]
              simp [hkq]
            have k0 : (0 : Int) ≤ k := by omega
            have k1 : (k : Int) < n := by omega
            have HCM : Hid (∀ W, Calls Try.prog 32 #[.agg #[.int .i64 q.kd, .string q.nm], .agg #[.int .i64 o.kd, .string o.nm]] W fun e w' => e = .returned (.int .i64 (kcmp (q.kd, q.nm) (o.kd, o.nm))) ∧ Gr W w') := fun W => compare_f _ _ _ _ W
            have HZ : Hid (kcmp (q.kd, q.nm) (o.kd, o.nm) < 0 ↔ lessB q.toRs o.toRs = true) := (kcmp_lt _ _).trans (lessB_iff q.toRs o.toRs).symm
            generalize kcmp (q.kd, q.nm) (o.kd, o.nm) = z at HCM HZ
            rw [hdl] at e7
            have HS := hideL (fun (w' : World) (h : Gr w1 w') => show (w'.cell? ⟨B, 0, none⟩ = some (.int .i64 o.kd) ∧ w'.cell? ⟨B, 1, none⟩ = some (.string o.nm) ∧ w'.cell? ⟨B, 2, none⟩ = some (.slice o.ea o.eps.length o.ec) ∧ w'.cell? ⟨B, 3, none⟩ = some (.slice o.ta o.tgs.length o.tc) ∧ w'.cell? ⟨B, 4, none⟩ = some (.string o.host) ∧ w'.cell? ⟨B, 5, none⟩ = some (.slice o.ra o.rus.length o.rc) ∧ w'.cell? ⟨B, 6, none⟩ = some (.string o.route) ∧ w'.cell? ⟨B, 7, none⟩ = some (.bool false) ∧ w'.cell? ⟨g, off + k * 8, none⟩ = some (.int .i64 q.kd) ∧ w'.cell? ⟨g, off + k * 8 + 1, none⟩ = some (.string q.nm) ∧ w'.cell? ⟨g, off + k * 8 + 2, none⟩ = some (.slice q.ea q.eps.length q.ec) ∧ w'.cell? ⟨g, off + k * 8 + 3, none⟩ = some (.slice q.ta q.tgs.length q.tc) ∧ w'.cell? ⟨g, off + k * 8 + 4, none⟩ = some (.string q.host) ∧ w'.cell? ⟨g, off + k * 8 + 5, none⟩ = some (.slice q.ra q.rus.length q.rc) ∧ w'.cell? ⟨g, off + k * 8 + 6, none⟩ = some (.string q.route) ∧ w'.cell? ⟨g, off + k * 8 + 7, none⟩ = some (.bool q.del)) from ⟨h.cell e0, h.cell e1, h.cell e2, h.cell e3, h.cell e4, h.cell e5, h.cell e6, h.cell e7, h.cell y0, h.cell y1, h.cell y2, h.cell y3, h.cell y4, h.cell y5, h.cell y6, h.cell y7⟩)
            have hwk : IntKind.i64.wrap (k : Int) = k := by simp [IntKind.wrap, IntKind.bits, IntKind.signed]; omega
            have hwk2 : IntKind.i64.wrap (((k + 1 : Nat) : Int) - 1) = k := by rw [show ((k + 1 : Nat) : Int) - 1 = k by omega]; exact hwk
            have hwk3 : IntKind.i64.wrap ((k : Int) + 1 - 1) = k := by rw [show (k : Int) + 1 - 1 = k by omega]; exact hwk
            clear hkq
            by_cases hz : 0 ≤ z
            · have hz' : decide (0 ≤ z) = true := by simpa using hz
              have HR := hideL (HBAD.out (by rw [HOK2.out]; cases hb : lessB q.toRs o.toRs; rfl; have := HZ.out.2 hb; omega))
              go_region_held3 (fun w' => w'.cell? ⟨B, 0, none⟩ = some (.int .i64 o.kd) ∧ w'.cell? ⟨B, 1, none⟩ = some (.string o.nm) ∧ w'.cell? ⟨B, 2, none⟩ = some (.slice o.ea o.eps.length o.ec) ∧ w'.cell? ⟨B, 3, none⟩ = some (.slice o.ta o.tgs.length o.tc) ∧ w'.cell? ⟨B, 4, none⟩ = some (.string o.host) ∧ w'.cell? ⟨B, 5, none⟩ = some (.slice o.ra o.rus.length o.rc) ∧ w'.cell? ⟨B, 6, none⟩ = some (.string o.route) ∧ w'.cell? ⟨B, 7, none⟩ = some (.bool false) ∧ w'.cell? ⟨g, off + k * 8, none⟩ = some (.int .i64 q.kd) ∧ w'.cell? ⟨g, off + k * 8 + 1, none⟩ = some (.string q.nm) ∧ w'.cell? ⟨g, off + k * 8 + 2, none⟩ = some (.slice q.ea q.eps.length q.ec) ∧ w'.cell? ⟨g, off + k * 8 + 3, none⟩ = some (.slice q.ta q.tgs.length q.tc) ∧ w'.cell? ⟨g, off + k * 8 + 4, none⟩ = some (.string q.host) ∧ w'.cell? ⟨g, off + k * 8 + 5, none⟩ = some (.slice q.ra q.rus.length q.rc) ∧ w'.cell? ⟨g, off + k * 8 + 6, none⟩ = some (.string q.route) ∧ w'.cell? ⟨g, off + k * 8 + 7, none⟩ = some (.bool q.del)) (go_keep) (first
                | (go_at_call 29; refine (HIK.out _).mono ?_; rintro e w5 ⟨rfl, hw⟩; have hw := hw.symm; subst hw)
                | (go_at_call 32; refine (HCM.out _).mono ?_; rintro e w9 ⟨rfl, hg9⟩; have HG9 := hideL (HG8.out.trans hg9); obtain ⟨p0, p1, p2, p3, p4, p5, p6, p7, p8, p9, p10, p11, p12, p13, p14, p15⟩ := HS.out w9 HG9.out; clear hg9)
                | (go_at_call 19; refine (keyOf_f _ _ _ _ _ _ _ _ _ _ _ _ _ _ _).mono ?_; rintro e w8 ⟨rfl, hg8⟩; have HG8 := hideL (HG7.out.trans hg8); obtain ⟨p0, p1, p2, p3, p4, p5, p6, p7, p8, p9, p10, p11, p12, p13, p14, p15⟩ := HS.out w8 HG8.out; clear hg8)
                | (go_at_call 19; refine (keyOf_f _ _ _ _ _ _ _ _ _ _ _ _ _ _ _).mono ?_; rintro e w7 ⟨rfl, hg7⟩; have HG7 := hideL ((Gr.drewN w1 1).trans hg7); obtain ⟨p0, p1, p2, p3, p4, p5, p6, p7, p8, p9, p10, p11, p12, p13, p14, p15⟩ := HS.out w7 HG7.out; clear hg7))
              go_wp2
              go_ret
              exact ⟨ret_int (by have := HR.out; omega), HGW.out.trans HG9.out⟩
            · have hz' : decide (0 ≤ z) = false := by simpa using hz
              have HR := hideL (HGOOD.out (by rw [HOK2.out]; exact HZ.out.1 (by omega)))
              go_region_held3 (fun w' => w'.cell? ⟨B, 0, none⟩ = some (.int .i64 o.kd) ∧ w'.cell? ⟨B, 1, none⟩ = some (.string o.nm) ∧ w'.cell? ⟨B, 2, none⟩ = some (.slice o.ea o.eps.length o.ec) ∧ w'.cell? ⟨B, 3, none⟩ = some (.slice o.ta o.tgs.length o.tc) ∧ w'.cell? ⟨B, 4, none⟩ = some (.string o.host) ∧ w'.cell? ⟨B, 5, none⟩ = some (.slice o.ra o.rus.length o.rc) ∧ w'.cell? ⟨B, 6, none⟩ = some (.string o.route) ∧ w'.cell? ⟨B, 7, none⟩ = some (.bool false) ∧ w'.cell? ⟨g, off + k * 8, none⟩ = some (.int .i64 q.kd) ∧ w'.cell? ⟨g, off + k * 8 + 1, none⟩ = some (.string q.nm) ∧ w'.cell? ⟨g, off + k * 8 + 2, none⟩ = some (.slice q.ea q.eps.length q.ec) ∧ w'.cell? ⟨g, off + k * 8 + 3, none⟩ = some (.slice q.ta q.tgs.length q.tc) ∧ w'.cell? ⟨g, off + k * 8 + 4, none⟩ = some (.string q.host) ∧ w'.cell? ⟨g, off + k * 8 + 5, none⟩ = some (.slice q.ra q.rus.length q.rc) ∧ w'.cell? ⟨g, off + k * 8 + 6, none⟩ = some (.string q.route) ∧ w'.cell? ⟨g, off + k * 8 + 7, none⟩ = some (.bool q.del)) (go_keep) (first
                | (go_at_call 29; refine (HIK.out _).mono ?_; rintro e w5 ⟨rfl, hw⟩; have hw := hw.symm; subst hw)
                | (go_at_call 32; refine (HCM.out _).mono ?_; rintro e w9 ⟨rfl, hg9⟩; have HG9 := hideL (HG8.out.trans hg9); obtain ⟨p0, p1, p2, p3, p4, p5, p6, p7, p8, p9, p10, p11, p12, p13, p14, p15⟩ := HS.out w9 HG9.out; clear hg9)
                | (go_at_call 19; refine (keyOf_f _ _ _ _ _ _ _ _ _ _ _ _ _ _ _).mono ?_; rintro e w8 ⟨rfl, hg8⟩; have HG8 := hideL (HG7.out.trans hg8); obtain ⟨p0, p1, p2, p3, p4, p5, p6, p7, p8, p9, p10, p11, p12, p13, p14, p15⟩ := HS.out w8 HG8.out; clear hg8)
                | (go_at_call 19; refine (keyOf_f _ _ _ _ _ _ _ _ _ _ _ _ _ _ _).mono ?_; rintro e w7 ⟨rfl, hg7⟩; have HG7 := hideL ((Gr.drewN w1 1).trans hg7); obtain ⟨p0, p1, p2, p3, p4, p5, p6, p7, p8, p9, p10, p11, p12, p13, p14, p15⟩ := HS.out w7 HG7.out; clear hg7))
              go_wp2
              go_roundw
              case rel => exact ⟨k + 1 + 1, by go_num, by omega, HGW.out.trans HG9.out, HR.out⟩
              case measure => simp [intOf]; omega
        · have HR := hideL (HBAD.out (by rw [HOK.out, hdl]; rfl))
          rw [hdl] at e7
          go_quiet (exact (HIK.out _).mono fun e w' ⟨he, hw⟩ => ⟨he, _, hw⟩)
          go_wp2
          go_ret
          exact ⟨ret_int (by rw [HR.out]), HGW.out.trans (Gr.drewN _ _)⟩
    · have h3' : ¬ (i : Int) < n := by omega
      have HR := hideL (HAL.out (fun j x hx => HF.out j x (by have := (List.getElem?_eq_some_iff.1 hx).1; simp at this; have := HN.out; omega) hx))
      go_wp2
      go_ret
      exact ⟨ret_int (by rw [HR.out]), HG.out⟩
theorem ordered_any (w : World) (a : Option Addr) (n c : Nat) (os : List Rx) (hL : Lr w a os) (hn : os.length = n) (hs : n ≤ 4194304) :
    Calls Try.prog 14 #[.slice a n c] w fun e w' => e = .returned (.bool (decide (astF (os.map Rx.toRs) = n))) ∧ Gr w w' := by
  have H := hideL (astray_any w a n c os hL hn hs)
  clear hL
  generalize astF (os.map Rx.toRs) = A at H ⊢
  go_enter Try.func14, Try.ntmps14
  go_wp2_with fail
  refine H.out.mono ?_
  rintro e w1 ⟨rfl, hg⟩
  have HG := hideL hg
  clear hg
  go_wp2
  go_ret
  exact ⟨ret_bool (by rw [Bool.eq_iff_iff]; simp; try omega), HG.out⟩
end Go.Proofs.Ytmljljpldljpjab
