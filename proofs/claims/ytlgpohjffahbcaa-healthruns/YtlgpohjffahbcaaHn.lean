/- HealthMeets' walk. -/
import Derived.Test.YtlgpohjffahbcaaHm
namespace Go.Proofs.Ytlgpohjffahbcaa
open Go.RowKit Ieee
set_option linter.unusedVariables false
set_option linter.unusedSimpArgs false
theorem Rb.set {w : World} {b : Nat} {r r' : Ru} (h : Rb w b r) (o : Nat) (v : Value) (e : r.row.setIfInBounds o v = r'.row) : Rb (w.setCell ⟨b, o, none⟩ v) b r' := by
  unfold Rb at *
  rw [set_blk h, e]
theorem Rb.other {w : World} {b : Nat} {r : Ru} (h : Rb w b r) {b' : Nat} (o : Nat) (v : Value) (hb : b ≠ b') : Rb (w.setCell ⟨b', o, none⟩ v) b r := (Below.heap_setCell _ _ _ _ hb).trans h
theorem Rb.froz {w : World} {b : Nat} {r : Ru} (h : Rb w b r) (o : Nat) : w.frozen? ⟨b, o, none⟩ = false := by
  unfold Rb at h; simp [World.frozen?, h]
theorem Ok.mono {s : St} {n m : Nat} (h : Ok s n) (hm : n ≤ m) : Ok s m := ⟨h.f1, h.r1, h.u1, h.d1, by have := h.row; omega, by have := h.turns; omega, h.took, by have := h.timed; omega⟩
theorem Stp.mono {w w' : World} {a b : List Nat} (h : Stp w w' a a) (hs : ∀ k ∈ a, k ∈ b) : Stp w w' b b := ⟨h.os, h.tape, h.output, h.size, fun k hk hn => h.old k hk (fun hm => hn (hs k hm)), fun k hk => .inl hk⟩
theorem runO_none {r : Ru} (h : r.none = false) (n : Nat) : stO (runO r n) = none ↔ ¬ okT r.rise r.fall := by
  unfold runO bothO stO
  rw [h]
  by_cases hT : okT r.rise r.fall
  · simp [hT]
  · simp [hT]
theorem runO_keeps {r : Ru} (h : r.none = false) {n : Nat} {s : St} (hs : stO (runO r n) = some s) : s.rise = r.rise ∧ s.fall = r.fall := by
  unfold runO bothO stO at hs
  rw [h] at hs
  by_cases hT : okT r.rise r.fall
  · simp [hT] at hs
    subst hs
    exact run_keeps _ _
  · simp [hT] at hs
set_option maxRecDepth 100000 in
set_option maxHeartbeats 4000000 in
theorem meets_any (r q : Ru) (w : World) (hr : Rin w r) (hq : Rin w q) : Calls Try.prog 7 #[r.val, q.val] w fun e w' => e = .returned (.bool true) ∧ Below w.heap.size w w' := by
  obtain ⟨w1, hw1⟩ : ∃ w1, w.alloc (.cells #[.int .i64 r.rise, .int .i64 r.fall, .slice r.a r.L.length r.c, .int .i64 r.cp, .bool r.none] 24 (0, 0)) = w1 := ⟨_, rfl⟩
  obtain ⟨w2, hw2⟩ : ∃ w2, w1.alloc (.cells #[.int .i64 q.rise, .int .i64 q.fall, .slice q.a q.L.length q.c, .int .i64 q.cp, .bool q.none] 24 (0, 0)) = w2 := ⟨_, rfl⟩
  have hB1 : Below w.heap.size w w1 := hw1 ▸ (Below.refl _ w).alloc (Nat.le_refl _) _
  have hB2 : Below w1.heap.size w1 w2 := hw2 ▸ (Below.refl _ w1).alloc (Nat.le_refl _) _
  have h01 : Rb w1 w.heap.size r := (hw1 ▸ Go.heap_alloc_new w (.cells r.row 24 (0, 0)) : w1.heap[w.heap.size]? = some (.cells r.row 24 (0, 0)))
  have hk1 : Rb w2 w.heap.size r := (hB2.block _ (lt_of_block h01)).trans h01
  have hk2 : Rb w2 w1.heap.size q := (hw2 ▸ Go.heap_alloc_new w1 (.cells q.row 24 (0, 0)) : w2.heap[w1.heap.size]? = some (.cells q.row 24 (0, 0)))
  have hne : w.heap.size ≠ w1.heap.size := by have := lt_of_block h01; omega
  have hB : Below w.heap.size w w2 := hB1.trans (hB2.mono hB1.size)
  have HB := hide2 hB
  have HW := hide2 hB1.size
  have HR := hide2 (hr.below hB)
  have HQ := hide2 (hq.below hB)
  have HK1 := hide2 hk1
  have HK2 := hide2 hk2
  have HNE := hide2 hne
  have hrw := hide2 hr
  have hqw := hide2 hq
  have ha := awake_any w2
  unfold Ru.val at *
  clear hr hq hB hB1 hB2 hk1 hk2 h01 hne
  go_enter Try.func7, Try.ntmps7
  go_wp2_with fail
  refine ha.mono ?_
  rintro e w3 ⟨rfl, hb3⟩
  have g1 := HK1.out.below hb3 (lt_of_block HK1.out)
  have g2 := HK2.out.below hb3 (lt_of_block HK2.out)
  obtain ⟨m0, m1, m2, m3, m4⟩ := g1.cells
  obtain ⟨n0, n1, n2, n3, n4⟩ := g2.cells
  have z1 := g1.froz
  have z2 := g2.froz
  have HB3 := hide2 hb3
  have G1 := hide2 g1
  have G2 := hide2 g2
  obtain ⟨p1, hp1⟩ : ∃ p1, w.heap.size = p1 := ⟨_, rfl⟩
  obtain ⟨p2, hp2⟩ : ∃ p2, w1.heap.size = p2 := ⟨_, rfl⟩
  have HP := hide2 (And.intro hp1 hp2)
  have hpp : p1 ≠ p2 := by rw [← hp1, ← hp2]; exact HNE.out
  rw [hp1] at m0 m1 m2 m3 m4 z1
  rw [hp2] at n0 n1 n2 n3 n4 z2
  simp only [hp1, hp2]
  clear ha hb3 hw1 hw2 g1 g2 hp1 hp2
  go_upto_region 7 with fail
  obtain ⟨r', hr'⟩ : ∃ r' : Ru, ({ r with none := false } : Ru) = r' := ⟨_, rfl⟩
  obtain ⟨q', hq'⟩ : ∃ q' : Ru, ({ q with rise := r.rise, fall := r.fall, none := false } : Ru) = q' := ⟨_, rfl⟩
  obtain ⟨w5, hw5⟩ : ∃ w5, (((w3.setCell ⟨p2, 0, none⟩ (.int .i64 r.rise)).setCell ⟨p2, 1, none⟩ (.int .i64 r.fall)).setCell ⟨p1, 4, none⟩ (.bool false)).setCell ⟨p2, 4, none⟩ (.bool false) = w5 := ⟨_, rfl⟩
  have hS5 : Stp w3 w5 [p1, p2] [p1, p2] := hw5 ▸ (((Stp.set p2 0 _ (by simp)).trans (Stp.set p2 1 _ (by simp))).trans (Stp.set p1 4 _ (by simp))).trans (Stp.set p2 4 _ (by simp))
  have k1 : Rb w5 p1 r' := by
    have h0 : Rb w3 p1 r := HP.out.1 ▸ G1.out
    rw [← hw5, ← hr']
    exact (((h0.other (b' := p2) 0 _ hpp).other (b' := p2) 1 _ hpp).set (r' := { r with none := false }) 4 (.bool false) rfl).other (b' := p2) 4 _ hpp
  have k2 : Rb w5 p2 q' := by
    have h0 : Rb w3 p2 q := HP.out.2 ▸ G2.out
    rw [← hw5, ← hq']
    exact (((h0.set (r' := { q with rise := r.rise }) 0 (.int .i64 r.rise) rfl).set (r' := { q with rise := r.rise, fall := r.fall }) 1 (.int .i64 r.fall) rfl).other (b' := p1) 4 (.bool false) hpp.symm).set (r' := { q with rise := r.rise, fall := r.fall, none := false }) 4 (.bool false) rfl
  have hB5 : Below w.heap.size w3 w5 := hS5.below (fun x hx => by have := HP.out; have := HW.out; simp at hx; omega) (Nat.le_trans HB.out.size HB3.out.size)
  have HB5 := hide2 (HB.out.trans ((HB3.out.mono HB.out.size).trans hB5))
  have hlow : p1 < w2.heap.size ∧ p2 < w2.heap.size := ⟨by rw [← HP.out.1]; exact lt_of_block HK1.out, by rw [← HP.out.2]; exact lt_of_block HK2.out⟩
  have hRin : ∀ {x : Ru}, Rin w x → Rin w5 x := fun hx => hx.below HB5.out
  have R5 : Rin w5 r' := by rw [← hr']; exact ⟨(hRin hrw.out).p, (hRin hrw.out).r1, (hRin hrw.out).f1, (hRin hrw.out).c1⟩
  have Q5 : Rin w5 q' := by rw [← hq']; exact ⟨(hRin hqw.out).p, (hRin hrw.out).r1, (hRin hrw.out).f1, (hRin hqw.out).c1⟩
  have HE : Hid (r'.none = false ∧ q'.none = false ∧ q'.rise = r'.rise ∧ q'.fall = r'.fall) := by rw [← hr', ← hq']; exact ⟨rfl, rfl, rfl, rfl⟩
  have R5H := hide2 R5
  have Q5H := hide2 Q5
  have K1 := hide2 k1
  have K2 := hide2 k2
  have PP := hide2 hpp
  rw [hw5]
  clear m0 m1 m2 m3 m4 n0 n1 n2 n3 n4
  obtain ⟨m0, m1, m2, m3, m4⟩ := k1.cells
  obtain ⟨n0, n1, n2, n3, n4⟩ := k2.cells
  have hbr := both_any r' w5 R5
  unfold Ru.val at hbr
  clear R5 Q5 k1 k2 hS5 hw5 hB5 hlow hpp hr' hq' z1 z2 G1 G2 HK1 HK2
  go_wp2_with fail
  refine hbr.mono ?_
  rintro e w6 ⟨v1, b1o, u1, bs1, rfl, hT1, hb6⟩
  have HT1 := hide2 hT1
  have HB6 := hide2 hb6
  obtain ⟨n0, n1, n2, n3, n4⟩ := (K2.out.below hb6 (lt_of_block K2.out)).cells
  have hbq := both_any q' w6 (Q5H.out.below hb6)
  unfold Ru.val at hbq
  clear hbr m0 m1 m2 m3 m4 hT1 hb6 hRin
  clear n0 n1 n2 n3 n4
  obtain ⟨n0, n1, n2, n3, n4⟩ := (K2.out.below HB6.out (lt_of_block K2.out)).cells
  go_wp2_with fail
  refine hbq.mono ?_
  rintro e w7 ⟨v2, b2o, u2, bs2, rfl, hT2, hb7⟩
  have HB7 := hide2 (HB6.out.trans (hb7.mono HB6.out.size))
  have hT17 := HT1.out.below hb7
  have hlt6 := HT1.out.pv.lt
  have hap2 := hT2.apart
  clear hbq n0 n1 n2 n3 n4
  rcases hT17.pv.cases_ with ⟨rfl, he, rfl⟩ | ⟨b1, s1, rfl, he, rfl, hs1⟩
  · have he2 := (runO_none HE.out.1 200).1 he
    rw [← HE.out.2.2.1, ← HE.out.2.2.2] at he2
    have he3 := (runO_none HE.out.2.1 200).2 he2
    rcases hT2.pv.cases_ with ⟨rfl, _, rfl⟩ | ⟨b2, s2, rfl, he4, rfl, hs2⟩
    · clear hT17 hT2 he he2 he3 hb7 hlt6 hap2
      go_wp2_with fail
      go_ret
      exact ⟨rfl, HB5.out.trans (HB7.out.mono HB5.out.size)⟩
    · rw [he3] at he4; cases he4
  · have he2 : okT r'.rise r'.fall := Classical.byContradiction fun h => by
      have := (runO_none HE.out.1 200).2 h
      rw [he] at this; cases this
    have he3 : okT q'.rise q'.fall := by rw [HE.out.2.2.1, HE.out.2.2.2]; exact he2
    rcases hT2.pv.cases_ with ⟨rfl, he4, rfl⟩ | ⟨b2, s2, rfl, he4, rfl, hs2⟩
    · exact absurd he3 ((runO_none HE.out.2.1 200).1 he4)
    · have o1 := ((runO_ok R5H.out 200).mono (m := 900) (by decide)).st s1 he
      have o2 := ((runO_ok Q5H.out 200).mono (m := 900) (by decide)).st s2 he4
      have f1 := runO_keeps HE.out.1 he
      have f2 := runO_keeps HE.out.2.1 he4
      rw [HE.out.2.2.1, HE.out.2.2.2] at f2
      have hb12 : b1 < b2 := by
        have h1 := hlt6 b1 rfl
        have h2 := (hap2 b2 rfl).1
        omega
      have hk1 : Rb w7 p1 r' := K1.out.below HB7.out (lt_of_block K1.out)
      have hp1b : p1 < w5.heap.size := lt_of_block K1.out
      have hb1b := (hT17.apart b1 rfl).1
      have HS := hide2 (And.intro hs1 (And.intro hs2 (And.intro o1 (And.intro o2 (And.intro f1 f2)))))
      have O1H := hide2 o1
      have O2H := hide2 o2
      have HST0 : Hid (Stp w7 w7 [b1, b2] [b1, b2]) := Stp.refl _ _
      have HNB := hide2 (And.intro hb12 (And.intro hp1b hb1b))
      obtain ⟨R, hR⟩ : ∃ R : Nat, (R : Int) = r'.rise := ⟨r'.rise.toNat, by have := he2.1; omega⟩
      obtain ⟨F, hF⟩ : ∃ F : Nat, (F : Int) = r'.fall := ⟨r'.fall.toNat, by have := he2.2.2.1; omega⟩
      have hRF : R ≤ 100 ∧ F ≤ 100 := by obtain ⟨z1, z2, z3, z4⟩ := he2; omega
      have HRF := hide2 (And.intro hR hF)
      have HCell : Hid (∀ wx, Stp w7 wx [b1, b2] [b1, b2] → wx.cell? ⟨p1, 0, none⟩ = some (.int .i64 (R : Int)) ∧ wx.cell? ⟨p1, 1, none⟩ = some (.int .i64 (F : Int))) := fun wx hx => by
        have hb : Rb wx p1 r' := (hx.old p1 (lt_of_block hk1) (by simp; omega)).trans hk1
        obtain ⟨z0, z1, _⟩ := hb.cells
        rw [hR, hF]; exact ⟨z0, z1⟩
      obtain ⟨c0, c1⟩ := HCell.out w7 (Stp.refl _ _)
      clear hT17 hT2 he he2 he3 he4 hb7 hlt6 hap2 hs1 hs2 o1 o2 f1 f2 hb12 hk1 hp1b hb1b hR hF
      go_wp2_with fail
      go_loopw [9] (fun t wr => ∃ j : Nat, j ≤ R ∧ t = .int .i64 j ∧ Hid (Hs wr b1 (runL s1 (rep true j)) ∧ Hs wr b2 (runL s2 (rep true j)) ∧ Stp w7 wr [b1, b2] [b1, b2])) (fun t _ => R - (intOf t).toNat)
      case atStart => exact ⟨0, by omega, rfl, (⟨HS.out.1, HS.out.2.1, Stp.refl _ _⟩ : Hs w7 b1 s1 ∧ Hs w7 b2 s2 ∧ Stp w7 w7 [b1, b2] [b1, b2])⟩
      case round =>
        obtain ⟨j, hj, rfl, HV⟩ := hrel
        obtain ⟨x1, x2, hst⟩ := HV.out
        have HX := hide2 (And.intro x1 (And.intro x2 hst))
        have k0 : (0 : Int) ≤ j := by omega
        by_cases hlt : j < R
        · have e1 := probe_any b1 _ 2000 true W1 wr x1 ((O1H.out.run (L := rep true j)).mono (by rw [show (rep true j).length = j from List.length_replicate]; omega)) (by decide) (by decide)
          have hne : b2 ∉ [b1] := by have := HNB.out.1; simp; omega
          have hne1 : b1 ∉ [b2] := by have := HNB.out.1; simp; omega
          have HNE2 := hide2 (And.intro hne hne1)
          obtain ⟨d0, d1⟩ := HCell.out wr (HST0.out.trans hst)
          have HJ := hide2 hlt
          have k1 : (j : Int) < R := by omega
          clear x1 x2 hst hne hne1 c0 c1 hj hlt
          go_wp2_with fail
          refine e1.mono ?_
          rintro e w8 ⟨rfl, y1, ys⟩
          have HY := hide2 (And.intro y1 ys)
          have e2 := probe_any b2 _ 2000 true W1 w8 (ys.hs HX.out.2.1 HNE2.out.1) ((O2H.out.run (L := rep true j)).mono (by rw [show (rep true j).length = j from List.length_replicate]; have := HJ.out; omega)) (by decide) (by decide)
          clear e1 y1 ys
          go_wp2_with fail
          refine e2.mono ?_
          rintro e w9 ⟨rfl, z2, zs⟩
          have HZ := hide2 (And.intro z2 zs)
          clear e2 z2 zs
          go_wp2_with fail
          go_roundw
          case rel =>
            refine ⟨j + 1, by have := HJ.out; omega, by go_num, (⟨?_, ?_, ?_⟩ : Hs w9 b1 (runL s1 (rep true (j + 1))) ∧ Hs w9 b2 (runL s2 (rep true (j + 1))) ∧ Stp w7 w9 [b1, b2] [b1, b2])⟩
            · rw [run_rep]; exact HZ.out.2.hs HY.out.1 HNE2.out.2
            · rw [run_rep]; exact HZ.out.1
            · exact HX.out.2.2.trans ((HY.out.2.mono (by simp)).trans (HZ.out.2.mono (by simp)))
          case measure => simp [intOf]; have := HJ.out; omega
        · obtain rfl : j = R := by omega
          have g1 := goods_up O1H.out (by have := HRF.out.1; have := HS.out.2.2.2.2.1.1; omega : (j : Int) = s1.rise)
          have g2 := goods_up O2H.out (by have := HRF.out.1; have := HS.out.2.2.2.2.2.1; omega : (j : Int) = s2.rise)
          have q1 := run_keeps (rep true j) s1
          have q2 := run_keeps (rep true j) s2
          have o1 : Ok (runL s1 (rep true j)) 1000 := (O1H.out.run (L := rep true j)).mono (by rw [show (rep true j).length = j from List.length_replicate]; omega)
          have o2 : Ok (runL s2 (rep true j)) 1000 := (O2H.out.run (L := rep true j)).mono (by rw [show (rep true j).length = j from List.length_replicate]; omega)
          obtain ⟨d0, d1⟩ := HCell.out wr hst
          have a1 := healthy_any _ _ _ wr x1.pv
          have a2 := healthy_any _ _ _ wr x2.pv
          obtain ⟨S1, hS1⟩ : ∃ S1, runL s1 (rep true j) = S1 := ⟨_, rfl⟩
          obtain ⟨S2, hS2⟩ : ∃ S2, runL s2 (rep true j) = S2 := ⟨_, rfl⟩
          rw [hS1] at g1 q1 o1 a1 x1
          rw [hS2] at g2 q2 o2 a2 x2
          replace a1 : Calls Try.prog 20 #[.pointer (some ⟨b1, 0, none⟩)] wr fun e w' => e = .returned (.bool true) ∧ w' = wr := by rw [← g1.1]; exact a1
          replace a2 : Calls Try.prog 20 #[.pointer (some ⟨b2, 0, none⟩)] wr fun e w' => e = .returned (.bool true) ∧ w' = wr := by rw [← g2.1]; exact a2
          have HG := hide2 (And.intro g1 (And.intro g2 (And.intro q1 q2)))
          have HX2 := hide2 (And.intro x1 x2)
          have HST1 := hide2 hst
          have O1G := hide2 o1
          have O2G := hide2 o2
          clear x1 x2 hst g1 g2 q1 q2 o1 o2 hS1 hS2 HX HV c0 c1 hj hlt
          go_wp2_with (first
            | (go_at_call_of 20 [Value.pointer (some ⟨b1, 0, none⟩)]; refine a1.mono ?_; rintro e w8 ⟨rfl, rfl⟩)
            | (go_at_call_of 20 [Value.pointer (some ⟨b2, 0, none⟩)]; refine a2.mono ?_; rintro e w8 ⟨rfl, rfl⟩))
          clear a1 a2
          rename World => wg
          go_loopw [10] (fun t wr => ∃ j : Nat, j ≤ F ∧ t = .int .i64 j ∧ Hid (Hs wr b1 (runL S1 (rep false j)) ∧ Hs wr b2 (runL S2 (rep false j)) ∧ Stp wg wr [b1, b2] [b1, b2])) (fun t _ => F - (intOf t).toNat)
          case atStart => exact ⟨0, by omega, rfl, (⟨HX2.out.1, HX2.out.2, Stp.refl _ _⟩ : Hs wg b1 S1 ∧ Hs wg b2 S2 ∧ Stp wg wg [b1, b2] [b1, b2])⟩
          case round =>
            obtain ⟨j, hj, rfl, HV⟩ := hrel
            obtain ⟨x1, x2, hst⟩ := HV.out
            have HX := hide2 (And.intro x1 (And.intro x2 hst))
            have k0' : (0 : Int) ≤ j := by omega
            by_cases hlt : j < F
            · have e1 := probe_any b1 _ 2000 false W1 wr x1 ((O1G.out.run (L := rep false j)).mono (by rw [show (rep false j).length = j from List.length_replicate]; omega)) (by decide) (by decide)
              have hne : b2 ∉ [b1] := by have := HNB.out.1; simp; omega
              have hne1 : b1 ∉ [b2] := by have := HNB.out.1; simp; omega
              have HNE2 := hide2 (And.intro hne hne1)
              obtain ⟨d0', d1'⟩ := HCell.out wr (HST1.out.trans hst)
              have HJ := hide2 hlt
              have k1 : (j : Int) < F := by omega
              clear x1 x2 hst hne hne1 d0 d1 hj hlt
              go_wp2_with fail
              refine e1.mono ?_
              rintro e w8 ⟨rfl, y1, ys⟩
              have HY := hide2 (And.intro y1 ys)
              have e2 := probe_any b2 _ 2000 false W1 w8 (ys.hs HX.out.2.1 HNE2.out.1) ((O2G.out.run (L := rep false j)).mono (by rw [show (rep false j).length = j from List.length_replicate]; have := HJ.out; omega)) (by decide) (by decide)
              clear e1 y1 ys
              go_wp2_with fail
              refine e2.mono ?_
              rintro e w9 ⟨rfl, z2, zs⟩
              have HZ := hide2 (And.intro z2 zs)
              clear e2 z2 zs
              go_wp2_with fail
              go_roundw
              case rel =>
                refine ⟨j + 1, by have := HJ.out; omega, by go_num, (⟨?_, ?_, ?_⟩ : Hs w9 b1 (runL S1 (rep false (j + 1))) ∧ Hs w9 b2 (runL S2 (rep false (j + 1))) ∧ Stp wg w9 [b1, b2] [b1, b2])⟩
                · rw [run_rep]; exact HZ.out.2.hs HY.out.1 HNE2.out.2
                · rw [run_rep]; exact HZ.out.1
                · exact HX.out.2.2.trans ((HY.out.2.mono (by simp)).trans (HZ.out.2.mono (by simp)))
              case measure => simp [intOf]; have := HJ.out; omega
            · obtain rfl : j = F := by omega
              obtain ⟨⟨g1u, g1r⟩, ⟨g2u, g2r⟩, ⟨_, q1⟩, ⟨_, q2⟩⟩ := HG.out
              have l1 := bads_down g1u g1r O1G.out.f1.1 (by have := HRF.out.2; have := HS.out.2.2.2.2.1.2; omega : (j : Int) = S1.fall)
              have l2 := bads_down g2u g2r O2G.out.f1.1 (by have := HRF.out.2; have := HS.out.2.2.2.2.2.2; omega : (j : Int) = S2.fall)
              obtain ⟨d0', d1'⟩ := HCell.out wr (HST1.out.trans hst)
              have a1 := healthy_any _ _ _ wr x1.pv
              have a2 := healthy_any _ _ _ wr x2.pv
              have r1 := row_any _ _ _ wr x1.pv
              have r2 := row_any _ _ _ wr x2.pv
              have hBF : Below w.heap.size w wr := HB5.out.trans ((HB7.out.trans ((HST1.out.trans hst).below (base := w5.heap.size) (fun k hk => by have := HNB.out; simp at hk; omega) HB7.out.size)).mono HB5.out.size)
              have HBF := hide2 hBF
              replace a1 : Calls Try.prog 20 #[.pointer (some ⟨b1, 0, none⟩)] wr fun e w' => e = .returned (.bool false) ∧ w' = wr := by rw [← l1.1]; exact a1
              replace a2 : Calls Try.prog 20 #[.pointer (some ⟨b2, 0, none⟩)] wr fun e w' => e = .returned (.bool false) ∧ w' = wr := by rw [← l2.1]; exact a2
              replace r1 : Calls Try.prog 22 #[.pointer (some ⟨b1, 0, none⟩)] wr fun e w' => e = .returned (.int .i64 0) ∧ w' = wr := by rw [← l1.2]; exact r1
              replace r2 : Calls Try.prog 22 #[.pointer (some ⟨b2, 0, none⟩)] wr fun e w' => e = .returned (.int .i64 0) ∧ w' = wr := by rw [← l2.2]; exact r2
              clear x1 x2 hst l1 l2 hBF g1u g1r g2u g2r q1 q2 HX HV d0 d1 hj hlt
              go_wp2_with (first
                | (go_at_call_of 20 [Value.pointer (some ⟨b1, 0, none⟩)]; refine a1.mono ?_; rintro e w8 ⟨rfl, rfl⟩)
                | (go_at_call_of 20 [Value.pointer (some ⟨b2, 0, none⟩)]; refine a2.mono ?_; rintro e w8 ⟨rfl, rfl⟩)
                | (go_at_call_of 22 [Value.pointer (some ⟨b1, 0, none⟩)]; refine r1.mono ?_; rintro e w8 ⟨rfl, rfl⟩)
                | (go_at_call_of 22 [Value.pointer (some ⟨b2, 0, none⟩)]; refine r2.mono ?_; rintro e w8 ⟨rfl, rfl⟩))
              go_ret
              exact ⟨rfl, HBF.out⟩
end Go.Proofs.Ytlgpohjffahbcaa
