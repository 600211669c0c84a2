/-
  A line read: from the label scalar on.
-/
import Derived.Test.YtjmgngocpokpgaaDoorReaA
namespace Go.Proofs.YtjmgngocpokpgaaDoor
open Go.RowKit
set_option linter.unusedVariables false
set_option linter.unusedSimpArgs false
set_option maxHeartbeats 8000000 in
theorem at3 (l : List UInt8) (num m : Int) (w : World) (hs : l.length ≤ 2 ^ 30) (hm : w.cell? ⟨0, 0, none⟩ = some (.int .i64 m)) (Jx : Nat → Act → World → Prop) (hx0 : ∀ a w', J0 w l num a w' → Jx 0 a w') (hx1 : ∀ a w', J1 w l num a w' → Jx 1 a w') (hx4 : ∀ a w', J4 w l num a w' → Jx 4 a w') (a : Act) (w1 : World) (hj : J3 w l num a w1) : ∃ rest, findLabel (scpOf Tryd.f29) 3 = some (.seq .skip rest) ∧ rest.wp Tryd.prog (jmps Jx (bodyPost Tryd.prog Tryd.f29 (RdE w l num))) a w1 := by
  refine ⟨_, rfl, ?_⟩
  obtain ⟨⟨h1, h2, h3⟩, hJ⟩ := hj
  obtain ⟨tm, df⟩ := a
  dsimp only at h1 h2 h3
  subst h1
  obtain ⟨u0, u1, u2, u3, u4, u5, u6, u7, u8, u9, u10, u11, u12, u13, u14, u15, u16, u17, u18, u19, u20, u21, u22, u23, u24, u25, u26, u27, u28, u29, u30, u31, u32, u33, u34, u35, u36, u37, u38, u39, u40, u41, u42, u43, u44, u45, u46, u47, u48, u49, u50, u51, u52, u53, u54, u55, u56, u57, u58, u59, u60, u61, u62, u63, u64, u65, u66, u67, u68, u69, u70, u71, u72, rfl⟩ := frame73 tm h2
  obtain rfl : u6 = .pointer (some ⟨w.heap.size, 0, none⟩) := h3
  clear h2
  obtain ⟨p, tv, ts, hA, ho, hE⟩ := hJ
  have HA := hide2 hA
  have HE := hide2 hE
  clear hA hE
  have hwl : 0 < w.heap.size := World.block_lt_of_cell? w _ hm
  rcases hd : l.drop p with _ | ⟨c, r⟩
  · rw [hd] at ho; cases ho
  have HQ : Hid (scaF num l p ts = if quoF c.toNat = true then qtdF num l p ts else match plnF (c :: r) with | [] => ([], 83) | d :: t => (ts ++ [⟨4, num, p, d :: t, quoF c.toNat⟩], 0)) := by show _ = _; rw [scaF, hd]; rfl
  obtain ⟨hc, hp⟩ := first_of hd
  have hdl : (c :: r).length + p = l.length := by rw [← hd, List.length_drop]; omega
  have hdl2 : (c :: r).length ≤ 2 ^ 30 := by omega
  have c43 := fun (W : World) (R : Rd W w.heap.size w.heap.size l num p tv ts) => rest_rd R hs HA.out.le (c :: r) hd
  have c31 := fun (W : World) (hW : Below w.heap.size w W) => plain_any (c :: r) m W hdl2 ((hW.cell (p := ⟨0, 0, none⟩) hwl).trans hm)
  have lo := u8_lo c
  have hi := u8_hi c
  have hpl := plnF_le (c :: r)
  have i0 : (c :: r)[0]? = some c := rfl
  obtain ⟨d, hde⟩ : ∃ d, c :: r = d := ⟨_, rfl⟩
  simp only [hde] at hdl hdl2 c43 c31 hpl i0
  rw [hde] at HQ hd
  have HD := hide2 hd
  clear hde hd ho
  have e0 := ix_eq i0
  have l0 : (0 : Int) < d.length := by have := ix_lt i0; omega
  rcases hq : quoF c.toNat with _ | _
  · rw [hq, if_neg (by simp)] at HQ
    rcases hP : plnF d with _ | ⟨t0, t⟩
    · rw [hP] at HQ
      dsimp only at HQ
      simp only [hP] at c31
      go_wp2_with fail
      refine (c43 _ HA.out.rd).mono ?_
      rintro e w2 ⟨rfl, R2, B2⟩
      have HB2 := hide2 (HA.out.bel.trans (B2.mono HA.out.bel.size))
      have HR2 := hide2 R2
      clear R2 B2
      go_wp2_with fail
      refine (isQuote_any _ lo hi _).mono ?_
      rintro e w3 ⟨rfl, hw3⟩
      have hw3 := hw3.symm
      subst hw3
      go_wp2_with fail
      refine (c43 _ HR2.out).mono ?_
      rintro e w4 ⟨rfl, R4, B4⟩
      have HB4 := hide2 (HB2.out.trans (B4.mono HB2.out.size))
      clear R4 B4 c43
      go_wp2_with fail
      refine (c31 _ HB4.out).mono ?_
      rintro e w5 ⟨rfl, q, rfl⟩
      go_wp2_with fail
      go_step3
      exact hx0 _ _ ⟨rfl, rfl, 83, rfl, by rw [HE.out, HQ.out], by decide, below_drewN HB4.out q⟩
    · rw [hP] at HQ hpl
      dsimp only at HQ
      simp only [hP] at c31
      obtain ⟨y, hy⟩ : ∃ y, t0 :: t = y := ⟨_, rfl⟩
      have hyn : y.isEmpty = false := by rw [← hy]; rfl
      have hyn' : ¬ y = [] := by rw [← hy]; simp
      rw [hy] at HQ hpl
      simp only [hy] at c31
      clear hy hP
      have c46 := fun W => clone_any ⟨y.toArray⟩ W (show y.length ≤ _ by omega)
      have hfew := HA.out.few
      go_wp2_with fail
      refine (c43 _ HA.out.rd).mono ?_
      rintro e w2 ⟨rfl, R2, B2⟩
      have HB2 := hide2 (HA.out.bel.trans (B2.mono HA.out.bel.size))
      have HR2 := hide2 R2
      clear R2 B2
      go_wp2_with fail
      refine (isQuote_any _ lo hi _).mono ?_
      rintro e w3 ⟨rfl, hw3⟩
      have hw3 := hw3.symm
      subst hw3
      go_wp2_with fail
      refine (c43 _ HR2.out).mono ?_
      rintro e w4 ⟨rfl, R4, B4⟩
      have HB4 := hide2 (HB2.out.trans (B4.mono HB2.out.size))
      have HR4 := hide2 R4
      clear R4 B4 c43
      go_wp2_with fail
      refine (c31 _ HB4.out).mono ?_
      rintro e w5 ⟨rfl, q, hw5⟩
      have HR5 := hide2 (rd_drew HR4.out q)
      have HB5 := hide2 (below_drewN HB4.out q)
      rw [← hw5] at HR5 HB5
      clear hw5
      go_wp2_with fail
      refine (c46 _).mono ?_
      rintro e w6 ⟨rfl, B6⟩
      have HR6 := hide2 (HR5.out.below B6)
      have HB6 := hide2 (HB5.out.trans (B6.mono HB5.out.size))
      clear B6
      go_wp2_with fail
      refine (take_any l num p w.heap.size w.heap.size tv ts 4 y.length y c _ (by omega) hp hc (by omega) (by omega) HB6.out.size HR6.out).mono ?_
      rintro e w7 ⟨rfl, tv', R7, B7⟩
      have HR7 := hide2 R7
      have HB7 := hide2 (HB6.out.trans B7)
      clear R7 B7
      go_wp2_with fail
      go_step3
      exact hx1 _ _ ⟨⟨rfl, rfl, rfl⟩, _, tv', _, HR7.out, HB7.out, by rw [HE.out, HQ.out, hq]⟩
  · rw [hq, if_pos rfl] at HQ
    go_wp2_with fail
    refine (c43 _ HA.out.rd).mono ?_
    rintro e w2 ⟨rfl, R2, B2⟩
    have HB2 := hide2 (HA.out.bel.trans (B2.mono HA.out.bel.size))
    have HR2 := hide2 R2
    clear R2 B2 c43
    go_wp2_with fail
    refine (isQuote_any _ lo hi _).mono ?_
    rintro e w3 ⟨rfl, hw3⟩
    have hw3 := hw3.symm
    subst hw3
    go_wp2_with fail
    go_step3
    exact hx4 _ _ ⟨⟨rfl, rfl, rfl⟩, p, tv, ts, ⟨HR2.out, HA.out.le, HA.out.few, HB2.out⟩, hp, by rw [HE.out, HQ.out]⟩
end Go.Proofs.YtjmgngocpokpgaaDoor
