import Derived.Test.YtmmnpnhffgpchaaGreatDoorBn6
/-
  A line read: from the label scalar on.
-/
namespace Go.Proofs.YtmmnpnhffgpchaaGreatDoor.Ln
open Go.RowKit
set_option linter.unusedVariables false
set_option linter.unusedSimpArgs false
set_option maxHeartbeats 8000000 in
theorem at3 (l : List UInt8) (num m : Int) (w : World) (hs : l.length ≤ 2 ^ 30) (hm : w.cell? ⟨0, 0, none⟩ = some (.int .i64 m)) (Jx : Nat → Act → World → Prop) (hx0 : ∀ a w', J0 w l num a w' → Jx 0 a w') (hx1 : ∀ a w', J1 w l num a w' → Jx 1 a w') (hx4 : ∀ a w', J4 w l num a w' → Jx 4 a w') (a : Act) (w1 : World) (hj : J3 w l num a w1) : ∃ rest, findLabel (scpOf Tryz.f28) 3 = some (.seq .skip rest) ∧ rest.wp Tryz.prog (jmps Jx (bodyPost Tryz.prog Tryz.f28 (RdE w l num))) a w1 := by
  refine ⟨_, rfl, ?_⟩
  obtain ⟨⟨h1, h2, h3⟩, hJ⟩ := hj
  obtain ⟨tm, df⟩ := a
  dsimp only at h1 h2 h3
  subst h1
  obtain ⟨u0, u1, u2, u3, u4, u5, u6, u7, u8, u9, u10, u11, u12, u13, u14, u15, u16, u17, u18, u19, u20, u21, u22, u23, u24, u25, u26, u27, u28, u29, u30, u31, u32, u33, u34, u35, u36, u37, u38, u39, u40, u41, u42, u43, u44, u45, u46, u47, u48, u49, u50, u51, u52, u53, u54, u55, u56, u57, u58, u59, u60, u61, u62, u63, u64, u65, u66, u67, u68, u69, u70, u71, u72, rfl⟩ := frame73 tm h2
  obtain rfl : u6 = .pointer (some ⟨w.heap.size, 0, none⟩) := h3
  clear h2
  obtain ⟨p, tv, ts, hA, ho, hE⟩ := hJ
  have HA := hide2 hA
  have HE := hide2 hE
  clear hA hE
  have hwl : 0 < w.heap.size := World.block_lt_of_cell? w _ hm
  rcases hd : l.drop p with _ | ⟨c, r⟩
  · rw [hd] at ho; cases ho
  have HQ : Hid (scaF num l p ts = if quoF c.toNat = true then qtdF num l p ts else match plnF (c :: r) with | [] => ([], 83) | d :: t => (ts ++ [⟨4, num, p, d :: t, quoF c.toNat⟩], 0)) := by show _ = _; rw [scaF, hd]; rfl
  obtain ⟨hc, hp⟩ := first_of hd
  have hdl : (c :: r).length + p = l.length := by rw [← hd, List.length_drop]; omega
  have hdl2 : (c :: r).length ≤ 2 ^ 30 := by omega
  have c43 := fun (W : World) (R : Rd W w.heap.size w.heap.size l num p tv ts) => rest_rd R hs HA.out.le (c :: r) hd
  have c31 := fun (W : World) (hW : Below w.heap.size w W) => plain_any (c :: r) m W hdl2 ((hW.cell (p := ⟨0, 0, none⟩) hwl).trans hm)
  have lo := u8_lo c
  have hi := u8_hi c
  have hpl := plnF_le (c :: r)
  have i0 : (c :: r)[0]? = some c := rfl
  obtain ⟨d, hde⟩ : ∃ d, c :: r = d := ⟨_, rfl⟩
  simp only [hde] at hdl hdl2 c43 c31 hpl i0
  rw [hde] at HQ hd
  have HD := hide2 hd
  clear hde hd ho
  have e0 := ix_eq i0
  have l0 : (0 : Int) < d.length := by have := ix_lt i0; omega
  rcases hq : quoF c.toNat with _ | _
  · rw [hq, if_neg (by simp)] at HQ
    rcases hP : plnF d with _ | ⟨t0, t⟩
    · rw [hP] at HQ
      dsimp only at HQ
      simp only [hP] at c31
      go_wp2_with fail
      refine (c43 _ HA.out.rd).mono ?_
      rintro e w2 ⟨rfl, R2, B2⟩
      have HB2 := hide2 (HA.out.bel.trans (B2.mono HA.out.bel.size))
      have HR2 := hide2 R2
      clear R2 B2
      go_wp2_with fail
      refine (isQuote_any _ lo hi _).mono ?_
      rintro e w3 ⟨rfl, hw3⟩
      have hw3 := hw3.symm
      subst hw3
      go_wp2_with fail
      refine (c43 _ HR2.out).mono ?_
      rintro e w4 ⟨rfl, R4, B4⟩
      have HB4 := hide2 (HB2.out.trans (B4.mono HB2.out.size))
      clear R4 B4 c43
      go_wp2_with fail
      refine (c31 _ HB4.out).mono ?_
      rintro e w5 ⟨rfl, q, rfl⟩
      go_wp2_with fail
      go_step3
      exact hx0 _ _ ⟨rfl, rfl, 83, rfl, by rw [HE.out, HQ.out], by decide, below_drewN HB4.out q⟩
    · rw [hP] at HQ hpl
      dsimp only at HQ
      simp only [hP] at c31
      obtain ⟨y, hy⟩ : ∃ y, t0 :: t = y := ⟨_, rfl⟩
      have hyn : y.isEmpty = false := by rw [← hy]; rfl
      have hyn' : ¬ y = [] := by rw [← hy]; simp
      rw [hy] at HQ hpl
      simp only [hy] at c31
      clear hy hP
      have c46 := fun W => clone_any ⟨y.toArray⟩ W (show y.length ≤ _ by omega)
      have hfew := HA.out.few
      go_wp2_with fail
      refine (c43 _ HA.out.rd).mono ?_
      rintro e w2 ⟨rfl, R2, B2⟩
      have HB2 := hide2 (HA.out.bel.trans (B2.mono HA.out.bel.size))
      have HR2 := hide2 R2
      clear R2 B2
      go_wp2_with fail
      refine (isQuote_any _ lo hi _).mono ?_
      rintro e w3 ⟨rfl, hw3⟩
      have hw3 := hw3.symm
      subst hw3
      go_wp2_with fail
      refine (c43 _ HR2.out).mono ?_
      rintro e w4 ⟨rfl, R4, B4⟩
      have HB4 := hide2 (HB2.out.trans (B4.mono HB2.out.size))
      have HR4 := hide2 R4
      clear R4 B4 c43
      go_wp2_with fail
      refine (c31 _ HB4.out).mono ?_
      rintro e w5 ⟨rfl, q, hw5⟩
      have HR5 := hide2 (rd_drew HR4.out q)
      have HB5 := hide2 (below_drewN HB4.out q)
      rw [← hw5] at HR5 HB5
      clear hw5
      go_wp2_with fail
      refine (c46 _).mono ?_
      rintro e w6 ⟨rfl, B6⟩
      have HR6 := hide2 (HR5.out.below B6)
      have HB6 := hide2 (HB5.out.trans (B6.mono HB5.out.size))
      clear B6
      go_wp2_with fail
      refine (take_any l num p w.heap.size w.heap.size tv ts 4 y.length y c _ (by omega) hp hc (by omega) (by omega) HB6.out.size HR6.out).mono ?_
      rintro e w7 ⟨rfl, tv', R7, B7⟩
      have HR7 := hide2 R7
      have HB7 := hide2 (HB6.out.trans B7)
      clear R7 B7
      go_wp2_with fail
      go_step3
      exact hx1 _ _ ⟨⟨rfl, rfl, rfl⟩, _, tv', _, HR7.out, HB7.out, by rw [HE.out, HQ.out, hq]⟩
  · rw [hq, if_pos rfl] at HQ
    go_wp2_with fail
    refine (c43 _ HA.out.rd).mono ?_
    rintro e w2 ⟨rfl, R2, B2⟩
    have HB2 := hide2 (HA.out.bel.trans (B2.mono HA.out.bel.size))
    have HR2 := hide2 R2
    clear R2 B2 c43
    go_wp2_with fail
    refine (isQuote_any _ lo hi _).mono ?_
    rintro e w3 ⟨rfl, hw3⟩
    have hw3 := hw3.symm
    subst hw3
    go_wp2_with fail
    go_step3
    exact hx4 _ _ ⟨⟨rfl, rfl, rfl⟩, p, tv, ts, ⟨HR2.out, HA.out.le, HA.out.few, HB2.out⟩, hp, by rw [HE.out, HQ.out]⟩
end Go.Proofs.YtmmnpnhffgpchaaGreatDoor.Ln

/-
  A line read: from the label quoted on.
-/
namespace Go.Proofs.YtmmnpnhffgpchaaGreatDoor.Ln
open Go.RowKit
set_option linter.unusedVariables false
set_option linter.unusedSimpArgs false
set_option maxHeartbeats 8000000 in
theorem at4 (l : List UInt8) (num : Int) (w : World) (hs : l.length ≤ 2 ^ 30) (Jx : Nat → Act → World → Prop) (hx0 : ∀ a w', J0 w l num a w' → Jx 0 a w') (a : Act) (w1 : World) (hj : J4 w l num a w1) : ∃ rest, findLabel (scpOf Tryz.f28) 4 = some rest ∧ rest.wp Tryz.prog (jmps Jx (bodyPost Tryz.prog Tryz.f28 (RdE w l num))) a w1 := by
  refine ⟨_, rfl, ?_⟩
  obtain ⟨⟨h1, h2, h3⟩, hJ⟩ := hj
  obtain ⟨tm, df⟩ := a
  dsimp only at h1 h2 h3
  subst h1
  obtain ⟨u0, u1, u2, u3, u4, u5, u6, u7, u8, u9, u10, u11, u12, u13, u14, u15, u16, u17, u18, u19, u20, u21, u22, u23, u24, u25, u26, u27, u28, u29, u30, u31, u32, u33, u34, u35, u36, u37, u38, u39, u40, u41, u42, u43, u44, u45, u46, u47, u48, u49, u50, u51, u52, u53, u54, u55, u56, u57, u58, u59, u60, u61, u62, u63, u64, u65, u66, u67, u68, u69, u70, u71, u72, rfl⟩ := frame73 tm h2
  obtain rfl : u6 = .pointer (some ⟨w.heap.size, 0, none⟩) := h3
  clear h2
  obtain ⟨p, tv, ts, hA, hp, hE⟩ := hJ
  have HA := hide2 hA
  have HE := hide2 hE
  clear hA hE
  rcases hd : l.drop p with _ | ⟨c, r⟩
  · have := List.length_drop (l := l) (i := p); rw [hd] at this; simp at this; omega
  have HQ : Hid (qtdF num l p ts = match unqF (c :: r) with | none => ([], 82) | some (t, k) => if nulF ((c :: r).drop k) = true then (ts ++ [⟨4, num, p, t, quoF c.toNat⟩], 0) else ([], 82)) := by show _ = _; rw [qtdF, hd]; rfl
  obtain ⟨hc, _⟩ := first_of hd
  have hdl : (c :: r).length + p = l.length := by rw [← hd, List.length_drop]; omega
  have hdl2 : (c :: r).length ≤ 2 ^ 40 := by omega
  have c43 := fun (W : World) (R : Rd W w.heap.size w.heap.size l num p tv ts) => rest_rd R hs HA.out.le (c :: r) hd
  have huc := fun W => unq_any c r W hdl2
  obtain ⟨d, hde⟩ : ∃ d, c :: r = d := ⟨_, rfl⟩
  simp only [hde] at huc hdl hdl2 c43
  rw [hde] at HQ hd
  have HD := hide2 hd
  clear hde hd
  rcases hu : unqF d with _ | ⟨t, k⟩
  · rw [hu] at HQ
    dsimp only at HQ
    simp only [hu, txtE] at huc
    go_wp2_with fail
    refine (c43 _ HA.out.rd).mono ?_
    rintro e w2 ⟨rfl, R2, B2⟩
    have HB2 := hide2 (HA.out.bel.trans (B2.mono HA.out.bel.size))
    clear R2 B2 c43
    go_wp2_with fail
    refine (huc _).mono ?_
    rintro e w3 ⟨rfl, B3⟩
    have HB3 := hide2 (HB2.out.trans (B3.mono HB2.out.size))
    clear B3 huc
    go_wp2_with fail
    go_step3
    exact hx0 _ _ ⟨rfl, rfl, 82, rfl, by rw [HE.out, HQ.out], by decide, HB3.out⟩
  · obtain ⟨k1, k2⟩ := unqF_le hu
    rw [hu] at HQ
    dsimp only at HQ
    simp only [hu, txtE] at huc
    have a0 : (0 : Int) ≤ k := by omega
    have a1 : (k : Int) ≤ d.length := by omega
    have hxd := extract_drop d k
    obtain ⟨x, hx⟩ : ∃ x, d.drop k = x := ⟨_, rfl⟩
    have hxl : x.length ≤ 2 ^ 62 := by rw [← hx, List.length_drop]; omega
    rw [hx] at hxd HQ
    clear hx
    have c48 := fun W => saysNothing_any x W hxl
    rcases hn : nulF x with _ | _
    · rw [hn, if_neg (by simp)] at HQ
      simp only [hn] at c48
      go_wp2_with fail
      refine (c43 _ HA.out.rd).mono ?_
      rintro e w2 ⟨rfl, R2, B2⟩
      have HB2 := hide2 (HA.out.bel.trans (B2.mono HA.out.bel.size))
      have HR2 := hide2 R2
      clear R2 B2
      go_wp2_with fail
      refine (huc _).mono ?_
      rintro e w3 ⟨rfl, B3⟩
      have HB3 := hide2 (HB2.out.trans (B3.mono HB2.out.size))
      have HR3 := hide2 (HR2.out.below B3)
      clear B3 huc
      go_wp2_with fail
      refine (c43 _ HR3.out).mono ?_
      rintro e w4 ⟨rfl, R4, B4⟩
      have HB4 := hide2 (HB3.out.trans (B4.mono HB3.out.size))
      clear R4 B4 c43
      go_wp2_with fail
      refine (c48 _).mono ?_
      rintro e w5 ⟨rfl, rfl⟩
      go_wp2_with fail
      go_step3
      exact hx0 _ _ ⟨rfl, rfl, 82, rfl, by rw [HE.out, HQ.out], by decide, HB4.out⟩
    · rw [hn, if_pos rfl] at HQ
      simp only [hn] at c48
      go_wp2_with fail
      refine (c43 _ HA.out.rd).mono ?_
      rintro e w2 ⟨rfl, R2, B2⟩
      have HB2 := hide2 (HA.out.bel.trans (B2.mono HA.out.bel.size))
      have HR2 := hide2 R2
      clear R2 B2
      go_wp2_with fail
      refine (huc _).mono ?_
      rintro e w3 ⟨rfl, B3⟩
      have HB3 := hide2 (HB2.out.trans (B3.mono HB2.out.size))
      have HR3 := hide2 (HR2.out.below B3)
      clear B3 huc
      go_wp2_with fail
      refine (c43 _ HR3.out).mono ?_
      rintro e w4 ⟨rfl, R4, B4⟩
      have HB4 := hide2 (HB3.out.trans (B4.mono HB3.out.size))
      have HR4 := hide2 R4
      clear R4 B4 c43
      go_wp2_with fail
      refine (c48 _).mono ?_
      rintro e w5 ⟨rfl, hw5⟩
      have hw5 := hw5.symm
      subst hw5
      have hfew := HA.out.few
      go_wp2_with fail
      refine (take_any l num p w.heap.size w.heap.size tv ts 4 k t c _ (by omega) hp hc (by omega) (by omega) HB4.out.size HR4.out).mono ?_
      rintro e w6 ⟨rfl, tv', R6, B6⟩
      have c3 := R6.c3
      have HR6 := hide2 R6
      have HB6 := hide2 (HB4.out.trans B6)
      clear R6 B6
      go_wp2_with fail
      go_step3
      go_wp2
      refine jmps_ret ?_
      refine bodyPost_ret (v := .tuple #[tv', .int .i64 0]) (by simp [results, Tryz.results28, go_sem]) rfl ?_
      exact ⟨HB6.out, _, by rw [HE.out, HQ.out], by rw [HE.out, HQ.out]; exact HR6.out.own⟩
end Go.Proofs.YtmmnpnhffgpchaaGreatDoor.Ln

/-
  A line read: from the label content on.
-/
namespace Go.Proofs.YtmmnpnhffgpchaaGreatDoor.Ln
open Go.RowKit
set_option linter.unusedVariables false
set_option linter.unusedSimpArgs false
theorem place_of {w : World} {base b : Nat} {l : List UInt8} {num : Int} {p : Nat} {tv : Value} {ts : List Tk} (h : Rd w base b l num p tv ts) : placeOf b w = p := by
  unfold placeOf
  rw [h.c2]
  simp [Lib.intOf]
theorem rest_wp {P : Program} {Q : Exit → Act → World → Prop} {a : Act} {w : World} {c r : Code} {j : Nat} (h : ∃ rest, findLabel c j = some (.seq .skip rest) ∧ rest.wp P Q a w) (hr : findLabel c j = some (.seq .skip r)) : r.wp P Q a w := by
  obtain ⟨rest, h1, h2⟩ := h
  cases Option.some.inj (h1.symm.trans hr)
  exact h2
theorem skip_wp {P : Program} {Q : Exit → Act → World → Prop} {a : Act} {w : World} {c : Code} {j : Nat} (h : ∃ rest, findLabel c j = some (.seq .skip rest) ∧ rest.wp P Q a w) : ∃ rest, findLabel c j = some rest ∧ rest.wp P Q a w := by
  obtain ⟨rest, h1, h2⟩ := h
  exact ⟨_, h1, wp_seq (wp_skip h2)⟩
theorem conF_over {num : Int} {l : List UInt8} {n p : Nat} {ts : List Tk} (h : ovrF (l.drop p) = true) : conF num l (n + 1) p ts = (ts, 0) := by
  rw [conF]
  rcases hd : l.drop p with _ | ⟨c, r⟩
  · rfl
  · rw [hd] at h
    dsimp only
    rw [if_pos h]
set_option maxHeartbeats 8000000 in
theorem at2 (l : List UInt8) (num m : Int) (w : World) (hs : l.length ≤ 2 ^ 30) (hm : w.cell? ⟨0, 0, none⟩ = some (.int .i64 m)) (Jx : Nat → Act → World → Prop) (a : Act) (w1 : World) (hx0 : ∀ a w', J0 w l num a w' → Jx 0 a w') (hx1 : ∀ a w', J1 w l num a w' → Jx 1 a w') (hx4 : ∀ a w', J4 w l num a w' → Jx 4 a w') (hx3 : ∀ a w', J3 w l num a w' → Jx 3 a w') (hx2 : ∀ a w', J2 w l num a w' → l.length - placeOf w.heap.size w' < l.length - placeOf w.heap.size w1 → Jx 2 a w') (hj : J2 w l num a w1) : ∃ rest, findLabel (scpOf Tryz.f28) 2 = some (.seq .skip rest) ∧ rest.wp Tryz.prog (jmps Jx (bodyPost Tryz.prog Tryz.f28 (RdE w l num))) a w1 := by
  refine ⟨_, rfl, ?_⟩
  obtain ⟨⟨h1, h2, h3⟩, hJ⟩ := hj
  obtain ⟨tm, df⟩ := a
  dsimp only at h1 h2 h3
  subst h1
  obtain ⟨u0, u1, u2, u3, u4, u5, u6, u7, u8, u9, u10, u11, u12, u13, u14, u15, u16, u17, u18, u19, u20, u21, u22, u23, u24, u25, u26, u27, u28, u29, u30, u31, u32, u33, u34, u35, u36, u37, u38, u39, u40, u41, u42, u43, u44, u45, u46, u47, u48, u49, u50, u51, u52, u53, u54, u55, u56, u57, u58, u59, u60, u61, u62, u63, u64, u65, u66, u67, u68, u69, u70, u71, u72, rfl⟩ := frame73 tm h2
  obtain rfl : u6 = .pointer (some ⟨w.heap.size, 0, none⟩) := h3
  clear h2
  obtain ⟨n, p, tv, ts, hA, hn, hE⟩ := hJ
  have HP := hide2 (place_of hA.rd)
  have HA := hide2 hA
  have HE := hide2 hE
  have hpl := hA.le
  have hfew := hA.few
  clear hA hE
  obtain ⟨n, rfl⟩ : ∃ n', n = n' + 1 := ⟨n - 1, by omega⟩
  rcases ho : ovrF (l.drop p) with _ | _
  · rcases hd : l.drop p with _ | ⟨c, r⟩
    · rw [hd] at ho; cases ho
    have HQ : Hid (conF num l (n + 1) p ts = if itmF (c :: r) = true then conF num l n (skpF l (p + 1)) (ts ++ [⟨2, num, p, [], quoF c.toNat⟩])
      else match keyF (c :: r) with
        | none => scaF num l p ts
        | some (t, k) => if ovrF (l.drop (skpF l (p + k))) = true then (ts ++ [⟨3, num, p, t, quoF c.toNat⟩], 0) else scaF num l (skpF l (p + k)) (ts ++ [⟨3, num, p, t, quoF c.toNat⟩])) := by
      show _ = _
      rw [hd] at ho
      rw [conF, hd]
      dsimp only
      rw [if_neg (by simp [ho])]
      rfl
    obtain ⟨hc, hp⟩ := first_of hd
    have hdl : (c :: r).length + p = l.length := by rw [← hd, List.length_drop]; omega
    have hdl2 : (c :: r).length ≤ 2 ^ 40 := by omega
    have c41 := fun (W : World) (R : Rd W w.heap.size w.heap.size l num p tv ts) => over_rd R hs hpl false ho
    have c43 := fun (W : World) (R : Rd W w.heap.size w.heap.size l num p tv ts) => rest_rd R hs hpl (c :: r) hd
    have c42 := fun W => isItem_any (c :: r) W (by omega)
    have c44 := fun W => keyOf_any c r W hdl2
    obtain ⟨d, hde⟩ : ∃ d, c :: r = d := ⟨_, rfl⟩
    simp only [hde] at hdl hdl2 c43 c42 c44
    rw [hde] at HQ hd
    have HD := hide2 hd
    have HO := hide2 ho
    clear hde hd ho
    rcases hi : itmF d with _ | _
    · rw [hi, if_neg (by simp)] at HQ
      simp only [hi] at c42
      rcases hk : keyF d with _ | ⟨t, k⟩
      · rw [hk] at HQ
        dsimp only at HQ
        simp only [hk, txtE] at c44
        go_wp2_with fail
        refine (c41 _ HA.out.rd).mono ?_
        rintro e w2 ⟨rfl, R2, B2⟩
        have HB2 := hide2 (HA.out.bel.trans (B2.mono HA.out.bel.size))
        have HR2 := hide2 R2
        clear R2 B2 c41
        go_wp2_with fail
        refine (c43 _ HR2.out).mono ?_
        rintro e w3 ⟨rfl, R3, B3⟩
        have HB3 := hide2 (HB2.out.trans (B3.mono HB2.out.size))
        have HR3 := hide2 R3
        clear R3 B3
        go_wp2_with fail
        refine (c42 _).mono ?_
        rintro e w4 ⟨rfl, hw4⟩
        have hw4 := hw4.symm
        subst hw4
        clear c42
        go_wp2_with fail
        refine (c43 _ HR3.out).mono ?_
        rintro e w5 ⟨rfl, R5, B5⟩
        have HB5 := hide2 (HB3.out.trans (B5.mono HB3.out.size))
        have HR5 := hide2 R5
        clear R5 B5 c43
        go_wp2_with fail
        refine (c44 _).mono ?_
        rintro e w6 ⟨rfl, B6⟩
        have HB6 := hide2 (HB5.out.trans (B6.mono HB5.out.size))
        have HR6 := hide2 (HR5.out.below B6)
        clear B6 c44
        go_wp2_with fail
        go_step3
        exact hx3 _ _ ⟨⟨rfl, rfl, rfl⟩, p, tv, ts, ⟨HR6.out, hpl, hfew, HB6.out⟩, HO.out, by rw [HE.out, HQ.out]⟩
      · obtain ⟨k1, k2⟩ := keyF_le hk
        rw [hk] at HQ
        dsimp only at HQ
        simp only [hk, txtE] at c44
        have hsk := skpF_ge l (p + k) (by omega)
        have hsk2 := skpF_le l (p + k)
        go_wp2_with fail
        refine (c41 _ HA.out.rd).mono ?_
        rintro e w2 ⟨rfl, R2, B2⟩
        have HB2 := hide2 (HA.out.bel.trans (B2.mono HA.out.bel.size))
        have HR2 := hide2 R2
        clear R2 B2 c41
        go_wp2_with fail
        refine (c43 _ HR2.out).mono ?_
        rintro e w3 ⟨rfl, R3, B3⟩
        have HB3 := hide2 (HB2.out.trans (B3.mono HB2.out.size))
        have HR3 := hide2 R3
        clear R3 B3
        go_wp2_with fail
        refine (c42 _).mono ?_
        rintro e w4 ⟨rfl, hw4⟩
        have hw4 := hw4.symm
        subst hw4
        clear c42
        go_wp2_with fail
        refine (c43 _ HR3.out).mono ?_
        rintro e w5 ⟨rfl, R5, B5⟩
        have HB5 := hide2 (HB3.out.trans (B5.mono HB3.out.size))
        have HR5 := hide2 R5
        clear R5 B5 c43
        go_wp2_with fail
        refine (c44 _).mono ?_
        rintro e w6 ⟨rfl, B6⟩
        have HB6 := hide2 (HB5.out.trans (B6.mono HB5.out.size))
        have HR6 := hide2 (HR5.out.below B6)
        clear B6 c44
        go_wp2_with fail
        refine (take_any l num p w.heap.size w.heap.size tv ts 3 k t c _ (by omega) hp hc (by omega) (by omega) HB6.out.size HR6.out).mono ?_
        rintro e w7 ⟨rfl, tv', R7, B7⟩
        have HR7 := hide2 R7
        have HB7 := hide2 (HB6.out.trans B7)
        clear R7 B7
        go_wp2_with fail
        rcases ho2 : ovrF (l.drop (skpF l (p + k))) with _ | _
        · rw [ho2, if_neg (by simp)] at HQ
          refine (over_rd HR7.out hs hsk2 false ho2).mono ?_
          rintro e w8 ⟨rfl, R8, B8⟩
          have HB8 := hide2 (HB7.out.trans (B8.mono HB7.out.size))
          have HR8 := hide2 R8
          clear R8 B8
          go_wp2_with fail
          go_step3
          refine (‹∀ (a' : Act) (w' : World), Code.wp Tryz.prog _ (jmps Jx (bodyPost Tryz.prog Tryz.f28 (RdE w l num))) a' w' → _› _ _ ?_)
          refine rest_wp (at3 l num m w hs hm Jx hx0 hx1 hx4 _ _ ?_) rfl
          exact ⟨⟨rfl, rfl, rfl⟩, _, tv', _, ⟨HR8.out, hsk2, by simp; omega, HB8.out⟩, ho2, by rw [HE.out, HQ.out]⟩
        · rw [ho2, if_pos rfl] at HQ
          refine (over_rd HR7.out hs hsk2 true ho2).mono ?_
          rintro e w8 ⟨rfl, R8, B8⟩
          have HB8 := hide2 (HB7.out.trans (B8.mono HB7.out.size))
          have HR8 := hide2 R8
          clear R8 B8
          go_wp2_with fail
          go_step3
          exact hx1 _ _ ⟨⟨rfl, rfl, rfl⟩, _, tv', _, HR8.out, HB8.out, by rw [HE.out, HQ.out]⟩
    · rw [hi, if_pos rfl] at HQ
      simp only [hi] at c42
      have hsk := skpF_ge l (p + 1) (by omega)
      have hsk2 := skpF_le l (p + 1)
      go_wp2_with fail
      refine (c41 _ HA.out.rd).mono ?_
      rintro e w2 ⟨rfl, R2, B2⟩
      have HB2 := hide2 (HA.out.bel.trans (B2.mono HA.out.bel.size))
      have HR2 := hide2 R2
      clear R2 B2 c41
      go_wp2_with fail
      refine (c43 _ HR2.out).mono ?_
      rintro e w3 ⟨rfl, R3, B3⟩
      have HB3 := hide2 (HB2.out.trans (B3.mono HB2.out.size))
      have HR3 := hide2 R3
      clear R3 B3 c43
      go_wp2_with fail
      refine (c42 _).mono ?_
      rintro e w4 ⟨rfl, hw4⟩
      have hw4 := hw4.symm
      subst hw4
      clear c42 c44
      go_wp2_with fail
      refine (take_any l num p w.heap.size w.heap.size tv ts 2 1 [] c _ (by omega) hp hc (by omega) (by omega) HB3.out.size HR3.out).mono ?_
      rintro e w5 ⟨rfl, tv', R5, B5⟩
      have HR5 := hide2 R5
      have HB5 := hide2 (HB3.out.trans B5)
      clear R5 B5
      go_wp2_with fail
      go_step3
      exact hx2 _ _ ⟨⟨rfl, rfl, rfl⟩, n, _, tv', _, ⟨HR5.out, hsk2, by simp; omega, HB5.out⟩, by omega, by rw [HE.out, HQ.out]⟩ (by rw [HP.out, place_of HR5.out]; omega)
  · go_wp2_with fail
    refine (over_rd HA.out.rd hs hpl true ho).mono ?_
    rintro e w2 ⟨rfl, R2, B2⟩
    have HB2 := hide2 (HA.out.bel.trans (B2.mono HA.out.bel.size))
    have HR2 := hide2 R2
    clear R2 B2
    go_wp2_with fail
    go_step3
    exact hx1 _ _ ⟨⟨rfl, rfl, rfl⟩, _, tv, _, HR2.out, HB2.out, by rw [HE.out, conF_over ho]⟩
end Go.Proofs.YtmmnpnhffgpchaaGreatDoor.Ln

/-
  A line read: lines.read's contract.
-/
namespace Go.Proofs.YtmmnpnhffgpchaaGreatDoor.Ln
open Go.RowKit
set_option linter.unusedVariables false
set_option linter.unusedSimpArgs false
theorem doc_first {l : List UInt8} (h : docF l = true) : l[0]? = some 45 ∧ 3 ≤ l.length := by
  unfold docF at h
  have hp : Lib.hasPrefix l [45, 45, 45] = true := by
    rcases h' : Lib.hasPrefix l [45, 45, 45] with _ | _
    · rw [h'] at h; cases h
    · rfl
  unfold Lib.hasPrefix at hp
  obtain ⟨r, rfl⟩ := List.isPrefixOf_iff_prefix.1 hp
  exact ⟨rfl, by simp⟩
theorem skp_end (l : List UInt8) (p : Nat) (h : l.length ≤ p) : skpF l p = l.length := by
  unfold skpF
  rw [List.drop_eq_nil_of_le h]
  simp [Lib.trimLeftB]
set_option maxHeartbeats 8000000 in
theorem read_any (l : List UInt8) (num m : Int) (w : World) (hs : l.length ≤ 2 ^ 30) (hm : w.cell? ⟨0, 0, none⟩ = some (.int .i64 m)) :
    Calls Tryz.prog 28 #[.string ⟨l.toArray⟩, .int .i64 num] w (RdE w l num) := by
  have hsz : (ByteArray.mk l.toArray).size ≤ maxLen := by unfold maxLen; show l.length ≤ _; omega
  have c30 := fun W => stray_any ⟨l.toArray⟩ W hsz
  have es : strF (ByteArray.mk l.toArray).data.toList = strF l := rfl
  rw [es] at c30
  have hR0 : Rd (w.alloc (.cells #[.string ⟨l.toArray⟩, .int .i64 num, .int .i64 0, .slice none 0 0] 97)) w.heap.size w.heap.size l num 0 (.slice none 0 0) [] := ⟨Go.heap_alloc_new w _, World.ownsRow_nil _ _ _ _, Nat.le_refl _⟩
  have hB0 : Below w.heap.size w (w.alloc (.cells #[.string ⟨l.toArray⟩, .int .i64 num, .int .i64 0, .slice none 0 0] 97)) := (Below.refl _ w).alloc (Nat.le_refl _) _
  have HR0 := hide2 hR0
  have HB0 := hide2 hB0
  clear hR0 hB0
  go_enter Tryz.func28, Tryz.ntmps28
  go_wp2
  refine wp_scope_many (JJ w l num) (mu w l) ?first ?pass
  case first =>
    by_cases h0 : strF l = 0
    · have HN : Hid (readF l num = if docF l = true then ([⟨1, num, 0, [], quoF (((l[0]?).getD 0).toNat)⟩], 0) else conF num l (l.length + 1) (skpF l 0) []) := by show _ = _; rw [readF, if_neg (by simp [h0])]
      rcases hdc : docF l with _ | _
      · rw [hdc, if_neg (by simp)] at HN
        have c38 := fun W => doc_any l W hs
        simp only [hdc] at c38
        go_wp2_with fail
        refine (c30 _).mono ?_
        rintro e w1 ⟨rfl, hw1⟩
        subst hw1
        go_wp2_with fail
        refine (c38 _).mono ?_
        rintro e w1 ⟨rfl, hw1⟩
        subst hw1
        go_wp2_with fail
        refine (skip_rd HR0.out hs (Nat.zero_le _)).mono ?_
        rintro e w2 ⟨rfl, R2, B2⟩
        have HR2 := hide2 R2
        have HB2 := hide2 (HB0.out.trans B2)
        clear R2 B2
        go_wp2_with fail
        go_step3
        refine (‹∀ (a' : Act) (w' : World), Code.wp Tryz.prog _ (jmps (JJ w l num) (bodyPost Tryz.prog Tryz.f28 (RdE w l num))) a' w' → _› _ _ ?_)
        refine rest_wp (at2 l num m w hs hm (JJ w l num) _ _ (fun _ _ h => h) (fun _ _ h => h) (fun _ _ h => h) (fun _ _ h => h) (fun _ _ h _ => h) ?_) rfl
        exact ⟨⟨rfl, rfl, rfl⟩, l.length + 1, _, _, [], ⟨HR2.out, skpF_le _ _, Nat.zero_le _, HB2.out⟩, by omega, HN.out⟩
      · obtain ⟨i0, i3⟩ := doc_first hdc
        rw [hdc, if_pos rfl, i0] at HN
        have c38 := fun W => doc_any l W hs
        simp only [hdc] at c38
        go_wp2_with fail
        refine (c30 _).mono ?_
        rintro e w1 ⟨rfl, hw1⟩
        subst hw1
        go_wp2_with fail
        refine (c38 _).mono ?_
        rintro e w1 ⟨rfl, hw1⟩
        subst hw1
        go_wp2_with fail
        refine (take_any l num 0 w.heap.size w.heap.size _ [] 1 l.length [] 45 _ (by omega) (by omega) i0 (by omega) (by simp) HB0.out.size HR0.out).mono ?_
        rintro e w2 ⟨rfl, tv', R2, B2⟩
        have HR2 := hide2 R2
        have HB2 := hide2 (HB0.out.trans B2)
        clear R2 B2
        go_wp2_with fail
        go_step3
        exact ⟨⟨rfl, rfl, rfl⟩, _, tv', _, HR2.out, HB2.out, HN.out⟩
    · have HN : Hid (readF l num = ([], strF l)) := by show _ = _; rw [readF, if_pos h0]
      have h0' : (strF l != 0) = true := by simpa using h0
      go_wp2_with fail
      refine (c30 _).mono ?_
      rintro e w1 ⟨rfl, hw1⟩
      subst hw1
      go_wp2_with fail
      go_step3
      exact ⟨rfl, rfl, _, rfl, HN.out, h0, HB0.out⟩
  case pass =>
    intro j a w1 hj
    match j, hj with
    | 0, hj => exact at0 l num w _ a w1 hj
    | 1, hj => exact at1 l num w _ a w1 hj
    | 2, hj => exact skip_wp (at2 l num m w hs hm _ a w1 (fun _ _ h => ⟨h, by simp [mu]; omega⟩) (fun _ _ h => ⟨h, by simp [mu]; omega⟩) (fun _ _ h => ⟨h, by simp [mu]; omega⟩) (fun _ _ h => ⟨h, by simp [mu]; omega⟩) (fun _ _ h hl => ⟨h, by simp [mu]; omega⟩) hj)
    | 3, hj => exact skip_wp (at3 l num m w hs hm _ (fun _ _ h => ⟨h, by simp [mu]⟩) (fun _ _ h => ⟨h, by simp [mu]⟩) (fun _ _ h => ⟨h, by simp [mu]⟩) a w1 hj)
    | 4, hj => exact at4 l num w hs _ (fun _ _ h => ⟨h, by simp [mu]⟩) a w1 hj
    | (_ + 5), hj => exact hj.elim
end Go.Proofs.YtmmnpnhffgpchaaGreatDoor.Ln
