/-
  A line read: from the label content on.
-/
import Derived.Test.YtjmgngocpokpgaaDoorRea3
import Derived.Test.YtjmgngocpokpgaaDoorRea4
namespace Go.Proofs.YtjmgngocpokpgaaDoor
open Go.RowKit
set_option linter.unusedVariables false
set_option linter.unusedSimpArgs false
theorem place_of {w : World} {base b : Nat} {l : List UInt8} {num : Int} {p : Nat} {tv : Value} {ts : List Tk} (h : Rd w base b l num p tv ts) : placeOf b w = p := by
  unfold placeOf
  rw [h.c2]
  simp [Lib.intOf]
theorem rest_wp {P : Program} {Q : Exit → Act → World → Prop} {a : Act} {w : World} {c r : Code} {j : Nat} (h : ∃ rest, findLabel c j = some (.seq .skip rest) ∧ rest.wp P Q a w) (hr : findLabel c j = some (.seq .skip r)) : r.wp P Q a w := by
  obtain ⟨rest, h1, h2⟩ := h
  cases Option.some.inj (h1.symm.trans hr)
  exact h2
theorem skip_wp {P : Program} {Q : Exit → Act → World → Prop} {a : Act} {w : World} {c : Code} {j : Nat} (h : ∃ rest, findLabel c j = some (.seq .skip rest) ∧ rest.wp P Q a w) : ∃ rest, findLabel c j = some rest ∧ rest.wp P Q a w := by
  obtain ⟨rest, h1, h2⟩ := h
  exact ⟨_, h1, wp_seq (wp_skip h2)⟩
theorem conF_over {num : Int} {l : List UInt8} {n p : Nat} {ts : List Tk} (h : ovrF (l.drop p) = true) : conF num l (n + 1) p ts = (ts, 0) := by
  rw [conF]
  rcases hd : l.drop p with _ | ⟨c, r⟩
  · rfl
  · rw [hd] at h
    dsimp only
    rw [if_pos h]
set_option maxHeartbeats 8000000 in
theorem at2 (l : List UInt8) (num m : Int) (w : World) (hs : l.length ≤ 2 ^ 30) (hm : w.cell? ⟨0, 0, none⟩ = some (.int .i64 m)) (Jx : Nat → Act → World → Prop) (a : Act) (w1 : World) (hx0 : ∀ a w', J0 w l num a w' → Jx 0 a w') (hx1 : ∀ a w', J1 w l num a w' → Jx 1 a w') (hx4 : ∀ a w', J4 w l num a w' → Jx 4 a w') (hx3 : ∀ a w', J3 w l num a w' → Jx 3 a w') (hx2 : ∀ a w', J2 w l num a w' → l.length - placeOf w.heap.size w' < l.length - placeOf w.heap.size w1 → Jx 2 a w') (hj : J2 w l num a w1) : ∃ rest, findLabel (scpOf Tryd.f29) 2 = some (.seq .skip rest) ∧ rest.wp Tryd.prog (jmps Jx (bodyPost Tryd.prog Tryd.f29 (RdE w l num))) a w1 := by
  refine ⟨_, rfl, ?_⟩
  obtain ⟨⟨h1, h2, h3⟩, hJ⟩ := hj
  obtain ⟨tm, df⟩ := a
  dsimp only at h1 h2 h3
  subst h1
  obtain ⟨u0, u1, u2, u3, u4, u5, u6, u7, u8, u9, u10, u11, u12, u13, u14, u15, u16, u17, u18, u19, u20, u21, u22, u23, u24, u25, u26, u27, u28, u29, u30, u31, u32, u33, u34, u35, u36, u37, u38, u39, u40, u41, u42, u43, u44, u45, u46, u47, u48, u49, u50, u51, u52, u53, u54, u55, u56, u57, u58, u59, u60, u61, u62, u63, u64, u65, u66, u67, u68, u69, u70, u71, u72, rfl⟩ := frame73 tm h2
  obtain rfl : u6 = .pointer (some ⟨w.heap.size, 0, none⟩) := h3
  clear h2
  obtain ⟨n, p, tv, ts, hA, hn, hE⟩ := hJ
  have HP := hide2 (place_of hA.rd)
  have HA := hide2 hA
  have HE := hide2 hE
  have hpl := hA.le
  have hfew := hA.few
  clear hA hE
  obtain ⟨n, rfl⟩ : ∃ n', n = n' + 1 := ⟨n - 1, by omega⟩
  rcases ho : ovrF (l.drop p) with _ | _
  · rcases hd : l.drop p with _ | ⟨c, r⟩
    · rw [hd] at ho; cases ho
    have HQ : Hid (conF num l (n + 1) p ts = if itmF (c :: r) = true then conF num l n (skpF l (p + 1)) (ts ++ [⟨2, num, p, [], quoF c.toNat⟩])
      else match keyF (c :: r) with
        | none => scaF num l p ts
        | some (t, k) => if ovrF (l.drop (skpF l (p + k))) = true then (ts ++ [⟨3, num, p, t, quoF c.toNat⟩], 0) else scaF num l (skpF l (p + k)) (ts ++ [⟨3, num, p, t, quoF c.toNat⟩])) := by
      show _ = _
      rw [hd] at ho
      rw [conF, hd]
      dsimp only
      rw [if_neg (by simp [ho])]
      rfl
    obtain ⟨hc, hp⟩ := first_of hd
    have hdl : (c :: r).length + p = l.length := by rw [← hd, List.length_drop]; omega
    have hdl2 : (c :: r).length ≤ 2 ^ 40 := by omega
    have c41 := fun (W : World) (R : Rd W w.heap.size w.heap.size l num p tv ts) => over_rd R hs hpl false ho
    have c43 := fun (W : World) (R : Rd W w.heap.size w.heap.size l num p tv ts) => rest_rd R hs hpl (c :: r) hd
    have c42 := fun W => isItem_any (c :: r) W (by omega)
    have c44 := fun W => keyOf_any c r W hdl2
    obtain ⟨d, hde⟩ : ∃ d, c :: r = d := ⟨_, rfl⟩
    simp only [hde] at hdl hdl2 c43 c42 c44
    rw [hde] at HQ hd
    have HD := hide2 hd
    have HO := hide2 ho
    clear hde hd ho
    rcases hi : itmF d with _ | _
    · rw [hi, if_neg (by simp)] at HQ
      simp only [hi] at c42
      rcases hk : keyF d with _ | ⟨t, k⟩
      · rw [hk] at HQ
        dsimp only at HQ
        simp only [hk, txtE] at c44
        go_wp2_with fail
        refine (c41 _ HA.out.rd).mono ?_
        rintro e w2 ⟨rfl, R2, B2⟩
        have HB2 := hide2 (HA.out.bel.trans (B2.mono HA.out.bel.size))
        have HR2 := hide2 R2
        clear R2 B2 c41
        go_wp2_with fail
        refine (c43 _ HR2.out).mono ?_
        rintro e w3 ⟨rfl, R3, B3⟩
        have HB3 := hide2 (HB2.out.trans (B3.mono HB2.out.size))
        have HR3 := hide2 R3
        clear R3 B3
        go_wp2_with fail
        refine (c42 _).mono ?_
        rintro e w4 ⟨rfl, hw4⟩
        have hw4 := hw4.symm
        subst hw4
        clear c42
        go_wp2_with fail
        refine (c43 _ HR3.out).mono ?_
        rintro e w5 ⟨rfl, R5, B5⟩
        have HB5 := hide2 (HB3.out.trans (B5.mono HB3.out.size))
        have HR5 := hide2 R5
        clear R5 B5 c43
        go_wp2_with fail
        refine (c44 _).mono ?_
        rintro e w6 ⟨rfl, B6⟩
        have HB6 := hide2 (HB5.out.trans (B6.mono HB5.out.size))
        have HR6 := hide2 (HR5.out.below B6)
        clear B6 c44
        go_wp2_with fail
        go_step3
        exact hx3 _ _ ⟨⟨rfl, rfl, rfl⟩, p, tv, ts, ⟨HR6.out, hpl, hfew, HB6.out⟩, HO.out, by rw [HE.out, HQ.out]⟩
      · obtain ⟨k1, k2⟩ := keyF_le hk
        rw [hk] at HQ
        dsimp only at HQ
        simp only [hk, txtE] at c44
        have hsk := skpF_ge l (p + k) (by omega)
        have hsk2 := skpF_le l (p + k)
        go_wp2_with fail
        refine (c41 _ HA.out.rd).mono ?_
        rintro e w2 ⟨rfl, R2, B2⟩
        have HB2 := hide2 (HA.out.bel.trans (B2.mono HA.out.bel.size))
        have HR2 := hide2 R2
        clear R2 B2 c41
        go_wp2_with fail
        refine (c43 _ HR2.out).mono ?_
        rintro e w3 ⟨rfl, R3, B3⟩
        have HB3 := hide2 (HB2.out.trans (B3.mono HB2.out.size))
        have HR3 := hide2 R3
        clear R3 B3
        go_wp2_with fail
        refine (c42 _).mono ?_
        rintro e w4 ⟨rfl, hw4⟩
        have hw4 := hw4.symm
        subst hw4
        clear c42
        go_wp2_with fail
        refine (c43 _ HR3.out).mono ?_
        rintro e w5 ⟨rfl, R5, B5⟩
        have HB5 := hide2 (HB3.out.trans (B5.mono HB3.out.size))
        have HR5 := hide2 R5
        clear R5 B5 c43
        go_wp2_with fail
        refine (c44 _).mono ?_
        rintro e w6 ⟨rfl, B6⟩
        have HB6 := hide2 (HB5.out.trans (B6.mono HB5.out.size))
        have HR6 := hide2 (HR5.out.below B6)
        clear B6 c44
        go_wp2_with fail
        refine (take_any l num p w.heap.size w.heap.size tv ts 3 k t c _ (by omega) hp hc (by omega) (by omega) HB6.out.size HR6.out).mono ?_
        rintro e w7 ⟨rfl, tv', R7, B7⟩
        have HR7 := hide2 R7
        have HB7 := hide2 (HB6.out.trans B7)
        clear R7 B7
        go_wp2_with fail
        rcases ho2 : ovrF (l.drop (skpF l (p + k))) with _ | _
        · rw [ho2, if_neg (by simp)] at HQ
          refine (over_rd HR7.out hs hsk2 false ho2).mono ?_
          rintro e w8 ⟨rfl, R8, B8⟩
          have HB8 := hide2 (HB7.out.trans (B8.mono HB7.out.size))
          have HR8 := hide2 R8
          clear R8 B8
          go_wp2_with fail
          go_step3
          refine (‹∀ (a' : Act) (w' : World), Code.wp Tryd.prog _ (jmps Jx (bodyPost Tryd.prog Tryd.f29 (RdE w l num))) a' w' → _› _ _ ?_)
          refine rest_wp (at3 l num m w hs hm Jx hx0 hx1 hx4 _ _ ?_) rfl
          exact ⟨⟨rfl, rfl, rfl⟩, _, tv', _, ⟨HR8.out, hsk2, by simp; omega, HB8.out⟩, ho2, by rw [HE.out, HQ.out]⟩
        · rw [ho2, if_pos rfl] at HQ
          refine (over_rd HR7.out hs hsk2 true ho2).mono ?_
          rintro e w8 ⟨rfl, R8, B8⟩
          have HB8 := hide2 (HB7.out.trans (B8.mono HB7.out.size))
          have HR8 := hide2 R8
          clear R8 B8
          go_wp2_with fail
          go_step3
          exact hx1 _ _ ⟨⟨rfl, rfl, rfl⟩, _, tv', _, HR8.out, HB8.out, by rw [HE.out, HQ.out]⟩
    · rw [hi, if_pos rfl] at HQ
      simp only [hi] at c42
      have hsk := skpF_ge l (p + 1) (by omega)
      have hsk2 := skpF_le l (p + 1)
      go_wp2_with fail
      refine (c41 _ HA.out.rd).mono ?_
      rintro e w2 ⟨rfl, R2, B2⟩
      have HB2 := hide2 (HA.out.bel.trans (B2.mono HA.out.bel.size))
      have HR2 := hide2 R2
      clear R2 B2 c41
      go_wp2_with fail
      refine (c43 _ HR2.out).mono ?_
      rintro e w3 ⟨rfl, R3, B3⟩
      have HB3 := hide2 (HB2.out.trans (B3.mono HB2.out.size))
      have HR3 := hide2 R3
      clear R3 B3 c43
      go_wp2_with fail
      refine (c42 _).mono ?_
      rintro e w4 ⟨rfl, hw4⟩
      have hw4 := hw4.symm
      subst hw4
      clear c42 c44
      go_wp2_with fail
      refine (take_any l num p w.heap.size w.heap.size tv ts 2 1 [] c _ (by omega) hp hc (by omega) (by omega) HB3.out.size HR3.out).mono ?_
      rintro e w5 ⟨rfl, tv', R5, B5⟩
      have HR5 := hide2 R5
      have HB5 := hide2 (HB3.out.trans B5)
      clear R5 B5
      go_wp2_with fail
      go_step3
      exact hx2 _ _ ⟨⟨rfl, rfl, rfl⟩, n, _, tv', _, ⟨HR5.out, hsk2, by simp; omega, HB5.out⟩, by omega, by rw [HE.out, HQ.out]⟩ (by rw [HP.out, place_of HR5.out]; omega)
  · go_wp2_with fail
    refine (over_rd HA.out.rd hs hpl true ho).mono ?_
    rintro e w2 ⟨rfl, R2, B2⟩
    have HB2 := hide2 (HA.out.bel.trans (B2.mono HA.out.bel.size))
    have HR2 := hide2 R2
    clear R2 B2
    go_wp2_with fail
    go_step3
    exact hx1 _ _ ⟨⟨rfl, rfl, rfl⟩, _, tv, _, HR2.out, HB2.out, by rw [HE.out, conF_over ho]⟩
end Go.Proofs.YtjmgngocpokpgaaDoor
