/-
  A line read: from the label quoted on.
-/
import Derived.Test.YtjmgngocpokpgaaDoorReaA
namespace Go.Proofs.YtjmgngocpokpgaaDoor
open Go.RowKit
set_option linter.unusedVariables false
set_option linter.unusedSimpArgs false
set_option maxHeartbeats 8000000 in
theorem at4 (l : List UInt8) (num : Int) (w : World) (hs : l.length ≤ 2 ^ 30) (Jx : Nat → Act → World → Prop) (hx0 : ∀ a w', J0 w l num a w' → Jx 0 a w') (a : Act) (w1 : World) (hj : J4 w l num a w1) : ∃ rest, findLabel (scpOf Tryd.f29) 4 = some rest ∧ rest.wp Tryd.prog (jmps Jx (bodyPost Tryd.prog Tryd.f29 (RdE w l num))) a w1 := by
  refine ⟨_, rfl, ?_⟩
  obtain ⟨⟨h1, h2, h3⟩, hJ⟩ := hj
  obtain ⟨tm, df⟩ := a
  dsimp only at h1 h2 h3
  subst h1
  obtain ⟨u0, u1, u2, u3, u4, u5, u6, u7, u8, u9, u10, u11, u12, u13, u14, u15, u16, u17, u18, u19, u20, u21, u22, u23, u24, u25, u26, u27, u28, u29, u30, u31, u32, u33, u34, u35, u36, u37, u38, u39, u40, u41, u42, u43, u44, u45, u46, u47, u48, u49, u50, u51, u52, u53, u54, u55, u56, u57, u58, u59, u60, u61, u62, u63, u64, u65, u66, u67, u68, u69, u70, u71, u72, rfl⟩ := frame73 tm h2
  obtain rfl : u6 = .pointer (some ⟨w.heap.size, 0, none⟩) := h3
  clear h2
  obtain ⟨p, tv, ts, hA, hp, hE⟩ := hJ
  have HA := hide2 hA
  have HE := hide2 hE
  clear hA hE
  rcases hd : l.drop p with _ | ⟨c, r⟩
  · have := List.length_drop (l := l) (i := p); rw [hd] at this; simp at this; omega
  have HQ : Hid (qtdF num l p ts = match unqF (c :: r) with | none => ([], 82) | some (t, k) => if nulF ((c :: r).drop k) = true then (ts ++ [⟨4, num, p, t, quoF c.toNat⟩], 0) else ([], 82)) := by show _ = _; rw [qtdF, hd]; rfl
  obtain ⟨hc, _⟩ := first_of hd
  have hdl : (c :: r).length + p = l.length := by rw [← hd, List.length_drop]; omega
  have hdl2 : (c :: r).length ≤ 2 ^ 40 := by omega
  have c43 := fun (W : World) (R : Rd W w.heap.size w.heap.size l num p tv ts) => rest_rd R hs HA.out.le (c :: r) hd
  have huc := fun W => unq_any c r W hdl2
  obtain ⟨d, hde⟩ : ∃ d, c :: r = d := ⟨_, rfl⟩
  simp only [hde] at huc hdl hdl2 c43
  rw [hde] at HQ hd
  have HD := hide2 hd
  clear hde hd
  rcases hu : unqF d with _ | ⟨t, k⟩
  · rw [hu] at HQ
    dsimp only at HQ
    simp only [hu, txtE] at huc
    go_wp2_with fail
    refine (c43 _ HA.out.rd).mono ?_
    rintro e w2 ⟨rfl, R2, B2⟩
    have HB2 := hide2 (HA.out.bel.trans (B2.mono HA.out.bel.size))
    clear R2 B2 c43
    go_wp2_with fail
    refine (huc _).mono ?_
    rintro e w3 ⟨rfl, B3⟩
    have HB3 := hide2 (HB2.out.trans (B3.mono HB2.out.size))
    clear B3 huc
    go_wp2_with fail
    go_step3
    exact hx0 _ _ ⟨rfl, rfl, 82, rfl, by rw [HE.out, HQ.out], by decide, HB3.out⟩
  · obtain ⟨k1, k2⟩ := unqF_le hu
    rw [hu] at HQ
    dsimp only at HQ
    simp only [hu, txtE] at huc
    have a0 : (0 : Int) ≤ k := by omega
    have a1 : (k : Int) ≤ d.length := by omega
    have hxd := extract_drop d k
    obtain ⟨x, hx⟩ : ∃ x, d.drop k = x := ⟨_, rfl⟩
    have hxl : x.length ≤ 2 ^ 62 := by rw [← hx, List.length_drop]; omega
    rw [hx] at hxd HQ
    clear hx
    have c48 := fun W => saysNothing_any x W hxl
    rcases hn : nulF x with _ | _
    · rw [hn, if_neg (by simp)] at HQ
      simp only [hn] at c48
      go_wp2_with fail
      refine (c43 _ HA.out.rd).mono ?_
      rintro e w2 ⟨rfl, R2, B2⟩
      have HB2 := hide2 (HA.out.bel.trans (B2.mono HA.out.bel.size))
      have HR2 := hide2 R2
      clear R2 B2
      go_wp2_with fail
      refine (huc _).mono ?_
      rintro e w3 ⟨rfl, B3⟩
      have HB3 := hide2 (HB2.out.trans (B3.mono HB2.out.size))
      have HR3 := hide2 (HR2.out.below B3)
      clear B3 huc
      go_wp2_with fail
      refine (c43 _ HR3.out).mono ?_
      rintro e w4 ⟨rfl, R4, B4⟩
      have HB4 := hide2 (HB3.out.trans (B4.mono HB3.out.size))
      clear R4 B4 c43
      go_wp2_with fail
      refine (c48 _).mono ?_
      rintro e w5 ⟨rfl, rfl⟩
      go_wp2_with fail
      go_step3
      exact hx0 _ _ ⟨rfl, rfl, 82, rfl, by rw [HE.out, HQ.out], by decide, HB4.out⟩
    · rw [hn, if_pos rfl] at HQ
      simp only [hn] at c48
      go_wp2_with fail
      refine (c43 _ HA.out.rd).mono ?_
      rintro e w2 ⟨rfl, R2, B2⟩
      have HB2 := hide2 (HA.out.bel.trans (B2.mono HA.out.bel.size))
      have HR2 := hide2 R2
      clear R2 B2
      go_wp2_with fail
      refine (huc _).mono ?_
      rintro e w3 ⟨rfl, B3⟩
      have HB3 := hide2 (HB2.out.trans (B3.mono HB2.out.size))
      have HR3 := hide2 (HR2.out.below B3)
      clear B3 huc
      go_wp2_with fail
      refine (c43 _ HR3.out).mono ?_
      rintro e w4 ⟨rfl, R4, B4⟩
      have HB4 := hide2 (HB3.out.trans (B4.mono HB3.out.size))
      have HR4 := hide2 R4
      clear R4 B4 c43
      go_wp2_with fail
      refine (c48 _).mono ?_
      rintro e w5 ⟨rfl, hw5⟩
      have hw5 := hw5.symm
      subst hw5
      have hfew := HA.out.few
      go_wp2_with fail
      refine (take_any l num p w.heap.size w.heap.size tv ts 4 k t c _ (by omega) hp hc (by omega) (by omega) HB4.out.size HR4.out).mono ?_
      rintro e w6 ⟨rfl, tv', R6, B6⟩
      have c3 := R6.c3
      have HR6 := hide2 R6
      have HB6 := hide2 (HB4.out.trans B6)
      clear R6 B6
      go_wp2_with fail
      go_step3
      go_wp2
      refine jmps_ret ?_
      refine bodyPost_ret (v := .tuple #[tv', .int .i64 0]) (by simp [results, Tryd.results29, go_sem]) rfl ?_
      exact ⟨HB6.out, _, by rw [HE.out, HQ.out], by rw [HE.out, HQ.out]; exact HR6.out.own⟩
end Go.Proofs.YtjmgngocpokpgaaDoor
