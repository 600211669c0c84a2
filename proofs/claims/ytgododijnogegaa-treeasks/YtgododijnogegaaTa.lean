/-
  The walk of TreeAsks.
-/
import Derived.Test.YtgododijnogegaaAlk
namespace Go.Proofs.Ytgododijnogegaa
open Go.RowKit
set_option linter.unusedVariables false
set_option linter.unusedSimpArgs false
set_option maxRecDepth 100000
/-- a part that is written over, from a number on as it was -/
structure Wov (w : World) (base : Nat) (v : Value) (sn : Nat) (ss : List Nx) (i : Nat) : Prop where
  row : ∃ xs, w.ownsRow base 51 6 v sn xs ∧ ∀ (i' : Nat) (o : Nx) (j : Nat) (u : Value), i ≤ i' → ss[i']? = some o → o.row[j]? = some u → xs[i' * 6 + j]? = some u
  kids : ∀ o ∈ ss, ∃ ks, w.ownsRow base 3 1 o.kv o.n (iV ks)
theorem Own.wov {w : World} {base : Nat} {v : Value} {ss : List Nx} (h : Own w base v ss) : Wov w base v ss.length ss 0 :=
  ⟨⟨_, h.row, fun i' o j u _ ho hu => rowsN_at ss i' o ho j u hu⟩, fun o ho => ⟨_, (h.kids o ho).1⟩⟩
theorem Wov.below {w w' : World} {base : Nat} {v : Value} {sn : Nat} {ss : List Nx} {i : Nat} (h : Wov w base v sn ss i) (hb : Below w.heap.size w w') : Wov w' base v sn ss i := by
  obtain ⟨xs, h1, h2⟩ := h.row
  exact ⟨⟨xs, own_blk' h1 (fun k hk => hb.block k (h1.lt k hk).2), h2⟩, fun o ho => by
    obtain ⟨ks, hk⟩ := h.kids o ho
    exact ⟨ks, own_block hk (fun k hk2 => hb.block k (hk.lt k hk2).2)⟩⟩
theorem iV_set (ks : List Int) (j : Nat) (z : Int) : (iV ks).set j (.int .i64 z) = iV (ks.set j z) := by simp [iV, List.map_set]
/-- a kid's number written over -/
theorem Wov.kid {w : World} {base : Nat} {v : Value} {sn : Nat} {ss : List Nx} {i b j : Nat} {z : Int} (h : Wov w base v sn ss i) {o : Nx} (ho : o ∈ ss) (hb : o.kv.ownBlock = some b) : Wov (w.setCell ⟨b, j, none⟩ (.int .i64 z)) base v sn ss i ∧ base ≤ b := by
  obtain ⟨xs, h1, h2⟩ := h.row
  obtain ⟨ks0, hk0⟩ := h.kids o ho
  have hne : ∀ k, k ≠ b → (w.setCell ⟨b, j, none⟩ (.int .i64 z)).heap[k]? = w.heap[k]? := fun k hk => Below.heap_setCell _ _ _ _ hk
  refine ⟨⟨⟨xs, own_blk' h1 (fun k hk => hne k (fun e => by subst e; exact own_ne hk0 h1 hb hk)), h2⟩, fun x hx => ?_⟩, (hk0.lt b hb).1⟩
  obtain ⟨ks, hk⟩ := h.kids x hx
  by_cases hxb : x.kv.ownBlock = some b
  · obtain ⟨xa, xc, e, _⟩ := own_form hk
    have hk' := hk
    rw [e] at hk hxb ⊢
    rcases hk.2 with ⟨e1, _⟩ | ⟨g, cp, cur, e1, _⟩
    · rw [e1] at hxb; cases hxb
    · injection e1 with e2 _ e3
      subst e2 e3
      simp only [Value.ownBlock, Option.some.injEq] at hxb
      subst hxb
      refine ⟨ks.set j z, ?_⟩
      have := (hk.stored j (.int .i64 z)).1
      rw [iV_set] at this
      exact this
  · exact ⟨ks, own_block hk (fun k hk2 => hne k (fun e => by subst e; exact hxb hk2))⟩
/-- a node written over -/
theorem Wov.node {w Y : World} {base g sn c : Nat} {ss : List Nx} {i : Nat} {b0 b1 b2 b3 b4 b5 : Value} (h : Wov w base (.slice (some ⟨g, 0, none⟩) sn c) sn ss i) (hY : ((((((w.setCell ⟨g, i * 6, none⟩ b0).setCell ⟨g, i * 6 + 1, none⟩ b1).setCell ⟨g, i * 6 + 2, none⟩ b2).setCell ⟨g, i * 6 + 3, none⟩ b3).setCell ⟨g, i * 6 + 4, none⟩ b4).setCell ⟨g, i * 6 + 5, none⟩ b5) = Y) : Wov Y base (.slice (some ⟨g, 0, none⟩) sn c) sn ss (i + 1) ∧ base ≤ g ∧ Below base w Y := by
  obtain ⟨xs, h1, h2⟩ := h.row
  have hg := (h1.lt g rfl).1
  subst hY
  have k0 := (h1.stored (i * 6) b0).1
  have k1 := (k0.stored (i * 6 + 1) b1).1
  have k2 := (k1.stored (i * 6 + 2) b2).1
  have k3 := (k2.stored (i * 6 + 3) b3).1
  have k4 := (k3.stored (i * 6 + 4) b4).1
  have k5 := (k4.stored (i * 6 + 5) b5).1
  have hbt := ((((((But.set (b := g) (A := w) (i * 6) b0).trans (But.set (i * 6 + 1) b1)).trans (But.set (i * 6 + 2) b2)).trans (But.set (i * 6 + 3) b3)).trans (But.set (i * 6 + 4) b4)).trans (But.set (i * 6 + 5) b5))
  refine ⟨⟨⟨_, k5, fun i' o j u hi ho hu => ?_⟩, fun o ho => ?_⟩, hg, ?_⟩
  · have hj : j < 6 := (List.getElem?_eq_some_iff.1 hu).1
    rw [List.getElem?_set_ne (by omega), List.getElem?_set_ne (by omega), List.getElem?_set_ne (by omega), List.getElem?_set_ne (by omega), List.getElem?_set_ne (by omega), List.getElem?_set_ne (by omega)]
    exact h2 i' o j u (by omega) ho hu
  · obtain ⟨ks, hk⟩ := h.kids o ho
    exact ⟨ks, own_block hk (fun k hk2 => hbt.block k (hk.lt k hk2).2 (fun e => by subst e; exact own_ne hk h1 hk2 rfl))⟩
  · have hsz := (h1.lt g rfl).2
    exact hbt.below (by omega) hg
theorem bareHd_len (l : List Nd) : (bareHd l).length = l.length := by cases l <;> rfl
theorem subF_len (l : List Nx) (z : Int) : (subF l z).length ≤ l.length := by
  unfold subF
  split
  · rcases trT l 16 z.toNat with _ | ⟨t, e⟩
    · simp
    · simp [partL, bareHd_len]; omega
  · simp
set_option maxHeartbeats 16000000 in
theorem asks_any (w : World) (a : Option Addr) (n cap : Nat) (l : List Nx) (z : Int) (key : ByteArray) (hn : l.length = n) (hl : n ≤ 1759218604390) (hS : Ns w a l) (hstr : ∀ o ∈ l, o.key.size ≤ 281474976710656 ∧ o.tx.size ≤ 281474976710656) (hz : -9223372036854775808 ≤ z ∧ z ≤ 9223372036854775807) (hk : key.size ≤ maxLen) :
    Calls Try.prog 4 #[.slice a n cap, .int .i64 z, .string key] w fun e w' => e = .returned (.bool true) ∧ Below w.heap.size w w' := by
  have HS := hideL hS
  have HN := hideL hn
  have HSTR := hideL hstr
  have HZ := hideL hz
  clear hS hn hstr hz
  have HTW := hideL (twin_any w a n cap l HN.out hl HS.out)
  go_enter Try.func4, Try.ntmps4
  go_wp2_with fail
  refine HTW.out.mono ?_
  rintro e w1 ⟨g, c, os, m, rfl, hown, hnd, hmk, hol, hb1⟩
  obtain ⟨hNs, hA, hmark⟩ := Own.ns hown hol hnd HS.out
  have hnc : n + 1 ≤ c := by
    obtain ⟨a', cp, e, _, h1, _⟩ := own_form hown.row
    injection e with _ _ e3
    simp [hol] at h1
    omega
  have hcm : c ≤ maxLen := by
    obtain ⟨a', cp, e, _, _, h1⟩ := own_form hown.row
    injection e with _ _ e3
    omega
  have hmk0 := hmark 0 _ rfl
  rw [hmk, Nat.add_zero] at hmk0
  have HN1 := hideL hNs
  have HA := hideL hA
  have HB1 := hideL hb1
  have HOL := hideL hol
  have HMK := hideL hmk0
  have HS1 := hideL (HS.out.below hb1)
  have HST1 : Hid (∀ o ∈ os, o.key.size ≤ 281474976710656 ∧ o.tx.size ≤ 281474976710656) := fun o ho => by
    obtain ⟨i, hi⟩ := List.mem_iff_getElem?.1 ho
    rcases hA.at_ i with ⟨e1, _⟩ | ⟨o', p, e1, e2, e3, _⟩
    · rw [hi] at e1; cases e1
    · rw [hi] at e1; cases e1
      rw [e3.key, e3.tx]; exact HSTR.out p (List.mem_of_getElem? e2)
  clear hown hnd hmk hol hb1 hNs hA hmark hmk0 HTW
  obtain ⟨gk, gb, hgv⟩ : ∃ gk gb, getV (getF l z key) = .tuple #[.int .i64 gk, .bool gb] := ⟨_, _, rfl⟩
  have HG1 : Hid (getV (getF os z key) = .tuple #[.int .i64 gk, .bool gb]) := by
    show _ = _
    rw [alk_getF HA.out]; exact hgv
  have HG2 := hideL hgv
  clear hgv
  go_wp2_with fail
  refine (get_any w1 (some ⟨g, 0, none⟩) n c os z key HOL.out (by omega) HN1.out hk).mono ?_
  rintro e w2 ⟨rfl, hw2⟩
  have hw2 := hw2.symm
  subst hw2
  rw [HG1.out]
  go_wp2_with fail
  refine (rget_any w1 a n cap l z key HN.out (by omega) HS1.out hk).mono ?_
  rintro e w2 ⟨rfl, hw2⟩
  have hw2 := hw2.symm
  subst hw2
  rw [HG2.out]
  go_wp2_with fail
  refine (sub_call w1 (some ⟨g, 0, none⟩) n c os z HOL.out (by omega) (by omega) hcm HN1.out HN1.out.low HST1.out HZ.out).mono ?_
  rintro e w3 ⟨sv, ss, rfl, hso, hsd, hb3⟩
  rw [alk_subF HA.out] at hsd
  obtain ⟨sn, hsn⟩ : ∃ sn, ss.length = sn := ⟨_, rfl⟩
  have hsr := hso.row
  rw [hsn] at hsr
  obtain ⟨sa, sc, rfl, _, hsc, hscm⟩ := own_form hsr
  have HSO := hideL hso
  have HSD := hideL hsd
  have HSN := hideL hsn
  have HB3 := hideL hb3
  have HN3 := hideL (HN1.out.below hb3)
  have HS3 := hideL (HS1.out.below hb3)
  obtain ⟨B, hB⟩ : ∃ B, decide (0 < depF l) = B := ⟨_, rfl⟩
  obtain ⟨D, hD⟩ : ∃ D, depF l = D := ⟨_, rfl⟩
  have HMY := hideL (may_any w3 (some ⟨g, 0, none⟩) n c os HOL.out (by omega) HN3.out HN3.out.low (unlike_any _ _ _ _ _) (noKeys_any _ _ _ _ _))
  rw [alk_depF HA.out, hB] at HMY
  have HRM := fun (W : World) (hW : Ns W a l) => rmay_any W a n cap l HN.out (by omega) hW
  rw [hB] at HRM
  have HDP := fun (W : World) (hW : Ns W (some ⟨g, 0, none⟩) os) => depth_any W (some ⟨g, 0, none⟩) n c os HOL.out (by omega) hW hW.low (unlike_any _ _ _ _ _) (noKeys_any _ _ _ _ _)
  rw [alk_depF HA.out, hD] at HDP
  have HRD := fun (W : World) (hW : Ns W a l) => rdepth_any W a n cap l HN.out (by omega) hW
  rw [hD] at HRD
  have HRM := hideL HRM
  have HDP := hideL HDP
  have HRD := hideL HRD
  clear hso hsd hsn hsr hb3 hB hD
  go_wp2_with fail
  refine HMY.out.mono ?_
  rintro e w4 ⟨rfl, hb4⟩
  have HN4 := hideL (HN3.out.below hb4)
  have HS4 := hideL (HS3.out.below hb4)
  have HSO4 := hideL (HSO.out.below hb4)
  have HB4 := hideL (HB3.out.trans (hb4.mono HB3.out.size))
  clear hb4 HMY HSO HN3 HS3
  go_wp2_with fail
  refine (HRM.out w4 HS4.out).mono ?_
  rintro e w5 ⟨rfl, hb5⟩
  have HN5 := hideL (HN4.out.below hb5)
  have HS5 := hideL (HS4.out.below hb5)
  have HSO5 := hideL (HSO4.out.below hb5)
  have HB5 := hideL (HB4.out.trans (hb5.mono HB4.out.size))
  clear hb5 HRM HSO4 HN4 HS4 HB4
  go_wp2_with fail
  refine (HDP.out w5 HN5.out).mono ?_
  rintro e w6 ⟨rfl, hb6⟩
  have HN6 := hideL (HN5.out.below hb6)
  have HS6 := hideL (HS5.out.below hb6)
  have HSO6 := hideL (HSO5.out.below hb6)
  have HB6 := hideL (HB5.out.trans (hb6.mono HB5.out.size))
  clear hb6 HDP HSO5 HN5 HS5 HB5
  go_wp2_with fail
  refine (HRD.out w6 HS6.out).mono ?_
  rintro e w7 ⟨rfl, hb7⟩
  have HN7 := hideL (HN6.out.below hb7)
  have HS7 := hideL (HS6.out.below hb7)
  have HSO7 := hideL (HSO6.out.below hb7)
  have HB7 := hideL (HB6.out.trans (hb7.mono HB6.out.size))
  clear hb7 HRD HSO6 HN6 HS6 HB6
  go_wp2_with fail
  refine (rsub_any w7 a n cap l z HN.out (by omega) HS7.out HZ.out).mono ?_
  rintro e w8 ⟨rv, rs, rfl, hro, hrd, hb8⟩
  have hrn : rs.length = sn := by rw [← HSN.out]; have := congrArg List.length (hrd.trans HSD.out.symm); simpa using this
  have hrr := hro.row
  rw [hrn] at hrr
  obtain ⟨ra, rc, rfl, _, hrc, hrcm⟩ := own_form hrr
  have HN8 := hideL (HN7.out.below hb8)
  have HS8 := hideL (HS7.out.below hb8)
  have HSO8 := hideL (HSO7.out.below hb8)
  have HB8 := hideL (HB7.out.trans (hb8.mono HB7.out.size))
  have HSAME := hideL (nodes_samew w8 sa ra sn sc rc ss rs HSN.out hrn (by have h1 := subF_len l z; rw [← HSD.out, List.length_map, HSN.out, HN.out] at h1; omega) HSO8.out.nsw hro.nsw (HSD.out.trans hrd.symm))
  clear hb8 HSO7 HN7 HS7 HB7 hro hrd hrn hrr
  go_wp2_with fail
  refine HSAME.out.mono ?_
  rintro e w9 ⟨rfl, q9, hw9⟩
  have hw9 := hw9.symm
  subst hw9
  clear HSAME
  go_wp2_with fail
  have HWOV : Hid (Wov (w8.drewN q9) w1.heap.size (.slice sa sn sc) sn ss 0) := by
    have h1 := (HSO8.out.below (below_drewN (Below.refl _ w8) q9)).wov
    rw [HSN.out] at h1
    exact h1
  have HBIG : Hid (∀ o ∈ ss, o.n ≤ 17592186043904) := fun o ho => (HSO8.out.kids o ho).2
  have HB9 : Hid (Below w1.heap.size w1 (w8.drewN q9)) := below_drewN HB8.out _
  have hsm : sn ≤ 1759218604390 := by have h1 := subF_len l z; rw [← HSD.out, List.length_map, HSN.out, HN.out] at h1; omega
  clear HSO8 HN8 HS8 HB8
  go_loopw [13] (fun t wr => ∃ (i : Nat), t = .int .i64 i ∧ i ≤ sn ∧ Wov wr w1.heap.size (.slice sa sn sc) sn ss i ∧ Below w1.heap.size w1 wr) (fun t _ => sn - (intOf t).toNat)
  case atStart => exact ⟨0, rfl, by omega, HWOV.out, HB9.out⟩
  case round =>
    obtain ⟨i, rfl, hi, hwv, hbel⟩ := hrel
    have i0 : (0 : Int) ≤ i := by omega
    have HWV := hideL hwv
    have HBL := hideL hbel
    clear hwv hbel
    by_cases h3 : i < sn
    · have h3' : (i : Int) < sn := by omega
      rcases hoi : ss[i]? with _ | o
      · have := List.getElem?_eq_none_iff.1 hoi; have := HSN.out; omega
      obtain ⟨gs, rfl⟩ : ∃ gs, sa = some ⟨gs, 0, none⟩ := by
        obtain ⟨xs, h1, _⟩ := HWV.out.row
        exact own_some h1 (by omega)
      have HOI := hideL hoi
      have HOM := hideL (List.mem_of_getElem? hoi)
      have hon := HBIG.out o (List.mem_of_getElem? hoi)
      clear hoi
      go_wp2_with fail
      go_loopw [14] (fun t wr2 => ∃ (j : Nat), t = .int .i64 j ∧ j ≤ o.n ∧ Wov wr2 w1.heap.size (.slice (some ⟨gs, 0, none⟩) sn sc) sn ss i ∧ Below w1.heap.size w1 wr2) (fun t _ => o.n - (intOf t).toNat)
      case atStart => exact ⟨0, rfl, by omega, HWV.out, HBL.out⟩
      case round =>
        obtain ⟨j, rfl, hj, hwv2, hbel2⟩ := hrel
        have j0 : (0 : Int) ≤ j := by omega
        have HW2 := hideL hwv2
        have HB2 := hideL hbel2
        obtain ⟨xs, hx1, hx2⟩ := hwv2.row
        have cell : ∀ j u, o.row[j]? = some u → j < 6 → wr.cell? ⟨gs, i * 6 + j, none⟩ = some u ∧ wr.frozen? ⟨gs, i * 6 + j, none⟩ = false := fun j u hu hj6 => ⟨by
          rw [hx1.cellAt (i * 6 + j) (by omega)]
          exact hx2 i o j u (Nat.le_refl _) HOI.out hu, hx1.frozenAt _⟩
        obtain ⟨z5, f5⟩ := cell 5 _ rfl (by omega)
        by_cases h4 : j < o.n
        · have h4' : (j : Int) < o.n := by omega
          obtain ⟨ks, hks⟩ := hwv2.kids o HOM.out
          obtain ⟨kb, hkb⟩ := own_some hks (by omega)
          have hks' : wr.ownsRow w1.heap.size 3 1 (.slice o.a o.n o.cap) o.n (iV ks) := hks
          rw [hkb] at hks'
          have hkl := own_len hks
          obtain ⟨zj, hzj⟩ : ∃ zj, ks[j]? = some zj := ⟨ks[j]'(by omega), List.getElem?_eq_getElem _⟩
          have zc : wr.cell? ⟨kb, j, none⟩ = some (.int .i64 zj) := by
            rw [hks'.cellAt j (by omega)]
            simp [iV, hzj]
          have zf : wr.frozen? ⟨kb, j, none⟩ = false := hks'.frozenAt _
          obtain ⟨hW3, hkbb⟩ := Wov.kid (j := j) (z := -9) hwv2 HOM.out (show o.kv.ownBlock = some kb by simp [Nx.kv, hkb, Value.ownBlock])
          have HW3 := hideL hW3
          have HB3' : Hid (Below w1.heap.size w1 (wr.setCell ⟨kb, j, none⟩ (.int .i64 (-9)))) := HB2.out.trans ⟨rfl, rfl, rfl, by simp, fun k hk => Below.heap_setCell _ _ _ _ (by show k ≠ kb; omega)⟩
          rw [hkb] at z5
          clear hwv2 hbel2 hx1 hx2 cell hks hks' hkl hzj hW3 hkbb
          go_wp2_with fail
          go_roundw
          case rel => exact ⟨j + 1, by go_num, by omega, HW3.out, HB3'.out⟩
          case measure => simp [intOf]; omega
        · have h4' : ¬ (j : Int) < o.n := by omega
          obtain ⟨y0, e0⟩ := cell 0 _ rfl (by omega)
          obtain ⟨y1, e1⟩ := cell 1 _ rfl (by omega)
          obtain ⟨y2, e2⟩ := cell 2 _ rfl (by omega)
          obtain ⟨y3, e3⟩ := cell 3 _ rfl (by omega)
          obtain ⟨y4, e4⟩ := cell 4 _ rfl (by omega)
          rw [Nat.add_zero] at y0 e0
          obtain ⟨hW4, _, hB4⟩ := Wov.node (b0 := .int .i64 (-9)) (b1 := .string ⟨#[]⟩) (b2 := .string ⟨#[]⟩) (b3 := .bool false) (b4 := .int .i64 0) (b5 := .slice none 0 0) hwv2 rfl
          have HW4 := hideL hW4
          have HB4' := hideL (HB2.out.trans hB4)
          clear hwv2 hbel2 hx1 hx2 cell hW4 hB4
          go_wp2_with fail
          go_roundw
          case rel => exact ⟨i + 1, by go_num, by omega, HW4.out, HB4'.out⟩
          case measure => simp [intOf]; omega
    · have h3' : ¬ (i : Int) < sn := by omega
      have zm : wr.cell? ⟨g, n * 6, none⟩ = some (.int .i64 (-77)) := cell_of_below HBL.out HMK.out
      have HNF := hideL ((HN1.out.below HBL.out).nsw)
      have HSF := hideL ((HS1.out.below HBL.out).nsw)
      go_wp2_with fail
      refine (nodes_samew wr (some ⟨g, 0, none⟩) a n c cap os l HOL.out HN.out (by omega) HNF.out HSF.out HA.out.nds).mono ?_
      rintro e wF ⟨rfl, qF, hwF⟩
      have hwF := hwF.symm
      subst hwF
      have hnc' : (n : Int) + 1 ≤ c := by omega
      go_wp2
      go_ret
      exact ⟨rfl, below_drewN (HB1.out.trans (HBL.out.mono HB1.out.size)) _⟩
end Go.Proofs.Ytgododijnogegaa
