/-
  The walk of CheckDiffs.
-/
import Derived.Test.YtmljljpldljpjaaRd
import Derived.Test.YtmljljpldljpjaaNn
namespace Go.Proofs.Ytmljljpldljpjaa
open Go.RowKit
set_option linter.unusedVariables false
set_option linter.unusedSimpArgs false
set_option maxRecDepth 100000
theorem Ol.form {W : World} {base : Nat} {v : Value} {os : List Rx} (h : Ol W base v os) : ∃ a c, v = .slice a os.length c := by
  obtain ⟨a, c, e, _⟩ := own_form h.row; exact ⟨a, c, e⟩
theorem toks {w : World} {l r : List Rx} (h : l.map Rx.toRs = r.map Rx.toRs) (hk : ∀ o ∈ r, Rin w o) : ∀ o ∈ l, Rok o.toRs := by
  intro o ho
  have : o.toRs ∈ r.map Rx.toRs := by rw [← h]; exact List.mem_map_of_mem ho
  obtain ⟨p, hp, e⟩ := List.mem_map.1 this
  rw [← e]; exact (hk p hp).ok
/-- what own leaves -/
def OwnE (w : World) (F : List Rx) (e : Ending) (w' : World) : Prop := ∃ a c qs, e = .returned (.slice a F.length c) ∧ qs.length = F.length ∧ Ol w' w.heap.size (.slice a F.length c) qs ∧ Lr w' a qs ∧ qs.map Rx.toRs = F.map Rx.toRs ∧ Below w.heap.size w w'
theorem own_e (w : World) (a : Option Addr) (c : Nat) (os : List Rx) (hL : Lr w a os) (hb : ∀ o ∈ os, Bare o) (hs : os.length ≤ 1048576) : Calls Try.prog 9 #[.slice a os.length c] w fun e w' => OwnE w os e w' := by
  refine (own_any w a os.length c os hL hb rfl hs).mono ?_
  rintro e w' ⟨v, qs, rfl, h1, h2, h3⟩
  obtain ⟨a', c', rfl⟩ := h1.form
  have hl := says_len h2
  rw [hl] at h1 ⊢
  exact ⟨a', c', qs, rfl, hl, h1, h1.lr (toks h2 hL.each), h2, h3⟩
/-- what Diff leaves -/
def DifE (w : World) (R : List Rs) (e : Ending) (w' : World) : Prop := ∃ a c qs, e = .returned (.slice a R.length c) ∧ qs.length = R.length ∧ Ol w' w.heap.size (.slice a R.length c) qs ∧ Lr w' a qs ∧ qs.map Rx.toRs = R ∧ Below w.heap.size w w'
theorem diff_ok {sb : Rs → Rs → Bool} {F T : List Rs} (hF : ∀ r ∈ F, Rok r) (hT : ∀ r ∈ T, Rok r) : ∀ r ∈ foldP (delsL F T F.length ++ newsL sb F T T.length), Rok r := by
  intro r hr
  have hr2 := ((foldP_spec (diff_nodup sb F T _ _)).2 r).1 hr
  rcases List.mem_append.1 hr2 with h | h
  · obtain ⟨j, q, _, hq, _, _, rfl⟩ := delsL_spec h
    have hk := hF q (List.mem_of_getElem? hq)
    exact ⟨hk.k1, hk.n1, by show (0 : Nat) ≤ 1048576; decide, by show (0 : Nat) ≤ 1048576; decide, fun s hs => (by cases hs), fun s hs => (by cases hs), fun s hs => (by cases hs), Nat.zero_le _, Nat.zero_le _, Nat.zero_le _⟩
  · obtain ⟨j, _, hq, _⟩ := newsL_spec h
    exact hT r (List.mem_of_getElem? hq)
theorem diff_e {sb : Rs → Rs → Bool} (hsb : ∀ a b, sb a b = true ↔ SameC a b) (w : World) (a b : Option Addr) (c1 c2 : Nat) (F T : List Rx) (hF : Lr w a F) (hT : Lr w b T) (hs : F.length ≤ 1048576) (hs2 : T.length ≤ 1048576) :
    Calls Try.prog 18 #[.slice a F.length c1, .slice b T.length c2] w fun e w' => DifE w (foldP (delsL (F.map Rx.toRs) (T.map Rx.toRs) F.length ++ newsL sb (F.map Rx.toRs) (T.map Rx.toRs) T.length)) e w' := by
  refine (diff_any sort_none sb hsb w a b F.length T.length c1 c2 F T hF hT rfl rfl hs hs2).mono ?_
  rintro e w' ⟨v, qs, rfl, h1, h2, h3⟩
  obtain ⟨a', c', rfl⟩ := h1.form
  have hl : qs.length = (foldP (delsL (F.map Rx.toRs) (T.map Rx.toRs) F.length ++ newsL sb (F.map Rx.toRs) (T.map Rx.toRs) T.length)).length := by rw [← h2, List.length_map]
  rw [hl] at h1 ⊢
  have hok := diff_ok (sb := sb) (F := F.map Rx.toRs) (T := T.map Rx.toRs) (fun r hr => by obtain ⟨p, hp, rfl⟩ := List.mem_map.1 hr; exact (hF.each p hp).ok) (fun r hr => by obtain ⟨p, hp, rfl⟩ := List.mem_map.1 hr; exact (hT.each p hp).ok)
  rw [List.length_map, List.length_map] at hok
  refine ⟨a', c', qs, rfl, hl, h1, h1.lr (fun o ho => ?_), h2, h3⟩
  exact hok o.toRs (by rw [← h2]; exact List.mem_map_of_mem ho)
set_option maxHeartbeats 32000000 in
theorem checkDiffs_any (w : World) (a b : Option Addr) (n m c1 c2 : Nat) (F T : List Rx) (hF : Lr w a F) (hT : Lr w b T) (hbF : ∀ o ∈ F, Bare o) (hbT : ∀ o ∈ T, Bare o) (hn : F.length = n) (hm : T.length = m) (hs : n ≤ 1048576) (hs2 : m ≤ 1048576) :
    Calls Try.prog 5 #[.slice a n c1, .slice b m c2] w fun e w' => e = .returned (.bool true) ∧ Below w.heap.size w w' := by
  obtain ⟨sb, hsb⟩ : ∃ sb : Rs → Rs → Bool, ∀ a b, (sb a b = true ↔ SameC a b) := ⟨fun a b => @decide (SameC a b) (Classical.propDecidable _), fun a b => @decide_eq_true_iff _ (Classical.propDecidable _)⟩
  subst hn hm
  have HF := hideL hF
  have HTT := hideL hT
  have HBF := hideL hbF
  have HBT := hideL hbT
  have HSB := hideL hsb
  clear hF hT hbF hbT hsb
  go_enter Try.func5, Try.ntmps5
  go_wp2_with fail
  refine (own_e w a c1 F HF.out HBF.out hs).mono ?_
  rintro e w1 ⟨a1, k1, A, rfl, hA1, hA2, hA3, hA4, hb1⟩
  have HA := hideL hA3
  have HAE := hideL hA4
  have HAL := hideL hA1
  have HB1 := hideL hb1
  clear hA1 hA2 hA3 hA4 hb1
  go_wp2_with fail
  refine (own_e w1 b c2 T (HTT.out.below HB1.out) HBT.out hs2).mono ?_
  rintro e w2 ⟨a2, k2, B, rfl, hA1, hA2, hA3, hA4, hb2⟩
  have HBB := hideL hA3
  have HBE := hideL hA4
  have HBL := hideL hA1
  have HA2 := hideL (HA.out.below hb2)
  have HB2 := hideL (HB1.out.trans (hb2.mono HB1.out.size))
  clear hA1 hA2 hA3 hA4 hb2 HA HB1
  have HD : Hid (Calls Try.prog 18 #[.slice a1 F.length k1, .slice a2 T.length k2] w2 fun e w' => DifE w2 (foldP (delsL (F.map Rx.toRs) (T.map Rx.toRs) F.length ++ newsL sb (F.map Rx.toRs) (T.map Rx.toRs) T.length)) e w') := by
    have := diff_e (sb := sb) HSB.out w2 a1 a2 k1 k2 A B HA2.out HBB.out (by rw [HAL.out]; exact hs) (by rw [HBL.out]; exact hs2)
    rw [HAE.out, HBE.out, HAL.out, HBL.out] at this
    exact this
  have HRD := hideL (fun W (hW : Below w.heap.size w W) => rdiff_any sb HSB.out W a b F.length T.length c1 c2 F T (HF.out.below hW) (HTT.out.below hW) rfl rfl hs hs2)
  obtain ⟨R, hR⟩ : ∃ R, foldP (delsL (F.map Rx.toRs) (T.map Rx.toRs) F.length ++ newsL sb (F.map Rx.toRs) (T.map Rx.toRs) T.length) = R := ⟨_, rfl⟩
  rw [hR] at HD HRD
  have HRL : Hid (R.length ≤ 2097152) := by
    unfold Hid
    rw [← hR, foldP_len, List.length_append]
    have := delsL_len (F.map Rx.toRs) (T.map Rx.toRs) F.length
    have := newsL_len sb (F.map Rx.toRs) (T.map Rx.toRs) T.length
    omega
  clear hR
  go_wp2_with fail
  refine HD.out.mono ?_
  rintro e w3 ⟨a3, k3, D, rfl, hD1, hD2, hD3, hD4, hb3⟩
  have HDD := hideL hD3
  have HDE := hideL hD4
  have HDL := hideL hD1
  have HA3 := hideL (HA2.out.below hb3)
  have HBB3 := hideL (HBB.out.below hb3)
  have HB3 := hideL (HB2.out.trans (hb3.mono HB2.out.size))
  clear hD1 hD2 hD3 hD4 hb3 HA2 HB2 HBB HD
  go_wp2_with fail
  refine (HRD.out w3 HB3.out).mono ?_
  rintro e w4 ⟨a4, n4, k4, Q, rfl, hQ1, hQ2, hQ3, hQ4, hb4⟩
  have hn4 : n4 = R.length := by rw [← hQ1, ← hQ4, List.length_map]
  subst hn4
  have HLI := hideL (lists_any w4 a3 a4 R.length k3 k4 D Q HDL.out (by have := HRL.out; omega) (HDD.out.below hb4) hQ2 (by rw [HDE.out, hQ4]))
  have HA4 := hideL (HA3.out.below hb4)
  have HBB4 := hideL (HBB3.out.below hb4)
  have HB4 := hideL (HB3.out.trans (hb4.mono HB3.out.size))
  clear hQ1 hQ2 hQ3 hQ4 hb4 HA3 HBB3 HB3 HDD HRD
  go_wp2_with fail
  refine HLI.out.mono ?_
  rintro e w5 ⟨rfl, hg5⟩
  have HA5 := hideL (HA4.out.below hg5.below)
  have HBB5 := hideL (HBB4.out.below hg5.below)
  have HB5 := hideL (HB4.out.trans (hg5.below.mono HB4.out.size))
  clear hg5 HA4 HBB4 HB4 HLI
  go_wp2_with fail
  refine (own_e w5 a c1 F (HF.out.below HB5.out) HBF.out hs).mono ?_
  rintro e w6 ⟨a6, k6, A6, rfl, hA1, hA2, hA3, hA4, hb6⟩
  have HLI := hideL (lists_any w6 a1 a6 F.length k1 k6 A A6 HAL.out (by omega) (HA5.out.below hb6) hA3 (by rw [HAE.out, hA4]))
  have HBB6 := hideL (HBB5.out.below hb6)
  have HB6 := hideL (HB5.out.trans (hb6.mono HB5.out.size))
  clear hA1 hA2 hA3 hA4 hb6 HA5 HBB5 HB5
  go_wp2_with fail
  refine HLI.out.mono ?_
  rintro e w7 ⟨rfl, hg7⟩
  have HBB7 := hideL (HBB6.out.below hg7.below)
  have HB7 := hideL (HB6.out.trans (hg7.below.mono HB6.out.size))
  clear hg7 HBB6 HB6 HLI
  go_wp2_with fail
  refine (own_e w7 b c2 T (HTT.out.below HB7.out) HBT.out hs2).mono ?_
  rintro e w8 ⟨a8, k8, A8, rfl, hA1, hA2, hA3, hA4, hb8⟩
  have HLI := hideL (lists_any w8 a2 a8 T.length k2 k8 B A8 HBL.out (by omega) (HBB7.out.below hb8) hA3 (by rw [HBE.out, hA4]))
  have HB8 := hideL (HB7.out.trans (hb8.mono HB7.out.size))
  clear hA1 hA2 hA3 hA4 hb8 HBB7 HB7
  go_wp2_with fail
  refine HLI.out.mono ?_
  rintro e w9 ⟨rfl, hg9⟩
  have HB9 := hideL (HB8.out.trans (hg9.below.mono HB8.out.size))
  clear hg9 HB8 HLI
  go_wp2_with fail
  go_loopw [8] (fun t wr => ∃ (i : Nat), t = .int .i64 i ∧ i ≤ F.length ∧ Below w.heap.size w wr) (fun t _ => F.length - (intOf t).toNat)
  case atStart => exact ⟨0, rfl, by omega, HB9.out⟩
  case round =>
    obtain ⟨i, rfl, hi, hbel⟩ := hrel
    have HB := hideL hbel
    clear hbel HB9
    have i0 : (0 : Int) ≤ i := by omega
    by_cases h3 : i < F.length
    · have h3' : (i : Int) < F.length := by omega
      by_cases h4 : i < T.length
      · have h4' : (i : Int) < T.length := by omega
        rcases hki : F[i]? with _ | x
        · have := List.getElem?_eq_none_iff.1 hki; omega
        rcases hkj : T[i]? with _ | o
        · have := List.getElem?_eq_none_iff.1 hkj; omega
        have HRX := hideL (HF.out.each x (List.mem_of_getElem? hki))
        have HRO := hideL (HTT.out.each o (List.mem_of_getElem? hkj))
        obtain ⟨g, off, rfl, y0, y1, y2, y3, y4, y5, y6, y7⟩ := (HF.out.row.below HB.out).cells hki
        obtain ⟨g', off', rfl, d0, d1, d2, d3, d4, d5, d6, d7⟩ := (HTT.out.row.below HB.out).cells hkj
        have HS := hideL (fun (w' : World) (h : Gr wr w') => show (w'.cell? ⟨g, off + i * 8, none⟩ = some (.int .i64 x.kd) ∧ w'.cell? ⟨g, off + i * 8 + 1, none⟩ = some (.string x.nm) ∧ w'.cell? ⟨g, off + i * 8 + 2, none⟩ = some (.slice x.ea x.eps.length x.ec) ∧ w'.cell? ⟨g, off + i * 8 + 3, none⟩ = some (.slice x.ta x.tgs.length x.tc) ∧ w'.cell? ⟨g, off + i * 8 + 4, none⟩ = some (.string x.host) ∧ w'.cell? ⟨g, off + i * 8 + 5, none⟩ = some (.slice x.ra x.rus.length x.rc) ∧ w'.cell? ⟨g, off + i * 8 + 6, none⟩ = some (.string x.route) ∧ w'.cell? ⟨g, off + i * 8 + 7, none⟩ = some (.bool x.del) ∧ w'.cell? ⟨g', off' + i * 8, none⟩ = some (.int .i64 o.kd) ∧ w'.cell? ⟨g', off' + i * 8 + 1, none⟩ = some (.string o.nm) ∧ w'.cell? ⟨g', off' + i * 8 + 2, none⟩ = some (.slice o.ea o.eps.length o.ec) ∧ w'.cell? ⟨g', off' + i * 8 + 3, none⟩ = some (.slice o.ta o.tgs.length o.tc) ∧ w'.cell? ⟨g', off' + i * 8 + 4, none⟩ = some (.string o.host) ∧ w'.cell? ⟨g', off' + i * 8 + 5, none⟩ = some (.slice o.ra o.rus.length o.rc) ∧ w'.cell? ⟨g', off' + i * 8 + 6, none⟩ = some (.string o.route) ∧ w'.cell? ⟨g', off' + i * 8 + 7, none⟩ = some (.bool o.del)) from ⟨h.cell y0, h.cell y1, h.cell y2, h.cell y3, h.cell y4, h.cell y5, h.cell y6, h.cell y7, h.cell d0, h.cell d1, h.cell d2, h.cell d3, h.cell d4, h.cell d5, h.cell d6, h.cell d7⟩)
        have HC1 : Hid (∀ W, Gr wr W → Calls Try.prog 20 #[.agg #[.int .i64 x.kd, .string x.nm, .slice x.ea x.eps.length x.ec, .slice x.ta x.tgs.length x.tc, .string x.host, .slice x.ra x.rus.length x.rc, .string x.route, .bool x.del], .agg #[.int .i64 o.kd, .string o.nm, .slice o.ea o.eps.length o.ec, .slice o.ta o.tgs.length o.tc, .string o.host, .slice o.ra o.rus.length o.rc, .string o.route, .bool o.del]] W fun e w' => e = .returned (.bool (sb x.toRs o.toRs)) ∧ Gr W w') := fun W hW => by
          refine (same_any W x o (HRX.out.below (HB.out.trans (hW.below.mono HB.out.size))) (HRO.out.below (HB.out.trans (hW.below.mono HB.out.size)))).mono ?_
          rintro e w' ⟨⟨b, rfl, hb⟩, h2⟩
          exact ⟨ret_bool (by rw [Bool.eq_iff_iff, hb, HSB.out]), h2⟩
        have HC2 : Hid (∀ W, Gr wr W → Calls Try.prog 21 #[.agg #[.int .i64 x.kd, .string x.nm, .slice x.ea x.eps.length x.ec, .slice x.ta x.tgs.length x.tc, .string x.host, .slice x.ra x.rus.length x.rc, .string x.route, .bool x.del], .agg #[.int .i64 o.kd, .string o.nm, .slice o.ea o.eps.length o.ec, .slice o.ta o.tgs.length o.tc, .string o.host, .slice o.ra o.rus.length o.rc, .string o.route, .bool o.del]] W fun e w' => e = .returned (.bool (sb x.toRs o.toRs)) ∧ Gr W w') := fun W hW => by
          refine (rsame_any W x o (HRX.out.below (HB.out.trans (hW.below.mono HB.out.size))) (HRO.out.below (HB.out.trans (hW.below.mono HB.out.size)))).mono ?_
          rintro e w' ⟨⟨b, rfl, hb⟩, h2⟩
          exact ⟨ret_bool (by rw [Bool.eq_iff_iff, hb, HSB.out]), h2⟩
        have HC3 : Hid (∀ W, Gr wr W → Calls Try.prog 20 #[.agg #[.int .i64 x.kd, .string x.nm, .slice x.ea x.eps.length x.ec, .slice x.ta x.tgs.length x.tc, .string x.host, .slice x.ra x.rus.length x.rc, .string x.route, .bool x.del], .agg #[.int .i64 x.kd, .string x.nm, .slice x.ea x.eps.length x.ec, .slice x.ta x.tgs.length x.tc, .string x.host, .slice x.ra x.rus.length x.rc, .string x.route, .bool x.del]] W fun e w' => e = .returned (.bool true) ∧ Gr W w') := fun W hW => by
          refine (same_any W x x (HRX.out.below (HB.out.trans (hW.below.mono HB.out.size))) (HRX.out.below (HB.out.trans (hW.below.mono HB.out.size)))).mono ?_
          rintro e w' ⟨⟨b, rfl, hb⟩, h2⟩
          exact ⟨ret_bool (hb.2 (SameC.refl _)), h2⟩
        generalize sb x.toRs o.toRs = bb at HC1 HC2
        clear hki hkj HRX HRO
        go_wp2_with fail
        go_region_held3 (fun w' => w'.cell? ⟨g, off + i * 8, none⟩ = some (.int .i64 x.kd) ∧ w'.cell? ⟨g, off + i * 8 + 1, none⟩ = some (.string x.nm) ∧ w'.cell? ⟨g, off + i * 8 + 2, none⟩ = some (.slice x.ea x.eps.length x.ec) ∧ w'.cell? ⟨g, off + i * 8 + 3, none⟩ = some (.slice x.ta x.tgs.length x.tc) ∧ w'.cell? ⟨g, off + i * 8 + 4, none⟩ = some (.string x.host) ∧ w'.cell? ⟨g, off + i * 8 + 5, none⟩ = some (.slice x.ra x.rus.length x.rc) ∧ w'.cell? ⟨g, off + i * 8 + 6, none⟩ = some (.string x.route) ∧ w'.cell? ⟨g, off + i * 8 + 7, none⟩ = some (.bool x.del) ∧ w'.cell? ⟨g', off' + i * 8, none⟩ = some (.int .i64 o.kd) ∧ w'.cell? ⟨g', off' + i * 8 + 1, none⟩ = some (.string o.nm) ∧ w'.cell? ⟨g', off' + i * 8 + 2, none⟩ = some (.slice o.ea o.eps.length o.ec) ∧ w'.cell? ⟨g', off' + i * 8 + 3, none⟩ = some (.slice o.ta o.tgs.length o.tc) ∧ w'.cell? ⟨g', off' + i * 8 + 4, none⟩ = some (.string o.host) ∧ w'.cell? ⟨g', off' + i * 8 + 5, none⟩ = some (.slice o.ra o.rus.length o.rc) ∧ w'.cell? ⟨g', off' + i * 8 + 6, none⟩ = some (.string o.route) ∧ w'.cell? ⟨g', off' + i * 8 + 7, none⟩ = some (.bool o.del)) (go_keep) (first
          | (go_at_call 20; refine (HC3.out _ HG2.out).mono ?_; rintro e w7 ⟨rfl, hg7⟩; have HG3 := hideL (HG2.out.trans hg7); obtain ⟨p0, p1, p2, p3, p4, p5, p6, p7, p8, p9, p10, p11, p12, p13, p14, p15⟩ := HS.out w7 HG3.out; clear hg7)
          | (go_at_call 21; refine (HC2.out _ HG1.out).mono ?_; rintro e w6 ⟨rfl, hg6⟩; have HG2 := hideL (HG1.out.trans hg6); obtain ⟨p0, p1, p2, p3, p4, p5, p6, p7, p8, p9, p10, p11, p12, p13, p14, p15⟩ := HS.out w6 HG2.out; clear hg6)
          | (go_at_call 20; refine (HC1.out _ (Gr.drewN wr 1)).mono ?_; rintro e w5 ⟨rfl, hg5⟩; have HG1 := hideL ((Gr.drewN wr 1).trans hg5); obtain ⟨p0, p1, p2, p3, p4, p5, p6, p7, p8, p9, p10, p11, p12, p13, p14, p15⟩ := HS.out w5 HG1.out; clear hg5))
        go_wp2
        go_roundw
        case rel => exact ⟨i + 1, by go_num, by omega, HB.out.trans (HG3.out.below.mono HB.out.size)⟩
        case measure => simp [intOf]; omega
      · have h4' : ¬ (i : Int) < T.length := by omega
        go_wp2
        go_ret
        exact ⟨rfl, HB.out⟩
    · have h3' : ¬ (i : Int) < F.length := by omega
      go_wp2
      go_ret
      exact ⟨rfl, HB.out⟩
end Go.Proofs.Ytmljljpldljpjaa
