import Derived.Test.YtmljljpldljpjaaBndA
import Derived.Test.YtmljljpldljpjaaBndB
import Derived.Test.YtmljljpldljpjaaOpen
/-
  The walk of CheckBack.
-/
namespace Go.Proofs.Ytmljljpldljpjaa
open Go.RowKit
set_option linter.unusedVariables false
set_option linter.unusedSimpArgs false
set_option maxRecDepth 100000
structure BackA (sb : Rs → Rs → Bool) (F T R : List Rs) : Prop where
  a0 : mgA F R = 0
  x0 : mgX F R = 0
  len : (mgL F R).length = T.length
  same : ∀ (i : Nat) (x t : Rs), (mgL F R)[i]? = some x → T[i]? = some t → SameC x t
  d1 : diffL sb T (mgL F R) = []
  d2 : diffL sb F F = []
  less : ∀ (i : Nat) (x y : Rs), R[i]? = some x → R[i + 1]? = some y → lessB x y = true
theorem back_all {sb : Rs → Rs → Bool} (hsb : ∀ a b, sb a b = true ↔ SameC a b) {F T : List Rs} (hF : astF F = F.length) (hT : astF T = T.length) (hl : T.length ≤ 64) : BackA sb F T (diffL sb F T) := by
  have oF := astF_ord hF
  have oT := astF_ord hT
  have hr : ∀ a, sb a a = true := fun a => (hsb a a).2 (SameC.refl a)
  have hn := back_none hr oF oT hF hl
  have hB := back_spec hr oF oT
  have hM : mgL F (diffL sb F T) = allM F (diffL sb F T) (diffL sb F T).length := by unfold mgL; rw [hn]
  have hlen : (mgL F (diffL sb F T)).length = T.length := by
    have := congrArg List.length hB.keys
    rw [hM]; simpa using this
  refine ⟨by unfold mgA; rw [hn], by unfold mgX; rw [hn], hlen, fun i x t hx ht => ?_, ?_, diffL_nil oF.ks oF.ks (fun k => Iff.rfl) (fun q hq x hx e => by rw [oF.ks.one hq hx e]; exact hr x), fun i x y hx hy => ?_⟩
  · rw [hM] at hx
    have hk : x.key = t.key := by
      have h1 : ((allM F (diffL sb F T) (diffL sb F T).length).map Rs.key)[i]? = some x.key := by simp [hx]
      rw [hB.keys] at h1
      simp [ht] at h1
      exact h1.symm
    exact (hsb x t).1 (hB.same x (List.mem_of_getElem? hx) t (List.mem_of_getElem? ht) hk)
  · rw [hM]
    refine diffL_nil oT.ks hB.ks (fun k => by rw [hB.keys]) (fun q hq x hx e => ?_)
    exact (hsb q x).2 (((hsb x q).1 (hB.same x hx q hq e.symm)).symm)
  · obtain ⟨h1, e1⟩ := List.getElem?_eq_some_iff.1 hx
    obtain ⟨h2, e2⟩ := List.getElem?_eq_some_iff.1 hy
    have := (List.pairwise_iff_getElem.1 (diffL_KS sb F T)) i (i + 1) h1 h2 (by omega)
    rw [e1, e2] at this
    exact (lessB_iff _ _).2 this
theorem diff_d {sb : Rs → Rs → Bool} (hsb : ∀ a b, sb a b = true ↔ SameC a b) (w : World) (a b : Option Addr) (c1 c2 : Nat) (F T : List Rx) (hF : Lr w a F) (hT : Lr w b T) (hs : F.length ≤ 1048576) (hs2 : T.length ≤ 1048576) :
    Calls Try.prog 18 #[.slice a F.length c1, .slice b T.length c2] w fun e w' => DifE w (diffL sb (F.map Rx.toRs) (T.map Rx.toRs)) e w' := by
  have := diff_e hsb w a b c1 c2 F T hF hT hs hs2
  unfold diffL
  rw [List.length_map, List.length_map]
  exact this
theorem diffL_len (sb : Rs → Rs → Bool) (F T : List Rs) : (diffL sb F T).length ≤ F.length + T.length := by
  unfold diffL
  rw [foldP_len, List.length_append]
  have := delsL_len F T F.length
  have := newsL_len sb F T T.length
  omega
set_option maxHeartbeats 32000000 in
theorem checkBack_any (w : World) (a b : Option Addr) (n m c1 c2 : Nat) (F T : List Rx) (hF : Lr w a F) (hT : Lr w b T) (hn : F.length = n) (hm : T.length = m) (hs : n ≤ 1048576) (hs2 : m ≤ 1048576) :
    Calls Try.prog 6 #[.slice a n c1, .slice b m c2] w fun e w' => e = .returned (.bool true) ∧ Below w.heap.size w w' := by
  obtain ⟨sb, hsb⟩ : ∃ sb : Rs → Rs → Bool, ∀ a b, (sb a b = true ↔ SameC a b) := ⟨fun a b => @decide (SameC a b) (Classical.propDecidable _), fun a b => @decide_eq_true_iff _ (Classical.propDecidable _)⟩
  subst hn hm
  have HF := hideL hF
  have HT := hideL hT
  have HSB := hideL hsb
  clear hF hT hsb
  go_enter Try.func6, Try.ntmps6
  go_wp2_with fail
  refine (awake_any w).mono ?_
  rintro e w1 ⟨rfl, hb1⟩
  have HB1 := hideL hb1
  clear hb1
  go_wp2_with fail
  refine (ordered_any w1 a F.length c1 F (HF.out.below HB1.out) rfl (by omega)).mono ?_
  rintro e w2 ⟨rfl, hg2⟩
  have HB2 := hideL (HB1.out.trans (hg2.below.mono HB1.out.size))
  clear hg2
  by_cases ho : astF (F.map Rx.toRs) = F.length
  · rw [decide_eq_true ho]
    have HOF : Hid (astF (F.map Rx.toRs) = (F.map Rx.toRs).length) := by unfold Hid; rw [ho, List.length_map]
    clear ho
    go_wp2_with fail
    refine (ordered_any w2 b T.length c2 T (HT.out.below HB2.out) rfl (by omega)).mono ?_
    rintro e w3 ⟨rfl, hg3⟩
    have HB3 := hideL (HB2.out.trans (hg3.below.mono HB2.out.size))
    clear hg3
    by_cases ho : astF (T.map Rx.toRs) = T.length
    · rw [decide_eq_true ho]
      have HOT : Hid (astF (T.map Rx.toRs) = (T.map Rx.toRs).length) := by unfold Hid; rw [ho, List.length_map]
      clear ho
      by_cases hf64 : 64 < F.length
      · have hf64' : (64 : Int) < F.length := by omega
        go_wp2
        go_ret
        exact ⟨rfl, HB3.out⟩
      · have hf64' : ¬ (64 : Int) < F.length := by omega
        by_cases ht64 : 64 < T.length
        · have ht64' : (64 : Int) < T.length := by omega
          go_wp2
          go_ret
          exact ⟨rfl, HB3.out⟩
        · have ht64' : ¬ (64 : Int) < T.length := by omega
          have HBA := hideL (back_all HSB.out HOF.out HOT.out (by rw [List.length_map]; omega))
          have HDI := hideL (diff_d HSB.out w3 a b c1 c2 F T (HF.out.below HB3.out) (HT.out.below HB3.out) hs hs2)
          have HRL : Hid ((diffL sb (F.map Rx.toRs) (T.map Rx.toRs)).length ≤ 128) := by
            unfold Hid
            have := diffL_len sb (F.map Rx.toRs) (T.map Rx.toRs)
            simp only [List.length_map] at this
            omega
          generalize diffL sb (F.map Rx.toRs) (T.map Rx.toRs) = R at HBA HDI HRL
          go_wp2_with fail
          refine HDI.out.mono ?_
          rintro e w4 ⟨a4, k4, D, rfl, hD1, _, hD3, hD4, hb4⟩
          have HDD := hideL hD3
          have HDE := hideL hD4
          have HDL := hideL hD1
          have HB4 := hideL (HB3.out.trans (hb4.mono HB3.out.size))
          clear hD1 hD3 hD4 hb4 HDI
          have HME : Hid (Calls Try.prog 10 #[.slice a F.length c1, .slice a4 R.length k4] w4 fun e w' => MeE w4 (F.map Rx.toRs) R e w') := by
            have := merge_e w4 a a4 c1 k4 F D (HF.out.below HB4.out) HDD.out hs (by rw [HDL.out]; have := HRL.out; omega)
            rw [HDE.out, HDL.out] at this
            exact this
          unfold MeE at HME
          rw [HBA.out.a0, HBA.out.x0] at HME
          have hML : (mgL (F.map Rx.toRs) R).length = T.length := by rw [HBA.out.len, List.length_map]
          rw [hML] at HME
          clear hML
          go_wp2_with fail
          refine HME.out.mono ?_
          rintro e w5 ⟨a5, k5, Q, rfl, hQ1, hQ2, hQ3, hb5⟩
          have HB5 := hideL (HB4.out.trans (hb5.mono HB4.out.size))
          have HD5 := hideL (HDD.out.below hb5)
          have HQ := hideL hQ2
          have HQE := hideL hQ3
          have HQL := hideL hQ1
          clear hQ1 hQ2 hQ3 hb5 HME HDD
          have HLI := hideL (listsC_any w5 a5 b T.length k5 c2 Q T HQL.out (by omega) HQ.out (HT.out.below HB5.out) ⟨rfl, fun i o p ho hp => HBA.out.same i o.toRs p.toRs (by rw [← HQE.out]; simp [ho]) (by simp [hp])⟩)
          go_wp2_with fail
          refine HLI.out.mono ?_
          rintro e w6 ⟨rfl, hg6⟩
          have HB6 := hideL (HB5.out.trans (hg6.below.mono HB5.out.size))
          have HD6 := hideL (HD5.out.below hg6.below)
          have HQ6 := hideL (HQ.out.below hg6.below)
          clear hg6 HLI HD5 HQ
          have HD2 : Hid (Calls Try.prog 18 #[.slice b T.length c2, .slice a5 T.length k5] w6 fun e w' => DifE w6 [] e w') := by
            have := diff_d HSB.out w6 b a5 c2 k5 T Q (HT.out.below HB6.out) HQ6.out hs2 (by rw [HQL.out]; exact hs2)
            rw [HQE.out, HBA.out.d1, HQL.out] at this
            exact this
          unfold DifE at HD2
          dsimp only [List.length_nil] at HD2
          go_wp2_with fail
          refine HD2.out.mono ?_
          rintro e w7 ⟨a7, k7, Q7, rfl, _, _, _, _, hb7⟩
          have HB7 := hideL (HB6.out.trans (hb7.mono HB6.out.size))
          have HD7 := hideL (HD6.out.below hb7)
          clear hb7 HD2 HD6
          have HD2 : Hid (Calls Try.prog 18 #[.slice a F.length c1, .slice a F.length c1] w7 fun e w' => DifE w7 [] e w') := by
            have := diff_d HSB.out w7 a a c1 c1 F F (HF.out.below HB7.out) (HF.out.below HB7.out) hs hs
            rw [HBA.out.d2] at this
            exact this
          unfold DifE at HD2
          dsimp only [List.length_nil] at HD2
          go_wp2_with fail
          refine HD2.out.mono ?_
          rintro e w8 ⟨a8, k8, Q8, rfl, _, _, _, _, hb8⟩
          have HB8 := hideL (HB7.out.trans (hb8.mono HB7.out.size))
          have HD8 := hideL (HD7.out.below hb8)
          clear hb8 HD2 HD7
          obtain ⟨l, hl⟩ : ∃ l, R.length = l := ⟨_, rfl⟩
          have hl128 : l ≤ 128 := by rw [← hl]; exact HRL.out
          have HDL2 : Hid (D.length = l) := by unfold Hid; rw [HDL.out, hl]
          rw [hl]
          clear hl
          go_wp2_with fail
          go_loopw [9] (fun t wr => ∃ (i : Nat), t = .int .i64 i ∧ i ≤ l ∧ Gr w8 wr) (fun t _ => l - (intOf t).toNat)
          case atStart => exact ⟨0, rfl, by omega, Gr.refl _⟩
          case round =>
            obtain ⟨i, rfl, hi, hgr⟩ := hrel
            have HG := hideL hgr
            clear hgr
            have i0 : (0 : Int) ≤ i := by omega
            by_cases h3 : i < l
            · have h3' : (i : Int) < l := by omega
              by_cases hz : i = 0
              · have hz1 : ¬ (0 : Int) < i := by omega
                have hz2 : decide ((0 : Int) < i) = false := by simp; omega
                have hz3 : decide (0 < i) = false := by simp; omega
                have hz4 : ¬ 0 < i := by omega
                clear hz
                go_wp2_with fail
                go_quiet (fail)
                go_wp2
                go_roundw
                case rel => exact ⟨i + 1, by go_num, by omega, HG.out.trans (Gr.drewN _ _)⟩
                case measure => simp [intOf]; omega
              · obtain ⟨k, hk⟩ : ∃ k, i = k + 1 := ⟨i - 1, by omega⟩
                have hz1 : (0 : Int) < i := by omega
                have hz2 : decide ((0 : Int) < i) = true := by simp; omega
                have hz3 : decide (0 < i) = true := by simp; omega
                have hz4 : 0 < i := by omega
                rcases hki : D[i]? with _ | o
                · have := List.getElem?_eq_none_iff.1 hki; have := HDL2.out; omega
                rcases hkq : D[k]? with _ | q
                · have := List.getElem?_eq_none_iff.1 hkq; have := HDL2.out; omega
                obtain ⟨g, off, ea, d0, d1, d2, d3, d4, d5, d6, d7⟩ := (HD8.out.row.below HG.out.below).cells hki
                obtain ⟨g', off', eb, y0, y1, y2, y3, y4, y5, y6, y7⟩ := (HD8.out.row.below HG.out.below).cells hkq
                have e12 := ea.symm.trans eb
                cases e12
                subst ea
                have HLS : Hid (lessB q.toRs o.toRs = true) := HBA.out.less k q.toRs o.toRs (by rw [← HDE.out]; simp [hkq]) (by rw [← HDE.out, ← hk]; simp [hki])
                have k0 : (0 : Int) ≤ k := by omega
                have k1 : (k : Int) < l := by omega
                have HCM : Hid (∀ W, Calls Try.prog 23 #[.agg #[.int .i64 q.kd, .string q.nm, .slice q.ea q.eps.length q.ec, .slice q.ta q.tgs.length q.tc, .string q.host, .slice q.ra q.rus.length q.rc, .string q.route, .bool q.del], .agg #[.int .i64 o.kd, .string o.nm, .slice o.ea o.eps.length o.ec, .slice o.ta o.tgs.length o.tc, .string o.host, .slice o.ra o.rus.length o.rc, .string o.route, .bool o.del]] W fun e w' => e = .returned (.bool true) ∧ Gr W w') := fun W => by
                  have := less_any W q o
                  rw [HLS.out] at this
                  exact this
                have HS := hideL (fun (w' : World) (h : Gr wr w') => show (w'.cell? ⟨g, off + k * 8, none⟩ = some (.int .i64 q.kd) ∧ w'.cell? ⟨g, off + k * 8 + 1, none⟩ = some (.string q.nm) ∧ w'.cell? ⟨g, off + k * 8 + 2, none⟩ = some (.slice q.ea q.eps.length q.ec) ∧ w'.cell? ⟨g, off + k * 8 + 3, none⟩ = some (.slice q.ta q.tgs.length q.tc) ∧ w'.cell? ⟨g, off + k * 8 + 4, none⟩ = some (.string q.host) ∧ w'.cell? ⟨g, off + k * 8 + 5, none⟩ = some (.slice q.ra q.rus.length q.rc) ∧ w'.cell? ⟨g, off + k * 8 + 6, none⟩ = some (.string q.route) ∧ w'.cell? ⟨g, off + k * 8 + 7, none⟩ = some (.bool q.del) ∧ w'.cell? ⟨g, off + i * 8, none⟩ = some (.int .i64 o.kd) ∧ w'.cell? ⟨g, off + i * 8 + 1, none⟩ = some (.string o.nm) ∧ w'.cell? ⟨g, off + i * 8 + 2, none⟩ = some (.slice o.ea o.eps.length o.ec) ∧ w'.cell? ⟨g, off + i * 8 + 3, none⟩ = some (.slice o.ta o.tgs.length o.tc) ∧ w'.cell? ⟨g, off + i * 8 + 4, none⟩ = some (.string o.host) ∧ w'.cell? ⟨g, off + i * 8 + 5, none⟩ = some (.slice o.ra o.rus.length o.rc) ∧ w'.cell? ⟨g, off + i * 8 + 6, none⟩ = some (.string o.route) ∧ w'.cell? ⟨g, off + i * 8 + 7, none⟩ = some (.bool o.del)) from ⟨h.cell y0, h.cell y1, h.cell y2, h.cell y3, h.cell y4, h.cell y5, h.cell y6, h.cell y7, h.cell d0, h.cell d1, h.cell d2, h.cell d3, h.cell d4, h.cell d5, h.cell d6, h.cell d7⟩)
                have hwk : IntKind.i64.wrap (k : Int) = k := by simp [IntKind.wrap, IntKind.bits, IntKind.signed]; omega
                have hwk2 : IntKind.i64.wrap ((i : Int) - 1) = k := by rw [show (i : Int) - 1 = k by omega]; exact hwk
                clear hkq hki hk hz eb
                go_wp2_with fail
                go_region_held3 (fun w' => w'.cell? ⟨g, off + k * 8, none⟩ = some (.int .i64 q.kd) ∧ w'.cell? ⟨g, off + k * 8 + 1, none⟩ = some (.string q.nm) ∧ w'.cell? ⟨g, off + k * 8 + 2, none⟩ = some (.slice q.ea q.eps.length q.ec) ∧ w'.cell? ⟨g, off + k * 8 + 3, none⟩ = some (.slice q.ta q.tgs.length q.tc) ∧ w'.cell? ⟨g, off + k * 8 + 4, none⟩ = some (.string q.host) ∧ w'.cell? ⟨g, off + k * 8 + 5, none⟩ = some (.slice q.ra q.rus.length q.rc) ∧ w'.cell? ⟨g, off + k * 8 + 6, none⟩ = some (.string q.route) ∧ w'.cell? ⟨g, off + k * 8 + 7, none⟩ = some (.bool q.del) ∧ w'.cell? ⟨g, off + i * 8, none⟩ = some (.int .i64 o.kd) ∧ w'.cell? ⟨g, off + i * 8 + 1, none⟩ = some (.string o.nm) ∧ w'.cell? ⟨g, off + i * 8 + 2, none⟩ = some (.slice o.ea o.eps.length o.ec) ∧ w'.cell? ⟨g, off + i * 8 + 3, none⟩ = some (.slice o.ta o.tgs.length o.tc) ∧ w'.cell? ⟨g, off + i * 8 + 4, none⟩ = some (.string o.host) ∧ w'.cell? ⟨g, off + i * 8 + 5, none⟩ = some (.slice o.ra o.rus.length o.rc) ∧ w'.cell? ⟨g, off + i * 8 + 6, none⟩ = some (.string o.route) ∧ w'.cell? ⟨g, off + i * 8 + 7, none⟩ = some (.bool o.del)) (go_keep) (first
                  | (go_at_call 23; refine (HCM.out _).mono ?_; rintro e w9 ⟨rfl, hg9⟩; have HG9 := hideL ((Gr.drewN wr 1).trans hg9); obtain ⟨p0, p1, p2, p3, p4, p5, p6, p7, p8, p9, p10, p11, p12, p13, p14, p15⟩ := HS.out w9 HG9.out; clear hg9))
                go_wp2
                go_roundw
                case rel => exact ⟨i + 1, by go_num, by omega, HG.out.trans HG9.out⟩
                case measure => simp [intOf]; omega
            · have h3' : ¬ (i : Int) < l := by omega
              go_wp2
              go_ret
              exact ⟨rfl, HB8.out.trans (HG.out.below.mono HB8.out.size)⟩
    · rw [decide_eq_false ho]
      clear ho
      go_wp2
      go_ret
      exact ⟨rfl, HB3.out⟩
  · rw [decide_eq_false ho]
    clear ho
    go_wp2
    go_ret
    exact ⟨rfl, HB2.out⟩
end Go.Proofs.Ytmljljpldljpjaa

/-
  CheckBack holds of the program: what makes one configuration another, merged into the one, makes the other; of readings of bulk at most 1048576.
-/
namespace Go.Proofs.Ytmljljpldljpjaa
open Go.ChangeShapes Go.WideShapes Go.ChangeAt Go.RowKit
set_option linter.unusedVariables false
set_option linter.unusedSimpArgs false

set_option maxRecDepth 100000 in
theorem checkBack_lifted (os : Os) (started : os.Started) (H : Type) (enc : TypeId × Value → H) (F : Stop.Interp) :
    ReturnsInHanded {} Try.checked os 6 .any ((Rows.OpenSpec.upto Rows.checkBackSpec).pre6 enc Try.prog Try.f6 Rows.checkBackUptoRow.domain false) (((Rows.OpenSpec.upto Rows.checkBackSpec).at F).post enc Try.prog Try.f6 false true false false) := by
  refine returnsInHanded_of_cond (C := Try.checked) (s := Rows.OpenSpec.upto Rows.checkBackSpec) (k := Rows.uptoSmall) rfl own started (by kernel_rfl) Try.func6
    (OpenSpec.witness (enc := enc) (C := Try.checked) (s := Rows.OpenSpec.upto Rows.checkBackSpec) (k := Rows.uptoSmall) rfl false ⟨#[], #[.slice none 0 0, .slice none 0 0], []⟩ 8 (by kernel_rfl) (by kernel_rfl) (by kernel_rfl)
      (x := ([.nil, .nil], [], [])) (by kernel_rfl) rfl (by kernel_rfl)) ?_
  intro W base args ds gs before hval0 hW _ hk _
  have hval : ∀ (j : Nat) t v, Try.f6.params[j]? = some t → args[j]? = some v → Value.okWide Try.prog W .any base t v := hval0
  have hbulk : Rows.uptoBulkAll (ds ++ gs) ≤ 1048576 := of_decide_eq_true hk
  have hW' := hW
  obtain ⟨p, q, hA0, hV, rfl, hfz, hnd⟩ := hW
  have hA : DataW.TrodAll enc Try.prog W 0 (fun _ => true) true Try.f6.params.toList args.toList ds p := hA0
  rw [Try.params6] at hA hval
  obtain ⟨v0, vs0, d0, ds0, p0, q0, hargs, rfl, rfl, h0, r0⟩ := trodAll_cons hA
  obtain ⟨v1, vs1, d1, ds1, p1, q1, rfl, rfl, rfl, h1, r1⟩ := trodAll_cons r0
  obtain ⟨rfl, rfl, rfl⟩ := trodAll_nil r1
  obtain rfl : args = #[v0, v1] := by cases args; simp_all
  obtain ⟨rfl, rfl⟩ := trodVars_none hV
  obtain ⟨a0, len0, cap0, rfl⟩ := okWide_slice Try.underlying22 (hval 0 22 v0 rfl rfl)
  have k0 := h0
  have lt0 : ∀ x ∈ p0, x.block < W.heap.size := by obtain ⟨m, hm⟩ := k0; exact DataW.trod_lt m _ _ _ hm
  obtain ⟨z0, w0⟩ := open_res h0 (j := 0) rfl hbulk
  obtain ⟨a1, len1, cap1, rfl⟩ := okWide_slice Try.underlying22 (hval 1 22 v1 rfl rfl)
  have k1 := h1
  have lt1 : ∀ x ∈ p1, x.block < W.heap.size := by obtain ⟨m, hm⟩ := k1; exact DataW.trod_lt m _ _ _ hm
  obtain ⟨z1, w1⟩ := open_res h1 (j := 1) rfl hbulk
  clear hA0 hval0
  refine (checkBack_any W a0 a1 len0 len1 cap0 cap1 z0 z1 w0.2.1 w1.2.1 w0.1 w1.1 w0.2.2.2.1 w1.2.2.2.1).mono fun e W' ⟨he, bel⟩ => ?_
  subst he
  exact ⟨_, rfl, _, _, _, [], _, [], hW', trodAll_mk1 (shut_bool Try.underlying4 _), (trodAll_cons_mk (Below.trod laidOut (by kernel_rfl) (of_decide_eq_true (by kernel_rfl)) k0 bel lt0) (trodAll_cons_mk (Below.trod laidOut (by kernel_rfl) (of_decide_eq_true (by kernel_rfl)) k1 bel lt1) trodAll_mk0)), rfl, bel.frame _, fun h => by cases h⟩

theorem checkBack_holdsUpto : Rows.CheckBackUptoSaid :=
  OpenClaim.holds_of_cond 6 Try.f6 rfl rfl rfl rfl rfl rfl rfl ⟨rfl, rfl, rfl, rfl, rfl⟩ rfl rfl rfl rfl rfl (by kernel_rfl) Try.func6 (by kernel_rfl)
    (of_decide_eq_true (by kernel_rfl)) (by unfold Func.isWrapper; first | (rw [if_pos (by decide +kernel)]; kernel_rfl) | (rw [if_neg (by decide +kernel)]; exact ⟨rfl, rfl⟩))
    (fun os started H enc _ F => checkBack_lifted os started H enc F)
#print axioms checkBack_holdsUpto
end Go.Proofs.Ytmljljpldljpjaa
