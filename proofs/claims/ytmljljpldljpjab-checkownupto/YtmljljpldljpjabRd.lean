/-
  The document's Diff.
-/
import Derived.Test.YtmljljpldljpjabDf
import Derived.Test.YtmljljpldljpjabPw
namespace Go.Proofs.Ytmljljpldljpjab
open Go.RowKit
set_option linter.unusedVariables false
set_option linter.unusedSimpArgs false
set_option maxRecDepth 100000
theorem find_q (w : World) (a : Option Addr) (n c : Nat) (os : List Rx) (kd : Int) (nm : ByteArray) (hn : os.length = n) (hs : n ≤ 4194304) (h1 : Cel w a 8 (os.map Rx.row)) (q : Nat) :
    Calls Try.prog 22 #[.slice a n c, .int .i64 kd, .string nm] (w.drewN q) fun e w' => e = .returned (.int .i64 (findI (os.map Rx.toRs) (kd, nm))) ∧ ∃ k, w' = w.drewN k :=
  (find_any (w.drewN q) a n c os kd nm hn hs (h1.below (Gr.drewN w q).below)).mono fun e w' ⟨he, hw⟩ => ⟨he, q, hw⟩
theorem findI_some {l : List Rs} {k : Int × ByteArray} {i : Nat} (h : firstsF l k = some i) : findI l k = i := by unfold findI; rw [h]
theorem findI_none {l : List Rs} {k : Int × ByteArray} (h : firstsF l k = none) : findI l k = -1 := by unfold findI; rw [h]
/-- a list of resources told, that says so -/
def RdE (w : World) (R : List Rs) (e : Ending) (w' : World) : Prop := ∃ a' k' c' qs, e = .returned (.slice a' k' c') ∧ qs.length = k' ∧ Lr w' a' qs ∧ Frm a' k' c' ∧ qs.map Rx.toRs = R ∧ Below w.heap.size w w'
theorem put_lr {w W : World} {v : Value} {os : List Rx} (h : Gl w W v os) : ∃ a c, v = .slice a os.length c ∧ Lr W a os ∧ Frm a os.length c ∧ Below w.heap.size w W := by
  obtain ⟨a, c, rfl, _⟩ := own_form h.row
  exact ⟨a, c, rfl, h.lr, own_frm h.row, h.bel⟩
theorem putX_len (os : List Rx) (r : Rx) : (putX os r).length = os.length + 1 := by unfold putX; simp; omega
set_option maxHeartbeats 32000000 in
theorem rdiff_any (sb : Rs → Rs → Bool) (hsb : ∀ a b, sb a b = true ↔ SameC a b)
    (w : World) (a b : Option Addr) (n m c1 c2 : Nat) (F T : List Rx) (hF : Lr w a F) (hT : Lr w b T) (hn : F.length = n) (hm : T.length = m) (hs : n ≤ 1048576) (hs2 : m ≤ 1048576) :
    Calls Try.prog 12 #[.slice a n c1, .slice b m c2] w fun e w' => RdE w (foldP (delsL (F.map Rx.toRs) (T.map Rx.toRs) n ++ newsL sb (F.map Rx.toRs) (T.map Rx.toRs) m)) e w' := by
  have HF := hideL hF
  have HTT := hideL hT
  have HN := hideL hn
  have HM := hideL hm
  have HSB := hideL hsb
  clear hF hT hn hm hsb
  go_enter Try.func12, Try.ntmps12
  go_wp2_with fail
  go_loopw [5, 6] (fun v t wr => ∃ (i : Nat) (va : Option Addr) (vc : Nat) (os : List Rx), v = .slice va os.length vc ∧ t = .int .i64 i ∧ i ≤ n ∧ Lr wr va os ∧ Frm va os.length vc ∧ os.map Rx.toRs = foldP (delsL (F.map Rx.toRs) (T.map Rx.toRs) i) ∧ Below w.heap.size w wr) (fun _ t _ => n - (intOf t).toNat)
  case atStart => exact ⟨0, none, 0, [], rfl, rfl, by omega, ⟨fun o ho => (by cases ho), .inl rfl⟩, .inl ⟨rfl, rfl, rfl⟩, rfl, Below.refl _ _⟩
  case round =>
    obtain ⟨i, va, vc, os, rfl, rfl, hi, hlr, hfr, hos, hbel⟩ := hrel
    have i0 : (0 : Int) ≤ i := by omega
    have hol : os.length ≤ i := by
      have := congrArg List.length hos
      have h2 := delsL_len (F.map Rx.toRs) (T.map Rx.toRs) i
      rw [foldP_len] at this
      simp at this; omega
    have HLR := hideL hlr
    have HFR := hideL hfr
    have HOS := hideL hos
    have HB := hideL hbel
    clear hlr hfr hos hbel
    by_cases h3 : i < n
    · have h3' : (i : Int) < n := by omega
      rcases hki : F[i]? with _ | o
      · have := List.getElem?_eq_none_iff.1 hki; have := HN.out; omega
      have HRO := hideL (HF.out.each o (List.mem_of_getElem? hki))
      obtain ⟨g, off, rfl, d0, d1, d2, d3, d4, d5, d6, d7⟩ := (HF.out.row.below HB.out).cells hki
      have HKI : Hid ((F.map Rx.toRs)[i]? = some o.toRs) := by unfold Hid; simp [hki]
      have HST : Hid (delsL (F.map Rx.toRs) (T.map Rx.toRs) (i + 1) = delsL (F.map Rx.toRs) (T.map Rx.toRs) i ++ (if goneB (F.map Rx.toRs) (T.map Rx.toRs) i o.toRs = true then [delR o.toRs] else [])) := delsL_step HKI.out
      have HNO : Hid (goneB (F.map Rx.toRs) (T.map Rx.toRs) i o.toRs = false → os.map Rx.toRs = foldP (delsL (F.map Rx.toRs) (T.map Rx.toRs) (i + 1))) := fun h => by rw [HST.out, h, HOS.out]; simp
      clear hki
      obtain ⟨f, q', hf, hfi, _⟩ := firstsF_some HKI.out
      have HF1 : Hid (∀ q, Calls Try.prog 22 #[.slice (some ⟨g, off, none⟩) n c1, .int .i64 o.kd, .string o.nm] (wr.drewN q) fun e w' => e = .returned (.int .i64 f) ∧ ∃ k, w' = wr.drewN k) := fun q => by
        have := find_q wr (some ⟨g, off, none⟩) n c1 F o.kd o.nm HN.out (by omega) (HF.out.row.below HB.out) q
        rwa [show findI (F.map Rx.toRs) (o.kd, o.nm) = f from findI_some hf] at this
      have HF2 : Hid (∀ q, Calls Try.prog 22 #[.slice b m c2, .int .i64 o.kd, .string o.nm] (wr.drewN q) fun e w' => e = .returned (.int .i64 (findI (T.map Rx.toRs) (o.kd, o.nm))) ∧ ∃ k, w' = wr.drewN k) := fun q => find_q wr b m c2 T o.kd o.nm HM.out (by omega) (HTT.out.row.below HB.out) q
      by_cases hfe : f = i
      · subst hfe
        rcases hft : firstsF (T.map Rx.toRs) o.key with _ | t
        · have HE : Hid (findI (T.map Rx.toRs) (o.kd, o.nm) = -1) := findI_none hft
          rw [HE.out] at HF2
          have HYES : Hid ((putX os (delX o)).map Rx.toRs = foldP (delsL (F.map Rx.toRs) (T.map Rx.toRs) (f + 1))) := by
            unfold Hid
            rw [HST.out, putX_says, HOS.out, if_pos (by unfold goneB; simp [hf, hft]), foldP_snoc]
            rfl
          have HC : Hid (∀ W, Below wr.heap.size wr W → Calls Try.prog 24 #[.slice va os.length vc, .agg #[.int .i64 o.kd, .string o.nm, .slice none 0 0, .slice none 0 0, .string ⟨#[]⟩, .slice none 0 0, .string ⟨#[]⟩, .bool true]] W fun e w' => ∃ v, e = .returned v ∧ Gl W w' v (putX os (delX o))) := fun W hW => put_any W va os.length vc os (delX o) (HLR.out.below hW) ((delX_rin HRO.out).below (HB.out.trans (hW.mono HB.out.size))) rfl (by omega) HFR.out
          clear hft hf
          have HFA : Hid (∀ (A : Option Addr) (N C : Nat) (R : Int) (q : Nat), ((A = some ⟨g, off, none⟩ ∧ N = n ∧ C = c1 ∧ R = f) ∨ (A = b ∧ N = m ∧ C = c2 ∧ R = -1)) → Calls Try.prog 22 #[.slice A N C, .int .i64 o.kd, .string o.nm] (wr.drewN q) fun e w' => e = .returned (.int .i64 R) ∧ ∃ k, w' = wr.drewN k) := fun A N C R q h => by
            rcases h with ⟨rfl, rfl, rfl, rfl⟩ | ⟨rfl, rfl, rfl, rfl⟩
            · exact HF1.out q
            · exact HF2.out q
          clear HF1 HF2
          go_wp2_with fail
          go_quiet (exact HFA.out _ _ _ _ _ (by first | exact .inl ⟨rfl, rfl, rfl, rfl⟩ | exact .inr ⟨rfl, rfl, rfl, rfl⟩))
          have HGD := hideL (Gr.drewN wr nq)
          generalize wr.drewN nq = w5 at HGD ⊢
          have e0 := HGD.out.cell d0
          have e1 := HGD.out.cell d1
          clear d0 d1 d2 d3 d4 d5 d6 d7
          go_wp2_with fail
          go_region_held3 (fun w' => w'.cell? ⟨g, off + f * 8, none⟩ = some (.int .i64 o.kd) ∧ w'.cell? ⟨g, off + f * 8 + 1, none⟩ = some (.string o.nm)) (go_keep) (first
            | (go_at_call 24; refine (HC.out _ (HGD.out.trans (Gr.drewN w5 1)).below).mono ?_; rintro e w6 ⟨v6, rfl, hgl⟩; obtain ⟨a6, c6, rfl, hl6, hf6, hb6⟩ := put_lr hgl; have HL6 := hideL hl6; have HF6 := hideL hf6; have HB6 := hideL ((HGD.out.trans (Gr.drewN w5 1)).below.trans (hb6.mono (HGD.out.trans (Gr.drewN w5 1)).below.size)); have z0 := cell_of_below hb6 e0; have z1 := cell_of_below hb6 e1; clear hgl hl6 hf6 hb6))
          go_wp2
          go_roundw
          case rel => exact ⟨f + 1, a6, c6, putX os (delX o), rfl, by go_num, by omega, HL6.out, HF6.out, HYES.out, HB.out.trans (HB6.out.mono HB.out.size)⟩
          case measure => simp [intOf]; omega
        · have HE : Hid (findI (T.map Rx.toRs) (o.kd, o.nm) = t) := findI_some hft
          rw [HE.out] at HF2
          have HN1 := hideL (HNO.out (by unfold goneB; simp [hft]))
          have t0 : decide ((t : Int) < 0) = false := by simp
          have t1 : ¬ (t : Int) < 0 := by omega
          clear hft hf
          have HFA : Hid (∀ (A : Option Addr) (N C : Nat) (R : Int) (q : Nat), ((A = some ⟨g, off, none⟩ ∧ N = n ∧ C = c1 ∧ R = f) ∨ (A = b ∧ N = m ∧ C = c2 ∧ R = t)) → Calls Try.prog 22 #[.slice A N C, .int .i64 o.kd, .string o.nm] (wr.drewN q) fun e w' => e = .returned (.int .i64 R) ∧ ∃ k, w' = wr.drewN k) := fun A N C R q h => by
            rcases h with ⟨rfl, rfl, rfl, rfl⟩ | ⟨rfl, rfl, rfl, rfl⟩
            · exact HF1.out q
            · exact HF2.out q
          clear HF1 HF2
          go_wp2_with fail
          go_quiet (exact HFA.out _ _ _ _ _ (by first | exact .inl ⟨rfl, rfl, rfl, rfl⟩ | exact .inr ⟨rfl, rfl, rfl, rfl⟩))
          go_wp2
          go_roundw
          case rel => exact ⟨f + 1, va, vc, os, rfl, by go_num, by omega, HLR.out.below (Gr.drewN _ _).below, HFR.out, HN1.out, HB.out.trans (below_drewN (Below.refl _ _) _)⟩
          case measure => simp [intOf]; omega
      · have HN1 := hideL (HNO.out (by unfold goneB; simp [hf, hfe]))
        have hte' : decide ((f : Int) = i) = false := by simp; omega
        have hte2 : decide (f = i) = false := by simp [hfe]
        have hte3 : ((f : Int) == (i : Int)) = false := by simp; omega
        clear hf hfe
        go_wp2_with fail
        go_quiet (exact HF1.out _)
        go_wp2
        go_roundw
        case rel => exact ⟨i + 1, va, vc, os, rfl, by go_num, by omega, HLR.out.below (Gr.drewN _ _).below, HFR.out, HN1.out, HB.out.trans (below_drewN (Below.refl _ _) _)⟩
        case measure => simp [intOf]; omega
    · have h3' : ¬ (i : Int) < n := by omega
      obtain rfl : i = n := by omega
      go_wp2_with fail
      go_loopw [5, 7] (fun v t wr => ∃ (j : Nat) (va : Option Addr) (vc : Nat) (os : List Rx), v = .slice va os.length vc ∧ t = .int .i64 j ∧ j ≤ m ∧ Lr wr va os ∧ Frm va os.length vc ∧ os.map Rx.toRs = foldP (delsL (F.map Rx.toRs) (T.map Rx.toRs) i ++ newsL sb (F.map Rx.toRs) (T.map Rx.toRs) j) ∧ Below w.heap.size w wr) (fun _ t _ => m - (intOf t).toNat)
      case atStart => exact ⟨0, va, vc, os, rfl, rfl, by omega, HLR.out, HFR.out, by rw [HOS.out]; simp [newsL], HB.out⟩
      case round =>
        clear HLR HFR HOS HB hol
        obtain ⟨j, va, vc, os, rfl, rfl, hj, hlr, hfr, hos, hbel⟩ := hrel
        have j0 : (0 : Int) ≤ j := by omega
        have hol : os.length ≤ i + j := by
          have := congrArg List.length hos
          have h2 := delsL_len (F.map Rx.toRs) (T.map Rx.toRs) i
          have h4 := newsL_len sb (F.map Rx.toRs) (T.map Rx.toRs) j
          rw [foldP_len] at this
          simp at this; omega
        have HLR := hideL hlr
        have HFR := hideL hfr
        have HOS := hideL hos
        have HB := hideL hbel
        clear hlr hfr hos hbel
        by_cases h4 : j < m
        · have h4' : (j : Int) < m := by omega
          rcases hki : T[j]? with _ | o
          · have := List.getElem?_eq_none_iff.1 hki; have := HM.out; omega
          have HRO := hideL (HTT.out.each o (List.mem_of_getElem? hki))
          obtain ⟨g, off, rfl, d0, d1, d2, d3, d4, d5, d6, d7⟩ := (HTT.out.row.below HB.out).cells hki
          have HKI : Hid ((T.map Rx.toRs)[j]? = some o.toRs) := by unfold Hid; simp [hki]
          have HST : Hid (newsL sb (F.map Rx.toRs) (T.map Rx.toRs) (j + 1) = newsL sb (F.map Rx.toRs) (T.map Rx.toRs) j ++ (if newB sb (F.map Rx.toRs) (T.map Rx.toRs) j o.toRs = true then [o.toRs] else [])) := newsL_step HKI.out
          have HNO : Hid (newB sb (F.map Rx.toRs) (T.map Rx.toRs) j o.toRs = false → os.map Rx.toRs = foldP (delsL (F.map Rx.toRs) (T.map Rx.toRs) i ++ newsL sb (F.map Rx.toRs) (T.map Rx.toRs) (j + 1))) := fun h => by rw [HST.out, h, HOS.out]; simp
          have HYES : Hid (newB sb (F.map Rx.toRs) (T.map Rx.toRs) j o.toRs = true → (putX os o).map Rx.toRs = foldP (delsL (F.map Rx.toRs) (T.map Rx.toRs) i ++ newsL sb (F.map Rx.toRs) (T.map Rx.toRs) (j + 1))) := fun h => by
            rw [HST.out, putX_says, HOS.out, if_pos h, ← List.append_assoc, foldP_snoc]
          clear hki
          obtain ⟨t, q', ht, htj, _⟩ := firstsF_some HKI.out
          have HFT : Hid (∀ q, Calls Try.prog 22 #[.slice (some ⟨g, off, none⟩) m c2, .int .i64 o.kd, .string o.nm] (wr.drewN q) fun e w' => e = .returned (.int .i64 t) ∧ ∃ k, w' = wr.drewN k) := fun q => by
            have := find_q wr (some ⟨g, off, none⟩) m c2 T o.kd o.nm HM.out (by omega) (HTT.out.row.below HB.out) q
            rwa [show findI (T.map Rx.toRs) (o.kd, o.nm) = t from findI_some ht] at this
          by_cases hte : t = j
          · subst hte
            have HC : Hid (∀ W, Below wr.heap.size wr W → Calls Try.prog 24 #[.slice va os.length vc, .agg #[.int .i64 o.kd, .string o.nm, .slice o.ea o.eps.length o.ec, .slice o.ta o.tgs.length o.tc, .string o.host, .slice o.ra o.rus.length o.rc, .string o.route, .bool o.del]] W fun e w' => ∃ v, e = .returned v ∧ Gl W w' v (putX os o)) := fun W hW => put_any W va os.length vc os o (HLR.out.below hW) (HRO.out.below (HB.out.trans (hW.mono HB.out.size))) rfl (by omega) HFR.out
            rcases hff : firstsF (F.map Rx.toRs) o.key with _ | f
            · have HFF : Hid (∀ W, Below w.heap.size w W → ∀ q, Calls Try.prog 22 #[.slice a i c1, .int .i64 o.kd, .string o.nm] (W.drewN q) fun e w' => e = .returned (.int .i64 (-1)) ∧ ∃ k, w' = W.drewN k) := fun W hW q => by
                have := find_q W a i c1 F o.kd o.nm HN.out (by omega) (HF.out.row.below hW) q
                rwa [show findI (F.map Rx.toRs) (o.kd, o.nm) = -1 from findI_none hff] at this
              have HY := hideL (HYES.out (by unfold newB; simp [ht, hff]))
              clear ht hff
              go_wp2_with fail
              go_quiet (exact HFT.out _)
              have HGD := hideL (Gr.drewN wr nq)
              generalize wr.drewN nq = w5 at HGD ⊢
              have HB5 := hideL (HB.out.trans (HGD.out.below.mono HB.out.size))
              have e0 := HGD.out.cell d0
              have e1 := HGD.out.cell d1
              go_wp2_with fail
              go_quiet (exact HFF.out w5 HB5.out _)
              have HGE := hideL (HGD.out.trans (Gr.drewN w5 nq))
              generalize w5.drewN nq = w7 at HGE ⊢
              clear e0 e1
              go_wp2_with fail
              go_quiet (fail)
              have HGF := hideL (HGE.out.trans (Gr.drewN w7 nq))
              generalize w7.drewN nq = w8 at HGF ⊢
              have e0 := HGF.out.cell d0
              have e1 := HGF.out.cell d1
              have e2 := HGF.out.cell d2
              have e3 := HGF.out.cell d3
              have e4 := HGF.out.cell d4
              have e5 := HGF.out.cell d5
              have e6 := HGF.out.cell d6
              have e7 := HGF.out.cell d7
              clear d0 d1 d2 d3 d4 d5 d6 d7
              go_wp2_with fail
              refine (HC.out w8 HGF.out.below).mono ?_
              rintro e w6 ⟨v6, rfl, hgl⟩
              obtain ⟨a6, c6, rfl, hl6, hf6, hb6⟩ := put_lr hgl
              have HL6 := hideL hl6
              have HF6 := hideL hf6
              have HB6 := hideL (HGF.out.below.trans (hb6.mono HGF.out.below.size))
              clear hgl hl6 hf6 hb6
              go_wp2
              go_roundw
              case rel => exact ⟨t + 1, a6, c6, putX os o, rfl, by go_num, by omega, HL6.out, HF6.out, HY.out, HB.out.trans (HB6.out.mono HB.out.size)⟩
              case measure => simp [intOf]; omega
            · obtain ⟨x, hx, hxk⟩ := firstsF_in hff
              have hfl : f < i := by have := (List.getElem?_eq_some_iff.1 hx).1; have := HN.out; omega
              have f0 : (0 : Int) ≤ f := by omega
              have f1 : (f : Int) < i := by omega
              have f2 : decide ((f : Int) < 0) = false := by simp
              have HRX := hideL (HF.out.each x (List.mem_of_getElem? hx))
              obtain ⟨g', off', rfl, y0, y1, y2, y3, y4, y5, y6, y7⟩ := (HF.out.row.below HB.out).cells hx
              have HNW : Hid (newB sb (F.map Rx.toRs) (T.map Rx.toRs) t o.toRs = !sb x.toRs o.toRs) := by
                unfold Hid newB
                simp [ht, show firstsF (F.map Rx.toRs) o.toRs.key = some f from hff, hx]
              have HFF : Hid (∀ W, Below w.heap.size w W → ∀ q, Calls Try.prog 22 #[.slice (some ⟨g', off', none⟩) i c1, .int .i64 o.kd, .string o.nm] (W.drewN q) fun e w' => e = .returned (.int .i64 f) ∧ ∃ k, w' = W.drewN k) := fun W hW q => by
                have := find_q W (some ⟨g', off', none⟩) i c1 F o.kd o.nm HN.out (by omega) (HF.out.row.below hW) q
                rwa [show findI (F.map Rx.toRs) (o.kd, o.nm) = f from findI_some hff] at this
              have HS := hideL (fun (w' : World) (h : Gr wr w') => show (w'.cell? ⟨g', off' + f * 8, none⟩ = some (.int .i64 x.kd) ∧ w'.cell? ⟨g', off' + f * 8 + 1, none⟩ = some (.string x.nm) ∧ w'.cell? ⟨g', off' + f * 8 + 2, none⟩ = some (.slice x.ea x.eps.length x.ec) ∧ w'.cell? ⟨g', off' + f * 8 + 3, none⟩ = some (.slice x.ta x.tgs.length x.tc) ∧ w'.cell? ⟨g', off' + f * 8 + 4, none⟩ = some (.string x.host) ∧ w'.cell? ⟨g', off' + f * 8 + 5, none⟩ = some (.slice x.ra x.rus.length x.rc) ∧ w'.cell? ⟨g', off' + f * 8 + 6, none⟩ = some (.string x.route) ∧ w'.cell? ⟨g', off' + f * 8 + 7, none⟩ = some (.bool x.del) ∧ w'.cell? ⟨g, off + t * 8, none⟩ = some (.int .i64 o.kd) ∧ w'.cell? ⟨g, off + t * 8 + 1, none⟩ = some (.string o.nm) ∧ w'.cell? ⟨g, off + t * 8 + 2, none⟩ = some (.slice o.ea o.eps.length o.ec) ∧ w'.cell? ⟨g, off + t * 8 + 3, none⟩ = some (.slice o.ta o.tgs.length o.tc) ∧ w'.cell? ⟨g, off + t * 8 + 4, none⟩ = some (.string o.host) ∧ w'.cell? ⟨g, off + t * 8 + 5, none⟩ = some (.slice o.ra o.rus.length o.rc) ∧ w'.cell? ⟨g, off + t * 8 + 6, none⟩ = some (.string o.route) ∧ w'.cell? ⟨g, off + t * 8 + 7, none⟩ = some (.bool o.del)) from ⟨h.cell y0, h.cell y1, h.cell y2, h.cell y3, h.cell y4, h.cell y5, h.cell y6, h.cell y7, h.cell d0, h.cell d1, h.cell d2, h.cell d3, h.cell d4, h.cell d5, h.cell d6, h.cell d7⟩)
              have HCS : Hid (∀ W, Gr wr W → Calls Try.prog 25 #[.agg #[.int .i64 x.kd, .string x.nm, .slice x.ea x.eps.length x.ec, .slice x.ta x.tgs.length x.tc, .string x.host, .slice x.ra x.rus.length x.rc, .string x.route, .bool x.del], .agg #[.int .i64 o.kd, .string o.nm, .slice o.ea o.eps.length o.ec, .slice o.ta o.tgs.length o.tc, .string o.host, .slice o.ra o.rus.length o.rc, .string o.route, .bool o.del]] W fun e w' => Tells e (SameC x.toRs o.toRs) ∧ Gr W w') := fun W hW => rsame_any W x o (HRX.out.below (HB.out.trans (hW.below.mono HB.out.size))) (HRO.out.below (HB.out.trans (hW.below.mono HB.out.size)))
              clear ht hff hx hxk
              go_wp2_with fail
              go_quiet (exact HFT.out _)
              have HGD := hideL (Gr.drewN wr nq)
              generalize wr.drewN nq = w5 at HGD ⊢
              have HB5 := hideL (HB.out.trans (HGD.out.below.mono HB.out.size))
              have e0 := HGD.out.cell d0
              have e1 := HGD.out.cell d1
              go_wp2_with fail
              go_quiet (exact HFF.out w5 HB5.out _)
              have HGE := hideL (HGD.out.trans (Gr.drewN w5 nq))
              generalize w5.drewN nq = w7 at HGE ⊢
              clear e0 e1 y0 y1 y2 y3 y4 y5 y6 y7 d0 d1 d2 d3 d4 d5 d6 d7
              obtain ⟨y0, y1, y2, y3, y4, y5, y6, y7, d0, d1, d2, d3, d4, d5, d6, d7⟩ := HS.out w7 HGE.out
              go_wp2_with fail
              go_region_held3 (fun w' => w'.cell? ⟨g', off' + f * 8, none⟩ = some (.int .i64 x.kd) ∧ w'.cell? ⟨g', off' + f * 8 + 1, none⟩ = some (.string x.nm) ∧ w'.cell? ⟨g', off' + f * 8 + 2, none⟩ = some (.slice x.ea x.eps.length x.ec) ∧ w'.cell? ⟨g', off' + f * 8 + 3, none⟩ = some (.slice x.ta x.tgs.length x.tc) ∧ w'.cell? ⟨g', off' + f * 8 + 4, none⟩ = some (.string x.host) ∧ w'.cell? ⟨g', off' + f * 8 + 5, none⟩ = some (.slice x.ra x.rus.length x.rc) ∧ w'.cell? ⟨g', off' + f * 8 + 6, none⟩ = some (.string x.route) ∧ w'.cell? ⟨g', off' + f * 8 + 7, none⟩ = some (.bool x.del) ∧ w'.cell? ⟨g, off + t * 8, none⟩ = some (.int .i64 o.kd) ∧ w'.cell? ⟨g, off + t * 8 + 1, none⟩ = some (.string o.nm) ∧ w'.cell? ⟨g, off + t * 8 + 2, none⟩ = some (.slice o.ea o.eps.length o.ec) ∧ w'.cell? ⟨g, off + t * 8 + 3, none⟩ = some (.slice o.ta o.tgs.length o.tc) ∧ w'.cell? ⟨g, off + t * 8 + 4, none⟩ = some (.string o.host) ∧ w'.cell? ⟨g, off + t * 8 + 5, none⟩ = some (.slice o.ra o.rus.length o.rc) ∧ w'.cell? ⟨g, off + t * 8 + 6, none⟩ = some (.string o.route) ∧ w'.cell? ⟨g, off + t * 8 + 7, none⟩ = some (.bool o.del)) (go_keep) (first
                | (go_at_call 25; refine (HCS.out _ (HGE.out.trans (Gr.drewN w7 1))).mono ?_; rintro e w9 ⟨⟨bb, rfl, hbb⟩, hg9⟩; have HG9 := hideL ((HGE.out.trans (Gr.drewN w7 1)).trans hg9); have HBB := hideL hbb; obtain ⟨p0, p1, p2, p3, p4, p5, p6, p7, p8, p9, p10, p11, p12, p13, p14, p15⟩ := HS.out w9 HG9.out; clear hg9 hbb))
              have HSE : Hid (sb x.toRs o.toRs = bb) := by
                unfold Hid
                rw [Bool.eq_iff_iff, HSB.out, HBB.out]
              clear y0 y1 y2 y3 y4 y5 y6 y7 d0 d1 d2 d3 d4 d5 d6 d7 p0 p1 p2 p3 p4 p5 p6 p7
              cases bb
              · have HY := hideL (HYES.out (by rw [HNW.out, HSE.out]; rfl))
                go_wp2_with fail
                refine (HC.out w9 HG9.out.below).mono ?_
                rintro e w6 ⟨v6, rfl, hgl⟩
                obtain ⟨a6, c6, rfl, hl6, hf6, hb6⟩ := put_lr hgl
                have HL6 := hideL hl6
                have HF6 := hideL hf6
                have HB6 := hideL (HG9.out.below.trans (hb6.mono HG9.out.below.size))
                clear hgl hl6 hf6 hb6
                go_wp2
                go_roundw
                case rel => exact ⟨t + 1, a6, c6, putX os o, rfl, by go_num, by omega, HL6.out, HF6.out, HY.out, HB.out.trans (HB6.out.mono HB.out.size)⟩
                case measure => simp [intOf]; omega
              · have HN1 := hideL (HNO.out (by rw [HNW.out, HSE.out]; rfl))
                go_wp2
                go_roundw
                case rel => exact ⟨t + 1, va, vc, os, rfl, by go_num, by omega, HLR.out.below HG9.out.below, HFR.out, HN1.out, HB.out.trans (HG9.out.below.mono HB.out.size)⟩
                case measure => simp [intOf]; omega
          · have HN1 := hideL (HNO.out (by unfold newB; simp [ht, hte]))
            have hte3 : ((t : Int) != (j : Int)) = true := by simp; omega
            have hte4 : ¬ (t : Int) = j := by omega
            clear ht hte
            go_wp2_with fail
            go_quiet (exact HFT.out _)
            go_wp2
            go_roundw
            case rel => exact ⟨j + 1, va, vc, os, rfl, by go_num, by omega, HLR.out.below (Gr.drewN _ _).below, HFR.out, HN1.out, HB.out.trans (below_drewN (Below.refl _ _) _)⟩
            case measure => simp [intOf]; omega
        · have h4' : ¬ (j : Int) < m := by omega
          obtain rfl : j = m := by omega
          go_wp2
          go_ret
          exact ⟨_, _, _, os, rfl, rfl, HLR.out, HFR.out, HOS.out, HB.out⟩
end Go.Proofs.Ytmljljpldljpjab
