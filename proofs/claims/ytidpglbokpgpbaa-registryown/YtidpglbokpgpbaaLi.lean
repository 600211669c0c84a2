/- list: the services among resources, by name. -/
import Derived.Test.YtidpglbokpgpbaaSv
import Derived.Test.YtidpglbokpgpbaaUn
import Derived.Test.YtidpglbokpgpbaaTo
import Derived.BigQuiet
import Derived.OwnWalk
namespace Go.Proofs.Ytidpglbokpgpbaa
open Go.RowKit
set_option linter.unusedVariables false
set_option linter.unusedSimpArgs false
set_option maxRecDepth 100000
/-- the services among resources, each endpoint at its first place -/
noncomputable def svcF (L : List Rs) : List (ByteArray × List ByteArray) := (L.filter fun r => decide (r.kd = 1)).map fun r => (r.nm, uniq r.eps)
theorem svcF_one {L : List Rx} {i : Nat} {o : Rx} (h : L[i]? = some o) (hk : o.kd = 1) : svcF ((L.take (i + 1)).map Rx.toRs) = svcF ((L.take i).map Rx.toRs) ++ [(o.nm, uniq o.eps)] := by
  rw [take_snoc h]; unfold svcF; simp [List.filter_append, hk]
theorem svcF_no {L : List Rx} {i : Nat} {o : Rx} (h : L[i]? = some o) (hk : o.kd ≠ 1) : svcF ((L.take (i + 1)).map Rx.toRs) = svcF ((L.take i).map Rx.toRs) := by
  rw [take_snoc h]; unfold svcF; simp [List.filter_append, hk]
/-- strictly by name -/
def Srt (l : List (ByteArray × List ByteArray)) : Prop := l.Pairwise (fun p q => sless p.1 q.1 = true)
theorem strict_of {qs : List Hx} (h : qs.Pairwise (fun p q => sless q.sv p.sv = false)) (hne : ∀ (k : Nat) p q, qs[k]? = some p → qs[k + 1]? = some q → p.sv ≠ q.sv) : Srt (sayL qs) := by
  have hadj : ∀ (k : Nat) (h1 : k + 1 < qs.length), sless (qs[k]'(by omega)).sv qs[k + 1].sv = true := fun k h1 =>
    sless_total ((List.pairwise_iff_getElem.1 h) k (k + 1) (by omega) h1 (by omega)) (fun e => hne k _ _ (List.getElem?_eq_getElem (by omega)) (List.getElem?_eq_getElem h1) e.symm)
  have hall : ∀ (d i : Nat) (h1 : i + d + 1 < qs.length), sless (qs[i]'(by omega)).sv qs[i + d + 1].sv = true := by
    intro d
    induction d with
    | zero => intro i h1; exact hadj i h1
    | succ d ih => intro i h1; exact sless_trans (ih i (by omega)) (hadj (i + d + 1) (by omega))
  unfold Srt sayL
  rw [List.pairwise_map, List.pairwise_iff_getElem]
  intro i j hi hj hij
  obtain ⟨d, rfl⟩ : ∃ d, j = i + d + 1 := ⟨j - i - 1, by omega⟩
  exact hall d i hj
theorem twice_of {qs : List Hx} {L : List (ByteArray × List ByteArray)} (hp : (sayL qs).Perm L) {k : Nat} {p q : Hx} (h1 : qs[k]? = some p) (h2 : qs[k + 1]? = some q) (e : p.sv = q.sv) : ¬ (L.map Prod.fst).Nodup := by
  intro hn
  have hp2 := (hp.map Prod.fst).nodup_iff.2 hn
  unfold sayL at hp2
  rw [List.map_map] at hp2
  unfold List.Nodup at hp2
  rw [List.pairwise_map, List.pairwise_iff_getElem] at hp2
  obtain ⟨l1, e1⟩ := List.getElem?_eq_some_iff.1 h1
  obtain ⟨l2, e2⟩ := List.getElem?_eq_some_iff.1 h2
  apply hp2 k (k + 1) l1 l2 (by omega)
  rw [e1, e2]
  exact e
/-- what list answers -/
def ListE (w w' : World) (L : List Rs) (e : Ending) : Prop := Below w.heap.size w w' ∧ ((∃ (qa : Option Addr) (l qc : Nat) (qs : List Hx), e = .returned (.tuple #[.slice qa l qc, .int .i64 0]) ∧ qs.length = l ∧ Ov w' w.heap.size 78 (.slice qa l qc) qs ∧ (sayL qs).Perm (svcF L) ∧ Srt (sayL qs)) ∨ (e = .returned (.tuple #[.slice none 0 0, .int .i64 2]) ∧ ¬ ((svcF L).map Prod.fst).Nodup))
theorem hx_oneT (sv : ByteArray) (a : Option Addr) (l c : Nat) : ∀ u ∈ ([.string sv, .slice a l c] : List Value), u.oneCell' = true := hx_one2 sv a l c
set_option maxHeartbeats 32000000 in
theorem list_any (w : World) (a : Option Addr) (m c : Nat) (L : List Rx) (hm : L.length = m) (hL : Lr w a L) (hl : m ≤ 1048576) :
    Calls Try.prog 19 #[.slice a m c] w fun e w' => ListE w w' (L.map Rx.toRs) e := by
  have HL := hideL hL
  have HM := hideL hm
  clear hL hm
  obtain ⟨i78, hi78, hx0, hx1, hx2⟩ := info_parts Try.info78
  go_enter Try.func19, Try.ntmps19
  go_wp2_with fail
  go_loopw [4, 10] (fun v t wr => ∃ (i : Nat) (os : List Hx), t = .int .i64 i ∧ i ≤ m ∧ os.length ≤ i ∧ Ov wr w.heap.size 78 v os ∧ sayL os = svcF ((L.take i).map Rx.toRs) ∧ Below w.heap.size w wr) (fun _ t _ => m - (intOf t).toNat)
  case atStart => exact ⟨0, [], rfl, by omega, by simp, Ov.nil _ _ _, rfl, Below.refl _ _⟩
  case round =>
    obtain ⟨i, os, rfl, hi, hol, hov, hsay, hbel⟩ := hrel
    have i0 : (0 : Int) ≤ i := by omega
    obtain ⟨va, vc, rfl⟩ := hov.form
    obtain ⟨l, hll⟩ : ∃ l, os.length = l := ⟨_, rfl⟩
    rw [hll] at hov hol ⊢
    have HOV := hideL hov
    have HB := hideL hbel
    have HSY := hideL hsay
    have HOL := hideL hll
    have hlm : l + 1 ≤ maxLen := by unfold maxLen; omega
    have hlb : (l + 1) * 40 ≤ 140737488355328 := by omega
    clear hov hbel hsay hll
    by_cases h3 : i < m
    · have h3' : (i : Int) < m := by omega
      rcases hki : L[i]? with _ | o
      · have := List.getElem?_eq_none_iff.1 hki; have := HM.out; omega
      obtain ⟨g, off, rfl, d0, d1, d2, d3, d4, d5, d6, d7⟩ := (HL.out.row.below HB.out).cells hki
      have HR := hideL (HL.out.each o (List.mem_of_getElem? hki))
      by_cases hk : o.kd = 1
      · have HT := hideL (svcF_one hki hk)
        have hsv := HR.out.n1
        have HEP : Hid (∀ W, Below w.heap.size w W → Cel W o.ea 1 (o.eps.map strR)) := fun W hW => HR.out.es.below hW
        have HOKE := hideL HR.out.se
        have hle := HR.out.le
        obtain ⟨n0, hn0⟩ : ∃ n0, o.eps.length = n0 := ⟨_, rfl⟩
        have HN0 := hideL hn0
        rw [hk] at d0
        rw [hn0] at d2 hle
        obtain ⟨wx, hwx⟩ : ∃ wx, wr.alloc (.cells #[.int .i64 1, .string o.nm, .slice o.ea n0 o.ec, .slice o.ta o.tgs.length o.tc, .string o.host, .slice o.ra o.rus.length o.rc, .string o.route, .bool o.del] 44 (0, 0)) = wx := ⟨_, rfl⟩
        have HX : Hid (Below wr.heap.size wr wx) := hwx ▸ (Gr.alloc _ _).below
        have HXB : Hid (wx.heap[wr.heap.size]? = some (.cells #[.int .i64 1, .string o.nm, .slice o.ea n0 o.ec, .slice o.ta o.tgs.length o.tc, .string o.host, .slice o.ra o.rus.length o.rc, .string o.route, .bool o.del] 44 (0, 0))) := hwx ▸ Go.heap_alloc_new wr _
        have HBX := hideL (HB.out.trans (HX.out.mono HB.out.size))
        have HQ : Hid (∀ W, Below wx.heap.size wx W → W.cell? ⟨wr.heap.size, 0, none⟩ = some (.int .i64 1) ∧ W.cell? ⟨wr.heap.size, 1, none⟩ = some (.string o.nm) ∧ W.cell? ⟨wr.heap.size, 2, none⟩ = some (.slice o.ea n0 o.ec)) := fun W hW => by
          have := hW.cells HXB.out
          exact ⟨by simp [World.cell?, this], by simp [World.cell?, this], by simp [World.cell?, this]⟩
        obtain ⟨x0, x1, x2⟩ := HQ.out wx (Below.refl _ _)
        clear hki hn0 hk
        go_wp2_with fail
        clear hwx d0 d1 d2 d3 d4 d5 d6 d7
        refine wp_region_noPanic ?_
        go_region_law (first
          | (refine step_append_at rfl (.tmp 17) (.tmp 25) 60 rfl w.heap.size 78 i78 _ 2 40 Try.underlying60 hi78 hx0 hx1 hx2 rfl (by decide) (.slice va l vc) l (rowsOf Hx.row os) rfl HOD.out ⟨w4.heap.size, 0, none⟩ 1 1 [.string o.nm, .slice qa n1 qc] rfl rfl HND.out (hx_oneT _ _ _ _) hlm hlb hszD ?_; intro v5 w5 hown5 hgrow5 hat5; have HF5 := hideL (And.intro (below_app (mm := 0) HV4.out.row HBW.out.size hgrow5) (HV4.out.more (mm := 0) (p := ⟨o.nm, uniq o.eps, qa, qc⟩) (by decide) (by rw [HOL.out]; unfold Hx.row; dsimp only; rw [HN1.out]; exact hown5) hgrow5 HQ4.out (by rw [HOL.out]; omega))); clear hown5 hgrow5 hat5)
          | (go_simp; go_at_call 29; refine (clone_any o.nm _ hsv).mono ?_; rintro e w3 ⟨rfl, hb⟩; have hb3 : Below wx.heap.size wx w3 := (below_drewN (Below.refl _ wx) 1).trans hb; obtain ⟨y0, y1, y2⟩ := HQ.out w3 hb3; have HB3 := hideL hb3; clear hb hb3)
          | (go_simp; go_at_call 30; refine (unlike_any _ o.ea n0 o.ec o.eps HN0.out hle (HEP.out w3 (HBX.out.trans (HB3.out.mono HBX.out.size))) HOKE.out).mono ?_; rintro e w4 ⟨v4, rfl, hown4, hb4⟩; obtain ⟨n1, hn1⟩ : ∃ n1, (uniq o.eps).length = n1 := ⟨_, rfl⟩; rw [hn1] at hown4; have hn1b : n1 ≤ 1048576 := (by have := uniq_len o.eps; have := HN0.out; omega); have HN1 := hideL hn1; clear hn1; obtain ⟨qa, qc, rfl, _⟩ := own_form hown4; obtain ⟨y0, y1, y2⟩ := HQ.out w4 (HB3.out.trans (hb4.mono HB3.out.size)); have HBW := hideL (HBX.out.trans ((HB3.out.trans (hb4.mono HB3.out.size)).mono HBX.out.size)); have HV4 := hideL (HOV.out.below (HX.out.trans ((HB3.out.trans (hb4.mono HB3.out.size)).mono HX.out.size))); have HQ4 : Hid (Oh w4 w.heap.size ⟨o.nm, uniq o.eps, qa, qc⟩) := (hideL ⟨own_low' (by rw [HN1.out]; exact hown4) (HBX.out.trans (HB3.out.mono HBX.out.size)).size, by rw [HN1.out]; exact hn1b, fun s hs => HOKE.out s ((uniq_mem _ _).1 hs), hsv⟩); clear hown4 hb4; have HOD : Hid ((w4.alloc (Obj.cells #[.string o.nm, .slice qa n1 qc] 78)).ownsRow w.heap.size 78 2 (.slice va l vc) l (rowsOf Hx.row os)) := (by have := HV4.out.row.alloc (Obj.cells #[.string o.nm, .slice qa n1 qc] 78); rwa [HOL.out] at this); have HND : Hid (∀ j u, ([.string o.nm, .slice qa n1 qc] : List Value)[j]? = some u → (w4.alloc (Obj.cells #[.string o.nm, .slice qa n1 qc] 78)).cell? ((⟨w4.heap.size, 0, none⟩ : Addr).add j) = some u) := World.news_of_block (w := (w4.alloc (Obj.cells #[.string o.nm, .slice qa n1 qc] 78))) (Go.heap_alloc_new w4 _); have hszD : w.heap.size ≤ (w4.alloc (Obj.cells #[.string o.nm, .slice qa n1 qc] 78)).heap.size := Nat.le_trans HBW.out.size (by simp)))
        all_goals
          refine NoPanic.normal ?_
          have hfin := HF5.out
          have HG5 := hideL hfin
          clear hfin HF5
          go_wp2_with fail
          go_roundw
          case rel =>
            refine ⟨i + 1, os ++ [⟨o.nm, uniq o.eps, qa, qc⟩], by go_num, by omega, by rw [List.length_append, HOL.out]; simp only [List.length_cons, List.length_nil]; omega, HG5.out.2, ?_, HBW.out.trans HG5.out.1⟩
            rw [HT.out, ← HSY.out]
            unfold sayL
            rw [List.map_append]
            rfl
          case measure => simp [intOf]; omega
      · have HT := hideL (svcF_no hki hk)
        obtain ⟨kd, hkd⟩ : ∃ kd, o.kd = kd := ⟨_, rfl⟩
        rw [hkd] at hk d0
        have g0 : (kd == 1) = false := by simpa using hk
        have HK := hideL hk
        clear hki hkd hk
        go_wp2_with fail
        go_roundw
        case rel => exact ⟨i + 1, os, by go_num, by omega, by have := HOL.out; omega, HOV.out.below (Gr.alloc _ _).below, by rw [HT.out]; exact HSY.out, HB.out.trans ((Gr.alloc _ _).below.mono HB.out.size)⟩
        case measure => simp [intOf]; omega
    · have h3' : ¬ (i : Int) < m := by omega
      obtain rfl : i = m := by omega
      have HSF : Hid (sayL os = svcF (L.map Rx.toRs)) := by
        unfold Hid
        rw [HSY.out, List.take_of_length_le (by have := HM.out; omega)]
      have hs := sortS_any wr w.heap.size va l vc os HOL.out HOV.out
      go_wp2_with (go_at_call 31; refine hs.mono ?_; rintro e w2 ⟨rfl, qs, hp, ho, hv2, hb2⟩; have HP := hideL hp; have HO := hideL ho; have HV2 := hideL hv2; have HB2 := hideL (HB.out.trans hb2); clear hp ho hv2 hb2)
      have hql : qs.length = l := by rw [HP.out.length_eq, HOL.out]
      have HQL := hideL hql
      have HPS : Hid ((sayL qs).Perm (svcF (L.map Rx.toRs))) := by unfold Hid; rw [← HSF.out]; exact HP.out.map _
      clear hql
      go_loopw [7] (fun t wi => ∃ (j : Nat), t = .int .i64 j ∧ 1 ≤ j ∧ (j ≤ l ∨ (l = 0 ∧ j = 1)) ∧ (∃ q, wi = w2.drewN q) ∧ Hid (∀ (k : Nat) p q, k + 1 < j → qs[k]? = some p → qs[k + 1]? = some q → p.sv ≠ q.sv)) (fun t _ => l + 1 - (intOf t).toNat)
      case atStart => exact ⟨1, rfl, by omega, by omega, ⟨0, rfl⟩, fun k p q hk => by omega⟩
      case round =>
        obtain ⟨j, rfl, hj1, hj2, ⟨q, rfl⟩, HF⟩ := hrel
        have j0 : (0 : Int) ≤ j := by omega
        obtain ⟨k, hjk⟩ : ∃ k, j = k + 1 := ⟨j - 1, by omega⟩
        have k0 : (0 : Int) ≤ k := by omega
        by_cases h5 : j < l
        · have h5' : (j : Int) < l := by omega
          have h6' : (k : Int) < l := by omega
          have e1 : (j : Int) - 1 = k := by omega
          rcases hkj : qs[j]? with _ | y
          · have := List.getElem?_eq_none_iff.1 hkj; have := HQL.out; omega
          rcases hki : qs[k]? with _ | x
          · have := List.getElem?_eq_none_iff.1 hki; have := HQL.out; omega
          obtain ⟨g, off, rfl, y0, y1⟩ := HV2.out.at_ hkj
          obtain ⟨g', off', e', x0, x1⟩ := HV2.out.at_ hki
          cases e'
          have HKJ := hideL (hjk ▸ hkj)
          have HKI := hideL hki
          have HJK := hideL hjk
          clear hkj hki x1 y1 hjk
          obtain ⟨sx, ex, ax, kx⟩ := x
          obtain ⟨sy, ey, ay, ky⟩ := y
          dsimp only at x0 y0
          by_cases he : sy = sx
          · subst he
            have HTW := hideL (twice_of HPS.out HKI.out HKJ.out rfl)
            go_wp2_with fail
            go_quiet (fail)
            go_wp2
            go_ret2
            exact ⟨HB2.out.trans (((Gr.drewN _ _).trans (Gr.drewN _ _)).below.mono HB2.out.size), .inr ⟨rfl, HTW.out⟩⟩
          · have he' := ba_ne he
            have HE := hideL he
            clear he
            go_wp2_with fail
            go_quiet (fail)
            go_wp2
            go_roundw
            case rel =>
              have hjk := HJK.out
              refine ⟨j + 1, by go_num, by omega, by omega, ⟨q + nq, rfl⟩, fun i p r hk hp hr => ?_⟩
              by_cases hik : i + 1 < j
              · exact HF.out i p r hik hp hr
              · obtain rfl : i = k := by omega
                rw [HKI.out] at hp; rw [HKJ.out] at hr
                cases hp; cases hr
                exact fun e => HE.out e.symm
            case measure => simp [intOf]; omega
        · have h5' : ¬ (j : Int) < l := by omega
          go_wp2
          go_ret2
          refine ⟨?_, .inl ⟨va, l, vc, qs, rfl, HQL.out, HV2.out.below (Gr.drewN _ _).below, HPS.out, ?_⟩⟩
          · exact HB2.out.trans ((Gr.drewN _ _).below.mono HB2.out.size)
          · exact strict_of HO.out (fun i p r hp hr => HF.out i p r (by have := (List.getElem?_eq_some_iff.1 hr).1; have := HQL.out; omega) hp hr)
end Go.Proofs.Ytidpglbokpgpbaa
