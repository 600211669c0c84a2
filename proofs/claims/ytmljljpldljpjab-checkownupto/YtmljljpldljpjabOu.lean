/-
  The document's Out.
-/
import Derived.Test.YtmljljpldljpjabDp
import Derived.Test.YtmljljpldljpjabRd
namespace Go.Proofs.Ytmljljpldljpjab
open Go.RowKit
set_option linter.unusedVariables false
set_option linter.unusedSimpArgs false
set_option maxRecDepth 100000
def outI (C : List Rs) : Int := if astF C = C.length then -1 else (astF C : Int)
set_option maxHeartbeats 32000000 in
theorem out_any (w : World) (a : Option Addr) (n c : Nat) (os : List Rx) (hL : Lr w a os) (hn : os.length = n) (hs : n ≤ 4194304) :
    Calls Try.prog 21 #[.slice a n c] w fun e w' => e = .returned (.int .i64 (outI (os.map Rx.toRs))) ∧ Gr w w' := by
  have HL := hideL hL
  have HN := hideL hn
  clear hL hn
  have HST : Hid (∀ (i : Nat) (r : Rs), (∀ (j : Nat) (x : Rs), j < i → (os.map Rx.toRs)[j]? = some x → okAt (os.map Rx.toRs) j x = true) → (os.map Rx.toRs)[i]? = some r → okAt (os.map Rx.toRs) i r = false → outI (os.map Rx.toRs) = i) := fun i r h1 h2 h3 => by
    have := astF_stop h1 h2 h3
    have hi := (List.getElem?_eq_some_iff.1 h2).1
    unfold outI
    rw [if_neg (by omega), this]
  have HAL : Hid ((∀ (j : Nat) (x : Rs), (os.map Rx.toRs)[j]? = some x → okAt (os.map Rx.toRs) j x = true) → outI (os.map Rx.toRs) = -1) := fun h => by unfold outI; rw [if_pos (astF_all h)]
  generalize outI (os.map Rx.toRs) = A at HST HAL ⊢
  go_enter Try.func21, Try.ntmps21
  go_wp2_with fail
  go_loopw [3] (fun t wr => ∃ (i : Nat), t = .int .i64 i ∧ i ≤ n ∧ Gr w wr ∧ Hid (∀ (j : Nat) (x : Rs), j < i → (os.map Rx.toRs)[j]? = some x → okAt (os.map Rx.toRs) j x = true)) (fun t _ => n - (intOf t).toNat)
  case atStart => exact ⟨0, rfl, by omega, Gr.refl _, fun j x hj => by omega⟩
  case round =>
    obtain ⟨i, rfl, hi, hgr, HF⟩ := hrel
    have HG := hideL hgr
    clear hgr
    have i0 : (0 : Int) ≤ i := by omega
    by_cases h3 : i < n
    · have h3' : (i : Int) < n := by omega
      rcases hki : os[i]? with _ | o
      · have := List.getElem?_eq_none_iff.1 hki; have := HN.out; omega
      have HKI : Hid ((os.map Rx.toRs)[i]? = some o.toRs) := by unfold Hid; simp [hki]
      obtain ⟨g, off, rfl, d0, d1, d2, d3, d4, d5, d6, d7⟩ := (HL.out.row.below HG.out.below).cells hki
      have HBAD : Hid (okAt (os.map Rx.toRs) i o.toRs = false → A = i) := fun h => HST.out i o.toRs HF.out HKI.out h
      have HGOOD : Hid (okAt (os.map Rx.toRs) i o.toRs = true → ∀ (j : Nat) (x : Rs), j < i + 1 → (os.map Rx.toRs)[j]? = some x → okAt (os.map Rx.toRs) j x = true) := fun h j x hj hx => by
        by_cases hji : j < i
        · exact HF.out j x hji hx
        · obtain rfl : j = i := by omega
          rw [HKI.out] at hx; cases hx; exact h
      have HOK : Hid (okAt (os.map Rx.toRs) i o.toRs = (decide (1 ≤ o.kd) && decide (o.kd ≤ 4) && !o.del && (decide (i = 0) || (match (os.map Rx.toRs)[i - 1]? with | some q => lessB q o.toRs | none => true)))) := rfl
      clear hki
      by_cases hk1 : o.kd < 1
      · have HR := hideL (HBAD.out (by rw [HOK.out, show decide (1 ≤ o.kd) = false by simp; omega]; rfl))
        have hk1' : decide (o.kd < 1) = true := by simpa using hk1
        go_wp2_with fail
        go_quiet (fail)
        go_wp2
        go_ret
        exact ⟨ret_int (by rw [HR.out]), HG.out.trans (Gr.drewN _ _)⟩
      · have hk1' : decide (o.kd < 1) = false := by simp; omega
        by_cases hk2 : 4 < o.kd
        · have HR := hideL (HBAD.out (by rw [HOK.out, show decide (o.kd ≤ 4) = false by simp; omega, Bool.and_false]; rfl))
          have hk2' : decide (4 < o.kd) = true := by simpa using hk2
          go_wp2_with fail
          go_quiet (fail)
          go_wp2
          go_ret
          exact ⟨ret_int (by rw [HR.out]), HG.out.trans (Gr.drewN _ _)⟩
        · have hk2' : decide (4 < o.kd) = false := by simp; omega
          have HOK2 : Hid (okAt (os.map Rx.toRs) i o.toRs = (!o.del && (decide (i = 0) || (match (os.map Rx.toRs)[i - 1]? with | some q => lessB q o.toRs | none => true)))) := by
            unfold Hid
            rw [HOK.out, show decide (1 ≤ o.kd) = true by simp; omega, show decide (o.kd ≤ 4) = true by simp; omega]; rfl
          cases hdl : o.del
          · rw [hdl] at d7
            by_cases hz : i = 0
            · have HR := hideL (HGOOD.out (by rw [HOK2.out, hdl, show decide (i = 0) = true by simpa using hz]; rfl))
              have hz1 : ¬ (0 : Int) < i := by omega
              have hz2 : decide ((0 : Int) < i) = false := by simp; omega
              have hz3 : decide (0 < i) = false := by simp; omega
              have hz4 : ¬ 0 < i := by omega
              clear hdl HBAD HGOOD HOK HOK2 hz
              go_wp2_with fail
              go_quiet (fail)
              go_wp2
              go_roundw
              case rel => exact ⟨i + 1, by go_num, by omega, HG.out.trans (Gr.drewN _ _), HR.out⟩
              case measure => simp [intOf]; omega
            · obtain ⟨k, hk⟩ : ∃ k, i = k + 1 := ⟨i - 1, by omega⟩
              have hz1 : (0 : Int) < i := by omega
              have hz2 : decide ((0 : Int) < i) = true := by simp; omega
              have hz3 : decide (0 < i) = true := by simp; omega
              have hz4 : 0 < i := by omega
              rcases hkq : os[k]? with _ | q
              · have := List.getElem?_eq_none_iff.1 hkq; have := HN.out; omega
              obtain ⟨g', off', eq1, y0, y1, y2, y3, y4, y5, y6, y7⟩ := (HL.out.row.below HG.out.below).cells hkq
              cases eq1
              have HOK3 : Hid (okAt (os.map Rx.toRs) i o.toRs = lessB q.toRs o.toRs) := by
                unfold Hid
                rw [HOK2.out, hdl]
                simp [hk, hkq]
              have k0 : (0 : Int) ≤ k := by omega
              have k1 : (k : Int) < n := by omega
              have HCM : Hid (∀ W, Calls Try.prog 38 #[.agg #[.int .i64 q.kd, .string q.nm, .slice q.ea q.eps.length q.ec, .slice q.ta q.tgs.length q.tc, .string q.host, .slice q.ra q.rus.length q.rc, .string q.route, .bool q.del], .agg #[.int .i64 o.kd, .string o.nm, .slice o.ea o.eps.length o.ec, .slice o.ta o.tgs.length o.tc, .string o.host, .slice o.ra o.rus.length o.rc, .string o.route, .bool false]] W fun e w' => e = .returned (.bool (lessB q.toRs o.toRs)) ∧ Gr W w') := fun W => by
                have := less_any W q o
                unfold Rx.val at this
                rw [hdl] at this
                exact this
              have HS := hideL (fun (w' : World) (h : Gr wr w') => show (w'.cell? ⟨g, off + k * 8, none⟩ = some (.int .i64 q.kd) ∧ w'.cell? ⟨g, off + k * 8 + 1, none⟩ = some (.string q.nm) ∧ w'.cell? ⟨g, off + k * 8 + 2, none⟩ = some (.slice q.ea q.eps.length q.ec) ∧ w'.cell? ⟨g, off + k * 8 + 3, none⟩ = some (.slice q.ta q.tgs.length q.tc) ∧ w'.cell? ⟨g, off + k * 8 + 4, none⟩ = some (.string q.host) ∧ w'.cell? ⟨g, off + k * 8 + 5, none⟩ = some (.slice q.ra q.rus.length q.rc) ∧ w'.cell? ⟨g, off + k * 8 + 6, none⟩ = some (.string q.route) ∧ w'.cell? ⟨g, off + k * 8 + 7, none⟩ = some (.bool q.del) ∧ w'.cell? ⟨g, off + i * 8, none⟩ = some (.int .i64 o.kd) ∧ w'.cell? ⟨g, off + i * 8 + 1, none⟩ = some (.string o.nm) ∧ w'.cell? ⟨g, off + i * 8 + 2, none⟩ = some (.slice o.ea o.eps.length o.ec) ∧ w'.cell? ⟨g, off + i * 8 + 3, none⟩ = some (.slice o.ta o.tgs.length o.tc) ∧ w'.cell? ⟨g, off + i * 8 + 4, none⟩ = some (.string o.host) ∧ w'.cell? ⟨g, off + i * 8 + 5, none⟩ = some (.slice o.ra o.rus.length o.rc) ∧ w'.cell? ⟨g, off + i * 8 + 6, none⟩ = some (.string o.route) ∧ w'.cell? ⟨g, off + i * 8 + 7, none⟩ = some (.bool false)) from ⟨h.cell y0, h.cell y1, h.cell y2, h.cell y3, h.cell y4, h.cell y5, h.cell y6, h.cell y7, h.cell d0, h.cell d1, h.cell d2, h.cell d3, h.cell d4, h.cell d5, h.cell d6, h.cell d7⟩)
              have hwk : IntKind.i64.wrap (k : Int) = k := by simp [IntKind.wrap, IntKind.bits, IntKind.signed]; omega
              have hwk2 : IntKind.i64.wrap ((i : Int) - 1) = k := by rw [show (i : Int) - 1 = k by omega]; exact hwk
              clear hkq hdl HOK HOK2 hk hz
              generalize lessB q.toRs o.toRs = lb at HCM HOK3
              go_wp2_with fail
              go_region_held3 (fun w' => w'.cell? ⟨g, off + k * 8, none⟩ = some (.int .i64 q.kd) ∧ w'.cell? ⟨g, off + k * 8 + 1, none⟩ = some (.string q.nm) ∧ w'.cell? ⟨g, off + k * 8 + 2, none⟩ = some (.slice q.ea q.eps.length q.ec) ∧ w'.cell? ⟨g, off + k * 8 + 3, none⟩ = some (.slice q.ta q.tgs.length q.tc) ∧ w'.cell? ⟨g, off + k * 8 + 4, none⟩ = some (.string q.host) ∧ w'.cell? ⟨g, off + k * 8 + 5, none⟩ = some (.slice q.ra q.rus.length q.rc) ∧ w'.cell? ⟨g, off + k * 8 + 6, none⟩ = some (.string q.route) ∧ w'.cell? ⟨g, off + k * 8 + 7, none⟩ = some (.bool q.del) ∧ w'.cell? ⟨g, off + i * 8, none⟩ = some (.int .i64 o.kd) ∧ w'.cell? ⟨g, off + i * 8 + 1, none⟩ = some (.string o.nm) ∧ w'.cell? ⟨g, off + i * 8 + 2, none⟩ = some (.slice o.ea o.eps.length o.ec) ∧ w'.cell? ⟨g, off + i * 8 + 3, none⟩ = some (.slice o.ta o.tgs.length o.tc) ∧ w'.cell? ⟨g, off + i * 8 + 4, none⟩ = some (.string o.host) ∧ w'.cell? ⟨g, off + i * 8 + 5, none⟩ = some (.slice o.ra o.rus.length o.rc) ∧ w'.cell? ⟨g, off + i * 8 + 6, none⟩ = some (.string o.route) ∧ w'.cell? ⟨g, off + i * 8 + 7, none⟩ = some (.bool false)) (go_keep) (first
                | (go_at_call 38; refine (HCM.out _).mono ?_; rintro e w9 ⟨rfl, hg9⟩; have HG9 := hideL ((Gr.drewN wr 1).trans hg9); obtain ⟨p0, p1, p2, p3, p4, p5, p6, p7, p8, p9, p10, p11, p12, p13, p14, p15⟩ := HS.out w9 HG9.out; clear hg9))
              cases lb
              · have HR := hideL (HBAD.out HOK3.out)
                go_wp2
                go_ret
                exact ⟨ret_int (by have := HR.out; omega), HG.out.trans HG9.out⟩
              · have HR := hideL (HGOOD.out HOK3.out)
                go_wp2
                go_roundw
                case rel => exact ⟨i + 1, by go_num, by omega, HG.out.trans HG9.out, HR.out⟩
                case measure => simp [intOf]; omega
          · rw [hdl] at d7
            have HR := hideL (HBAD.out (by rw [HOK2.out, hdl]; rfl))
            clear hdl
            go_wp2_with fail
            go_quiet (fail)
            go_wp2
            go_ret
            exact ⟨ret_int (by rw [HR.out]), HG.out.trans (Gr.drewN _ _)⟩
    · have h3' : ¬ (i : Int) < n := by omega
      have HR := hideL (HAL.out (fun j x hx => HF.out j x (by have := (List.getElem?_eq_some_iff.1 hx).1; simp at this; have := HN.out; omega) hx))
      go_wp2
      go_ret
      exact ⟨ret_int (by rw [HR.out]), HG.out⟩
end Go.Proofs.Ytmljljpldljpjab
