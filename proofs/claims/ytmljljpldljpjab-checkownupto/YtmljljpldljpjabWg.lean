/-
  wrong, merged.
-/
import Derived.Test.YtmljljpldljpjabAs
import Derived.Test.YtmljljpldljpjabDf
namespace Go.Proofs.Ytmljljpldljpjab
open Go.RowKit
set_option linter.unusedVariables false
set_option linter.unusedSimpArgs false
set_option maxRecDepth 100000
def wrA (o : Option (Nat × Int)) : Int := match o with | some (i, _) => (i : Int) | none => 0
def wrE (o : Option (Nat × Int)) : Int := match o with | some (_, e) => e | none => 0
/-- what wrong tells -/
def WrE (w : World) (o : Option (Nat × Int)) (e : Ending) (w' : World) : Prop := e = .returned (.tuple #[.int .i64 (wrA o), .int .i64 (wrE o)]) ∧ Below w.heap.size w w'
set_option maxHeartbeats 32000000 in
theorem wrong_any (w : World) (b : Option Addr) (m c2 : Nat) (D : List Rx) (C : List Rs) (Mc N : Nat) (hD : Lr w b D) (hm : D.length = m) (hs : m ≤ 1048576) (hC : Mp w Mc N (firstsF C)) :
    Calls Try.prog 15 #[.slice b m c2, .map (some Mc)] w fun e w' => WrE w (wrongF C (D.map Rx.toRs)) e w' := by
  have HD := hideL hD
  have HM := hideL hm
  have HC := hideL hC
  clear hD hm hC
  have HST : Hid (∀ (i : Nat) (r : Rs), (∀ (j : Nat) (x : Rs), j < i → (D.map Rx.toRs)[j]? = some x → errF C (D.map Rx.toRs) j x = 0) → (D.map Rx.toRs)[i]? = some r → errF C (D.map Rx.toRs) i r ≠ 0 → wrongF C (D.map Rx.toRs) = some (i, errF C (D.map Rx.toRs) i r)) := fun i r h1 h2 h3 => wrongF_stop h1 h2 h3
  have HAL : Hid ((∀ (j : Nat) (x : Rs), (D.map Rx.toRs)[j]? = some x → errF C (D.map Rx.toRs) j x = 0) → wrongF C (D.map Rx.toRs) = none) := fun h => wrongF_none h
  generalize wrongF C (D.map Rx.toRs) = A at HST HAL ⊢
  go_enter Try.func15, Try.ntmps15
  go_wp2_with fail
  refine (firsts_any w b m c2 D HD.out HM.out (by omega)).mono ?_
  rintro e w1 ⟨rfl, hm1, hb1⟩
  have HM1 := hideL hm1
  have HC1 := hideL (HC.out.below hb1)
  have HB1 := hideL hb1
  clear hm1 hb1
  go_wp2_with fail
  go_loopw [16] (fun t wr => ∃ (i : Nat), t = .int .i64 i ∧ i ≤ m ∧ Below w.heap.size w wr ∧ Mp wr Mc N (firstsF C) ∧ Mp wr w.heap.size m (firstsF (D.map Rx.toRs)) ∧ Hid (∀ (j : Nat) (x : Rs), j < i → (D.map Rx.toRs)[j]? = some x → errF C (D.map Rx.toRs) j x = 0)) (fun t _ => m - (intOf t).toNat)
  case atStart => exact ⟨0, rfl, by omega, HB1.out, HC1.out, HM1.out, fun j x hj => by omega⟩
  case round =>
    clear HM1 HC1 HB1 HC
    obtain ⟨i, rfl, hi, hbel, hma, hmb, HF⟩ := hrel
    have i0 : (0 : Int) ≤ i := by omega
    have HB := hideL hbel
    have HMA := hideL hma
    have HMB := hideL hmb
    clear hbel hma hmb
    by_cases h3 : i < m
    · have h3' : (i : Int) < m := by omega
      rcases hki : D[i]? with _ | o
      · have := List.getElem?_eq_none_iff.1 hki; have := HM.out; omega
      have HRO := hideL (HD.out.each o (List.mem_of_getElem? hki))
      have HK := hideL HRO.out.ok.key
      obtain ⟨g, off, rfl, d0, d1, d2, d3, d4, d5, d6, d7⟩ := (HD.out.row.below HB.out).cells hki
      have HKI : Hid ((D.map Rx.toRs)[i]? = some o.toRs) := by unfold Hid; simp [hki]
      have HBAD : Hid (∀ v : Int, errF C (D.map Rx.toRs) i o.toRs = v → v ≠ 0 → A = some (i, v)) := fun v h h0 => by rw [← h]; exact HST.out i o.toRs HF.out HKI.out (by rw [h]; exact h0)
      have HGOOD : Hid (errF C (D.map Rx.toRs) i o.toRs = 0 → ∀ (j : Nat) (x : Rs), j < i + 1 → (D.map Rx.toRs)[j]? = some x → errF C (D.map Rx.toRs) j x = 0) := fun h j x hj hx => by
        by_cases hji : j < i
        · exact HF.out j x hji hx
        · obtain rfl : j = i := by omega
          rw [HKI.out] at hx; cases hx; exact h
      have HIK : Hid (∀ W, Calls Try.prog 29 #[.int .i64 o.kd] W fun e w' => e = .returned (.bool (kindB o.kd)) ∧ w' = W) := fun W => isKind_any o.kd W
      have HKB : Hid (kindB o.kd = false ↔ (o.kd < 1 ∨ 4 < o.kd)) := by unfold Hid kindB; simp; omega
      clear hki
      go_wp2_with fail
      refine (keyOf_any _ o).mono ?_
      rintro e w3 ⟨rfl, hg3⟩
      have HG3 := hideL ((Gr.alloc wr _).trans hg3)
      have HX3 := hideL (show w3.heap[wr.heap.size]? = some (boxO o) from hg3.below.cells (heap_alloc_new wr _))
      clear hg3 d0 d1 d2 d3 d4 d5 d6 d7
      obtain ⟨B, hB⟩ : ∃ B, wr.heap.size = B := ⟨_, rfl⟩
      rw [hB] at HX3 ⊢
      unfold keyV Rs.key
      dsimp only
      have HGA := hideL (Gr.alloc w3 (.cells #[.int .i64 o.kd, .string o.nm] 53 (0, 0)))
      obtain ⟨q0, q1⟩ := key_cells w3 o.kd o.nm
      obtain ⟨w4, hw4⟩ : ∃ X, w3.alloc (.cells #[.int .i64 o.kd, .string o.nm] 53 (0, 0)) = X := ⟨_, rfl⟩
      rw [hw4] at HGA q0 q1
      have HGW := hideL (HG3.out.trans HGA.out)
      have HB4 := hideL (HB.out.trans (HGW.out.below.mono HB.out.size))
      have HMA4 := hideL (HMA.out.below HGW.out.below)
      have HMB4 := hideL (HMB.out.below HGW.out.below)
      obtain ⟨e0, e1, e2, e3, e4, e5, e6, e7⟩ := box8 (HGA.out.below.cells HX3.out)
      clear HMA HMB HX3 HG3 HGA hB
      obtain ⟨t, q', ht, hti, _⟩ := firstsF_some HKI.out
      have hlt : (Instr.lookup 50 (.map (some w.heap.size)) (.agg #[.int .i64 o.kd, .string o.nm]) false).run Try.prog w4 = .ok (.int .i64 t) w4 := (HMB4.out.look HK.out false).1 t ht
      have hlc : ∃ (v : Int) (is : Bool), (Instr.lookup 50 (.map (some Mc)) (.agg #[.int .i64 o.kd, .string o.nm]) true).run Try.prog w4 = .ok (.tuple #[.int .i64 v, .bool is]) w4 ∧ (is = false ↔ firstsF C o.key = none) := by
        rcases lookC HMA4.out HK.out with ⟨f, hf⟩ | hf
        · exact ⟨f, true, (HMA4.out.look HK.out true).1 f hf, by simp [show firstsF C o.key = some f from hf]⟩
        · exact ⟨0, false, (HMA4.out.look HK.out true).2 hf, by simp [show firstsF C o.key = none from hf]⟩
      obtain ⟨v, is, hlk, his⟩ := hlc
      have HIS := hideL his
      have HTE := hideL ht
      clear his ht
      generalize kindB o.kd = kb at HIK HKB
      cases kb
      · have HR := hideL (HBAD.out 2 (by unfold errF; rw [if_pos (HKB.out.1 rfl)]) (by decide))
        go_wp2_with (go_at_call 29; refine (HIK.out _).mono ?_; rintro e w5 ⟨rfl, hw⟩; have hw := hw.symm; subst hw)
        go_ret2
        exact ⟨by rw [HR.out]; rfl, HB4.out⟩
      · have HNK : Hid (¬ (o.kd < 1 ∨ 4 < o.kd)) := fun h => by have := HKB.out.2 h; cases this
        by_cases hte : t = i
        · subst hte
          cases hdl : o.del
          · have HR := hideL (HGOOD.out (by unfold errF; rw [if_neg HNK.out, if_neg (by simp [HTE.out]), if_neg (by simp [hdl])]))
            rw [hdl] at e7
            go_wp2_with (go_at_call 29; refine (HIK.out _).mono ?_; rintro e w5 ⟨rfl, hw⟩; have hw := hw.symm; subst hw)
            go_roundw
            case rel => exact ⟨t + 1, by go_num, by omega, HB4.out, HMA4.out, HMB4.out, HR.out⟩
            case measure => simp [intOf]; omega
          · rw [hdl] at e7
            cases is
            · have HR := hideL (HBAD.out 290 (by unfold errF; rw [if_neg HNK.out, if_neg (by simp [HTE.out]), if_pos ⟨hdl, HIS.out.1 rfl⟩]) (by decide))
              go_wp2_with (go_at_call 29; refine (HIK.out _).mono ?_; rintro e w5 ⟨rfl, hw⟩; have hw := hw.symm; subst hw)
              go_ret2
              exact ⟨by rw [HR.out]; rfl, HB4.out⟩
            · have HR := hideL (HGOOD.out (by unfold errF; rw [if_neg HNK.out, if_neg (by simp [HTE.out]), if_neg (fun h => by have := HIS.out.2 h.2; cases this)]))
              go_wp2_with (go_at_call 29; refine (HIK.out _).mono ?_; rintro e w5 ⟨rfl, hw⟩; have hw := hw.symm; subst hw)
              go_roundw
              case rel => exact ⟨t + 1, by go_num, by omega, HB4.out, HMA4.out, HMB4.out, HR.out⟩
              case measure => simp [intOf]; omega
        · have HR := hideL (HBAD.out 91 (by unfold errF; rw [if_neg HNK.out, if_pos (by rw [HTE.out]; simpa using hte)]) (by decide))
          have hte3 : ((t : Int) != (i : Int)) = true := by simp; omega
          have hte4 : ¬ (t : Int) = i := by omega
          clear hte
          go_wp2_with (go_at_call 29; refine (HIK.out _).mono ?_; rintro e w5 ⟨rfl, hw⟩; have hw := hw.symm; subst hw)
          go_ret2
          exact ⟨by rw [HR.out]; rfl, HB4.out⟩
    · have h3' : ¬ (i : Int) < m := by omega
      have HR := hideL (HAL.out (fun j x hx => HF.out j x (by have := (List.getElem?_eq_some_iff.1 hx).1; simp at this; have := HM.out; omega) hx))
      go_wp2
      go_ret2
      exact ⟨by rw [HR.out]; rfl, HB.out⟩
end Go.Proofs.Ytmljljpldljpjab
