/- told: the view in new memory. -/
import Derived.Test.YtidpglbokpgpbaaLo
import Derived.Deep.RegionLaw
namespace Go.Proofs.Ytidpglbokpgpbaa
open Go.RowKit
set_option linter.unusedVariables false
set_option linter.unusedSimpArgs false
set_option maxRecDepth 100000
theorem cell_al {W : World} {ob : Obj} {p : Addr} {v : Value} (h : W.cell? p = some v) : (W.alloc ob).cell? p = some v := cell_of_below (Gr.alloc _ _).below h
theorem hx_one2 (sv : ByteArray) (a : Option Addr) (l c : Nat) : ∀ u ∈ ([.string sv, .slice a l c] : List Value), u.oneCell' = true := by
  intro u hu; simp at hu; rcases hu with rfl | rfl <;> rfl
/-- the block of a list -/
def blkO (o : Hx) : Option Nat := (Value.slice o.ea o.eps.length o.ec).ownBlock
/-- lists apart -/
def Apt (os : List Hx) : Prop := ∀ (i j : Nat) (p q : Hx), i < j → os[i]? = some p → os[j]? = some q → ∀ k, blkO p = some k → blkO q ≠ some k
theorem Apt.nil : Apt [] := fun i j p q _ h => by simp at h
theorem Apt.more {os : List Hx} {p : Hx} (h : Apt os) (hp : ∀ o ∈ os, ∀ k, blkO o = some k → blkO p ≠ some k) : Apt (os ++ [p]) := by
  intro i j a b hij ha hb k hk
  by_cases hj : j < os.length
  · rw [List.getElem?_append_left hj] at hb
    rw [List.getElem?_append_left (by omega)] at ha
    exact h i j a b hij ha hb k hk
  · have hj2 := (List.getElem?_eq_some_iff.1 hb).1
    rw [List.length_append] at hj2
    simp at hj2
    have e : j = os.length := by omega
    subst e
    rw [List.getElem?_append_right (Nat.le_refl _)] at hb
    simp at hb
    subst hb
    rw [List.getElem?_append_left hij] at ha
    exact hp a (List.mem_of_getElem? ha) k hk
set_option maxHeartbeats 16000000 in
theorem told_any (w : World) (b : Nat) (B0 : Nat) (a : Option Addr) (m c : Nat) (xs : List Hx) (hm : xs.length = m) (ho : Ov w B0 47 (.slice a m c) xs) (c0 : w.cell? ⟨b, 0, none⟩ = some (.slice a m c)) :
    Calls Try.prog 18 #[.pointer (some ⟨b, 0, none⟩)] w fun e w' => ∃ v, e = .returned v ∧ ∃ os, Ov w' w.heap.size 47 v os ∧ sayL os = sayL xs ∧ Below w.heap.size w w' ∧ Apt os := by
  have HO := hideL ho
  have HM := hideL hm
  have hl : m ≤ 1048576 := hm ▸ ho.le
  clear ho hm
  obtain ⟨i47, hi47, hx0, hx1, hx2⟩ := info_parts Try.info47
  go_enter Try.func18, Try.ntmps18
  go_wp2_with (at_make; refine wpList_make_own _ rfl (.const (.int .i64 0)) (.tmp 10) 29 rfl w.heap.size 47 i47 _ 2 Try.underlying29 hi47 hx0 hx1 .i64 .i64 (m : Int) m rfl rfl (by omega) (by rw [hx2]; omega) (by unfold maxLen; omega) (Nat.le_refl _) ?_; intro w1 hown1 hgrow1; have HO1 := hideL hown1; have HB1 := hideL (made_row hown1 hgrow1); have c0' := cell_of_below HB1.out c0; clear hown1 hgrow1)
  go_loopw [3, 17] (fun v t wr => ∃ (i : Nat) (os : List Hx), t = .int .i64 i ∧ i ≤ m ∧ os.length = i ∧ Ov wr w.heap.size 47 v os ∧ sayL os = sayL (xs.take i) ∧ Below w.heap.size w wr ∧ Apt os) (fun _ t _ => m - (intOf t).toNat)
  case atStart => exact ⟨0, [], rfl, by omega, rfl, ⟨by simpa [rowsOf] using HO1.out, fun o ho => (by cases ho), by simp⟩, rfl, HB1.out, Apt.nil⟩
  case round =>
    obtain ⟨i, os, rfl, hi, hol, hov, hsay, hbel, hapt⟩ := hrel
    have HA := hideL hapt
    clear hapt
    have i0 : (0 : Int) ≤ i := by omega
    obtain ⟨va, vc, rfl⟩ := hov.form
    rw [hol] at hov ⊢
    have HOV := hideL hov
    have HB := hideL hbel
    have HSY := hideL hsay
    have HOL := hideL hol
    have hlm : i + 1 ≤ maxLen := by unfold maxLen; omega
    have hlb : (i + 1) * 40 ≤ 140737488355328 := by omega
    clear hov hbel hsay hol HO1 HB1 c0'
    by_cases h3 : i < m
    · have h3' : (i : Int) < m := by omega
      rcases hki : xs[i]? with _ | o
      · have := List.getElem?_eq_none_iff.1 hki; have := HM.out; omega
      obtain ⟨g, off, rfl, d0, d1⟩ := (HO.out.below HB.out).at_ hki
      have HOO := hideL (HO.out.each o (List.mem_of_getElem? hki))
      have HT := hideL (take_snoc hki)
      obtain ⟨sv, eps, ea, ec⟩ := o
      dsimp only at d0 d1
      obtain ⟨l, hle⟩ : ∃ l, eps.length = l := ⟨_, rfl⟩
      have HLE := hideL hle
      have hsv : okS sv := HOO.out.sz
      have HE : Hid (∀ W, Below w.heap.size w W → Cel W ea 1 (eps.map strR)) := fun W hW => HOO.out.cel.below hW
      have HK : Hid (∀ s ∈ eps, okS s) := HOO.out.ok
      have hll : l ≤ 1048576 := hle ▸ HOO.out.le
      rw [hle] at d1
      obtain ⟨wx, hwx⟩ : ∃ wx, wr.alloc (.cells #[.string sv, .slice ea l ec] 47 (0, 0)) = wx := ⟨_, rfl⟩
      have HX : Hid (Below wr.heap.size wr wx) := hwx ▸ (Gr.alloc _ _).below
      have HXB : Hid (wx.heap[wr.heap.size]? = some (.cells #[.string sv, .slice ea l ec] 47 (0, 0))) := hwx ▸ Go.heap_alloc_new wr _
      have HBX := hideL (HB.out.trans (HX.out.mono HB.out.size))
      have HQ : Hid (∀ W, Below wx.heap.size wx W → W.cell? ⟨wr.heap.size, 0, none⟩ = some (.string sv) ∧ W.cell? ⟨wr.heap.size, 1, none⟩ = some (.slice ea l ec)) := fun W hW => ⟨(cell2 (hW.cells HXB.out)).1, (cell2 (hW.cells HXB.out)).2.1⟩
      obtain ⟨x0, x1⟩ := HQ.out wx (Below.refl _ _)
      clear hki hle
      go_wp2_with fail
      clear hwx d0 d1
      refine wp_region_noPanic ?_
      go_region_law (first
        | (refine step_append_at rfl (.tmp 21) (.tmp 29) 29 rfl w.heap.size 47 i47 _ 2 40 Try.underlying29 hi47 hx0 hx1 hx2 rfl (by decide) (.slice va i vc) i (rowsOf Hx.row os) rfl HOD.out ⟨w4.heap.size, 0, none⟩ 1 1 [.string sv, .slice qa l qc] rfl rfl HND.out (hx_one2 _ _ _ _) hlm hlb hszD ?_; intro v5 w5 hown5 hgrow5 hat5; have HF5 := hideL (And.intro (below_app (mm := 0) HV4.out.row HBW.out.size hgrow5) (HV4.out.more (mm := 0) (p := ⟨sv, eps, qa, qc⟩) (by decide) (by rw [HOL.out]; unfold Hx.row; dsimp only; rw [HLE.out]; exact hown5) hgrow5 HQ4.out (by rw [HOL.out]; omega))); clear hown5 hgrow5 hat5)
        | (go_simp; go_at_call 29; refine (clone_any sv _ hsv).mono ?_; rintro e w3 ⟨rfl, hb⟩; have hb3 : Below wx.heap.size wx w3 := (below_drewN (Below.refl _ wx) 1).trans hb; obtain ⟨y0, y1⟩ := HQ.out w3 hb3; have HB3 := hideL hb3; clear hb hb3)
        | (go_simp; go_at_call 25; refine (copies_any _ ea l ec eps HLE.out (by omega) (HE.out w3 (HBX.out.trans (HB3.out.mono HBX.out.size))) HK.out).mono ?_; rintro e w4 ⟨v4, rfl, hown4, hb4⟩; obtain ⟨qa, qc, rfl, _⟩ := own_form hown4; obtain ⟨y0, y1⟩ := HQ.out w4 (HB3.out.trans (hb4.mono HB3.out.size)); have HBW := hideL (HBX.out.trans ((HB3.out.trans (hb4.mono HB3.out.size)).mono HBX.out.size)); have HV4 := hideL (HOV.out.below (HX.out.trans ((HB3.out.trans (hb4.mono HB3.out.size)).mono HX.out.size))); have HLO : Hid (∀ k, blkO ⟨sv, eps, qa, qc⟩ = some k → wr.heap.size ≤ k) := (hideL (fun k hk => by have h1 := (hown4.lt k (by unfold blkO at hk; rw [HLE.out] at hk; exact hk)).1; have h2 := HB3.out.size; have h3 := HX.out.size; omega)); have HQ4 : Hid (Oh w4 w.heap.size ⟨sv, eps, qa, qc⟩) := (hideL ⟨own_low' (by rw [HLE.out]; exact hown4) (HBX.out.trans (HB3.out.mono HBX.out.size)).size, by rw [HLE.out]; exact hll, HK.out, hsv⟩); clear hown4 hb4; have HOD : Hid ((w4.alloc (Obj.cells #[.string sv, .slice qa l qc] 47)).ownsRow w.heap.size 47 2 (.slice va i vc) i (rowsOf Hx.row os)) := (by have := HV4.out.row.alloc (Obj.cells #[.string sv, .slice qa l qc] 47); rwa [HOL.out] at this); have HND : Hid (∀ j u, ([.string sv, .slice qa l qc] : List Value)[j]? = some u → (w4.alloc (Obj.cells #[.string sv, .slice qa l qc] 47)).cell? ((⟨w4.heap.size, 0, none⟩ : Addr).add j) = some u) := World.news_of_block (w := (w4.alloc (Obj.cells #[.string sv, .slice qa l qc] 47))) (Go.heap_alloc_new w4 _); have hszD : w.heap.size ≤ (w4.alloc (Obj.cells #[.string sv, .slice qa l qc] 47)).heap.size := Nat.le_trans HBW.out.size (by simp)))
      all_goals
        refine NoPanic.normal ?_
        have hfin := HF5.out
        have HG5 := hideL hfin
        clear hfin HF5
        go_wp2_with fail
        go_roundw
        case rel =>
          refine ⟨i + 1, os ++ [⟨sv, eps, qa, qc⟩], by go_num, by omega, by simp [HOL.out], HG5.out.2, ?_, HBW.out.trans HG5.out.1, HA.out.more (fun o ho k hk hk2 => by have h1 := ((HOV.out.each o ho).own.lt k hk).2; have h2 := HLO.out k hk2; omega)⟩
          rw [HT.out]
          unfold sayL
          rw [List.map_append, List.map_append]
          have := HSY.out
          unfold sayL at this
          rw [this]
          rfl
        case measure => simp [intOf]; omega
    · have h3' : ¬ (i : Int) < m := by omega
      obtain rfl : i = m := by omega
      have HSF : Hid (sayL os = sayL xs) := by
        unfold Hid
        rw [HSY.out, List.take_of_length_le (by have := HM.out; omega)]
      go_wp2
      go_ret
      exact ⟨_, rfl, os, HOV.out, HSF.out, HB.out, HA.out⟩
theorem view2_any (w : World) (base b n : Nat) (r : Rg) (h : Rr w base b n r) :
    Calls Try.prog 9 #[.pointer (some ⟨b, 0, none⟩)] w fun e w' => ∃ v, e = .returned v ∧ ∃ os, Ov w' w.heap.size 47 v os ∧ sayL os = sayL r.vw ∧ Below w.heap.size w w' ∧ Apt os := by
  have ht := told_any w b base r.va r.vw.length r.vc r.vw rfl h.vw h.cs.1
  clear h
  go_enter Try.func9, Try.ntmps9
  go_wp2_with (go_at_call 18; refine ht.mono ?_; rintro e w2 ⟨v, rfl, os, h1, h2, h3, h4⟩; have H1 := hideL h1; have H2 := hideL h2; have H3 := hideL h3; have H4 := hideL h4; clear h1 h2 h3 h4)
  go_ret
  exact ⟨_, rfl, os, H1.out, H2.out, H3.out, H4.out⟩
theorem view_any (w : World) (base b n : Nat) (r : Rg) (h : Rr w base b n r) :
    Calls Try.prog 9 #[.pointer (some ⟨b, 0, none⟩)] w fun e w' => ∃ v, e = .returned v ∧ ∃ os, Ov w' w.heap.size 47 v os ∧ sayL os = sayL r.vw ∧ Below w.heap.size w w' :=
  (view2_any w base b n r h).mono fun e w' ⟨v, h1, os, h2, h3, h4, _⟩ => ⟨v, h1, os, h2, h3, h4⟩
theorem epoch_any (w : World) (base b n : Nat) (r : Rg) (h : Rr w base b n r) :
    Calls Try.prog 8 #[.pointer (some ⟨b, 0, none⟩)] w fun e w' => e = .returned (.int .i64 r.ep) ∧ w' = w := by
  obtain ⟨c0, c1, c2, c3⟩ := h.cs
  clear h c0 c2 c3
  go_enter Try.func8, Try.ntmps8
  go_wp2_with fail
  go_ret
  exact ⟨rfl, rfl⟩
end Go.Proofs.Ytidpglbokpgpbaa
