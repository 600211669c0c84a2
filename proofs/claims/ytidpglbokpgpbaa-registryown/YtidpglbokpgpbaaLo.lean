/- look: who may be picked becomes the view. -/
import Derived.Test.YtidpglbokpgpbaaRl
namespace Go.Proofs.Ytidpglbokpgpbaa
open Go.RowKit
set_option linter.unusedVariables false
set_option linter.unusedSimpArgs false
set_option maxRecDepth 100000
def Rg.vwF (r : Rg) : List (ByteArray × List ByteArray) := r.ss.map fun o => (o.sv, o.eps.filter r.hl)
def LookE (r r' : Rg) : Prop := ∃ os a c e, r' = { r with vw := os, va := a, vc := c, ep := e } ∧ sayL os = r.vwF ∧ ((sayL r.vw = r.vwF ∧ e = r.ep) ∨ (sayL r.vw ≠ r.vwF ∧ e = r.ep + 1))
theorem Rr.bs {W : World} {base b n : Nat} {r : Rg} (h : Rr W base b n r) : base ≤ W.heap.size := by have := h.lo; have := lt_of_block h.blk; omega
set_option maxHeartbeats 16000000 in
theorem look_any (w : World) (base b n : Nat) (r : Rg) (h : Rr w base b n r) (hn : n ≤ 1000000000) :
    Calls Try.prog 21 #[.pointer (some ⟨b, 0, none⟩)] w fun e w' => e = .returned (.tuple #[]) ∧ ∃ r', LookE r r' ∧ Rr w' base b (n + 1) r' ∧ Stp w w' [b] [b] := by
  obtain ⟨c0, c1, c2, c3⟩ := h.cs
  have HR := hideL h
  obtain ⟨m, hm⟩ : ∃ m, r.ss.length = m := ⟨_, rfl⟩
  have HM := hideL hm
  have HS : Hid (Ov w base 78 (.slice r.sa m r.sc) r.ss) := hm ▸ h.ss
  have hl : m ≤ 1048576 := hm ▸ h.ss.le
  rw [hm] at c2
  obtain ⟨sa, hsa⟩ : ∃ a, r.sa = a := ⟨_, rfl⟩
  have HSA := hideL hsa
  rw [hsa] at c2 HS
  clear h c0 c1 c3 hm hsa
  obtain ⟨i47, hi47, hx0, hx1, hx2⟩ := info_parts Try.info47
  go_enter Try.func21, Try.ntmps21
  go_wp2_with (at_make; refine wpList_make_own _ rfl (.const (.int .i64 0)) (.tmp 9) 29 rfl w.heap.size 47 i47 _ 2 Try.underlying29 hi47 hx0 hx1 .i64 .i64 (m : Int) m rfl rfl (by omega) (by rw [hx2]; omega) (by unfold maxLen; omega) (Nat.le_refl _) ?_; intro w1 hown1 hgrow1; have HO1 := hideL hown1; have HB1 := hideL (made_row hown1 hgrow1); have c2' := cell_of_below HB1.out c2; clear hown1 hgrow1)
  go_loopw [2, 16] (fun v t wr => ∃ (i : Nat) (os : List Hx), t = .int .i64 i ∧ i ≤ m ∧ os.length = i ∧ Ov wr w.heap.size 47 v os ∧ sayL os = (r.ss.take i).map (fun o => (o.sv, o.eps.filter r.hl)) ∧ Below w.heap.size w wr) (fun _ t _ => m - (intOf t).toNat)
  case atStart => exact ⟨0, [], rfl, by omega, rfl, ⟨by simpa [rowsOf] using HO1.out, fun o ho => (by cases ho), by simp⟩, rfl, HB1.out⟩
  case round =>
    obtain ⟨i, os, rfl, hi, hol, hov, hsay, hbel⟩ := hrel
    have i0 : (0 : Int) ≤ i := by omega
    obtain ⟨va, vc, rfl⟩ := hov.form
    rw [hol] at hov ⊢
    have HOV := hideL hov
    have HB := hideL hbel
    have HSY := hideL hsay
    have HOL := hideL hol
    have HRR := hideL (HR.out.below hbel)
    have hlm : i + 1 ≤ maxLen := by unfold maxLen; omega
    have hlb : (i + 1) * 40 ≤ 140737488355328 := by omega
    clear hov hbel hsay hol HO1 HB1
    by_cases h3 : i < m
    · have h3' : (i : Int) < m := by omega
      rcases hki : r.ss[i]? with _ | o
      · have := List.getElem?_eq_none_iff.1 hki; have := HM.out; omega
      obtain ⟨g, off, rfl, d0, d1⟩ := (HS.out.below HB.out).at_ hki
      have HOO := hideL (HS.out.each o (List.mem_of_getElem? hki))
      have HT := hideL (take_snoc hki)
      have hth := those_any (wr.alloc (Obj.cells #[.string o.sv, .slice o.ea o.eps.length o.ec] 78)) base b n r (HRR.out.below (Gr.alloc _ _).below) base o (HOO.out.below (HB.out.trans ((Gr.alloc _ _).below.mono HB.out.size)))
      unfold Hx.val at hth
      clear hki c2'
      go_wp2_with fail
      refine hth.mono ?_
      rintro e w2 ⟨q, rfl, hq1, hq2, hb2⟩
      have HB2 := hideL ((Gr.alloc wr (Obj.cells #[.string o.sv, .slice o.ea o.eps.length o.ec] 78)).below.trans (hb2.mono (by simp)))
      have HBW := hideL (HB.out.trans (HB2.out.mono HB.out.size))
      have HV2 := hideL (HOV.out.below HB2.out)
      have HQ2 := hideL (hq2.low (Nat.le_trans HB.out.size (Gr.alloc wr (Obj.cells #[.string o.sv, .slice o.ea o.eps.length o.ec] 78)).below.size))
      have HQ1 := hideL hq1
      clear hb2 hq1 hq2 d0 d1
      have HOD : Hid ((w2.alloc (Obj.cells #[.string q.sv, .slice q.ea q.eps.length q.ec] 47)).ownsRow w.heap.size 47 2 (.slice va i vc) i (rowsOf Hx.row os)) := by have := HV2.out.row.alloc (Obj.cells #[.string q.sv, .slice q.ea q.eps.length q.ec] 47); rwa [HOL.out] at this
      have HND : Hid (∀ j u, q.row[j]? = some u → (w2.alloc (Obj.cells #[.string q.sv, .slice q.ea q.eps.length q.ec] 47)).cell? ((⟨w2.heap.size, 0, none⟩ : Addr).add j) = some u) := World.news_of_block (w := (w2.alloc (Obj.cells #[.string q.sv, .slice q.ea q.eps.length q.ec] 47))) (Go.heap_alloc_new w2 _)
      have hszD : w.heap.size ≤ (w2.alloc (Obj.cells #[.string q.sv, .slice q.ea q.eps.length q.ec] 47)).heap.size := Nat.le_trans HBW.out.size (by simp)
      go_wp2_with (at_builtin; refine wpList_append_at _ rfl (.tmp 20) (.tmp 25) 29 rfl w.heap.size 47 i47 _ 2 40 Try.underlying29 hi47 hx0 hx1 hx2 rfl (by decide) (.slice va i vc) i (rowsOf Hx.row os) rfl HOD.out ⟨w2.heap.size, 0, none⟩ 1 1 q.row rfl rfl HND.out (hx_one _) hlm hlb hszD ?_; intro v3 w3 hown3 hgrow3 hat3; have HB3 := hideL (below_app (mm := 0) HV2.out.row HBW.out.size hgrow3); have HO3 := hideL (HV2.out.more (mm := 0) (by decide) (by rw [HOL.out]; exact hown3) hgrow3 HQ2.out (by rw [HOL.out]; omega)); clear hown3 hgrow3 hat3)
      go_roundw
      case rel =>
        refine ⟨i + 1, os ++ [q], by go_num, by omega, by simp [HOL.out], HO3.out, ?_, HBW.out.trans HB3.out⟩
        rw [HT.out, List.map_append, ← HSY.out]
        unfold sayL
        rw [List.map_append, List.map_cons, List.map_nil, HQ1.out]
        rfl
      case measure => simp [intOf]; omega
    · have h3' : ¬ (i : Int) < m := by omega
      obtain rfl : i = m := by omega
      have HSF : Hid (sayL os = r.vwF) := by
        unfold Hid Rg.vwF
        rw [HSY.out, List.take_of_length_le (by have := HM.out; omega)]
      have hbc := become_any wr base b n r HRR.out hn va i vc os HOL.out (HOV.out.low HR.out.bs)
      go_wp2_with (go_at_call 35; refine hbc.mono ?_; rintro e w2 ⟨rfl, r', he, hr, hs⟩; have HE := hideL he; have HR2 := hideL hr; have HS2 := hideL hs; clear he hr hs)
      go_end0
      refine ⟨rfl, ?_⟩
      rcases HE.out with ⟨h1, rfl⟩ | ⟨h1, rfl⟩
      · exact ⟨r', ⟨r'.vw, r'.va, r'.vc, r'.ep, rfl, by rw [h1, HSF.out], .inl ⟨by rw [h1, HSF.out], rfl⟩⟩, HR2.out, (Stp.of_below [b] HB.out).trans HS2.out⟩
      · exact ⟨_, ⟨os, va, vc, r.ep + 1, rfl, HSF.out, .inr ⟨by rw [← HSF.out]; exact h1, rfl⟩⟩, HR2.out, (Stp.of_below [b] HB.out).trans HS2.out⟩
end Go.Proofs.Ytidpglbokpgpbaa
