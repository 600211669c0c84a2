/- Those of a service's endpoints that are healthy. -/
import Derived.Test.YtidpglbokpgpbaaRg
import Derived.Deep.RegionWith
namespace Go.Proofs.Ytidpglbokpgpbaa
open Go.RowKit
set_option linter.unusedVariables false
set_option linter.unusedSimpArgs false
set_option maxRecDepth 100000
theorem take_snoc {α : Type} {l : List α} {i : Nat} {o : α} (h : l[i]? = some o) : l.take (i + 1) = l.take i ++ [o] := by rw [List.take_add_one, h]; rfl
theorem filter_snoc {α : Type} {l : List α} {i : Nat} {o : α} (h : l[i]? = some o) (p : α → Bool) : (l.take (i + 1)).filter p = (l.take i).filter p ++ (if p o = true then [o] else []) := by
  rw [take_snoc h, List.filter_append]
  congr 1
  by_cases e : p o = true
  · rw [if_pos e]; simp [e]
  · rw [if_neg e]; simp [e]
theorem cell2 {W : World} {b : Nat} {x y : Value} {t : TypeId} (h : W.heap[b]? = some (.cells #[x, y] t (0, 0))) : W.cell? ⟨b, 0, none⟩ = some x ∧ W.cell? ⟨b, 1, none⟩ = some y ∧ ∀ o, W.frozen? ⟨b, o, none⟩ = false := by
  refine ⟨?_, ?_, fun o => ?_⟩
  · simp [World.cell?, h]
  · simp [World.cell?, h]
  · simp [World.frozen?, h]
theorem al_at {W : World} (o : Obj) {k : Nat} (h : W.heap.size = k) : (W.alloc o).heap[k]? = some o := by subst h; exact Go.heap_alloc_new W o
theorem al_keep {W : World} (o : Obj) {k : Nat} {x : Obj} (h : W.heap[k]? = some x) : (W.alloc o).heap[k]? = some x := (Below.heap_alloc W o k (Array.getElem?_eq_some_iff.1 h).1).trans h
/-- what stands while the healthy ones are gathered: they lie in the block S + 2, the answer's is S + 1 -/
structure ThI (w wr : World) (sv : ByteArray) (L : List ByteArray) (qa : Option Addr) (l qc : Nat) : Prop where
  bel : Below w.heap.size w wr
  res : wr.heap[w.heap.size + 1]? = some (.cells #[.string ⟨#[]⟩, .slice none 0 0] 47 (0, 0))
  box : wr.heap[w.heap.size + 2]? = some (.cells #[.string sv, .slice qa l qc] 47 (0, 0))
  own : wr.ownsRow w.heap.size 9 1 (.slice qa l qc) l (rowsOf strR L)
  len : L.length = l
theorem ThI.lt {w wr : World} {sv : ByteArray} {L : List ByteArray} {qa : Option Addr} {l qc : Nat} (h : ThI w wr sv L qa l qc) : w.heap.size + 2 < wr.heap.size := lt_of_block h.box
set_option maxHeartbeats 16000000 in
theorem those_any (w : World) (base b n : Nat) (r : Rg) (h : Rr w base b n r) (B0 : Nat) (o : Hx) (ho : Oh w B0 o) :
    Calls Try.prog 34 #[o.val, .func (.func 14) #[.pointer (some ⟨b, 0, none⟩)] #[]] w fun e w' => ∃ q, e = .returned (Hx.val q) ∧ q.says = (o.sv, o.eps.filter r.hl) ∧ Oh w' w.heap.size q ∧ Below w.heap.size w w' := by
  have HR := hideL h
  have HO := hideL ho
  obtain ⟨sv, eps, ea, ec⟩ := o
  unfold Hx.val
  dsimp only
  obtain ⟨m, hm⟩ : ∃ m, eps.length = m := ⟨_, rfl⟩
  have HM := hideL hm
  have HC : Hid (Cel w ea 1 (eps.map strR)) := hideL ho.cel
  have HL : Hid (m ≤ 1048576) := hm ▸ ho.le
  have hl := HL.out
  have HK : Hid (∀ s ∈ eps, okS s) := ho.ok
  rw [hm]
  clear h ho hm
  obtain ⟨i9, hi9, hx0, hx1, hx2⟩ := info_parts Try.info9
  go_enter Try.func34, Try.ntmps34
  go_wp2_with fail
  go_loopw [14] (fun t wr => ∃ (i : Nat) (qa : Option Addr) (l qc : Nat), t = .int .i64 i ∧ i ≤ m ∧ ThI w wr sv ((eps.take i).filter r.hl) qa l qc) (fun t _ => m - (intOf t).toNat)
  case atStart =>
    refine ⟨0, none, 0, 0, rfl, by omega, ?_, ?_, ?_, ⟨by simp [rowsOf], .inl ⟨rfl, rfl⟩⟩, rfl⟩
    · exact ((Gr.alloc _ _).trans ((Gr.alloc _ _).trans (Gr.alloc _ _))).below
    · exact al_keep _ (al_at _ (by simp))
    · exact al_at _ (by simp)
  case round =>
    obtain ⟨i, qa, l, qc, rfl, hi, hth⟩ := hrel
    have i0 : (0 : Int) ≤ i := by omega
    have HT := hideL hth
    have hql : l ≤ i := by
      rw [← hth.len]
      refine Nat.le_trans (List.length_filter_le _ _) ?_
      rw [List.length_take]; exact Nat.min_le_left _ _
    obtain ⟨d0, d1, dz⟩ := cell2 hth.box
    have HRR := hideL (HR.out.below hth.bel)
    clear hth
    by_cases h3 : i < m
    · have h3' : (i : Int) < m := by omega
      rcases hki : eps[i]? with _ | s
      · have := List.getElem?_eq_none_iff.1 hki; have := HM.out; omega
      obtain ⟨g, off, rfl, hc⟩ := (HC.out.below HT.out.bel).at_ hki
      have c0 := hc 0 _ rfl
      rw [Nat.add_zero, Nat.mul_one] at c0
      have HF := hideL (filter_snoc hki r.hl)
      have hoks := HK.out s (List.mem_of_getElem? hki)
      have hcall := healthyE_any wr base b n r HRR.out s hoks
      have HS := hideL hki
      clear hc hki hoks
      cases hh : r.hl s with
      | false =>
        rw [hh] at hcall
        have HF2 : Hid ((eps.take (i + 1)).filter r.hl = (eps.take i).filter r.hl) := by unfold Hid; rw [HF.out, hh]; simp
        go_wp2_with (go_at_call 14; refine hcall.mono ?_; rintro e w2 ⟨rfl, hw⟩; have hw := hw.symm; subst hw)
        go_roundw
        case rel => exact ⟨i + 1, qa, l, qc, by go_num, by omega, by rw [HF2.out]; exact HT.out⟩
        case measure => simp [intOf]; omega
      | true =>
        rw [hh] at hcall
        have HF2 : Hid ((eps.take (i + 1)).filter r.hl = (eps.take i).filter r.hl ++ [s]) := by unfold Hid; rw [HF.out, hh]; simp
        have hlm : l + 1 ≤ maxLen := by unfold maxLen; omega
        have hlb : (l + 1) * 16 ≤ 140737488355328 := by omega
        have HOD : Hid ((wr.alloc (Obj.cells #[.string s] 9)).ownsRow w.heap.size 9 1 (.slice qa l qc) l (rowsOf strR ((eps.take i).filter r.hl))) := HT.out.own.alloc _
        have HND : Hid (∀ j u, (strR s)[j]? = some u → (wr.alloc (Obj.cells #[.string s] 9)).cell? ((⟨wr.heap.size, 0, none⟩ : Addr).add j) = some u) := World.news_of_block (w := (wr.alloc (Obj.cells #[.string s] 9))) (Go.heap_alloc_new wr _)
        have hszD : w.heap.size ≤ (wr.alloc (Obj.cells #[.string s] 9)).heap.size := Nat.le_trans HT.out.bel.size (by simp)
        go_wp2_with (first
          | (go_at_call 14; refine hcall.mono ?_; rintro e w2 ⟨rfl, hw⟩; have hw := hw.symm; subst hw)
          | (at_builtin; refine wpList_append_at _ rfl (.tmp 22) (.tmp 24) 40 rfl w.heap.size 9 i9 _ 1 16 Try.underlying40 hi9 hx0 hx1 hx2 rfl (by decide) (.slice qa l qc) l (rowsOf strR ((eps.take i).filter r.hl)) rfl HOD.out ⟨wr.heap.size, 0, none⟩ 1 1 (strR s) rfl rfl HND.out (strR_one _) hlm hlb hszD ?_; intro v3 w3 hown3 hgrow3 hat3; obtain ⟨qa3, qc3, rfl, _⟩ := own_form hown3; have HB3 := hideL (below_app (mm := 0) HT.out.own HT.out.bel.size hgrow3); have HO3 := hideL hown3; have HX3 := hideL (app_keep (mm := 0) HT.out.own hgrow3 HT.out.box (by decide)); have HY3 := hideL (app_keep (mm := 0) HT.out.own hgrow3 HT.out.res (by decide)); obtain ⟨d3, d4, dz3⟩ := cell2 HX3.out; clear hown3 hgrow3 hat3))
        go_roundw
        case rel =>
          refine ⟨i + 1, qa3, l + 1, qc3, by go_num, by omega, ?_⟩
          rw [HF2.out]
          refine ⟨?_, ?_, ?_, ?_, by simp [HT.out.len]⟩
          · exact (HT.out.bel.trans HB3.out).trans ((But.set (b := w.heap.size + 2) (A := w3) 1 _).below (HT.out.bel.trans HB3.out).size (by omega))
          · exact (But.set (b := w.heap.size + 2) (A := w3) 1 _).cells HY3.out (by omega)
          · rw [heap_setCell_same w3 _ 1 _ 47 _ HX3.out]; rfl
          · rw [rowsOf_append, rowsOf_one]
            exact (But.set (b := w.heap.size + 2) (A := w3) 1 _).own HO3.out HX3.out (by decide)
        case measure => simp [intOf]; omega
    · have h3' : ¬ (i : Int) < m := by omega
      obtain rfl : i = m := by omega
      obtain ⟨e0, e1, ez⟩ := cell2 HT.out.res
      go_wp2_with fail
      have HB : Hid (But (w.heap.size + 1) wr ((wr.setCell ⟨w.heap.size + 1, 0, none⟩ (.string sv)).setCell ⟨w.heap.size + 1, 1, none⟩ (.slice qa l qc))) := hideL ((But.set 0 _).trans (But.set 1 _))
      have hblk : ((wr.setCell ⟨w.heap.size + 1, 0, none⟩ (.string sv)).setCell ⟨w.heap.size + 1, 1, none⟩ (.slice qa l qc)).heap[w.heap.size + 1]? = some (.cells #[.string sv, .slice qa l qc] 47 (0, 0)) := by
        rw [set_blk (set_blk HT.out.res 0 _) 1 _]; rfl
      have hE : eps.take i = eps := List.take_of_length_le (by have := HM.out; omega)
      have HE := hideL hE
      obtain ⟨f0, f1, _⟩ := cell2 hblk
      generalize (wr.setCell ⟨w.heap.size + 1, 0, none⟩ (.string sv)).setCell ⟨w.heap.size + 1, 1, none⟩ (.slice qa l qc) = wx at *
      refine bodyPost_ret (v := .agg #[.string sv, .slice qa l qc]) (by simp [results, Try.results34, go_sem, f0, f1]) rfl ?_
      have hlen := HT.out.len
      rw [HE.out] at hlen
      have hown := HB.out.own HT.out.own HT.out.res (by decide)
      rw [HE.out] at hown
      refine ⟨⟨sv, eps.filter r.hl, qa, qc⟩, ?_, rfl, ⟨?_, ?_, ?_, ?_⟩, HT.out.bel.trans (HB.out.below HT.out.bel.size (by omega))⟩
      · show Ending.returned (.agg #[.string sv, .slice qa l qc]) = .returned (.agg #[.string sv, .slice qa (eps.filter r.hl).length qc])
        rw [hlen]
      · show wx.ownsRow w.heap.size 9 1 (.slice qa (eps.filter r.hl).length qc) (eps.filter r.hl).length (rowsOf strR (eps.filter r.hl))
        rw [hlen]; exact hown
      · show (eps.filter r.hl).length ≤ 1048576
        omega
      · intro s hs
        exact HK.out s (List.mem_filter.1 hs).1
      · exact HO.out.sz
end Go.Proofs.Ytidpglbokpgpbaa
