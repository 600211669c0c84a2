/-
  Lists of targets compared.
-/
import Derived.Test.YtmljljpldljpjabEq
namespace Go.Proofs.Ytmljljpldljpjab
open Go.RowKit
set_option linter.unusedVariables false
set_option linter.unusedSimpArgs false
set_option maxRecDepth 100000
theorem alloc_cell (w : World) (X : Obj) {b o : Nat} (h : b < w.heap.size) : (w.alloc X).cell? ⟨b, o, none⟩ = w.cell? ⟨b, o, none⟩ := ((Below.refl _ w).alloc (Nat.le_refl _) X).cell (p := ⟨b, o, none⟩) h
set_option maxHeartbeats 8000000 in
theorem equalT_any (w : World) (a b : Option Addr) (n m c1 c2 : Nat) (l r : List Tg) (hn : l.length = n) (hm : r.length = m) (hl : n ≤ 1048576) (h1 : Cel w a 3 (l.map Tg.row)) (h2 : Cel w b 3 (r.map Tg.row)) :
    Calls Try.prog 35 #[.slice a n c1, .slice b m c2, .func (.func 36) #[] #[]] w fun e w' => Tells e (TgsEq l r) ∧ Gr w w' := by
  have HN := hideL hn
  have HM := hideL hm
  have H1 := hideL h1
  have H2 := hideL h2
  clear hn hm h1 h2
  have st := st_float
  go_enter Try.func35, Try.ntmps35
  by_cases hnm : n = m
  · subst hnm
    go_wp2_with fail
    go_loopw [17] (fun t wr => ∃ (i : Nat), t = .int .i64 i ∧ i ≤ n ∧ Gr w wr ∧ Hid (∀ (j : Nat) o p, j < i → l[j]? = some o → r[j]? = some p → TgEq o p)) (fun t _ => n - (intOf t).toNat)
    case atStart => exact ⟨0, rfl, by omega, Gr.refl _, fun j c d hj _ => by omega⟩
    case round =>
      obtain ⟨i, rfl, hi, hgr, HF⟩ := hrel
      have HG := hideL hgr
      clear hgr
      have i0 : (0 : Int) ≤ i := by omega
      by_cases h3 : i < n
      · have h3' : (i : Int) < n := by omega
        rcases hki : l[i]? with _ | o
        · have := List.getElem?_eq_none_iff.1 hki; have := HN.out; omega
        rcases hkj : r[i]? with _ | p
        · have := List.getElem?_eq_none_iff.1 hkj; have := HM.out; omega
        obtain ⟨g, off, rfl, hc⟩ := (H1.out.below HG.out.below).at_ hki
        obtain ⟨g2, off2, rfl, hc2⟩ := (H2.out.below HG.out.below).at_ hkj
        have c0 := hc 0 _ rfl
        have c1 := hc 1 _ rfl
        have c2 := hc 2 _ rfl
        have d0 := hc2 0 _ rfl
        have d1 := hc2 1 _ rfl
        have d2 := hc2 2 _ rfl
        rw [Nat.add_zero] at c0 d0
        have hg2 : g2 < wr.heap.size := World.block_lt_of_cell? wr _ d0
        have q0 := fun X => (alloc_cell wr X hg2).trans d0
        have q1 := fun X => (alloc_cell wr X hg2).trans d1
        have q2 := fun X => (alloc_cell wr X hg2).trans d2
        clear d0 d1 d2
        have HK := hideL hki
        have HJ := hideL hkj
        clear hki hkj hc hc2
        go_wp2_with fail
        refine (sameTg_any _ o p).mono ?_
        rintro e w1 ⟨⟨bb, rfl, hb⟩, hg1⟩
        have HG1 := hideL (HG.out.trans (((Gr.alloc _ _).trans (Gr.alloc _ _)).trans hg1))
        have HBB := hideL hb
        clear hb hg1
        cases bb
        · go_wp2
          go_ret
          refine ⟨Tells.no fun h => ?_, HG1.out⟩
          have := HBB.out.2 (h.2 i o p HK.out HJ.out); cases this
        · go_wp2
          go_roundw
          case rel =>
            refine ⟨i + 1, by go_num, by omega, HG1.out, fun j c d hj hc hd => ?_⟩
            by_cases hji : j < i
            · exact HF.out j c d hji hc hd
            · obtain rfl : j = i := by omega
              rw [HK.out] at hc; rw [HJ.out] at hd
              cases hc; cases hd
              exact HBB.out.1 (by trivial)
          case measure => simp [intOf]; omega
      · have h3' : ¬ (i : Int) < n := by omega
        go_wp2
        go_ret
        exact ⟨Tells.yes ⟨by rw [HN.out, HM.out], fun j o p ho hp => HF.out j o p (by have := (List.getElem?_eq_some_iff.1 ho).1; have := HN.out; omega) ho hp⟩, HG.out⟩
  · have hnm' : ¬ (n : Int) = m := by omega
    go_wp2
    go_ret
    exact ⟨Tells.no (fun h => hnm (by rw [← HN.out, ← HM.out, h.1])), Gr.refl _⟩
end Go.Proofs.Ytmljljpldljpjab
