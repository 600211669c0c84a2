/-
  Entries, hosts, tables compared by the program.
-/
import Derived.Test.YtcihhcolgfaaiaaTe
namespace Go.Proofs.Ytcihhcolgfaaiaa
open Go.RowKit
set_option linter.unusedVariables false
set_option linter.unusedSimpArgs false
set_option maxRecDepth 100000
theorem alloc_cell (w : World) (X : Obj) {b o : Nat} (h : b < w.heap.size) : (w.alloc X).cell? ⟨b, o, none⟩ = w.cell? ⟨b, o, none⟩ := ((Below.refl _ w).alloc (Nat.le_refl _) X).cell (p := ⟨b, o, none⟩) h
theorem al_size (w : World) (o : Obj) : (w.alloc o).heap.size = w.heap.size + 1 := Array.size_push _
theorem to_gr {f : Nat} {args : Array Value} {w : World} {v : Value} (h : Calls Try.prog f args w fun e w' => e = .returned v ∧ ∃ q, w' = w.drewN q) : Calls Try.prog f args w fun e w' => e = .returned v ∧ Gr w w' := h.mono (by rintro e w' ⟨rfl, q, rfl⟩; exact ⟨rfl, Gr.drewN _ _⟩)
set_option maxHeartbeats 8000000 in
theorem entry_any (w : World) (a b : En) (ha : Ein w a) (hb : Ein w b) :
    Calls Try.prog 21 #[.agg #[.string a.pa, .string a.me, .slice a.sa a.shs.length a.sc], .agg #[.string b.pa, .string b.me, .slice b.sa b.shs.length b.sc]] w fun e w' => e = .returned (.bool (enB a b)) ∧ Gr w w' := by
  have HC : Hid (∀ W, Gr w W → Calls Try.prog 28 #[.slice a.sa a.shs.length a.sc, .slice b.sa b.shs.length b.sc] W fun e w' => e = .returned (.bool (eqL shB a.shs b.shs)) ∧ Gr W w') := fun W hW => to_gr (equalH_any W a.sa b.sa _ _ a.sc b.sc a.shs b.shs rfl rfl ha.le (ha.es.below hW.below) (hb.es.below hW.below))
  clear ha hb
  unfold enB
  generalize eqL shB a.shs b.shs = b3 at HC ⊢
  generalize a.shs.length = n1 at HC ⊢
  generalize b.shs.length = n2 at HC ⊢
  go_enter Try.func21, Try.ntmps21
  cases h1 : (a.pa.toList == b.pa.toList)
  · go_wp2
    go_ret
    exact ⟨rfl, (Gr.alloc _ _).trans (Gr.alloc _ _)⟩
  · cases h2 : (a.me.toList == b.me.toList)
    · go_wp2
      go_ret
      exact ⟨rfl, (Gr.alloc _ _).trans (Gr.alloc _ _)⟩
    · go_wp2_with (go_at_call 28; refine (HC.out _ ((Gr.alloc _ _).trans (Gr.alloc _ _))).mono ?_; rintro e w1 ⟨rfl, hg1⟩; have HG := hideL (((Gr.alloc _ _).trans (Gr.alloc _ _)).trans hg1); clear hg1)
      go_ret
      exact ⟨rfl, HG.out⟩
set_option maxHeartbeats 8000000 in
theorem equalE_any (w : World) (a b : Option Addr) (n m c1 c2 : Nat) (l r : List En) (hn : l.length = n) (hm : r.length = m) (hl : n ≤ 140737488355328) (h1 : Cel w a 3 (l.map En.row)) (h2 : Cel w b 3 (r.map En.row)) (he1 : ∀ o ∈ l, Ein w o) (he2 : ∀ o ∈ r, Ein w o) :
    Calls Try.prog 20 #[.slice a n c1, .slice b m c2, .func (.func 21) #[] #[]] w fun e w' => e = .returned (.bool (eqL enB l r)) ∧ Gr w w' := by
  have HN := hideL hn
  have HM := hideL hm
  have H1 := hideL h1
  have H2 := hideL h2
  have HE1 := hideL he1
  have HE2 := hideL he2
  obtain ⟨R, hR⟩ : ∃ R, eqL enB l r = R := ⟨_, rfl⟩
  have HR := hideL hR
  rw [hR]
  clear hn hm h1 h2 he1 he2 hR
  go_enter Try.func20, Try.ntmps20
  by_cases hnm : n = m
  · subst hnm
    go_wp2_with fail
    go_loopw [17] (fun t wr => ∃ (i : Nat), t = .int .i64 i ∧ i ≤ n ∧ Gr w wr ∧ Hid (∀ (j : Nat) o p, j < i → l[j]? = some o → r[j]? = some p → enB o p = true)) (fun t _ => n - (intOf t).toNat)
    case atStart => exact ⟨0, rfl, by omega, Gr.refl _, fun j c d hj _ => by omega⟩
    case round =>
      obtain ⟨i, rfl, hi, hgr, HF⟩ := hrel
      have HG := hideL hgr
      clear hgr
      have i0 : (0 : Int) ≤ i := by omega
      by_cases h3 : i < n
      · have h3' : (i : Int) < n := by omega
        rcases hki : l[i]? with _ | o
        · have := List.getElem?_eq_none_iff.1 hki; have := HN.out; omega
        rcases hkj : r[i]? with _ | p
        · have := List.getElem?_eq_none_iff.1 hkj; have := HM.out; omega
        obtain ⟨g, off, rfl, hc⟩ := (H1.out.below HG.out.below).at_ hki
        obtain ⟨g2, off2, rfl, hc2⟩ := (H2.out.below HG.out.below).at_ hkj
        have c0 := hc 0 _ rfl
        have d0 := hc2 0 _ rfl
        have c1 := hc 1 _ rfl
        have d1 := hc2 1 _ rfl
        have c2 := hc 2 _ rfl
        have d2 := hc2 2 _ rfl
        rw [Nat.add_zero] at c0 d0
        have hg2 : g2 < wr.heap.size := World.block_lt_of_cell? wr _ d0
        have q0 := fun X => (alloc_cell wr X hg2).trans d0
        have q1 := fun X => (alloc_cell wr X hg2).trans d1
        have q2 := fun X => (alloc_cell wr X hg2).trans d2
        clear d0 d1 d2
        have HK := hideL hki
        have HJ := hideL hkj
        have HC := hideL (fun W (h : Gr wr W) => entry_any W o p ((HE1.out o (List.mem_of_getElem? hki)).below (HG.out.trans h).below) ((HE2.out p (List.mem_of_getElem? hkj)).below (HG.out.trans h).below))
        clear hki hkj hc hc2
        obtain ⟨bb, hbb⟩ : ∃ bb, enB o p = bb := ⟨_, rfl⟩
        rw [hbb] at HC
        have HBB := hideL hbb
        clear hbb
        go_wp2_with fail
        refine (HC.out _ ((Gr.alloc _ _).trans (Gr.alloc _ _))).mono ?_
        rintro e w1 ⟨rfl, hg1⟩
        have HG1 := hideL (HG.out.trans (((Gr.alloc _ _).trans (Gr.alloc _ _)).trans hg1))
        clear hg1
        cases bb
        · have HE : Hid (R = false) := by unfold Hid; rw [← HR.out]; exact eqL_no HK.out HJ.out HBB.out
          go_wp2
          go_ret
          exact ⟨by rw [HE.out]; rfl, HG1.out⟩
        · go_wp2
          go_roundw
          case rel =>
            refine ⟨i + 1, by go_num, by omega, HG1.out, fun j c d hj hc hd => ?_⟩
            by_cases hji : j < i
            · exact HF.out j c d hji hc hd
            · obtain rfl : j = i := by omega
              rw [HK.out] at hc; rw [HJ.out] at hd
              cases hc; cases hd
              exact HBB.out
          case measure => simp [intOf]; omega
      · have h3' : ¬ (i : Int) < n := by omega
        have HE : Hid (R = true) := by
          unfold Hid; rw [← HR.out]
          exact eqL_yes (by rw [HN.out, HM.out]) (fun j c d hj hc hd => HF.out j c d (by have := HN.out; omega) hc hd)
        go_wp2
        go_ret
        exact ⟨by rw [HE.out]; rfl, HG.out⟩
  · have hnm' : ¬ (n : Int) = m := by omega
    have HE : Hid (R = false) := by
      unfold Hid; rw [← HR.out]
      exact eqL_len (by rw [HN.out, HM.out]; exact hnm)
    go_wp2
    go_ret
    exact ⟨by rw [HE.out]; rfl, Gr.refl _⟩
set_option maxHeartbeats 8000000 in
theorem host_same (w : World) (a b : Ho) (ha : Hin w a) (hb : Hin w b) :
    Calls Try.prog 11 #[.agg #[.string a.ho, .string a.ro, .slice a.ea a.ens.length a.ec, .slice a.qa a.pms.length a.qc], .agg #[.string b.ho, .string b.ro, .slice b.ea b.ens.length b.ec, .slice b.qa b.pms.length b.qc]] w fun e w' => e = .returned (.bool (hoB a b)) ∧ Gr w w' := by
  have HC : Hid (∀ W, Gr w W → Calls Try.prog 20 #[.slice a.ea a.ens.length a.ec, .slice b.ea b.ens.length b.ec, .func (.func 21) #[] #[]] W fun e w' => e = .returned (.bool (eqL enB a.ens b.ens)) ∧ Gr W w') := fun W hW => equalE_any W a.ea b.ea _ _ a.ec b.ec a.ens b.ens rfl rfl ha.le (ha.es.below hW.below) (hb.es.below hW.below) (fun o ho => (ha.each o ho).below hW.below) (fun o ho => (hb.each o ho).below hW.below)
  have HD : Hid (∀ W, Gr w W → Calls Try.prog 22 #[.slice a.qa a.pms.length a.qc, .slice b.qa b.pms.length b.qc] W fun e w' => e = .returned (.bool (eqL pmB a.pms b.pms)) ∧ Gr W w') := fun W hW => to_gr (equalP_any W a.qa b.qa _ _ a.qc b.qc a.pms b.pms rfl rfl ha.lp (ha.ps.below hW.below) (hb.ps.below hW.below))
  clear ha hb
  unfold hoB
  generalize eqL enB a.ens b.ens = b3 at HC ⊢
  generalize eqL pmB a.pms b.pms = b4 at HD ⊢
  generalize a.ens.length = n1 at HC ⊢
  generalize b.ens.length = n2 at HC ⊢
  generalize a.pms.length = n3 at HD ⊢
  generalize b.pms.length = n4 at HD ⊢
  obtain ⟨w2, hw2⟩ : ∃ X, ((w.alloc (.cells #[.string a.ho, .string a.ro, .slice a.ea n1 a.ec, .slice a.qa n3 a.qc] 33 (0, 0))).alloc (.cells #[.string b.ho, .string b.ro, .slice b.ea n2 b.ec, .slice b.qa n4 b.qc] 33 (0, 0))) = X := ⟨_, rfl⟩
  have HG2 : Hid (Gr w w2) := by rw [← hw2]; exact (Gr.alloc _ _).trans (Gr.alloc _ _)
  have hA : w2.heap[w.heap.size]? = some (.cells #[.string a.ho, .string a.ro, .slice a.ea n1 a.ec, .slice a.qa n3 a.qc] 33 (0, 0)) := by rw [← hw2]; exact (Gr.alloc _ _).below.cells (heap_alloc_new w _)
  have hB : w2.heap[w.heap.size + 1]? = some (.cells #[.string b.ho, .string b.ro, .slice b.ea n2 b.ec, .slice b.qa n4 b.qc] 33 (0, 0)) := by
    rw [← hw2]
    have := heap_alloc_new (w.alloc (.cells #[.string a.ho, .string a.ro, .slice a.ea n1 a.ec, .slice a.qa n3 a.qc] 33 (0, 0))) (.cells #[.string b.ho, .string b.ro, .slice b.ea n2 b.ec, .slice b.qa n4 b.qc] 33 (0, 0))
    rw [al_size] at this
    exact this
  have HA := hideL hA
  have HB := hideL hB
  obtain ⟨p0, p1, p2, p3⟩ : w2.cell? ⟨w.heap.size, 0, none⟩ = some (.string a.ho) ∧ w2.cell? ⟨w.heap.size, 1, none⟩ = some (.string a.ro) ∧ w2.cell? ⟨w.heap.size, 2, none⟩ = some (.slice a.ea n1 a.ec) ∧ w2.cell? ⟨w.heap.size, 3, none⟩ = some (.slice a.qa n3 a.qc) := by
    refine ⟨?_, ?_, ?_, ?_⟩ <;> (rw [cell_block hA]; rfl)
  obtain ⟨q0, q1, q2, q3⟩ : w2.cell? ⟨w.heap.size + 1, 0, none⟩ = some (.string b.ho) ∧ w2.cell? ⟨w.heap.size + 1, 1, none⟩ = some (.string b.ro) ∧ w2.cell? ⟨w.heap.size + 1, 2, none⟩ = some (.slice b.ea n2 b.ec) ∧ w2.cell? ⟨w.heap.size + 1, 3, none⟩ = some (.slice b.qa n4 b.qc) := by
    refine ⟨?_, ?_, ?_, ?_⟩ <;> (rw [cell_block hB]; rfl)
  clear hA hB
  go_enter Try.func11, Try.ntmps11
  cases h1 : (a.ho.toList == b.ho.toList)
  · go_wp2
    go_ret
    exact ⟨rfl, HG2.out⟩
  · cases h2 : (a.ro.toList == b.ro.toList)
    · go_wp2
      go_ret
      exact ⟨rfl, HG2.out⟩
    · cases b3
      · go_wp2_with (go_at_call 20; refine (HC.out _ HG2.out).mono ?_; rintro e w3 ⟨rfl, hg3⟩; have HG3 := hideL (HG2.out.trans hg3); clear hg3)
        go_ret
        exact ⟨rfl, HG3.out⟩
      · go_wp2_with (first
          | (go_at_call 20; refine (HC.out _ HG2.out).mono ?_; rintro e w3 ⟨rfl, hg3⟩; have HG3 := hideL (HG2.out.trans hg3); have r3 := hg3.cell p3; have s3 := hg3.cell q3; clear hg3 p0 p1 p2 p3 q0 q1 q2 q3)
          | (go_at_call 22; refine (HD.out _ HG3.out).mono ?_; rintro e w4 ⟨rfl, hg4⟩; have HG4 := hideL (HG3.out.trans hg4); clear hg4))
        go_ret
        exact ⟨rfl, HG4.out⟩
set_option maxHeartbeats 8000000 in
theorem equalHo_any (w : World) (a b : Option Addr) (n m c1 c2 : Nat) (l r : List Ho) (hn : l.length = n) (hm : r.length = m) (hl : n ≤ 140737488355328) (h1 : Cel w a 4 (l.map Ho.row)) (h2 : Cel w b 4 (r.map Ho.row)) (he1 : ∀ o ∈ l, Hin w o) (he2 : ∀ o ∈ r, Hin w o) :
    Calls Try.prog 10 #[.slice a n c1, .slice b m c2, .func (.func 11) #[] #[]] w fun e w' => e = .returned (.bool (eqL hoB l r)) ∧ Gr w w' := by
  have HN := hideL hn
  have HM := hideL hm
  have H1 := hideL h1
  have H2 := hideL h2
  have HE1 := hideL he1
  have HE2 := hideL he2
  obtain ⟨R, hR⟩ : ∃ R, eqL hoB l r = R := ⟨_, rfl⟩
  have HR := hideL hR
  rw [hR]
  clear hn hm h1 h2 he1 he2 hR
  go_enter Try.func10, Try.ntmps10
  by_cases hnm : n = m
  · subst hnm
    go_wp2_with fail
    go_loopw [17] (fun t wr => ∃ (i : Nat), t = .int .i64 i ∧ i ≤ n ∧ Gr w wr ∧ Hid (∀ (j : Nat) o p, j < i → l[j]? = some o → r[j]? = some p → hoB o p = true)) (fun t _ => n - (intOf t).toNat)
    case atStart => exact ⟨0, rfl, by omega, Gr.refl _, fun j c d hj _ => by omega⟩
    case round =>
      obtain ⟨i, rfl, hi, hgr, HF⟩ := hrel
      have HG := hideL hgr
      clear hgr
      have i0 : (0 : Int) ≤ i := by omega
      by_cases h3 : i < n
      · have h3' : (i : Int) < n := by omega
        rcases hki : l[i]? with _ | o
        · have := List.getElem?_eq_none_iff.1 hki; have := HN.out; omega
        rcases hkj : r[i]? with _ | p
        · have := List.getElem?_eq_none_iff.1 hkj; have := HM.out; omega
        obtain ⟨g, off, rfl, hc⟩ := (H1.out.below HG.out.below).at_ hki
        obtain ⟨g2, off2, rfl, hc2⟩ := (H2.out.below HG.out.below).at_ hkj
        have c0 := hc 0 _ rfl
        have d0 := hc2 0 _ rfl
        have c1 := hc 1 _ rfl
        have d1 := hc2 1 _ rfl
        have c2 := hc 2 _ rfl
        have d2 := hc2 2 _ rfl
        have c3 := hc 3 _ rfl
        have d3 := hc2 3 _ rfl
        rw [Nat.add_zero] at c0 d0
        have hg2 : g2 < wr.heap.size := World.block_lt_of_cell? wr _ d0
        have q0 := fun X => (alloc_cell wr X hg2).trans d0
        have q1 := fun X => (alloc_cell wr X hg2).trans d1
        have q2 := fun X => (alloc_cell wr X hg2).trans d2
        have q3 := fun X => (alloc_cell wr X hg2).trans d3
        clear d0 d1 d2 d3
        have HK := hideL hki
        have HJ := hideL hkj
        have HC := hideL (fun W (h : Gr wr W) => host_same W o p ((HE1.out o (List.mem_of_getElem? hki)).below (HG.out.trans h).below) ((HE2.out p (List.mem_of_getElem? hkj)).below (HG.out.trans h).below))
        clear hki hkj hc hc2
        obtain ⟨bb, hbb⟩ : ∃ bb, hoB o p = bb := ⟨_, rfl⟩
        rw [hbb] at HC
        have HBB := hideL hbb
        clear hbb
        go_wp2_with fail
        refine (HC.out _ ((Gr.alloc _ _).trans (Gr.alloc _ _))).mono ?_
        rintro e w1 ⟨rfl, hg1⟩
        have HG1 := hideL (HG.out.trans (((Gr.alloc _ _).trans (Gr.alloc _ _)).trans hg1))
        clear hg1
        cases bb
        · have HE : Hid (R = false) := by unfold Hid; rw [← HR.out]; exact eqL_no HK.out HJ.out HBB.out
          go_wp2
          go_ret
          exact ⟨by rw [HE.out]; rfl, HG1.out⟩
        · go_wp2
          go_roundw
          case rel =>
            refine ⟨i + 1, by go_num, by omega, HG1.out, fun j c d hj hc hd => ?_⟩
            by_cases hji : j < i
            · exact HF.out j c d hji hc hd
            · obtain rfl : j = i := by omega
              rw [HK.out] at hc; rw [HJ.out] at hd
              cases hc; cases hd
              exact HBB.out
          case measure => simp [intOf]; omega
      · have h3' : ¬ (i : Int) < n := by omega
        have HE : Hid (R = true) := by
          unfold Hid; rw [← HR.out]
          exact eqL_yes (by rw [HN.out, HM.out]) (fun j c d hj hc hd => HF.out j c d (by have := HN.out; omega) hc hd)
        go_wp2
        go_ret
        exact ⟨by rw [HE.out]; rfl, HG.out⟩
  · have hnm' : ¬ (n : Int) = m := by omega
    have HE : Hid (R = false) := by
      unfold Hid; rw [← HR.out]
      exact eqL_len (by rw [HN.out, HM.out]; exact hnm)
    go_wp2
    go_ret
    exact ⟨by rw [HE.out]; rfl, Gr.refl _⟩
set_option maxHeartbeats 8000000 in
theorem same_any (w : World) (a b : Tb) (ha : Tin w a) (hb : Tin w b) :
    Calls Try.prog 6 #[.agg #[.int .i64 a.ver, .slice a.ha a.hos.length a.hc, .slice a.sa a.svs.length a.sc], .agg #[.int .i64 b.ver, .slice b.ha b.hos.length b.hc, .slice b.sa b.svs.length b.sc]] w fun e w' => e = .returned (.bool (tbB a b)) ∧ Gr w w' := by
  have HC : Hid (∀ W, Gr w W → Calls Try.prog 10 #[.slice a.ha a.hos.length a.hc, .slice b.ha b.hos.length b.hc, .func (.func 11) #[] #[]] W fun e w' => e = .returned (.bool (eqL hoB a.hos b.hos)) ∧ Gr W w') := fun W hW => equalHo_any W a.ha b.ha _ _ a.hc b.hc a.hos b.hos rfl rfl ha.lh (ha.hs.below hW.below) (hb.hs.below hW.below) (fun o ho => (ha.each o ho).below hW.below) (fun o ho => (hb.each o ho).below hW.below)
  have HD : Hid (∀ W, Gr w W → Calls Try.prog 12 #[.slice a.sa a.svs.length a.sc, .slice b.sa b.svs.length b.sc] W fun e w' => e = .returned (.bool (eqL strB a.svs b.svs)) ∧ Gr W w') := fun W hW => to_gr (equalS_any W a.sa b.sa _ _ a.sc b.sc a.svs b.svs rfl rfl ha.ls (ha.ss.below hW.below) (hb.ss.below hW.below))
  clear ha hb
  unfold tbB
  generalize eqL hoB a.hos b.hos = b3 at HC ⊢
  generalize eqL strB a.svs b.svs = b4 at HD ⊢
  generalize a.hos.length = n1 at HC ⊢
  generalize b.hos.length = n2 at HC ⊢
  generalize a.svs.length = n3 at HD ⊢
  generalize b.svs.length = n4 at HD ⊢
  obtain ⟨w2, hw2⟩ : ∃ X, ((w.alloc (.cells #[.int .i64 a.ver, .slice a.ha n1 a.hc, .slice a.sa n3 a.sc] 25 (0, 0))).alloc (.cells #[.int .i64 b.ver, .slice b.ha n2 b.hc, .slice b.sa n4 b.sc] 25 (0, 0))) = X := ⟨_, rfl⟩
  have HG2 : Hid (Gr w w2) := by rw [← hw2]; exact (Gr.alloc _ _).trans (Gr.alloc _ _)
  have hA : w2.heap[w.heap.size]? = some (.cells #[.int .i64 a.ver, .slice a.ha n1 a.hc, .slice a.sa n3 a.sc] 25 (0, 0)) := by rw [← hw2]; exact (Gr.alloc _ _).below.cells (heap_alloc_new w _)
  have hB : w2.heap[w.heap.size + 1]? = some (.cells #[.int .i64 b.ver, .slice b.ha n2 b.hc, .slice b.sa n4 b.sc] 25 (0, 0)) := by
    rw [← hw2]
    have := heap_alloc_new (w.alloc (.cells #[.int .i64 a.ver, .slice a.ha n1 a.hc, .slice a.sa n3 a.sc] 25 (0, 0))) (.cells #[.int .i64 b.ver, .slice b.ha n2 b.hc, .slice b.sa n4 b.sc] 25 (0, 0))
    rw [al_size] at this
    exact this
  obtain ⟨p0, p1, p2⟩ : w2.cell? ⟨w.heap.size, 0, none⟩ = some (.int .i64 a.ver) ∧ w2.cell? ⟨w.heap.size, 1, none⟩ = some (.slice a.ha n1 a.hc) ∧ w2.cell? ⟨w.heap.size, 2, none⟩ = some (.slice a.sa n3 a.sc) := by
    refine ⟨?_, ?_, ?_⟩ <;> (rw [cell_block hA]; rfl)
  obtain ⟨q0, q1, q2⟩ : w2.cell? ⟨w.heap.size + 1, 0, none⟩ = some (.int .i64 b.ver) ∧ w2.cell? ⟨w.heap.size + 1, 1, none⟩ = some (.slice b.ha n2 b.hc) ∧ w2.cell? ⟨w.heap.size + 1, 2, none⟩ = some (.slice b.sa n4 b.sc) := by
    refine ⟨?_, ?_, ?_⟩ <;> (rw [cell_block hB]; rfl)
  clear hA hB
  go_enter Try.func6, Try.ntmps6
  cases h1 : (a.ver == b.ver)
  · go_wp2
    go_ret
    exact ⟨rfl, HG2.out⟩
  · cases b3
    · go_wp2_with (go_at_call 10; refine (HC.out _ HG2.out).mono ?_; rintro e w3 ⟨rfl, hg3⟩; have HG3 := hideL (HG2.out.trans hg3); clear hg3)
      go_ret
      exact ⟨rfl, HG3.out⟩
    · go_wp2_with (first
          | (go_at_call 10; refine (HC.out _ HG2.out).mono ?_; rintro e w3 ⟨rfl, hg3⟩; have HG3 := hideL (HG2.out.trans hg3); have r2 := hg3.cell p2; have s2 := hg3.cell q2; clear hg3 p0 p1 p2 q0 q1 q2)
          | (go_at_call 12; refine (HD.out _ HG3.out).mono ?_; rintro e w4 ⟨rfl, hg4⟩; have HG4 := hideL (HG3.out.trans hg4); clear hg4))
      go_ret
      exact ⟨rfl, HG4.out⟩
end Go.Proofs.Ytcihhcolgfaaiaa
