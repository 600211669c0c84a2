/-
  D's steps: the service by the program; the document's steps.
-/
import Derived.Test.YtfhobglcploaoaaDoorDb
namespace Go.Proofs.YtfhobglcploaoaaDoor
open Go.RowKit
set_option linter.unusedVariables false
set_option linter.unusedSimpArgs false
set_option maxRecDepth 100000
set_option maxHeartbeats 8000000 in
theorem share_any (w : World) (t : En) (x : Nat) (ht : Ein w t) :
    Calls Tryd.prog 18 #[.agg #[.string t.pa, .string t.me, .slice t.sa t.shs.length t.sc], .float .f64 x] w fun e w' => e = .returned (.string (shF t.shs x)) ∧ Below w.heap.size w w' := by
  have HT := hideL ht
  obtain ⟨n, hn⟩ : ∃ n, t.shs.length = n := ⟨_, rfl⟩
  have hl : n ≤ 140737488355328 := by rw [← hn]; exact ht.le
  have HN := hideL hn
  obtain ⟨A, hA⟩ : ∃ A, shF t.shs x = A := ⟨_, rfl⟩
  have HAA := hideL hA
  rw [hn, hA]
  clear ht hn hA
  obtain ⟨w1, hw1⟩ : ∃ X, w.alloc (.cells #[.string t.pa, .string t.me, .slice t.sa n t.sc] 50 (0, 0)) = X := ⟨_, rfl⟩
  have HG1 : Hid (Gr w w1) := by rw [← hw1]; exact Gr.alloc _ _
  have HX1 : Hid (w1.heap[w.heap.size]? = some (.cells #[.string t.pa, .string t.me, .slice t.sa n t.sc] 50 (0, 0))) := by rw [← hw1]; exact heap_alloc_new w _
  have p1 := (three_cells HX1.out).2.2
  have HP1 := hideL p1
  go_enter Tryd.func18, Tryd.ntmps18
  go_wp2_with fail
  go_loopw [10] (fun u wr => ∃ (i : Nat), u = .int .i64 i ∧ i ≤ n ∧ Hid (n ≠ 0 → i < n) ∧ Below w1.heap.size w1 wr ∧ Hid (∀ (j : Nat) (y : Sh), j < i → t.shs[j]? = some y → gtF y.up x = false)) (fun u _ => n - (intOf u).toNat)
  case atStart => exact ⟨0, rfl, by omega, fun h => by omega, Below.refl _ _, fun j y hj => by omega⟩
  case round =>
    obtain ⟨i, rfl, hi, HL, hbel, HF⟩ := hrel
    have HB := hideL hbel
    clear hbel
    replace p1 := cell_of_below HB.out HP1.out
    have hlt := World.block_lt_of_cell? wr _ p1
    have HBW := hideL (HG1.out.below.trans (HB.out.mono HG1.out.below.size))
    have i0 : (0 : Int) ≤ i := by omega
    by_cases h3 : i < n
    · have h3' : (i : Int) < n := by omega
      rcases hki : t.shs[i]? with _ | o
      · have := List.getElem?_eq_none_iff.1 hki; have := HN.out; omega
      obtain ⟨g, off, ea, hcx⟩ := (HT.out.es.below HBW.out).at_ hki
      have c0 := hcx 0 _ rfl
      have c1 := hcx 1 _ rfl
      rw [Nat.add_zero] at c0
      rw [ea] at p1 ⊢
      have q1 := fun X => (alloc_cell wr X hlt).trans p1
      have HK := hideL hki
      have HO := hideL (HT.out.sv o (List.mem_of_getElem? hki))
      have HBA : Hid (∀ X, Below w1.heap.size w1 (wr.alloc X)) := fun X => HB.out.trans ((Gr.alloc wr _).below.mono HB.out.size)
      clear hki hcx hlt
      obtain ⟨bb, hbb⟩ : ∃ bb, gtF o.up x = bb := ⟨_, rfl⟩
      have HBB := hideL hbb
      have hbo : (FloatKind.f64.format.order o.up x == some .gt) = bb := hbb
      have hst := st_float
      clear hbb
      cases bb
      · by_cases h4 : i + 1 = n
        · have h4' : ((i : Int) == (n : Int) - 1) = true := by simp; omega
          have HR : Hid (A = o.sv) := by unfold Hid; rw [← HAA.out]; exact shF_last HF.out HK.out (by rw [HN.out]; exact h4)
          clear h4
          go_wp2_with fail
          refine (clone_any o.sv _ HO.out).mono ?_
          rintro e w3 ⟨rfl, hb3⟩
          have HB3 := hideL ((HBA.out _).trans (hb3.mono (HBA.out _).size))
          clear hb3
          go_wp2
          go_ret
          exact ⟨by rw [HR.out]; rfl, HG1.out.below.trans (HB3.out.mono HG1.out.below.size)⟩
        · have h4' : ((i : Int) == (n : Int) - 1) = false := by simp; omega
          have HI4 : Hid (i + 1 < n) := by unfold Hid; omega
          clear h4
          go_wp2_with fail
          go_roundw
          case rel => exact ⟨i + 1, by go_num, by omega, fun _ => HI4.out, HBA.out _, fun j y hj hy => by
            by_cases hji : j < i
            · exact HF.out j y hji hy
            · obtain rfl : j = i := by omega
              rw [HK.out] at hy; cases hy; exact HBB.out⟩
          case measure => simp [intOf]; omega
      · have HR : Hid (A = o.sv) := by unfold Hid; rw [← HAA.out]; exact shF_at HF.out HK.out HBB.out
        go_wp2_with fail
        refine (clone_any o.sv _ HO.out).mono ?_
        rintro e w3 ⟨rfl, hb3⟩
        have HB3 := hideL ((HBA.out _).trans (hb3.mono (HBA.out _).size))
        clear hb3
        go_wp2
        go_ret
        exact ⟨by rw [HR.out]; rfl, HG1.out.below.trans (HB3.out.mono HG1.out.below.size)⟩
    · have h3' : ¬ (i : Int) < n := by omega
      have HR : Hid (A = ⟨#[]⟩) := by
        unfold Hid; rw [← HAA.out]
        exact shF_nil (by have h := HL.out; have := HN.out; omega)
      go_wp2
      go_ret
      exact ⟨by rw [HR.out]; rfl, HBW.out⟩
theorem rpathp_any (s p : ByteArray) (w : World) (g1 : okS s) (g2 : okS p) : Calls Tryd.prog 32 #[.string s, .string p] w fun e w' => e = .returned (.bool (Kk.pathM s.data.toList p.data.toList)) ∧ w' = w := by
  have := Kk.rpathM_any s.data.toList p.data.toList w (okS_len2 g1) (okS_len2 g2)
  rw [ba_back, ba_back] at this
  exact this
theorem rhostp_any (s h : ByteArray) (w : World) (g1 : okS s) (g2 : okS h) : Calls Tryd.prog 31 #[.string s, .string h] w fun e w' => e = .returned (.bool (takB s h)) ∧ Below w.heap.size w w' := by
  have := Kk.rhost_any s.data.toList h.data.toList w (okS_len g1) (okS_len g2)
  rw [ba_back, ba_back] at this
  exact this
set_option maxHeartbeats 8000000 in
theorem rfind_any (w : World) (t : Tb) (s : ByteArray) (ht : Tin w t) (hs : okS s) :
    Calls Tryd.prog 22 #[.agg #[.int .i64 t.ver, .slice t.ha t.hos.length t.hc, .slice t.sa t.svs.length t.sc], .string s] w fun e w' => e = .returned (.int .i64 (ixI (fndF t.hos s))) ∧ Below w.heap.size w w' := by
  have HT := hideL ht
  have HS := hideL hs
  obtain ⟨n, hn⟩ : ∃ n, t.hos.length = n := ⟨_, rfl⟩
  have hl : n ≤ 140737488355328 := by rw [← hn]; exact ht.lh
  have HN := hideL hn
  obtain ⟨A, hA⟩ : ∃ A, fndF t.hos s = A := ⟨_, rfl⟩
  have HAA := hideL hA

  rw [hn, hA]
  clear ht hn hA
  obtain ⟨w1, hw1⟩ : ∃ X, w.alloc (.cells #[.int .i64 t.ver, .slice t.ha n t.hc, .slice t.sa t.svs.length t.sc] 25 (0, 0)) = X := ⟨_, rfl⟩
  have HG1 : Hid (Gr w w1) := by rw [← hw1]; exact Gr.alloc _ _
  have HX1 : Hid (w1.heap[w.heap.size]? = some (.cells #[.int .i64 t.ver, .slice t.ha n t.hc, .slice t.sa t.svs.length t.sc] 25 (0, 0))) := by rw [← hw1]; exact heap_alloc_new w _
  have p1 := (three_cells HX1.out).2.1
  have HP1 := hideL p1
  go_enter Tryd.func22, Tryd.ntmps22
  go_wp2_with fail
  go_loopw [5] (fun u wr => ∃ (i : Nat), u = .int .i64 i ∧ i ≤ n ∧ Below w1.heap.size w1 wr ∧ Hid (∀ (j : Nat) (y : Ho), j < i → t.hos[j]? = some y → takB y.ho s = false)) (fun u _ => n - (intOf u).toNat)
  case atStart => exact ⟨0, rfl, by omega, Below.refl _ _, fun j y hj => by omega⟩
  case round =>
    obtain ⟨i, rfl, hi, hbel, HF⟩ := hrel
    have HB := hideL hbel
    clear hbel
    replace p1 := cell_of_below HB.out HP1.out
    have HBW := hideL (HG1.out.below.trans (HB.out.mono HG1.out.below.size))
    have i0 : (0 : Int) ≤ i := by omega
    by_cases h3 : i < n
    · have h3' : (i : Int) < n := by omega
      rcases hki : t.hos[i]? with _ | o
      · have := List.getElem?_eq_none_iff.1 hki; have := HN.out; omega
      obtain ⟨g, off, ea, hcx⟩ := (HT.out.hs.below HBW.out).at_ hki
      have c0 := hcx 0 _ rfl
      have c1 := hcx 1 _ rfl
      have c2 := hcx 2 _ rfl
      have c3 := hcx 3 _ rfl
      rw [Nat.add_zero] at c0
      rw [ea] at p1 ⊢
      have HK := hideL hki
      have HO := hideL ((HT.out.each o (List.mem_of_getElem? hki)).sz)
      clear hki hcx
      obtain ⟨bb, hbb⟩ : ∃ bb, takB o.ho s = bb := ⟨_, rfl⟩
      have HBB := hideL hbb
      have HC : Hid (∀ W, Calls Tryd.prog 31 #[.string o.ho, .string s] W fun e w' => e = .returned (.bool bb) ∧ Below W.heap.size W w') := fun W => by rw [← hbb]; exact rhostp_any o.ho s W HO.out HS.out
      clear hbb
      go_wp2_with fail
      refine (HC.out _).mono ?_
      rintro e w3 ⟨rfl, hb3⟩
      have HB3 := hideL (HB.out.trans (hb3.mono HB.out.size))
      clear hb3
      cases bb
      · go_wp2_with fail
        go_roundw
        case rel => exact ⟨i + 1, by go_num, by omega, HB3.out, fun j y hj hy => by
          by_cases hji : j < i
          · exact HF.out j y hji hy
          · obtain rfl : j = i := by omega
            rw [HK.out] at hy; cases hy; exact HBB.out⟩
        case measure => simp [intOf]; omega
      · have HR : Hid (A = some i) := by unfold Hid; rw [← HAA.out]; exact idx_at HF.out HK.out HBB.out
        go_wp2
        go_ret
        exact ⟨by rw [HR.out]; rfl, HG1.out.below.trans (HB3.out.mono HG1.out.below.size)⟩
    · have h3' : ¬ (i : Int) < n := by omega
      have HR : Hid (A = none) := by
        unfold Hid; rw [← HAA.out]
        exact idx_no (fun j y hy => HF.out j y (by have := (List.getElem?_eq_some_iff.1 hy).1; have := HN.out; omega) hy)
      go_wp2
      go_ret
      exact ⟨by rw [HR.out]; rfl, HBW.out⟩
set_option maxHeartbeats 8000000 in
theorem rrule_any (w : World) (t : Ho) (m p : ByteArray) (ht : Hin w t) (hs : okS p) :
    Calls Tryd.prog 23 #[.agg #[.string t.ho, .string t.ro, .slice t.ea t.ens.length t.ec, .slice t.qa t.pms.length t.qc], .string m, .string p] w fun e w' => e = .returned (.int .i64 (ixI (rulF t.ens m p))) ∧ Below w.heap.size w w' := by
  have HT := hideL ht
  have HS := hideL hs
  obtain ⟨n, hn⟩ : ∃ n, t.ens.length = n := ⟨_, rfl⟩
  have hl : n ≤ 140737488355328 := by rw [← hn]; exact ht.le
  have HN := hideL hn
  obtain ⟨A, hA⟩ : ∃ A, rulF t.ens m p = A := ⟨_, rfl⟩
  have HAA := hideL hA

  rw [hn, hA]
  clear ht hn hA
  obtain ⟨w1, hw1⟩ : ∃ X, w.alloc (.cells #[.string t.ho, .string t.ro, .slice t.ea n t.ec, .slice t.qa t.pms.length t.qc] 45 (0, 0)) = X := ⟨_, rfl⟩
  have HG1 : Hid (Gr w w1) := by rw [← hw1]; exact Gr.alloc _ _
  have HX1 : Hid (w1.heap[w.heap.size]? = some (.cells #[.string t.ho, .string t.ro, .slice t.ea n t.ec, .slice t.qa t.pms.length t.qc] 45 (0, 0))) := by rw [← hw1]; exact heap_alloc_new w _
  have p1 := (four_cells HX1.out).2.2.1
  have HP1 := hideL p1
  go_enter Tryd.func23, Tryd.ntmps23
  go_wp2_with fail
  go_loopw [7] (fun u wr => ∃ (i : Nat), u = .int .i64 i ∧ i ≤ n ∧ Below w1.heap.size w1 wr ∧ Hid (∀ (j : Nat) (y : En), j < i → t.ens[j]? = some y → tkB y.pa y.me m p = false)) (fun u _ => n - (intOf u).toNat)
  case atStart => exact ⟨0, rfl, by omega, Below.refl _ _, fun j y hj => by omega⟩
  case round =>
    obtain ⟨i, rfl, hi, hbel, HF⟩ := hrel
    have HB := hideL hbel
    clear hbel
    replace p1 := cell_of_below HB.out HP1.out
    have HBW := hideL (HG1.out.below.trans (HB.out.mono HG1.out.below.size))
    have i0 : (0 : Int) ≤ i := by omega
    by_cases h3 : i < n
    · have h3' : (i : Int) < n := by omega
      rcases hki : t.ens[i]? with _ | o
      · have := List.getElem?_eq_none_iff.1 hki; have := HN.out; omega
      obtain ⟨g, off, ea, hcx⟩ := (HT.out.es.below HBW.out).at_ hki
      have c0 := hcx 0 _ rfl
      have c1 := hcx 1 _ rfl
      have c2 := hcx 2 _ rfl
      rw [Nat.add_zero] at c0
      rw [ea] at p1 ⊢
      have HK := hideL hki
      have HO := hideL ((HT.out.each o (List.mem_of_getElem? hki)).sp)
      clear hki hcx
      have hlt := World.block_lt_of_cell? wr _ p1
      have q1 := fun X => (alloc_cell wr X hlt).trans p1
      clear hlt
      have HBA : Hid (∀ X, Below w1.heap.size w1 (wr.alloc X)) := fun X => HB.out.trans ((Gr.alloc wr _).below.mono HB.out.size)
      obtain ⟨b3, hb3⟩ : ∃ b3, Kk.pathM o.pa.data.toList p.data.toList = b3 := ⟨_, rfl⟩
      have HC : Hid (∀ W, Calls Tryd.prog 32 #[.string o.pa, .string p] W fun e w' => e = .returned (.bool b3) ∧ w' = W) := fun W => by rw [← hb3]; exact rpathp_any o.pa p W HO.out HS.out
      have HBB : Hid (∀ bb, (((o.me.toList == [42]) || (o.me.toList == m.toList)) && b3) = bb → tkB o.pa o.me m p = bb) := fun bb h => by unfold tkB; rw [hb3]; exact h
      clear hb3
      cases hq : (o.me.toList == [42])
      · cases hq2 : (o.me.toList == m.toList)
        · replace HBB := hideL (HBB.out false (by simp [hq, hq2]))
          go_wp2_with fail
          go_roundw
          case rel => exact ⟨i + 1, by go_num, by omega, HBA.out _, fun j y hj hy => by
            by_cases hji : j < i
            · exact HF.out j y hji hy
            · obtain rfl : j = i := by omega
              rw [HK.out] at hy; cases hy; exact HBB.out⟩
          case measure => simp [intOf]; omega
        · cases b3
          · replace HBB := hideL (HBB.out false (by simp [hq, hq2]))
            go_wp2_with (go_at_call 32; refine (HC.out _).mono ?_; rintro e w3 ⟨rfl, hw3⟩; have hw3 := hw3.symm; subst hw3)
            go_roundw
            case rel => exact ⟨i + 1, by go_num, by omega, HBA.out _, fun j y hj hy => by
              by_cases hji : j < i
              · exact HF.out j y hji hy
              · obtain rfl : j = i := by omega
                rw [HK.out] at hy; cases hy; exact HBB.out⟩
            case measure => simp [intOf]; omega
          · replace HBB := hideL (HBB.out true (by simp [hq, hq2]))
            have HR : Hid (A = some i) := by unfold Hid; rw [← HAA.out]; exact idx_at HF.out HK.out HBB.out
            go_wp2_with (go_at_call 32; refine (HC.out _).mono ?_; rintro e w3 ⟨rfl, hw3⟩; have hw3 := hw3.symm; subst hw3)
            go_ret
            exact ⟨by rw [HR.out]; rfl, HG1.out.below.trans ((HBA.out _).mono HG1.out.below.size)⟩
      · cases b3
        · replace HBB := hideL (HBB.out false (by simp [hq]))
          go_wp2_with (go_at_call 32; refine (HC.out _).mono ?_; rintro e w3 ⟨rfl, hw3⟩; have hw3 := hw3.symm; subst hw3)
          go_roundw
          case rel => exact ⟨i + 1, by go_num, by omega, HBA.out _, fun j y hj hy => by
            by_cases hji : j < i
            · exact HF.out j y hji hy
            · obtain rfl : j = i := by omega
              rw [HK.out] at hy; cases hy; exact HBB.out⟩
          case measure => simp [intOf]; omega
        · replace HBB := hideL (HBB.out true (by simp [hq]))
          have HR : Hid (A = some i) := by unfold Hid; rw [← HAA.out]; exact idx_at HF.out HK.out HBB.out
          go_wp2_with (go_at_call 32; refine (HC.out _).mono ?_; rintro e w3 ⟨rfl, hw3⟩; have hw3 := hw3.symm; subst hw3)
          go_ret
          exact ⟨by rw [HR.out]; rfl, HG1.out.below.trans ((HBA.out _).mono HG1.out.below.size)⟩
    · have h3' : ¬ (i : Int) < n := by omega
      have HR : Hid (A = none) := by
        unfold Hid; rw [← HAA.out]
        exact idx_no (fun j y hy => HF.out j y (by have := (List.getElem?_eq_some_iff.1 hy).1; have := HN.out; omega) hy)
      go_wp2
      go_ret
      exact ⟨by rw [HR.out]; rfl, HBW.out⟩
set_option maxHeartbeats 8000000 in
theorem rallowed_any (w : World) (t : Ho) (m p : ByteArray) (ht : Hin w t) (hs : okS p) :
    Calls Tryd.prog 24 #[.agg #[.string t.ho, .string t.ro, .slice t.ea t.ens.length t.ec, .slice t.qa t.pms.length t.qc], .string m, .string p] w fun e w' => e = .returned (.tuple #[.bool (alwB t.pms m p), .int .i64 (ixI (alwF t.pms m p))]) ∧ Below w.heap.size w w' := by
  have HT := hideL ht
  have HS := hideL hs
  obtain ⟨n, hn⟩ : ∃ n, t.pms.length = n := ⟨_, rfl⟩
  have hl : n ≤ 140737488355328 := by rw [← hn]; exact ht.lp
  have HN := hideL hn
  obtain ⟨A, hA⟩ : ∃ A, alwF t.pms m p = A := ⟨_, rfl⟩
  have HAA := hideL hA
  obtain ⟨V, hV⟩ : ∃ V, alwB t.pms m p = V := ⟨_, rfl⟩
  have HV := hideL hV
  rw [hV]
  clear hV
  rw [hn, hA]
  clear ht hn hA
  obtain ⟨w1, hw1⟩ : ∃ X, w.alloc (.cells #[.string t.ho, .string t.ro, .slice t.ea t.ens.length t.ec, .slice t.qa n t.qc] 45 (0, 0)) = X := ⟨_, rfl⟩
  have HG1 : Hid (Gr w w1) := by rw [← hw1]; exact Gr.alloc _ _
  have HX1 : Hid (w1.heap[w.heap.size]? = some (.cells #[.string t.ho, .string t.ro, .slice t.ea t.ens.length t.ec, .slice t.qa n t.qc] 45 (0, 0))) := by rw [← hw1]; exact heap_alloc_new w _
  have p1 := (four_cells HX1.out).2.2.2
  have HP1 := hideL p1
  go_enter Tryd.func24, Tryd.ntmps24
  go_wp2_with fail
  go_loopw [8] (fun u wr => ∃ (i : Nat), u = .int .i64 i ∧ i ≤ n ∧ Below w1.heap.size w1 wr ∧ Hid (∀ (j : Nat) (y : Pm), j < i → t.pms[j]? = some y → tkB y.pa y.me m p = false)) (fun u _ => n - (intOf u).toNat)
  case atStart => exact ⟨0, rfl, by omega, Below.refl _ _, fun j y hj => by omega⟩
  case round =>
    obtain ⟨i, rfl, hi, hbel, HF⟩ := hrel
    have HB := hideL hbel
    clear hbel
    replace p1 := cell_of_below HB.out HP1.out
    have HBW := hideL (HG1.out.below.trans (HB.out.mono HG1.out.below.size))
    have i0 : (0 : Int) ≤ i := by omega
    by_cases h3 : i < n
    · have h3' : (i : Int) < n := by omega
      rcases hki : t.pms[i]? with _ | o
      · have := List.getElem?_eq_none_iff.1 hki; have := HN.out; omega
      obtain ⟨g, off, ea, hcx⟩ := (HT.out.ps.below HBW.out).at_ hki
      have c0 := hcx 0 _ rfl
      have c1 := hcx 1 _ rfl
      have c2 := hcx 2 _ rfl
      rw [Nat.add_zero] at c0
      rw [ea] at p1 ⊢
      have HK := hideL hki
      have HO := hideL (HT.out.pm o (List.mem_of_getElem? hki))
      clear hki hcx
      have hlt := World.block_lt_of_cell? wr _ p1
      have q1 := fun X => (alloc_cell wr X hlt).trans p1
      clear hlt
      have HBA : Hid (∀ X, Below w1.heap.size w1 (wr.alloc X)) := fun X => HB.out.trans ((Gr.alloc wr _).below.mono HB.out.size)
      obtain ⟨b3, hb3⟩ : ∃ b3, Kk.pathM o.pa.data.toList p.data.toList = b3 := ⟨_, rfl⟩
      have HC : Hid (∀ W, Calls Tryd.prog 32 #[.string o.pa, .string p] W fun e w' => e = .returned (.bool b3) ∧ w' = W) := fun W => by rw [← hb3]; exact rpathp_any o.pa p W HO.out HS.out
      have HBB : Hid (∀ bb, (((o.me.toList == [42]) || (o.me.toList == m.toList)) && b3) = bb → tkB o.pa o.me m p = bb) := fun bb h => by unfold tkB; rw [hb3]; exact h
      clear hb3
      cases hq : (o.me.toList == [42])
      · cases hq2 : (o.me.toList == m.toList)
        · replace HBB := hideL (HBB.out false (by simp [hq, hq2]))
          go_wp2_with fail
          go_roundw
          case rel => exact ⟨i + 1, by go_num, by omega, HBA.out _, fun j y hj hy => by
            by_cases hji : j < i
            · exact HF.out j y hji hy
            · obtain rfl : j = i := by omega
              rw [HK.out] at hy; cases hy; exact HBB.out⟩
          case measure => simp [intOf]; omega
        · cases b3
          · replace HBB := hideL (HBB.out false (by simp [hq, hq2]))
            go_wp2_with (go_at_call 32; refine (HC.out _).mono ?_; rintro e w3 ⟨rfl, hw3⟩; have hw3 := hw3.symm; subst hw3)
            go_roundw
            case rel => exact ⟨i + 1, by go_num, by omega, HBA.out _, fun j y hj hy => by
              by_cases hji : j < i
              · exact HF.out j y hji hy
              · obtain rfl : j = i := by omega
                rw [HK.out] at hy; cases hy; exact HBB.out⟩
            case measure => simp [intOf]; omega
          · replace HBB := hideL (HBB.out true (by simp [hq, hq2]))
            have HR : Hid (A = some i) := by unfold Hid; rw [← HAA.out]; exact idx_at HF.out HK.out HBB.out
            go_wp2_with (go_at_call 32; refine (HC.out _).mono ?_; rintro e w3 ⟨rfl, hw3⟩; have hw3 := hw3.symm; subst hw3)
            go_ret2
            exact ⟨by rw [← HV.out, alwB_at (HAA.out.trans HR.out) HK.out, HR.out]; rfl, HG1.out.below.trans ((HBA.out _).mono HG1.out.below.size)⟩
      · cases b3
        · replace HBB := hideL (HBB.out false (by simp [hq]))
          go_wp2_with (go_at_call 32; refine (HC.out _).mono ?_; rintro e w3 ⟨rfl, hw3⟩; have hw3 := hw3.symm; subst hw3)
          go_roundw
          case rel => exact ⟨i + 1, by go_num, by omega, HBA.out _, fun j y hj hy => by
            by_cases hji : j < i
            · exact HF.out j y hji hy
            · obtain rfl : j = i := by omega
              rw [HK.out] at hy; cases hy; exact HBB.out⟩
          case measure => simp [intOf]; omega
        · replace HBB := hideL (HBB.out true (by simp [hq]))
          have HR : Hid (A = some i) := by unfold Hid; rw [← HAA.out]; exact idx_at HF.out HK.out HBB.out
          go_wp2_with (go_at_call 32; refine (HC.out _).mono ?_; rintro e w3 ⟨rfl, hw3⟩; have hw3 := hw3.symm; subst hw3)
          go_ret2
          exact ⟨by rw [← HV.out, alwB_at (HAA.out.trans HR.out) HK.out, HR.out]; rfl, HG1.out.below.trans ((HBA.out _).mono HG1.out.below.size)⟩
    · have h3' : ¬ (i : Int) < n := by omega
      have HR : Hid (A = none) := by
        unfold Hid; rw [← HAA.out]
        exact idx_no (fun j y hy => HF.out j y (by have := (List.getElem?_eq_some_iff.1 hy).1; have := HN.out; omega) hy)
      go_wp2
      go_ret2
      exact ⟨by rw [← HV.out, alwB_no (HAA.out.trans HR.out), HR.out]; rfl, HBW.out⟩
set_option maxHeartbeats 8000000 in
theorem rshare_any (w : World) (t : En) (x : Nat) (ht : Ein w t) :
    Calls Tryd.prog 25 #[.agg #[.string t.pa, .string t.me, .slice t.sa t.shs.length t.sc], .float .f64 x] w fun e w' => e = .returned (.string (shF t.shs x)) ∧ Below w.heap.size w w' := by
  have HT := hideL ht
  obtain ⟨n, hn⟩ : ∃ n, t.shs.length = n := ⟨_, rfl⟩
  have hl : n ≤ 140737488355328 := by rw [← hn]; exact ht.le
  have HN := hideL hn
  obtain ⟨A, hA⟩ : ∃ A, shF t.shs x = A := ⟨_, rfl⟩
  have HAA := hideL hA
  rw [hn, hA]
  clear ht hn hA
  obtain ⟨w1, hw1⟩ : ∃ X, w.alloc (.cells #[.string t.pa, .string t.me, .slice t.sa n t.sc] 50 (0, 0)) = X := ⟨_, rfl⟩
  have HG1 : Hid (Gr w w1) := by rw [← hw1]; exact Gr.alloc _ _
  have HX1 : Hid (w1.heap[w.heap.size]? = some (.cells #[.string t.pa, .string t.me, .slice t.sa n t.sc] 50 (0, 0))) := by rw [← hw1]; exact heap_alloc_new w _
  have p1 := (three_cells HX1.out).2.2
  have HP1 := hideL p1
  go_enter Tryd.func25, Tryd.ntmps25
  go_wp2_with fail
  go_loopw [5, 6] (fun s u wr => ∃ (i : Nat) (sb : ByteArray), s = .string sb ∧ u = .int .i64 i ∧ i ≤ n ∧ Hid (∀ (j : Nat) (y : Sh), i = j + 1 → t.shs[j]? = some y → sb = y.sv) ∧ Hid (i = 0 → sb = ⟨#[]⟩) ∧ wr = w1 ∧ Hid (∀ (j : Nat) (y : Sh), j < i → t.shs[j]? = some y → gtF y.up x = false)) (fun _ u _ => n - (intOf u).toNat)
  case atStart => exact ⟨0, ⟨#[]⟩, rfl, rfl, by omega, fun j y h => by omega, fun _ => rfl, (by first | trivial | rfl), fun j y hj => by omega⟩
  case round =>
    obtain ⟨i, sb, rfl, rfl, hi, HL, HZ, hww, HF⟩ := hrel
    subst hww
    have HBW := HG1
    have i0 : (0 : Int) ≤ i := by omega
    by_cases h3 : i < n
    · have h3' : (i : Int) < n := by omega
      rcases hki : t.shs[i]? with _ | o
      · have := List.getElem?_eq_none_iff.1 hki; have := HN.out; omega
      obtain ⟨g, off, ea, hcx⟩ := (HT.out.es.below HBW.out.below).at_ hki
      have c0 := hcx 0 _ rfl
      have c1 := hcx 1 _ rfl
      rw [Nat.add_zero] at c0
      rw [ea] at p1 ⊢
      have HK := hideL hki
      clear hki hcx
      obtain ⟨bb, hbb⟩ : ∃ bb, gtF o.up x = bb := ⟨_, rfl⟩
      have HBB := hideL hbb
      have hbo : (FloatKind.f64.format.order o.up x == some .gt) = bb := hbb
      clear hbb
      cases bb
      · go_wp2_with fail
        go_roundw
        case rel => exact ⟨i + 1, o.sv, rfl, by go_num, by omega, fun j y hj hy => by
            obtain rfl : i = j := by omega
            rw [HK.out] at hy; cases hy; rfl, fun h => by omega, (by first | trivial | rfl), fun j y hj hy => by
          by_cases hji : j < i
          · exact HF.out j y hji hy
          · obtain rfl : j = i := by omega
            rw [HK.out] at hy; cases hy; exact HBB.out⟩
        case measure => simp [intOf]; omega
      · have HR : Hid (A = o.sv) := by unfold Hid; rw [← HAA.out]; exact shF_at HF.out HK.out HBB.out
        go_wp2
        go_ret
        exact ⟨by rw [HR.out]; rfl, HG1.out.below⟩
    · have h3' : ¬ (i : Int) < n := by omega
      have HR : Hid (A = sb) := by
        unfold Hid; rw [← HAA.out]
        cases i with
        | zero => rw [HZ.out rfl]; exact shF_nil (by have := HN.out; omega)
        | succ j =>
          have hjl : j < t.shs.length := by have := HN.out; omega
          rw [HL.out j _ rfl (List.getElem?_eq_getElem hjl)]
          exact shF_last (fun k y hk hy => HF.out k y (by omega) hy) (List.getElem?_eq_getElem hjl) (by have := HN.out; omega)
      go_wp2
      go_ret
      exact ⟨by rw [HR.out]; rfl, HG1.out.below⟩
end Go.Proofs.YtfhobglcploaoaaDoor
