/-
  D's steps by the program.
-/
import Derived.Test.YtfhobglcploaoaaDoorDa
namespace Go.Proofs.YtfhobglcploaoaaDoor
open Go.RowKit
set_option linter.unusedVariables false
set_option linter.unusedSimpArgs false
set_option maxRecDepth 100000
theorem clone_any (s : ByteArray) (w : World) (h : okS s) : Calls Tryd.prog 19 #[.string s] w fun e w' => e = .returned (.string s) ∧ Below w.heap.size w w' := by
  have hc := Tryd.stringslite_Clone s w (by unfold okS at h; omega)
  go_enter Tryd.func19, Tryd.ntmps19
  go_wp2_with (go_at_call 30; refine hc.mono ?_; rintro e w1 ⟨rfl, hb⟩)
  go_ret
  exact ⟨rfl, hb⟩
theorem pathp_any (s p : ByteArray) (w : World) (g1 : okS s) (g2 : okS p) : Calls Tryd.prog 36 #[.string s, .string p] w fun e w' => e = .returned (.bool (Kk.pathM s.data.toList p.data.toList)) ∧ w' = w := by
  have := Kk.path_any s.data.toList p.data.toList w (okS_len2 g1) (okS_len2 g2)
  rw [ba_back, ba_back] at this
  exact this
theorem hostp_any (s h : ByteArray) (w : World) (g1 : okS s) (g2 : okS h) : Calls Tryd.prog 28 #[.string s, .string h] w fun e w' => e = .returned (.bool (takB s h)) ∧ Below w.heap.size w w' := by
  have := Kk.host_any s.data.toList h.data.toList w (okS_len g1) (okS_len g2)
  rw [ba_back, ba_back] at this
  exact this
theorem takes_any (pa me m p : ByteArray) (w : World) (g1 : okS pa) (g2 : okS p) : Calls Tryd.prog 29 #[.string pa, .string me, .string m, .string p] w fun e w' => e = .returned (.bool (tkB pa me m p)) ∧ w' = w := by
  have hP := pathp_any pa p w g1 g2
  have hE : tkB pa me m p = (((me.toList == [42]) || (me.toList == m.toList)) && Kk.pathM pa.data.toList p.data.toList) := rfl
  generalize Kk.pathM pa.data.toList p.data.toList = b1 at hP hE
  generalize tkB pa me m p = r at hE
  have fin : ∀ x : Bool, (((me.toList == [42]) || (me.toList == m.toList)) && b1) = x → x = r := fun x h => h.symm.trans hE.symm
  have FIN := hideL fin
  clear fin hE
  cases hq : (me.toList == [42]) <;> cases hq2 : (me.toList == m.toList)
  all_goals
    go_enter Tryd.func29, Tryd.ntmps29
    go_wp2_with (first | (go_at_call 36; refine hP.mono ?_; rintro e w1 ⟨rfl, hw⟩; have hw := hw.symm; subst hw))
    go_ret
    exact ⟨Kk.ret_bool (FIN.out _ (by simp [hq, hq2])), rfl⟩
set_option maxHeartbeats 8000000 in
theorem find_any (w : World) (t : Tb) (s : ByteArray) (ht : Tin w t) (hs : okS s) :
    Calls Tryd.prog 14 #[.agg #[.int .i64 t.ver, .slice t.ha t.hos.length t.hc, .slice t.sa t.svs.length t.sc], .string s] w fun e w' => e = .returned (.int .i64 (ixI (fndF t.hos s))) ∧ Below w.heap.size w w' := by
  have HT := hideL ht
  have HS := hideL hs
  obtain ⟨n, hn⟩ : ∃ n, t.hos.length = n := ⟨_, rfl⟩
  have hl : n ≤ 140737488355328 := by rw [← hn]; exact ht.lh
  have HN := hideL hn
  obtain ⟨A, hA⟩ : ∃ A, fndF t.hos s = A := ⟨_, rfl⟩
  have HAA := hideL hA

  rw [hn, hA]
  clear ht hn hA
  obtain ⟨w1, hw1⟩ : ∃ X, w.alloc (.cells #[.int .i64 t.ver, .slice t.ha n t.hc, .slice t.sa t.svs.length t.sc] 25 (0, 0)) = X := ⟨_, rfl⟩
  have HG1 : Hid (Gr w w1) := by rw [← hw1]; exact Gr.alloc _ _
  have HX1 : Hid (w1.heap[w.heap.size]? = some (.cells #[.int .i64 t.ver, .slice t.ha n t.hc, .slice t.sa t.svs.length t.sc] 25 (0, 0))) := by rw [← hw1]; exact heap_alloc_new w _
  have p1 := (three_cells HX1.out).2.1
  have HP1 := hideL p1
  go_enter Tryd.func14, Tryd.ntmps14
  go_wp2_with fail
  go_loopw [10] (fun u wr => ∃ (i : Nat), u = .int .i64 i ∧ i ≤ n ∧ Below w1.heap.size w1 wr ∧ Hid (∀ (j : Nat) (y : Ho), j < i → t.hos[j]? = some y → takB y.ho s = false)) (fun u _ => n - (intOf u).toNat)
  case atStart => exact ⟨0, rfl, by omega, Below.refl _ _, fun j y hj => by omega⟩
  case round =>
    obtain ⟨i, rfl, hi, hbel, HF⟩ := hrel
    have HB := hideL hbel
    clear hbel
    replace p1 := cell_of_below HB.out HP1.out
    have HBW := hideL (HG1.out.below.trans (HB.out.mono HG1.out.below.size))
    have i0 : (0 : Int) ≤ i := by omega
    by_cases h3 : i < n
    · have h3' : (i : Int) < n := by omega
      rcases hki : t.hos[i]? with _ | o
      · have := List.getElem?_eq_none_iff.1 hki; have := HN.out; omega
      obtain ⟨g, off, ea, hcx⟩ := (HT.out.hs.below HBW.out).at_ hki
      have c0 := hcx 0 _ rfl
      have c1 := hcx 1 _ rfl
      have c2 := hcx 2 _ rfl
      have c3 := hcx 3 _ rfl
      rw [Nat.add_zero] at c0
      rw [ea] at p1 ⊢
      have HK := hideL hki
      have HO := hideL ((HT.out.each o (List.mem_of_getElem? hki)).sz)
      clear hki hcx
      obtain ⟨bb, hbb⟩ : ∃ bb, takB o.ho s = bb := ⟨_, rfl⟩
      have HBB := hideL hbb
      have HC : Hid (∀ W, Calls Tryd.prog 28 #[.string o.ho, .string s] W fun e w' => e = .returned (.bool bb) ∧ Below W.heap.size W w') := fun W => by rw [← hbb]; exact hostp_any o.ho s W HO.out HS.out
      clear hbb
      go_wp2_with fail
      refine (HC.out _).mono ?_
      rintro e w3 ⟨rfl, hb3⟩
      have HB3 := hideL (HB.out.trans ((((Gr.alloc wr _).below.trans (hb3.mono (Gr.alloc wr _).below.size))).mono HB.out.size))
      clear hb3
      cases bb
      · go_wp2_with fail
        go_roundw
        case rel => exact ⟨i + 1, by go_num, by omega, HB3.out, fun j y hj hy => by
          by_cases hji : j < i
          · exact HF.out j y hji hy
          · obtain rfl : j = i := by omega
            rw [HK.out] at hy; cases hy; exact HBB.out⟩
        case measure => simp [intOf]; omega
      · have HR : Hid (A = some i) := by unfold Hid; rw [← HAA.out]; exact idx_at HF.out HK.out HBB.out
        go_wp2
        go_ret
        exact ⟨by rw [HR.out]; rfl, HG1.out.below.trans (HB3.out.mono HG1.out.below.size)⟩
    · have h3' : ¬ (i : Int) < n := by omega
      have HR : Hid (A = none) := by
        unfold Hid; rw [← HAA.out]
        exact idx_no (fun j y hy => HF.out j y (by have := (List.getElem?_eq_some_iff.1 hy).1; have := HN.out; omega) hy)
      go_wp2
      go_ret
      exact ⟨by rw [HR.out]; rfl, HBW.out⟩
set_option maxHeartbeats 8000000 in
theorem rule_any (w : World) (t : Ho) (m p : ByteArray) (ht : Hin w t) (hs : okS p) :
    Calls Tryd.prog 15 #[.agg #[.string t.ho, .string t.ro, .slice t.ea t.ens.length t.ec, .slice t.qa t.pms.length t.qc], .string m, .string p] w fun e w' => e = .returned (.int .i64 (ixI (rulF t.ens m p))) ∧ Below w.heap.size w w' := by
  have HT := hideL ht
  have HS := hideL hs
  obtain ⟨n, hn⟩ : ∃ n, t.ens.length = n := ⟨_, rfl⟩
  have hl : n ≤ 140737488355328 := by rw [← hn]; exact ht.le
  have HN := hideL hn
  obtain ⟨A, hA⟩ : ∃ A, rulF t.ens m p = A := ⟨_, rfl⟩
  have HAA := hideL hA

  rw [hn, hA]
  clear ht hn hA
  obtain ⟨w1, hw1⟩ : ∃ X, w.alloc (.cells #[.string t.ho, .string t.ro, .slice t.ea n t.ec, .slice t.qa t.pms.length t.qc] 45 (0, 0)) = X := ⟨_, rfl⟩
  have HG1 : Hid (Gr w w1) := by rw [← hw1]; exact Gr.alloc _ _
  have HX1 : Hid (w1.heap[w.heap.size]? = some (.cells #[.string t.ho, .string t.ro, .slice t.ea n t.ec, .slice t.qa t.pms.length t.qc] 45 (0, 0))) := by rw [← hw1]; exact heap_alloc_new w _
  have p1 := (four_cells HX1.out).2.2.1
  have HP1 := hideL p1
  go_enter Tryd.func15, Tryd.ntmps15
  go_wp2_with fail
  go_loopw [12] (fun u wr => ∃ (i : Nat), u = .int .i64 i ∧ i ≤ n ∧ Below w1.heap.size w1 wr ∧ Hid (∀ (j : Nat) (y : En), j < i → t.ens[j]? = some y → tkB y.pa y.me m p = false)) (fun u _ => n - (intOf u).toNat)
  case atStart => exact ⟨0, rfl, by omega, Below.refl _ _, fun j y hj => by omega⟩
  case round =>
    obtain ⟨i, rfl, hi, hbel, HF⟩ := hrel
    have HB := hideL hbel
    clear hbel
    replace p1 := cell_of_below HB.out HP1.out
    have HBW := hideL (HG1.out.below.trans (HB.out.mono HG1.out.below.size))
    have i0 : (0 : Int) ≤ i := by omega
    by_cases h3 : i < n
    · have h3' : (i : Int) < n := by omega
      rcases hki : t.ens[i]? with _ | o
      · have := List.getElem?_eq_none_iff.1 hki; have := HN.out; omega
      obtain ⟨g, off, ea, hcx⟩ := (HT.out.es.below HBW.out).at_ hki
      have c0 := hcx 0 _ rfl
      have c1 := hcx 1 _ rfl
      have c2 := hcx 2 _ rfl
      rw [Nat.add_zero] at c0
      rw [ea] at p1 ⊢
      have HK := hideL hki
      have HO := hideL ((HT.out.each o (List.mem_of_getElem? hki)).sp)
      clear hki hcx
      obtain ⟨bb, hbb⟩ : ∃ bb, tkB o.pa o.me m p = bb := ⟨_, rfl⟩
      have HBB := hideL hbb
      have HC : Hid (∀ W, Calls Tryd.prog 29 #[.string o.pa, .string o.me, .string m, .string p] W fun e w' => e = .returned (.bool bb) ∧ w' = W) := fun W => by rw [← hbb]; exact takes_any o.pa o.me m p W HO.out HS.out
      clear hbb
      go_wp2_with fail
      refine (HC.out _).mono ?_
      rintro e w3 ⟨rfl, hb3⟩
      have HB3 : Hid (Below w1.heap.size w1 w3) := by rw [hb3]; exact HB.out.trans ((Gr.alloc wr _).below.mono HB.out.size)
      subst hb3
      cases bb
      · go_wp2_with fail
        go_roundw
        case rel => exact ⟨i + 1, by go_num, by omega, HB3.out, fun j y hj hy => by
          by_cases hji : j < i
          · exact HF.out j y hji hy
          · obtain rfl : j = i := by omega
            rw [HK.out] at hy; cases hy; exact HBB.out⟩
        case measure => simp [intOf]; omega
      · have HR : Hid (A = some i) := by unfold Hid; rw [← HAA.out]; exact idx_at HF.out HK.out HBB.out
        go_wp2
        go_ret
        exact ⟨by rw [HR.out]; rfl, HG1.out.below.trans (HB3.out.mono HG1.out.below.size)⟩
    · have h3' : ¬ (i : Int) < n := by omega
      have HR : Hid (A = none) := by
        unfold Hid; rw [← HAA.out]
        exact idx_no (fun j y hy => HF.out j y (by have := (List.getElem?_eq_some_iff.1 hy).1; have := HN.out; omega) hy)
      go_wp2
      go_ret
      exact ⟨by rw [HR.out]; rfl, HBW.out⟩
set_option maxHeartbeats 8000000 in
theorem allowed_any (w : World) (t : Ho) (m p : ByteArray) (ht : Hin w t) (hs : okS p) :
    Calls Tryd.prog 16 #[.agg #[.string t.ho, .string t.ro, .slice t.ea t.ens.length t.ec, .slice t.qa t.pms.length t.qc], .string m, .string p] w fun e w' => e = .returned (.tuple #[.bool (alwB t.pms m p), .int .i64 (ixI (alwF t.pms m p))]) ∧ Below w.heap.size w w' := by
  have HT := hideL ht
  have HS := hideL hs
  obtain ⟨n, hn⟩ : ∃ n, t.pms.length = n := ⟨_, rfl⟩
  have hl : n ≤ 140737488355328 := by rw [← hn]; exact ht.lp
  have HN := hideL hn
  obtain ⟨A, hA⟩ : ∃ A, alwF t.pms m p = A := ⟨_, rfl⟩
  have HAA := hideL hA
  obtain ⟨V, hV⟩ : ∃ V, alwB t.pms m p = V := ⟨_, rfl⟩
  have HV := hideL hV
  rw [hV]
  clear hV
  rw [hn, hA]
  clear ht hn hA
  obtain ⟨w1, hw1⟩ : ∃ X, w.alloc (.cells #[.string t.ho, .string t.ro, .slice t.ea t.ens.length t.ec, .slice t.qa n t.qc] 45 (0, 0)) = X := ⟨_, rfl⟩
  have HG1 : Hid (Gr w w1) := by rw [← hw1]; exact Gr.alloc _ _
  have HX1 : Hid (w1.heap[w.heap.size]? = some (.cells #[.string t.ho, .string t.ro, .slice t.ea t.ens.length t.ec, .slice t.qa n t.qc] 45 (0, 0))) := by rw [← hw1]; exact heap_alloc_new w _
  have p1 := (four_cells HX1.out).2.2.2
  have HP1 := hideL p1
  go_enter Tryd.func16, Tryd.ntmps16
  go_wp2_with fail
  go_loopw [13] (fun u wr => ∃ (i : Nat), u = .int .i64 i ∧ i ≤ n ∧ Below w1.heap.size w1 wr ∧ Hid (∀ (j : Nat) (y : Pm), j < i → t.pms[j]? = some y → tkB y.pa y.me m p = false)) (fun u _ => n - (intOf u).toNat)
  case atStart => exact ⟨0, rfl, by omega, Below.refl _ _, fun j y hj => by omega⟩
  case round =>
    obtain ⟨i, rfl, hi, hbel, HF⟩ := hrel
    have HB := hideL hbel
    clear hbel
    replace p1 := cell_of_below HB.out HP1.out
    have HBW := hideL (HG1.out.below.trans (HB.out.mono HG1.out.below.size))
    have i0 : (0 : Int) ≤ i := by omega
    by_cases h3 : i < n
    · have h3' : (i : Int) < n := by omega
      rcases hki : t.pms[i]? with _ | o
      · have := List.getElem?_eq_none_iff.1 hki; have := HN.out; omega
      obtain ⟨g, off, ea, hcx⟩ := (HT.out.ps.below HBW.out).at_ hki
      have c0 := hcx 0 _ rfl
      have c1 := hcx 1 _ rfl
      have c2 := hcx 2 _ rfl
      rw [Nat.add_zero] at c0
      rw [ea] at p1 ⊢
      have HK := hideL hki
      have HO := hideL (HT.out.pm o (List.mem_of_getElem? hki))
      clear hki hcx
      obtain ⟨bb, hbb⟩ : ∃ bb, tkB o.pa o.me m p = bb := ⟨_, rfl⟩
      have HBB := hideL hbb
      have HC : Hid (∀ W, Calls Tryd.prog 29 #[.string o.pa, .string o.me, .string m, .string p] W fun e w' => e = .returned (.bool bb) ∧ w' = W) := fun W => by rw [← hbb]; exact takes_any o.pa o.me m p W HO.out HS.out
      clear hbb
      go_wp2_with fail
      refine (HC.out _).mono ?_
      rintro e w3 ⟨rfl, hb3⟩
      have HB3 : Hid (Below w1.heap.size w1 w3) := by rw [hb3]; exact HB.out.trans ((Gr.alloc wr _).below.mono HB.out.size)
      subst hb3
      cases bb
      · go_wp2_with fail
        go_roundw
        case rel => exact ⟨i + 1, by go_num, by omega, HB3.out, fun j y hj hy => by
          by_cases hji : j < i
          · exact HF.out j y hji hy
          · obtain rfl : j = i := by omega
            rw [HK.out] at hy; cases hy; exact HBB.out⟩
        case measure => simp [intOf]; omega
      · have HR : Hid (A = some i) := by unfold Hid; rw [← HAA.out]; exact idx_at HF.out HK.out HBB.out
        go_wp2
        go_ret2
        exact ⟨by rw [← HV.out, alwB_at (HAA.out.trans HR.out) HK.out, HR.out]; rfl, HG1.out.below.trans (HB3.out.mono HG1.out.below.size)⟩
    · have h3' : ¬ (i : Int) < n := by omega
      have HR : Hid (A = none) := by
        unfold Hid; rw [← HAA.out]
        exact idx_no (fun j y hy => HF.out j y (by have := (List.getElem?_eq_some_iff.1 hy).1; have := HN.out; omega) hy)
      go_wp2
      go_ret2
      exact ⟨by rw [← HV.out, alwB_no (HAA.out.trans HR.out), HR.out]; rfl, HBW.out⟩
end Go.Proofs.YtfhobglcploaoaaDoor
