import Derived.Test.YtmljljpldljpjaaBndK
import Derived.Test.YtmljljpldljpjaaBndI
import Derived.Deep.RegionHeld3
import Derived.Test.YtmljljpldljpjaaMm
import Derived.Test.YtmljljpldljpjaaOl
import Derived.Test.YtmljljpldljpjaaBndJ
import Derived.Test.YtmljljpldljpjaaBndR
import Derived.Test.YtmljljpldljpjaaBndF
/-
  covers, coverer.
-/
namespace Go.Proofs.Ytmljljpldljpjaa
open Go.RowKit
set_option linter.unusedVariables false
set_option linter.unusedSimpArgs false
set_option maxRecDepth 100000
def cpB (s t : ByteArray) : Bool := Kk.cpM s.data.toList t.data.toList
theorem ba_back (s : ByteArray) : (⟨s.data.toList.toArray⟩ : ByteArray) = s := by cases s; simp
theorem okS_len {s : ByteArray} (h : okS s) : s.data.toList.length ≤ 2 ^ 62 := Nat.le_trans (show s.data.toList.length ≤ 1048576 from h) (by decide)
theorem cpath_any (s t : ByteArray) (w : World) (g1 : okS s) (g2 : okS t) : Calls Try.prog 88 #[.string s, .string t] w fun e w' => e = .returned (.bool (cpB s t)) ∧ w' = w := by
  have := Kk.coversPath_any s.data.toList t.data.toList w (okS_len g1) (okS_len g2)
  rw [ba_back, ba_back] at this
  exact this
theorem rcpath_any (s t : ByteArray) (w : World) (g1 : okS s) (g2 : okS t) : Calls Try.prog 35 #[.string s, .string t] w fun e w' => e = .returned (.bool (cpB s t)) ∧ w' = w := by
  have := Kk.rcoversPath_any s.data.toList t.data.toList w (okS_len g1) (okS_len g2)
  rw [ba_back, ba_back] at this
  exact this
/-- whether a rule covers another -/
def covB (a b : Ru) : Bool := ((a.me.toList == b.me.toList) || (a.me.toList == [42])) && cpB a.pa b.pa
set_option maxHeartbeats 8000000 in
theorem covers_any (w : World) (a b : Ru) (h1 : okS a.pa) (h2 : okS b.pa) :
    Calls Try.prog 71 #[.agg #[.string a.pa, .string a.me, .string a.sp, .bool a.al], .agg #[.string b.pa, .string b.me, .string b.sp, .bool b.al]] w fun e w' => e = .returned (.bool (covB a b)) ∧ Gr w w' := by
  have HC : Hid (∀ W, Calls Try.prog 88 #[.string a.pa, .string b.pa] W fun e w' => e = .returned (.bool (cpB a.pa b.pa)) ∧ w' = W) := fun W => cpath_any a.pa b.pa W h1 h2
  unfold covB
  generalize cpB a.pa b.pa = b3 at HC ⊢
  clear h1 h2
  go_enter Try.func71, Try.ntmps71
  cases hm : (a.me.toList == b.me.toList)
  · cases hs : (a.me.toList == [42])
    · go_wp2
      go_ret
      exact ⟨rfl, (Gr.alloc _ _).trans (Gr.alloc _ _)⟩
    · go_wp2_with (go_at_call 88; refine (HC.out _).mono ?_; rintro e w1 ⟨rfl, hq⟩; have hq := hq.symm; subst hq)
      go_ret
      exact ⟨rfl, (Gr.alloc _ _).trans (Gr.alloc _ _)⟩
  · go_wp2_with (go_at_call 88; refine (HC.out _).mono ?_; rintro e w1 ⟨rfl, hq⟩; have hq := hq.symm; subst hq)
    go_ret
    exact ⟨rfl, (Gr.alloc _ _).trans (Gr.alloc _ _)⟩
end Go.Proofs.Ytmljljpldljpjaa

/-
  coverer, warnings.
-/
namespace Go.Proofs.Ytmljljpldljpjaa
open Go.RowKit
set_option linter.unusedVariables false
set_option linter.unusedSimpArgs false
set_option maxRecDepth 100000
/-- the first rule ahead that covers one; its own number, if none does -/
def cvrF (l : List Ru) (m : Nat) : Nat := ((List.range m).find? (fun j => match l[j]?, l[m]? with | some x, some y => covB x y | _, _ => false)).getD m
theorem cvrF_at {l : List Ru} {m i : Nat} {x y : Ru} (h1 : ∀ (j : Nat) (z : Ru), j < i → l[j]? = some z → covB z y = false) (hx : l[i]? = some x) (hy : l[m]? = some y) (hc : covB x y = true) (hi : i < m) : cvrF l m = i := by
  unfold cvrF
  rw [find_range (i := i) (fun j hj => ?_) ?_ hi]
  · rfl
  · rw [hx, hy]; exact hc
  · have : j < l.length := by have := (List.getElem?_eq_some_iff.1 hx).1; omega
    rw [List.getElem?_eq_getElem this, hy]
    exact h1 j _ hj (List.getElem?_eq_getElem this)
theorem cvrF_no {l : List Ru} {m : Nat} {y : Ru} (h1 : ∀ (j : Nat) (z : Ru), j < m → l[j]? = some z → covB z y = false) (hy : l[m]? = some y) : cvrF l m = m := by
  unfold cvrF
  rw [find_none (fun j hj => ?_)]
  · rfl
  · have : j < l.length := by have := (List.getElem?_eq_some_iff.1 hy).1; omega
    rw [List.getElem?_eq_getElem this, hy]
    exact h1 j _ hj (List.getElem?_eq_getElem this)
set_option maxHeartbeats 16000000 in
theorem coverer_any (w : World) (a : Option Addr) (n c m : Nat) (l : List Ru) (hn : l.length = n) (hs : n ≤ 1048576) (hc : Cel w a 4 (l.map Ru.row)) (hk : ∀ r ∈ l, okS r.pa) (hm : m < n) :
    Calls Try.prog 52 #[.slice a n c, .int .i64 m] w fun e w' => e = .returned (.int .i64 (cvrF l m)) ∧ Gr w w' := by
  have HN := hideL hn
  have HC := hideL hc
  have HK := hideL hk
  rcases hym : l[m]? with _ | y
  · have := List.getElem?_eq_none_iff.1 hym; omega
  have HY := hideL hym
  obtain ⟨R, hR⟩ : ∃ R, cvrF l m = R := ⟨_, rfl⟩
  have HR := hideL hR
  rw [hR]
  clear hn hc hR hk
  have hm' : (m : Int) < n := by omega
  have hm0 : (0 : Int) ≤ m := by omega
  go_enter Try.func52, Try.ntmps52
  go_wp2_with fail
  go_loopw [7] (fun t wr => ∃ (i : Nat), t = .int .i64 i ∧ i ≤ m ∧ Gr w wr ∧ Hid (∀ (j : Nat) (z : Ru), j < i → l[j]? = some z → covB z y = false)) (fun t _ => m - (intOf t).toNat)
  case atStart => exact ⟨0, rfl, by omega, Gr.refl _, fun j z h => by omega⟩
  case round =>
    obtain ⟨i, rfl, hi, hgr, HF⟩ := hrel
    have HG := hideL hgr
    clear hgr
    have i0 : (0 : Int) ≤ i := by omega
    by_cases h3 : i < m
    · have h3' : (i : Int) < m := by omega
      have h4' : (i : Int) < n := by omega
      rcases hkt : l[i]? with _ | x
      · have := List.getElem?_eq_none_iff.1 hkt; have := HN.out; omega
      obtain ⟨g, off, rfl, c0, c1, c2, c3⟩ := (HC.out.below HG.out.below).rcells hkt
      obtain ⟨g', off', e', d0, d1, d2, d3⟩ := (HC.out.below HG.out.below).rcells HY.out
      cases e'
      have HKT := hideL hkt
      have HCV := hideL (fun W => covers_any W x y (HK.out x (List.mem_of_getElem? hkt)) (HK.out y (List.mem_of_getElem? HY.out)))
      have HS := hideL (fun (w' : World) (h : Gr wr w') => show (w'.cell? ⟨g, off + i * 4, none⟩ = some (.string x.pa) ∧ w'.cell? ⟨g, off + i * 4 + 1, none⟩ = some (.string x.me) ∧ w'.cell? ⟨g, off + i * 4 + 2, none⟩ = some (.string x.sp) ∧ w'.cell? ⟨g, off + i * 4 + 3, none⟩ = some (.bool x.al) ∧ w'.cell? ⟨g, off + m * 4, none⟩ = some (.string y.pa) ∧ w'.cell? ⟨g, off + m * 4 + 1, none⟩ = some (.string y.me) ∧ w'.cell? ⟨g, off + m * 4 + 2, none⟩ = some (.string y.sp) ∧ w'.cell? ⟨g, off + m * 4 + 3, none⟩ = some (.bool y.al)) from ⟨h.cell c0, h.cell c1, h.cell c2, h.cell c3, h.cell d0, h.cell d1, h.cell d2, h.cell d3⟩)
      obtain ⟨bb, hbb⟩ : ∃ bb, covB x y = bb := ⟨_, rfl⟩
      rw [hbb] at HCV
      have HBB := hideL hbb
      clear hkt hbb hym
      go_wp2_with fail
      go_region_held3 (fun w' => w'.cell? ⟨g, off + i * 4, none⟩ = some (.string x.pa) ∧ w'.cell? ⟨g, off + i * 4 + 1, none⟩ = some (.string x.me) ∧ w'.cell? ⟨g, off + i * 4 + 2, none⟩ = some (.string x.sp) ∧ w'.cell? ⟨g, off + i * 4 + 3, none⟩ = some (.bool x.al) ∧ w'.cell? ⟨g, off + m * 4, none⟩ = some (.string y.pa) ∧ w'.cell? ⟨g, off + m * 4 + 1, none⟩ = some (.string y.me) ∧ w'.cell? ⟨g, off + m * 4 + 2, none⟩ = some (.string y.sp) ∧ w'.cell? ⟨g, off + m * 4 + 3, none⟩ = some (.bool y.al)) (go_keep) (first
        | (go_at_call 71; refine (HCV.out _).mono ?_; rintro e w3 ⟨rfl, hg3⟩; have HG3 := hideL ((Gr.drewN wr 1).trans hg3); obtain ⟨y0, y1, y2, y3, y4, y5, y6, y7⟩ := HS.out w3 HG3.out; clear hg3))
      cases bb
      · go_wp2_with fail
        go_roundw
        case rel => exact ⟨i + 1, by go_num, by omega, HG.out.trans HG3.out, fun j z hj hz => by
          by_cases hji : j < i
          · exact HF.out j z hji hz
          · obtain rfl : j = i := by omega
            rw [HKT.out] at hz; cases hz; exact HBB.out⟩
        case measure => simp [intOf]; omega
      · have HE : Hid (R = i) := by unfold Hid; rw [← HR.out]; exact cvrF_at HF.out HKT.out HY.out HBB.out h3
        go_wp2
        go_ret
        exact ⟨by rw [HE.out]; rfl, HG.out.trans HG3.out⟩
    · have h3' : ¬ (i : Int) < m := by omega
      have HE : Hid (R = m) := by unfold Hid; rw [← HR.out]; exact cvrF_no (fun j z hj hz => HF.out j z (by omega) hz) HY.out
      go_wp2
      go_ret
      exact ⟨by rw [HE.out]; rfl, HG.out⟩
abbrev Wg3 := Nat × Nat × Nat
def wRow (x : Wg3) : List Value := [.int .i64 x.1, .int .i64 x.2.1, .int .i64 x.2.2]
/-- the warnings of a resource's first m rules -/
def wnR (i : Nat) (l : List Ru) (m : Nat) : List Wg3 := (List.range m).filterMap fun k => if cvrF l k < k then some (i, k, cvrF l k) else none
/-- the warnings of the first i resources -/
def wnC (C : List Rs) (i : Nat) : List Wg3 := (List.range i).flatMap fun j => match C[j]? with | some r => if r.kd = 3 ∨ r.kd = 4 then wnR j r.rus r.rus.length else [] | none => []
theorem wnR_step (i : Nat) (l : List Ru) (m : Nat) : wnR i l (m + 1) = wnR i l m ++ (if cvrF l m < m then [(i, m, cvrF l m)] else []) := by
  unfold wnR
  rw [List.range_succ, List.filterMap_append]
  by_cases h : cvrF l m < m <;> simp [h]
theorem wnC_step {C : List Rs} {i : Nat} {r : Rs} (h : C[i]? = some r) : wnC C (i + 1) = wnC C i ++ (if r.kd = 3 ∨ r.kd = 4 then wnR i r.rus r.rus.length else []) := by
  unfold wnC
  rw [List.range_succ, List.flatMap_append]
  simp [h]
theorem wnR_len (i : Nat) (l : List Ru) (m : Nat) : (wnR i l m).length ≤ m := by
  unfold wnR; exact Nat.le_trans (List.length_filterMap_le _ _) (by simp)
theorem info44 : (Try.prog.info? 44).map (fun i => (i.zero, i.size, i.bytes)) = some (some (.agg #[.int .i64 0, .int .i64 0, .int .i64 0]), 3, 24) := by kernel_rfl
/-- what warnings leaves -/
def WnE (w : World) (L : List Wg3) (e : Ending) (w' : World) : Prop := ∃ v, e = .returned v ∧ w'.ownsRow w.heap.size 44 3 v L.length (rowsOf wRow L) ∧ Below w.heap.size w w'
set_option maxHeartbeats 32000000 in
theorem warnings_any (w : World) (a : Option Addr) (n c : Nat) (os : List Rx) (hL : Lr w a os) (hn : os.length = n) (hs : n ≤ 64) :
    Calls Try.prog 32 #[.slice a n c] w fun e w' => WnE w (wnC (os.map Rx.toRs) n) e w' := by
  have HL := hideL hL
  have HN := hideL hn
  clear hL hn
  obtain ⟨i44, hi44, hx0, hx1, hx2⟩ := info_parts info44
  go_enter Try.func32, Try.ntmps32
  go_wp2_with fail
  go_loopw [3, 10] (fun v t wr => ∃ (i : Nat) (L : List Wg3), t = .int .i64 i ∧ i ≤ n ∧ L.length ≤ i * 1048576 ∧ wr.ownsRow w.heap.size 44 3 v L.length (rowsOf wRow L) ∧ Below w.heap.size w wr ∧ Hid (L = wnC (os.map Rx.toRs) i)) (fun _ t _ => n - (intOf t).toNat)
  case atStart => exact ⟨0, [], rfl, by omega, by simp, ⟨by simp [rowsOf], .inl ⟨rfl, rfl⟩⟩, Below.refl _ _, rfl⟩
  case round =>
    obtain ⟨i, L, rfl, hi, hLl, hown, hbel, HLE⟩ := hrel
    obtain ⟨va, vc, rfl, _, _, _⟩ := own_form hown
    have HOW := hideL hown
    have HB := hideL hbel
    clear hown hbel
    have i0 : (0 : Int) ≤ i := by omega
    by_cases h3 : i < n
    · have h3' : (i : Int) < n := by omega
      rcases hki : os[i]? with _ | o
      · have := List.getElem?_eq_none_iff.1 hki; have := HN.out; omega
      have HKI : Hid ((os.map Rx.toRs)[i]? = some o.toRs) := by unfold Hid; simp [hki]
      have HRO := hideL (HL.out.each o (List.mem_of_getElem? hki))
      obtain ⟨g, off, rfl, d0, d1, d2, d3, d4, d5, d6, d7⟩ := (HL.out.row.below HB.out).cells hki
      have HST := hideL (wnC_step HKI.out)
      clear hki
      obtain ⟨w3, hw3⟩ : ∃ X, wr.alloc (boxO o) = X := ⟨_, rfl⟩
      have HG3 : Hid (Gr wr w3) := by rw [← hw3]; exact Gr.alloc _ _
      have HX3 : Hid (w3.heap[wr.heap.size]? = some (boxO o)) := by rw [← hw3]; exact heap_alloc_new wr _
      have HB3 := hideL (HB.out.trans (HG3.out.below.mono HB.out.size))
      have HOW3 := hideL (own_stay HOW.out HG3.out.below)
      unfold boxO at hw3
      obtain ⟨e0, e1, e2, e3, e4, e5, e6, e7⟩ := box8 HX3.out
      by_cases hk : o.kd = 3 ∨ o.kd = 4
      · have hkk : ((o.kd != 3) = false) ∨ ((o.kd != 3) = true ∧ (o.kd != 4) = false) := by
          rcases hk with h | h
          · exact .inl (by simp [h])
          · exact .inr ⟨by simp [h], by simp [h]⟩
        have HST2 : Hid (wnC (os.map Rx.toRs) (i + 1) = wnC (os.map Rx.toRs) i ++ wnR i o.rus o.rus.length) := by
          unfold Hid; rw [HST.out, if_pos hk]
        obtain ⟨B3, hB3⟩ : ∃ X, wr.heap.size = X := ⟨_, rfl⟩
        rw [hB3] at HX3 e0 e1 e2 e3 e4 e5 e6 e7
        have hk20 : o.rus.length ≤ 1048576 := HRO.out.lr
        clear hk
        have HGO : Hid True := trivial
        rcases hkk with hkk | ⟨hkk, hk4⟩
        all_goals
          go_wp2_with fail
          clear e0 e1 e2 e3 e4 e5 e6 e7 d0 d1 d2 d3 d4 d5 d6 d7
          go_loopw [3, 26] (fun v t ws => ∃ (m : Nat) (P : List Wg3), t = .int .i64 m ∧ m ≤ o.rus.length ∧ P.length ≤ i * 1048576 + m ∧ ws.ownsRow w.heap.size 44 3 v P.length (rowsOf wRow P) ∧ Below w.heap.size w ws ∧ ws.heap[B3]? = some (boxO o) ∧ Hid (P = wnC (os.map Rx.toRs) i ++ wnR i o.rus m)) (fun _ t _ => o.rus.length - (intOf t).toNat)
          case atStart => exact ⟨0, L, rfl, Nat.zero_le _, Nat.le_trans hLl (Nat.le_add_right _ _), HOW3.out, HB3.out, HX3.out, by unfold Hid; rw [← HLE.out]; simp [wnR]⟩
          case round =>
            obtain ⟨m, P, rfl, hmk, hPl, hownP, hbelP, hbox, HPE⟩ := hrel
            obtain ⟨pa, pc, rfl, _, _, _⟩ := own_form hownP
            have HOP := hideL hownP
            have HBP := hideL hbelP
            have HXP := hideL hbox
            clear hownP hbelP hbox
            have m0 : (0 : Int) ≤ m := by omega
            obtain ⟨-, -, -, -, -, e5, -, -⟩ := box8 HXP.out
            by_cases h4 : m < o.rus.length
            · have h4' : (m : Int) < o.rus.length := by omega
              have HCO := hideL (coverer_any wr o.ra o.rus.length o.rc m o.rus rfl hk20 ((HRO.out.below HBP.out).rs) (fun r hr => (HRO.out.sr r hr).1) h4)
              have HWS := hideL (wnR_step i o.rus m)
              obtain ⟨q, hq⟩ : ∃ q, cvrF o.rus m = q := ⟨_, rfl⟩
              rw [hq] at HCO HWS
              clear hq
              go_wp2_with fail
              refine HCO.out.mono ?_
              rintro e w5 ⟨rfl, hg5⟩
              have HO5 := hideL (own_stay HOP.out hg5.below)
              have HB5 := hideL (HBP.out.trans (hg5.below.mono HBP.out.size))
              have HX5 := hideL (hg5.below.cells HXP.out)
              clear hg5 HCO e5
              by_cases hqm : q < m
              · have hqm' : (q : Int) < m := by omega
                have HPN : Hid (P ++ [(i, m, q)] = wnC (os.map Rx.toRs) i ++ wnR i o.rus (m + 1)) := by unfold Hid; rw [HWS.out, if_pos hqm, HPE.out, List.append_assoc]
                have HOD : Hid ((w5.alloc (.cells #[.int .i64 i, .int .i64 m, .int .i64 q] 44 (0, 0))).ownsRow w.heap.size 44 3 (.slice pa P.length pc) P.length (rowsOf wRow P)) := HO5.out.alloc _
                have HND : Hid (∀ j u, (wRow (i, m, q))[j]? = some u → (w5.alloc (.cells #[.int .i64 i, .int .i64 m, .int .i64 q] 44 (0, 0))).cell? ((⟨w5.heap.size, 0, none⟩ : Addr).add j) = some u) := World.news_of_block (w := w5.alloc (.cells #[.int .i64 i, .int .i64 m, .int .i64 q] 44 (0, 0))) (Go.heap_alloc_new w5 _)
                have hszD : w.heap.size ≤ (w5.alloc (.cells #[.int .i64 i, .int .i64 m, .int .i64 q] 44 (0, 0))).heap.size := Nat.le_trans HB5.out.size (by simp)
                have hlm : P.length + 1 ≤ maxLen := by unfold maxLen; omega
                have hlb : (P.length + 1) * 24 ≤ 140737488355328 := by omega
                go_wp2_with (at_builtin; refine wpList_append_at _ rfl (.tmp 36) (.tmp 41) 31 rfl w.heap.size 44 i44 _ 3 24 Try.underlying31 hi44 hx0 hx1 hx2 rfl (by decide) (.slice pa P.length pc) P.length (rowsOf wRow P) rfl HOD.out ⟨w5.heap.size, 0, none⟩ 1 1 (wRow (i, m, q)) rfl rfl HND.out (by intro u hu; simp [wRow] at hu; rcases hu with rfl | rfl | rfl <;> rfl) hlm hlb hszD ?_; intro v7 w7 hown7 hgrow7 hat7; have HO7 : Hid (w7.ownsRow w.heap.size 44 3 v7 (P ++ [(i, m, q)]).length (rowsOf wRow (P ++ [(i, m, q)]))) := (by unfold Hid; rw [List.length_append, rowsOf_append, rowsOf_one]; exact hown7); have HB7 := hideL (HB5.out.trans (below_app (mm := 0) HO5.out HB5.out.size hgrow7)); have HX7 := hideL (app_keep (mm := 0) HO5.out hgrow7 HX5.out (by decide)); clear hown7 hgrow7 hat7)
                go_roundw
                case rel => exact ⟨m + 1, P ++ [(i, m, q)], by go_num, by omega, by rw [List.length_append]; simp; omega, HO7.out, HB7.out, HX7.out, HPN.out⟩
                case measure => simp [intOf]; omega
              · have hqm' : ¬ (q : Int) < m := by omega
                have HPN : Hid (P = wnC (os.map Rx.toRs) i ++ wnR i o.rus (m + 1)) := by unfold Hid; rw [HWS.out, if_neg hqm, List.append_nil]; exact HPE.out
                go_wp2_with fail
                go_roundw
                case rel => exact ⟨m + 1, P, by go_num, by omega, by omega, HO5.out, HB5.out, HX5.out, HPN.out⟩
                case measure => simp [intOf]; omega
            · have h4' : ¬ (m : Int) < o.rus.length := by omega
              have HLN : Hid (P = wnC (os.map Rx.toRs) (i + 1)) := by unfold Hid; rw [HST2.out, HPE.out, show m = o.rus.length by omega]
              go_wp2_with fail
              go_roundw
              case rel => exact ⟨i + 1, P, by go_num, by omega, by omega, HOP.out, HBP.out, HLN.out⟩
              case measure => simp [intOf]; omega
      · have hk3 : (o.kd != 3) = true := by simp; omega
        have hk4 : (o.kd != 4) = true := by simp; omega
        have HLN : Hid (L = wnC (os.map Rx.toRs) (i + 1)) := by unfold Hid; rw [HST.out, if_neg hk, List.append_nil]; exact HLE.out
        clear hk
        go_wp2_with fail
        go_roundw
        case rel => exact ⟨i + 1, L, by go_num, by omega, Nat.le_trans hLl (Nat.mul_le_mul_right _ (Nat.le_succ i)), HOW3.out, HB3.out, HLN.out⟩
        case measure => simp [intOf]; omega
    · have h3' : ¬ (i : Int) < n := by omega
      obtain rfl : i = n := by omega
      go_wp2
      go_ret
      exact ⟨_, rfl, by rw [← HLE.out]; exact HOW.out, HB.out⟩
end Go.Proofs.Ytmljljpldljpjaa

/-
  Check, whole.
-/
namespace Go.Proofs.Ytmljljpldljpjaa
open Go.RowKit
set_option linter.unusedVariables false
set_option linter.unusedSimpArgs false
set_option maxRecDepth 100000
set_option maxHeartbeats 16000000 in
theorem check_good (w : World) (a : Option Addr) (n c : Nat) (L : List Wg3)
    (hF : ∀ W, Below w.heap.size w W → Calls Try.prog 31 #[.slice a n c] W fun e w' => FaE W (fltV (0, 0, 0)) e w')
    (hW : ∀ W, Below w.heap.size w W → Calls Try.prog 32 #[.slice a n c] W fun e w' => WnE W L e w') :
    Calls Try.prog 14 #[.slice a n c] w fun e w' => ∃ v, e = .returned (.tuple #[v, fltV (0, 0, 0)]) ∧ w'.ownsRow w.heap.size 44 3 v L.length (rowsOf wRow L) ∧ Below w.heap.size w w' := by
  have HF := hideL hF
  have HW := hideL hW
  unfold fltV at HF
  unfold fltV
  dsimp only at HF ⊢
  obtain ⟨w1, hw1⟩ : ∃ X, w.alloc f0 = X := ⟨_, rfl⟩
  have HB1 : Hid (Below w.heap.size w w1) := by rw [← hw1]; exact (Gr.alloc _ _).below
  have HX1 : Hid (w1.heap[w.heap.size]? = some f0) := by rw [← hw1]; exact heap_alloc_new w _
  unfold f0 at hw1
  obtain ⟨B, hB⟩ : ∃ B, w.heap.size = B := ⟨_, rfl⟩
  rw [hB] at HX1
  clear hF hW
  go_enter Try.func14, Try.ntmps14
  go_wp2_with fail
  refine (HF.out w1 HB1.out).mono ?_
  rintro e w2 ⟨rfl, hb2⟩
  have HX2 := hideL (hb2.cells HX1.out)
  have HB2 := hideL (HB1.out.trans (hb2.mono HB1.out.size))
  clear hb2 hw1 HX1
  go_wp2_with fail
  obtain ⟨w3, hw3⟩ : ∃ X, w2.alloc (.cells #[.int .i64 0, .int .i64 0, .int .i64 0] 33 (0, 0)) = X := ⟨_, rfl⟩
  rw [hw3]
  have HB3 : Hid (Below w.heap.size w w3) := by rw [← hw3]; exact HB2.out.trans ((Gr.alloc _ _).below.mono HB2.out.size)
  have HX3 : Hid (w3.heap[B]? = some f0) := by rw [← hw3]; exact (Gr.alloc _ _).below.cells HX2.out
  clear hw3
  refine (HW.out w3 HB3.out).mono ?_
  rintro e w4 ⟨v, rfl, hown, hb4⟩
  have HO4 := hideL (own_low' hown HB3.out.size)
  have HX4 := hideL (hb4.cells HX3.out)
  have HB4 := hideL (HB3.out.trans (hb4.mono HB3.out.size))
  obtain ⟨va, vc, rfl, _⟩ := own_form hown
  obtain ⟨⟨f0, f1, f2⟩, ⟨g0, g1, g2⟩, ⟨k0, k1, k2⟩, hbut, hlast⟩ := set3 HX4.out (.int .i64 0) (.int .i64 0) (.int .i64 0)
  have HBT := hideL hbut
  clear hbut hown hb4 hlast
  go_wp2
  refine bodyPost_ret (v := .tuple #[.slice va L.length vc, .agg #[.int .i64 0, .int .i64 0, .int .i64 0]]) (by simp [results, Try.results14, go_sem, k0, k1, k2]) rfl ⟨_, rfl, ?_, ?_⟩
  · have h := HBT.out.own HO4.out HX4.out (by decide)
    first
      | exact h
      | (rw [hB] at h; exact h)
  · exact HB4.out.trans (HBT.out.below HB4.out.size (by omega))
/-- the looks' answers -/
def lk1 (C : List Rs) := lookF (fun _ r => looF C r) C
def lk2 (C : List Rs) := lookF (hstF C) C
def lk3 (C : List Rs) := lookF (fun _ r => misF r) C
def lk4 (C : List Rs) := lookF (fun _ r => rinF C r) C
def chkF (C : List Rs) : Nat × Nat × Int := fltF C (lk1 C) (lk2 C) (lk3 C) (lk4 C)
theorem lookF_all {p : Nat → Rs → Option Nat} {C : List Rs} (h : lookF p C = none) {j : Nat} {r : Rs} (hj : C[j]? = some r) : p j r = none := by
  unfold lookF at h
  rw [List.findSome?_eq_none_iff] at h
  have := h j (by simpa using (List.getElem?_eq_some_iff.1 hj).1)
  rw [hj] at this
  simpa using this
theorem loo_split {C : List Rs} (h : lk1 C = none) : ∀ r ∈ C, r.kd = 2 → ∀ t ∈ r.tgs, firstsF C (namF t) ≠ none := by
  intro r hr h2 t ht hn
  obtain ⟨j, hj⟩ := List.getElem?_of_mem hr
  have := lookF_all h hj
  unfold looF at this
  rw [if_pos h2] at this
  unfold first1 at this
  rw [Option.map_eq_none_iff, List.findIdx?_eq_none_iff] at this
  have := this t ht
  rw [hn] at this
  cases this
theorem faults_any (w : World) (a : Option Addr) (n c : Nat) (os : List Rx) (hL : Lr w a os) (hn : os.length = n) (hs : n ≤ 4194304) :
    Calls Try.prog 31 #[.slice a n c] w fun e w' => FaE w (fltV (chkF (os.map Rx.toRs))) e w' := by
  refine faultOf_any w a n c os (lk1 (os.map Rx.toRs)) (lk2 (os.map Rx.toRs)) (lk3 (os.map Rx.toRs)) (lk4 (os.map Rx.toRs)) hL hn hs (fun _ _ W hW => dangling_any W a n c os (hL.below hW) hn hs) (fun _ _ _ W hW => hostTwice_any W a n c os (hL.below hW) hn hs) (fun _ _ _ W hW => misweighed_any W a n c os (hL.below hW) hn hs) (fun _ h64 h1 W hW => ringed_any W a n c os (hL.below hW) hn h64 (loo_split h1))
structure ChkG (C : List Rs) : Prop where
  ord : astF C = C.length
  len : C.length ≤ 64
  l1 : lk1 C = none
  l2 : lk2 C = none
  l3 : lk3 C = none
  l4 : lk4 C = none
theorem chk_zero {C : List Rs} (h : (chkF C).2.2 = 0) : chkF C = (0, 0, 0) ∧ ChkG C := by
  unfold chkF fltF at h ⊢
  by_cases h1 : astF C ≠ C.length
  · rw [if_pos h1] at h; cases h
  · rw [if_neg h1] at h ⊢
    by_cases h2 : 64 < C.length
    · rw [if_pos h2] at h; cases h
    · rw [if_neg h2] at h ⊢
      rcases e1 : lk1 C with _ | ⟨i, k⟩
      · rw [e1] at h
        rcases e2 : lk2 C with _ | ⟨i, k⟩
        · rw [e2] at h
          rcases e3 : lk3 C with _ | ⟨i, k⟩
          · rw [e3] at h
            rcases e4 : lk4 C with _ | ⟨i, k⟩
            · exact ⟨rfl, Classical.not_not.1 h1, by omega, e1, e2, e3, e4⟩
            · rw [e4] at h; cases h
          · rw [e3] at h; cases h
        · rw [e2] at h; cases h
      · rw [e1] at h; cases h
/-- what Check leaves -/
def ChE (w : World) (C : List Rs) (e : Ending) (w' : World) : Prop :=
  ((chkF C).2.2 ≠ 0 ∧ e = .returned (.tuple #[.slice none 0 0, fltV (chkF C)]) ∧ Below w.heap.size w w') ∨
  (chkF C = (0, 0, 0) ∧ ChkG C ∧ ∃ v, e = .returned (.tuple #[v, fltV (0, 0, 0)]) ∧ w'.ownsRow w.heap.size 44 3 v (wnC C C.length).length (rowsOf wRow (wnC C C.length)) ∧ Below w.heap.size w w')
theorem check_any (w : World) (a : Option Addr) (n c : Nat) (os : List Rx) (hL : Lr w a os) (hn : os.length = n) (hs : n ≤ 4194304) :
    Calls Try.prog 14 #[.slice a n c] w fun e w' => ChE w (os.map Rx.toRs) e w' := by
  have hF := fun W (hW : Below w.heap.size w W) => faults_any W a n c os (hL.below hW) hn hs
  by_cases h0 : (chkF (os.map Rx.toRs)).2.2 = 0
  · obtain ⟨e1, hg⟩ := chk_zero h0
    rw [e1] at hF
    have h64 : n ≤ 64 := by have := hg.len; rw [List.length_map, hn] at this; exact this
    refine (check_good w a n c (wnC (os.map Rx.toRs) n) hF (fun W hW => warnings_any W a n c os (hL.below hW) hn h64)).mono ?_
    rintro e w' ⟨v, rfl, h1, h2⟩
    exact .inr ⟨e1, hg, v, rfl, by rw [List.length_map, hn]; exact h1, h2⟩
  · refine (check_bad w a n c (chkF (os.map Rx.toRs)) h0 hF).mono ?_
    rintro e w' ⟨rfl, h2⟩
    exact .inl ⟨h0, rfl, h2⟩
end Go.Proofs.Ytmljljpldljpjaa
