import Derived.Test.YtmljljpldljpjaaBndR
import Derived.Test.YtmljljpldljpjaaBndA
import Derived.Test.YtmljljpldljpjaaSd
import Derived.Test.YtmljljpldljpjaaBndH
import Derived.Test.YtmljljpldljpjaaOu
import Derived.BigQuiet
/-
  The document's Depths.
-/
namespace Go.Proofs.Ytmljljpldljpjaa
open Go.RowKit
set_option linter.unusedVariables false
set_option linter.unusedSimpArgs false
set_option maxRecDepth 100000
def numV (x : Nat) : Value := .int .i64 x
def blkN (l : List Nat) : Obj := .cells (l.map numV).toArray 3 (0, 0)
theorem blkN_cell {W : World} {b : Nat} {l : List Nat} (h : W.heap[b]? = some (blkN l)) {i x : Nat} (hi : l[i]? = some x) : W.cell? ⟨b, i, none⟩ = some (.int .i64 x) := by
  unfold blkN at h
  rw [cell_block h]
  simp [hi, numV]
theorem blkN_frozen {W : World} {b : Nat} {l : List Nat} (h : W.heap[b]? = some (blkN l)) (i : Nat) : W.frozen? ⟨b, i, none⟩ = false := by
  unfold blkN at h
  simp [World.frozen?, h]
theorem blkN_set {W : World} {b : Nat} {l : List Nat} (h : W.heap[b]? = some (blkN l)) (i x : Nat) : (W.setCell ⟨b, i, none⟩ (.int .i64 x)).heap[b]? = some (blkN (l.set i x)) := by
  unfold blkN at h ⊢
  rw [heap_setCell_same W b i _ 3 (.int .i64 x) h]
  simp [numV, List.map_set]
/-- the depths behind so many rounds, resource by resource -/
def rowD (C : List Rs) (r : Nat) : List Nat := C.map (fun q => if q.kd = 2 then dR C r q.key else 0)
theorem rowD_len (C : List Rs) (r : Nat) : (rowD C r).length = C.length := by simp [rowD]
theorem rowD_at {C : List Rs} {r i : Nat} {q : Rs} (h : C[i]? = some q) : (rowD C r)[i]? = some (if q.kd = 2 then dR C r q.key else 0) := by simp [rowD, h]
theorem rowD_zero (C : List Rs) : rowD C 0 = List.replicate C.length 0 := by
  unfold rowD
  rw [List.map_eq_replicate_iff.2]
  intro q _
  split <;> rfl
/-- a row under way -/
def undR (l : List Nat) (i n : Nat) : List Nat := l.take i ++ List.replicate (n - i) 0
theorem undR_zero (l : List Nat) (n : Nat) : undR l 0 n = List.replicate n 0 := by simp [undR]
theorem undR_full {l : List Nat} {n : Nat} (h : l.length = n) : undR l n n = l := by simp [undR, ← h]
theorem undR_set {l : List Nat} {i n x : Nat} (h : l.length = n) (hi : l[i]? = some x) : (undR l i n).set i x = undR l (i + 1) n := by
  have hil := (List.getElem?_eq_some_iff.1 hi).1
  have hlen : (l.take i).length = i := by simp; omega
  unfold undR
  rw [List.set_append_right _ _ (by omega), hlen, Nat.sub_self, take_snoc hi, List.append_assoc]
  rw [show n - i = (n - (i + 1)) + 1 by omega, List.replicate_succ]
  rfl
theorem undR_skip {l : List Nat} {i n : Nat} (h : l.length = n) (hi : l[i]? = some 0) : undR l i n = undR l (i + 1) n := by
  have hil := (List.getElem?_eq_some_iff.1 hi).1
  unfold undR
  rw [take_snoc hi, List.append_assoc, show n - i = (n - (i + 1)) + 1 by omega, List.replicate_succ]
  rfl
theorem undR_at {l : List Nat} {i n : Nat} (h : l.length = n) (hi : i < n) : ∃ y, (undR l i n)[i]? = some y := by
  unfold undR
  have hlen : (l.take i).length = i := by simp; omega
  rw [List.getElem?_append_right (by omega), hlen, Nat.sub_self]
  exact ⟨0, by rw [show n - i = (n - (i + 1)) + 1 by omega, List.replicate_succ]; rfl⟩
/-- a split's targets under way: the number so far -/
def MxI (f : Ky → Nat) (l : List Tg) (k x : Nat) : Prop := mxF f l 0 = if x = 0 then 0 else mxF f (l.drop k) (x - 1)
theorem MxI.skip {f : Ky → Nat} {l : List Tg} {k x : Nat} {t : Tg} (h : MxI f l k x) (ht : l[k]? = some t) (h2 : (namF t).1 ≠ 2) : MxI f l (k + 1) x := by
  obtain ⟨hk, e⟩ := List.getElem?_eq_some_iff.1 ht
  unfold MxI at h ⊢
  rw [h]
  by_cases h0 : x = 0
  · rw [if_pos h0, if_pos h0]
  · rw [if_neg h0, if_neg h0, List.drop_eq_getElem_cons hk, e]
    show (if (namF t).1 = 2 then _ else _) = _
    rw [if_neg h2]
theorem MxI.zero {f : Ky → Nat} {l : List Tg} {k x : Nat} {t : Tg} (ht : l[k]? = some t) (h2 : (namF t).1 = 2) (h0 : f (namF t) = 0) : MxI f l (k + 1) 0 := by
  unfold MxI
  rw [if_pos rfl]
  exact mxF_zero (List.mem_of_getElem? ht) h2 h0
theorem MxI.take {f : Ky → Nat} {l : List Tg} {k x : Nat} {t : Tg} (h : MxI f l k x) (hx : x ≠ 0) (ht : l[k]? = some t) (h2 : (namF t).1 = 2) (h0 : f (namF t) ≠ 0) : MxI f l (k + 1) (max x (f (namF t) + 1)) := by
  obtain ⟨hk, e⟩ := List.getElem?_eq_some_iff.1 ht
  unfold MxI at h ⊢
  rw [h, if_neg hx, if_neg (by omega), List.drop_eq_getElem_cons hk, e]
  show (if (namF t).1 = 2 then (if f (namF t) = 0 then 0 else mxF f (l.drop (k + 1)) (max (x - 1) (f (namF t)))) else _) = _
  rw [if_pos h2, if_neg h0]
  congr 1
  omega
theorem MxI.done {f : Ky → Nat} {l : List Tg} {k x : Nat} (h : MxI f l k x) (hk : x = 0 ∨ l.length ≤ k) : mxF f l 0 = x := by
  unfold MxI at h
  rw [h]
  by_cases h0 : x = 0
  · rw [if_pos h0, h0]
  · rw [if_neg h0]
    rcases hk with hk | hk
    · exact absurd hk h0
    · rw [List.drop_of_length_le hk]; show x - 1 + 1 = x; omega
theorem made_num {w1 : World} {base g n : Nat} (h : w1.ownsRow base 3 1 (.slice (some ⟨g, 0, none⟩) n n) n (madeCells (Value.int .i64 0).cells (n * 1)).toList) : w1.heap[g]? = some (blkN (List.replicate n 0)) := by
  rw [made_blk h, plc_zero]
  unfold blkN
  simp [numV]
/-- what Depths leaves -/
def DpE (w : World) (C : List Rs) (n : Nat) (e : Ending) (w' : World) : Prop := ∃ b, e = .returned (.slice (some ⟨b, 0, none⟩) n n) ∧ w'.heap[b]? = some (blkN (rowD C 8)) ∧ Below w.heap.size w w'
set_option maxHeartbeats 64000000 in
theorem depths_any (w : World) (a : Option Addr) (n c : Nat) (os : List Rx) (hL : Lr w a os) (hn : os.length = n) (hs : n ≤ 64) (hks : KS (os.map Rx.toRs)) (hnl : ∀ r ∈ os.map Rx.toRs, r.kd = 2 → ∀ t ∈ r.tgs, firstsF (os.map Rx.toRs) (namF t) ≠ none) :
    Calls Try.prog 34 #[.slice a n c] w fun e w' => DpE w (os.map Rx.toRs) n e w' := by
  have HL := hideL hL
  have HN := hideL hn
  have HKS := hideL hks
  have HNL := hideL hnl
  have HCL : Hid ((os.map Rx.toRs).length = n) := by unfold Hid; rw [List.length_map]; exact hn
  clear hL hn hks hnl
  obtain ⟨i3, hi3, hy0, hy1, hy2⟩ := info_parts Try.info3
  go_enter Try.func34, Try.ntmps34
  go_wp2_with (at_make; refine wpList_make_full _ rfl (.tmp 12) (.tmp 12) 54 rfl w.heap.size 3 i3 (.int .i64 0) 1 Try.underlying54 hi3 hy0 hy1 .i64 .i64 n n n rfl rfl rfl rfl (by rw [hy2]; omega) (by unfold maxLen; omega) (Nat.le_refl _) ?_; intro w1 hown1 hgrow1; have HP1 : Hid (w1.heap[w.heap.size]? = some (blkN (List.replicate n 0))) := made_num hown1; have HG1 : Hid (Below w.heap.size w w1) := (Below.refl _ _).grown hgrow1 (Nat.le_refl _) (fun k h => by cases h); clear hown1 hgrow1)
  go_loopw [3, 4] (fun v t wr => ∃ (r b : Nat), v = .slice (some ⟨b, 0, none⟩) n n ∧ t = .int .i64 r ∧ r ≤ 8 ∧ w.heap.size ≤ b ∧ wr.heap[b]? = some (blkN (rowD (os.map Rx.toRs) r)) ∧ Below w.heap.size w wr) (fun _ t _ => 8 - (intOf t).toNat)
  case atStart => exact ⟨0, w.heap.size, rfl, rfl, by omega, Nat.le_refl _, by rw [rowD_zero, HCL.out]; exact HP1.out, HG1.out⟩
  case round =>
    obtain ⟨r, b, rfl, rfl, hr, hbw, hblk, hbel⟩ := hrel
    rename World => wo
    have HBK := hideL hblk
    have HB := hideL hbel
    clear hblk hbel HP1 HG1
    have r0 : (0 : Int) ≤ r := by omega
    by_cases h3 : r < 8
    · have h3' : (r : Int) < 8 := by omega
      go_wp2_with (at_make; refine wpList_make_full _ rfl (.tmp 19) (.tmp 19) 54 rfl wo.heap.size 3 i3 (.int .i64 0) 1 Try.underlying54 hi3 hy0 hy1 .i64 .i64 n n n rfl rfl rfl rfl (by rw [hy2]; omega) (by unfold maxLen; omega) (Nat.le_refl _) ?_; intro w2 hown1 hgrow1; have HP2 : Hid (w2.heap[wo.heap.size]? = some (blkN (List.replicate n 0))) := made_num hown1; have HG2 : Hid (Below wo.heap.size wo w2) := (Below.refl _ _).grown hgrow1 (Nat.le_refl _) (fun k h => by cases h); clear hown1 hgrow1)
      obtain ⟨b2, hb2⟩ : ∃ X, wo.heap.size = X := ⟨_, rfl⟩
      have hbb : b < b2 := by have := lt_of_block HBK.out; omega
      have hwb : w.heap.size ≤ b2 := by have := HB.out.size; omega
      rw [hb2] at HP2
      rw [hb2]
      have HBK2 := hideL (HG2.out.cells HBK.out)
      have HB2 := hideL (HB.out.trans (HG2.out.mono HB.out.size))
      clear hb2
      go_loopw [6] (fun t ws => ∃ (i : Nat), t = .int .i64 i ∧ i ≤ n ∧ ws.heap[b]? = some (blkN (rowD (os.map Rx.toRs) r)) ∧ ws.heap[b2]? = some (blkN (undR (rowD (os.map Rx.toRs) (r + 1)) i n)) ∧ Below w.heap.size w ws) (fun t _ => n - (intOf t).toNat)
      case atStart => exact ⟨0, rfl, by omega, HBK2.out, by rw [undR_zero]; exact HP2.out, HB2.out⟩
      case round =>
        clear HBK2 HP2 HB2 HG2 HBK HB
        obtain ⟨i, rfl, hi, hblk, hund, hbel⟩ := hrel
        rename World => wp
        have HBK := hideL hblk
        have HUN := hideL hund
        have HB := hideL hbel
        clear hblk hund hbel
        have i0 : (0 : Int) ≤ i := by omega
        by_cases h4 : i < n
        · have h4' : (i : Int) < n := by omega
          rcases hki : os[i]? with _ | o
          · have := List.getElem?_eq_none_iff.1 hki; have := HN.out; omega
          have HKI : Hid ((os.map Rx.toRs)[i]? = some o.toRs) := by unfold Hid; simp [hki]
          have HOI := hideL hki
          have HRO := hideL (HL.out.each o (List.mem_of_getElem? hki))
          obtain ⟨g, off, rfl, d0, -, -, d3, -⟩ := (HL.out.row.below HB.out).cells hki
          have HRW := hideL (rowD_at (r := r + 1) HKI.out)
          have HRL : Hid ((rowD (os.map Rx.toRs) (r + 1)).length = n) := by unfold Hid; rw [rowD_len]; exact HCL.out
          clear hki
          by_cases hk2 : o.kd = 2
          · have hk2' : (o.kd != 2) = false := by simp [hk2]
            have HK2 := hideL hk2
            have HTG : Hid (tgF (os.map Rx.toRs) o.toRs.key = o.tgs) := tgF_at (ks_first HKS.out HKI.out) HKI.out
            have hlt := HRO.out.lt
            clear hk2
            go_wp2_with fail
            clear d0 d3
            go_loopw [7, 8] (fun v t ws => ∃ (k x : Nat), v = .int .i64 x ∧ t = .int .i64 k ∧ k ≤ o.tgs.length ∧ x ≤ 9 ∧ Gr wp ws ∧ Hid (MxI (dR (os.map Rx.toRs) r) o.tgs k x)) (fun v t _ => o.tgs.length - (intOf t).toNat)
            case atStart => exact ⟨0, 1, rfl, rfl, by omega, by omega, Gr.refl _, rfl⟩
            case round =>
              obtain ⟨k, x, rfl, rfl, hk, hx9, hgr, HMX⟩ := hrel
              have HG := hideL hgr
              clear hgr
              have HBR := hideL (HB.out.trans (HG.out.below.mono HB.out.size))
              have HBKR := hideL (HG.out.below.cells HBK.out)
              have HUNR := hideL (HG.out.below.cells HUN.out)
              obtain ⟨g', off', e', d0, -, -, d3, -⟩ := (HL.out.row.below HBR.out).cells HOI.out
              cases e'
              have k0 : (0 : Int) ≤ k := by omega
              have x0 : (0 : Int) ≤ x := by omega
              have HEX : Hid (x = 0 ∨ o.tgs.length ≤ k → Hid (wr.heap[b2]? = some (blkN (undR (rowD (os.map Rx.toRs) (r + 1)) i n))) → (wr.setCell ⟨b2, i, none⟩ (.int .i64 x)).heap[b2]? = some (blkN (undR (rowD (os.map Rx.toRs) (r + 1)) (i + 1) n))) := fun hx hu => by
                rw [blkN_set hu.out i x, undR_set HRL.out]
                rw [HRW.out, if_pos HK2.out]
                show some (mxF (dR _ r) (tgF _ o.toRs.key) 0) = _
                rw [HTG.out, HMX.out.done hx]
              obtain ⟨yb, hyb⟩ := undR_at HRL.out h4
              have f0 := blkN_cell HUNR.out hyb
              have f1 := blkN_frozen HUNR.out i
              by_cases hk3 : k < o.tgs.length
              · have hk3' : (k : Int) < o.tgs.length := by omega
                by_cases hx0 : x = 0
                · subst hx0
                  have HE2 := hideL (HEX.out (Or.inl rfl) HUNR)
                  go_wp2_with fail
                  go_roundw
                  case rel => exact ⟨i + 1, by go_num, by omega, ((But.set _ _).block _ (lt_of_block HBKR.out) (by omega)).trans HBKR.out, HE2.out, HBR.out.trans ((But.set _ _).below HBR.out.size hwb)⟩
                  case measure => simp [intOf]; omega
                · have hx1 : (0 : Int) < x := by omega
                  rcases hki : o.tgs[k]? with _ | t
                  · have := List.getElem?_eq_none_iff.1 hki; omega
                  obtain ⟨g2, off2, hta, c0, c1, c2⟩ := (HRO.out.ts.below HBR.out).tcells hki
                  have HKT := hideL hki
                  rw [hta] at d3
                  clear hki hta
                  obtain ⟨w3, hw3⟩ : ∃ X, wr.alloc (.cells #[.string t.sv, .string t.sp, .float .f64 t.wt] 57 (0, 0)) = X := ⟨_, rfl⟩
                  have HG3 : Hid (Gr wr w3) := by rw [← hw3]; exact Gr.alloc _ _
                  obtain ⟨b0, b1, b3⟩ : w3.cell? ⟨wr.heap.size, 0, none⟩ = some (.string t.sv) ∧ w3.cell? ⟨wr.heap.size, 1, none⟩ = some (.string t.sp) ∧ w3.cell? ⟨wr.heap.size, 2, none⟩ = some (.float .f64 t.wt) := by
                    rw [← hw3]
                    refine ⟨?_, ?_, ?_⟩ <;> (rw [cell_block (heap_alloc_new wr _)]; rfl)
                  have HBW := hideL (HBR.out.trans (HG3.out.below.mono HBR.out.size))
                  have HBK3 := hideL (HG3.out.below.cells HBKR.out)
                  have st := st_float
                  cases he : t.sv.toList.isEmpty
                  · have HNK : Hid (namF t = (1, t.sv)) := by unfold Hid namF; rw [if_neg (fun h => by rw [h] at he; simp [ByteArray.toList_eq] at he)]
                    have HMX2 : Hid (MxI (dR (os.map Rx.toRs) r) o.tgs (k + 1) x) := HMX.out.skip HKT.out (by rw [HNK.out]; show (1 : Int) ≠ 2; decide)
                    clear f0 f1
                    go_wp2_with fail
                    go_roundw
                    case rel => exact ⟨k + 1, x, rfl, by go_num, by omega, hx9, HG.out.trans HG3.out, HMX2⟩
                    case measure => simp [intOf]; omega
                  · have HNK : Hid (namF t = (2, t.sp)) := by unfold Hid namF; rw [if_pos (ba_toList_inj (by rw [List.isEmpty_iff.1 he]; simp [ByteArray.toList_eq]))]
                    rcases hfi : firstsF (os.map Rx.toRs) (2, t.sp) with _ | j
                    · exact absurd (by rw [HNK.out]; exact hfi) (HNL.out o.toRs (List.mem_of_getElem? HKI.out) HK2.out t (List.mem_of_getElem? HKT.out))
                    obtain ⟨q, hq, hqk⟩ := firstsF_get hfi
                    have hjn : j < n := by have := (List.getElem?_eq_some_iff.1 hq).1; have := HCL.out; omega
                    have j0 : ¬ (j : Int) < 0 := by omega
                    have HFD : Hid (Calls Try.prog 28 #[.slice (some ⟨g, off, none⟩) n c, .int .i64 2, .string t.sp] w3 fun e w' => e = .returned (.int .i64 j) ∧ w' = w3) := by
                      have := find_any w3 (some ⟨g, off, none⟩) n c os 2 t.sp HN.out (by omega) (HL.out.row.below HBW.out)
                      unfold findI at this
                      rw [hfi] at this
                      exact this
                    obtain ⟨y, hy⟩ : ∃ y, dR (os.map Rx.toRs) r (2, t.sp) = y := ⟨_, rfl⟩
                    have hy8 : y ≤ 7 := by have := dR_le (os.map Rx.toRs) r (2, t.sp); omega
                    have HQ : Hid ((rowD (os.map Rx.toRs) r)[j]? = some y) := by
                      unfold Hid
                      rw [rowD_at hq, hqk, if_pos (by have := congrArg Prod.fst hqk; exact this), hy]
                    have y0 := blkN_cell HBK3.out HQ.out
                    have HY := hideL hy
                    clear hy hq hqk hfi f0 f1
                    by_cases hyz : y = 0
                    · subst hyz
                      have HMX2 : Hid (MxI (dR (os.map Rx.toRs) r) o.tgs (k + 1) 0) := MxI.zero (x := x) HKT.out (by rw [HNK.out]) (by rw [HNK.out]; exact HY.out)
                      go_wp2_with (go_at_call 28; refine HFD.out.mono ?_; rintro e w4 ⟨rfl, hw⟩; have hw := hw.symm; subst hw)
                      go_roundw
                      case rel => exact ⟨k + 1, 0, rfl, by go_num, by omega, by omega, HG.out.trans HG3.out, HMX2⟩
                      case measure => simp [intOf]; omega
                    · have hyb2 : ((y : Int) == 0) = false := by simpa using hyz
                      have HMX2 : Hid (MxI (dR (os.map Rx.toRs) r) o.tgs (k + 1) (max x (y + 1))) := by
                        have := HMX.out.take hx0 HKT.out (by rw [HNK.out]) (by rw [HNK.out, HY.out]; exact hyz)
                        rw [HNK.out, HY.out] at this
                        exact this
                      by_cases hyx : x < y + 1
                      · have hyx' : (x : Int) < (y : Int) + 1 := by omega
                        rw [show max x (y + 1) = y + 1 by omega] at HMX2
                        go_wp2_with (go_at_call 28; refine HFD.out.mono ?_; rintro e w4 ⟨rfl, hw⟩; have hw := hw.symm; subst hw)
                        go_roundw
                        case rel => exact ⟨k + 1, y + 1, by go_num, by go_num, by omega, by omega, HG.out.trans HG3.out, HMX2⟩
                        case measure => simp [intOf]; omega
                      · have hyx' : ¬ (x : Int) < (y : Int) + 1 := by omega
                        rw [show max x (y + 1) = x by omega] at HMX2
                        go_wp2_with (go_at_call 28; refine HFD.out.mono ?_; rintro e w4 ⟨rfl, hw⟩; have hw := hw.symm; subst hw)
                        go_roundw
                        case rel => exact ⟨k + 1, x, rfl, by go_num, by omega, hx9, HG.out.trans HG3.out, HMX2⟩
                        case measure => simp [intOf]; omega
              · have hk3' : ¬ (k : Int) < o.tgs.length := by omega
                have HE2 := hideL (HEX.out (Or.inr (by omega)) HUNR)
                go_wp2_with fail
                go_roundw
                case rel => exact ⟨i + 1, by go_num, by omega, ((But.set _ _).block _ (lt_of_block HBKR.out) (by omega)).trans HBKR.out, HE2.out, HBR.out.trans ((But.set _ _).below HBR.out.size hwb)⟩
                case measure => simp [intOf]; omega
          · have hk2' : (o.kd != 2) = true := by simpa using hk2
            have HUN2 : Hid (wp.heap[b2]? = some (blkN (undR (rowD (os.map Rx.toRs) (r + 1)) (i + 1) n))) := by
              unfold Hid
              rw [← undR_skip HRL.out (by rw [HRW.out, if_neg hk2])]
              exact HUN.out
            clear hk2
            go_wp2_with fail
            go_roundw
            case rel => exact ⟨i + 1, by go_num, by omega, HBK.out, HUN2.out, HB.out⟩
            case measure => simp [intOf]; omega
        · have h4' : ¬ (i : Int) < n := by omega
          have HFU : Hid (wp.heap[b2]? = some (blkN (rowD (os.map Rx.toRs) (r + 1)))) := by
            have := HUN.out
            rw [show i = n by omega, undR_full (by rw [rowD_len]; exact HCL.out)] at this
            exact this
          go_wp2_with fail
          go_roundw
          case rel => exact ⟨r + 1, b2, rfl, by go_num, by omega, hwb, HFU.out, HB.out⟩
          case measure => simp [intOf]; omega
    · have h3' : ¬ (r : Int) < 8 := by omega
      obtain rfl : r = 8 := by omega
      go_wp2
      go_ret
      exact ⟨b, rfl, HBK.out, HB.out⟩
end Go.Proofs.Ytmljljpldljpjaa

/-
  The document's Check.
-/
namespace Go.Proofs.Ytmljljpldljpjaa
open Go.RowKit
set_option linter.unusedVariables false
set_option linter.unusedSimpArgs false
set_option maxRecDepth 100000
def f38 : Obj := .cells #[.int .i64 0, .int .i64 0, .int .i64 0] 38 (0, 0)
/-- what the document's Check leaves: a fault -/
def RfE (w : World) (x : Nat × Nat × Int) (e : Ending) (w' : World) : Prop := e = .returned (.tuple #[.slice none 0 0, fltV x]) ∧ Below w.heap.size w w'
/-- or the warnings -/
def RgE (w : World) (L : List Wg3) (e : Ending) (w' : World) : Prop := ∃ v, e = .returned (.tuple #[v, fltV (0, 0, 0)]) ∧ w'.ownsRow w.heap.size 45 3 v L.length (rowsOf wRow L) ∧ Below w.heap.size w w'
def RcE (w : World) (C : List Rs) (e : Ending) (w' : World) : Prop := if (chkF C).2.2 = 0 then RgE w (wnC C C.length) e w' else RfE w (chkF C) e w'
theorem rce_fault {w w' : World} {C : List Rs} {i k : Nat} {x : Int} (h : chkF C = (i, k, x)) (h0 : x ≠ 0) (hb : Below w.heap.size w w') : RcE w C (.returned (.tuple #[.slice none 0 0, .agg #[.int .i64 i, .int .i64 k, .int .i64 x]])) w' := by
  unfold RcE
  rw [h, if_neg h0]
  exact ⟨rfl, hb⟩
theorem box4 {W : World} {b : Nat} {x0 x1 x2 x3 : Value} {t : TypeId} (h : W.heap[b]? = some (.cells #[x0, x1, x2, x3] t (0, 0))) : W.cell? ⟨b, 0, none⟩ = some x0 ∧ W.cell? ⟨b, 1, none⟩ = some x1 ∧ W.cell? ⟨b, 2, none⟩ = some x2 ∧ W.cell? ⟨b, 3, none⟩ = some x3 := by
  refine ⟨?_, ?_, ?_, ?_⟩ <;> (rw [cell_block h]; rfl)
theorem info45 : (Try.prog.info? 45).map (fun i => (i.zero, i.size, i.bytes)) = some (some (.agg #[.int .i64 0, .int .i64 0, .int .i64 0]), 3, 24) := by kernel_rfl
theorem arith14 (op : BinOp) (x y : Nat) (w : World) (hop : op = .add ∨ op = .sub ∨ op = .quo) : ∃ r q, (binOp op 55 (.float .f64 x) (.float .f64 y)).run Try.prog w = .ok (.float .f64 r) (w.drewN q) := by
  cases h : floatBits op .f64 x y with
  | none =>
    unfold floatBits at h
    refine ⟨(Question.nanBits .f64 x y).cut (w.tape w.drawn (.nanBits .f64 x y)), 1, ?_⟩
    rcases hop with rfl | rfl | rfl
    all_goals
      simp only at h
      simp [binOp, Op.floatArith, h, Question.forced, World.drewN]
  | some r => exact ⟨r, 0, by rw [run_float_arith w op 55 .f64 x y r h]; simp [World.drewN]⟩
set_option maxHeartbeats 64000000 in
theorem rcheck_any (w : World) (a : Option Addr) (n c : Nat) (os : List Rx) (hL : Lr w a os) (hn : os.length = n) (hs : n ≤ 4194304) :
    Calls Try.prog 15 #[.slice a n c] w fun e w' => RcE w (os.map Rx.toRs) e w' := by
  have HL := hideL hL
  have HN := hideL hn
  have HCL : Hid ((os.map Rx.toRs).length = n) := by unfold Hid; rw [List.length_map]; exact hn
  have HOU := hideL (fun W (hW : Below w.heap.size w W) => out_any W a n c os (hL.below hW) hn hs)
  clear hL hn
  obtain ⟨w1, hw1⟩ : ∃ X, w.alloc f38 = X := ⟨_, rfl⟩
  have HB1 : Hid (Below w.heap.size w w1) := by rw [← hw1]; exact (Gr.alloc _ _).below
  have HX1 : Hid (w1.heap[w.heap.size]? = some f38) := by rw [← hw1]; exact heap_alloc_new w _
  unfold f38 at hw1
  obtain ⟨B, hB⟩ : ∃ B, w.heap.size = B := ⟨_, rfl⟩
  rw [hB] at HX1
  go_enter Try.func15, Try.ntmps15
  go_wp2_with fail
  refine (HOU.out w1 HB1.out).mono ?_
  rintro e w2 ⟨rfl, hg2⟩
  have HX2 := hideL (hg2.below.cells HX1.out)
  have HB2 := hideL (HB1.out.trans (hg2.below.mono HB1.out.size))
  clear hg2 hw1 HX1 HOU
  by_cases ha : astF (os.map Rx.toRs) = n
  · have HAS := hideL ha
    have ho : outI (os.map Rx.toRs) = -1 := by unfold outI; rw [if_pos (by rw [HCL.out]; exact ha)]
    rw [ho]
    clear ho ha
    by_cases h64 : n ≤ 64
    · have h64' : ¬ (64 : Int) < n := by omega
      go_wp2_with fail
      go_loopw [5] (fun t wr => ∃ (i : Nat), t = .int .i64 i ∧ i ≤ n ∧ wr.heap[B]? = some f38 ∧ Below w.heap.size w wr ∧ Hid (∀ (j : Nat) (x : Rs), j < i → (os.map Rx.toRs)[j]? = some x → looF (os.map Rx.toRs) x = none)) (fun t _ => n - (intOf t).toNat)
      case atStart => exact ⟨0, rfl, by omega, HX2.out, HB2.out, fun j y hj => by omega⟩
      case round =>
        clear HX2 HB2 HB1
        obtain ⟨i, rfl, hi, hx, hb, HF⟩ := hrel
        rename World => wr
        have HX := hideL hx
        have HB := hideL hb
        clear hx hb
        have i0 : (0 : Int) ≤ i := by omega
        by_cases h3 : i < n
        · have h3' : (i : Int) < n := by omega
          rcases hki : os[i]? with _ | o
          · have := List.getElem?_eq_none_iff.1 hki; have := HN.out; omega
          have HKI : Hid ((os.map Rx.toRs)[i]? = some o.toRs) := by unfold Hid; simp [hki]
          have HRO := hideL ((HL.out.each o (List.mem_of_getElem? hki)).below HB.out)
          obtain ⟨g, off, ea, d0, d1, d2, d3, d4, d5, d6, d7⟩ := (HL.out.row.below HB.out).cells hki
          subst ea
          clear hki
          have HDA := hideL (rdangling_any wr (some ⟨g, off, none⟩) n c os o (HL.out.below HB.out) HN.out hs HRO.out)
          go_wp2_with fail
          refine HDA.out.mono ?_
          rintro e w4 ⟨rfl, hg4⟩
          have HX4 := hideL (hg4.below.cells HX.out)
          have HB4 := hideL (HB.out.trans (hg4.below.mono HB.out.size))
          clear hg4 HDA d0 d1 d2 d3 d4 d5 d6 d7 HX HB
          rcases hlo : looF (os.map Rx.toRs) o.toRs with _ | k
          · have HLO := hideL hlo
            clear hlo
            simp only [danI]
            go_wp2_with fail
            go_roundw
            case rel => exact ⟨i + 1, by go_num, by omega, HX4.out, HB4.out, fun j y hj hy => by
              by_cases hji : j < i
              · exact HF.out j y hji hy
              · obtain rfl : j = i := by omega
                rw [HKI.out] at hy; cases hy; exact HLO.out⟩
            case measure => simp [intOf]; omega
          · have HCH : Hid (chkF (os.map Rx.toRs) = (i, k, 140)) := by
              unfold Hid chkF fltF
              rw [if_neg (by rw [HAS.out, HCL.out]; exact fun h => h rfl), if_neg (by rw [HCL.out]; omega), show lk1 (os.map Rx.toRs) = some (i, k) from lookF_stop HF.out HKI.out hlo]
              rfl
            clear hlo HF
            have k0' : (0 : Int) ≤ k := by omega
            simp only [danI]
            obtain ⟨⟨f0, f1, f2⟩, ⟨g0, g1, g2⟩, ⟨k0, k1, k2⟩, hbut, hlast⟩ := set3 HX4.out (.int .i64 i) (.int .i64 k) (.int .i64 140)
            have HBT := hideL hbut
            clear hbut hlast
            go_wp2
            refine bodyPost_ret (v := .tuple #[.slice none 0 0, .agg #[.int .i64 i, .int .i64 k, .int .i64 140]]) (by simp [results, Try.results15, go_sem, k0, k1, k2]) rfl ?_
            exact rce_fault HCH.out (by decide) (HB4.out.trans (HBT.out.below HB4.out.size (by omega)))
        · have h3' : ¬ (i : Int) < n := by omega
          have HK1 : Hid (lk1 (os.map Rx.toRs) = none) := lookF_none (fun j x hx => HF.out j x (by have := (List.getElem?_eq_some_iff.1 hx).1; have := HCL.out; omega) hx)
          clear HF
          go_wp2_with fail
          go_loopw [7] (fun t wr => ∃ (i : Nat), t = .int .i64 i ∧ i ≤ n ∧ wr.heap[B]? = some f38 ∧ Below w.heap.size w wr ∧ Hid (∀ (j : Nat) (x : Rs), j < i → (os.map Rx.toRs)[j]? = some x → hstF (os.map Rx.toRs) j x = none)) (fun t _ => n - (intOf t).toNat)
          case atStart => exact ⟨0, rfl, by omega, HX.out, HB.out, fun j y hj => by omega⟩
          case round =>
            clear HX HB h3 h3' hi i0
            obtain ⟨i, rfl, hi, hx, hb, HF⟩ := hrel
            rename World => wr
            have HX := hideL hx
            have HB := hideL hb
            clear hx hb
            have i0 : (0 : Int) ≤ i := by omega
            by_cases h3 : i < n
            · have h3' : (i : Int) < n := by omega
              rcases hki : os[i]? with _ | o
              · have := List.getElem?_eq_none_iff.1 hki; have := HN.out; omega
              have HKI : Hid ((os.map Rx.toRs)[i]? = some o.toRs) := by unfold Hid; simp [hki]
              have HOI := hideL hki
              clear hki
              go_wp2_with fail
              rename World => wo
              go_loopw [8] (fun t ws => ∃ (k : Nat), t = .int .i64 k ∧ k ≤ i ∧ Gr wo ws ∧ Hid (o.kd = 3 → ∀ (j : Nat) (q : Rs), j < k → (os.map Rx.toRs)[j]? = some q → q.kd = 3 → q.host ≠ o.host)) (fun t _ => i - (intOf t).toNat)
              case atStart => exact ⟨0, rfl, by omega, Gr.refl _, fun _ j y hj => by omega⟩
              case round =>
                obtain ⟨k, rfl, hk, hgr, HFK⟩ := hrel
                have HGS := hideL hgr
                have HBS := hideL (HB.out.trans (hgr.below.mono HB.out.size))
                have HXS := hideL (hgr.below.cells HX.out)
                clear hgr
                have k0 : (0 : Int) ≤ k := by omega
                by_cases h5 : k < i
                · have h5' : (k : Int) < i := by omega
                  have h6 : k < n := by omega
                  have h6' : (k : Int) < n := by omega
                  rcases hkk : os[k]? with _ | q
                  · have := List.getElem?_eq_none_iff.1 hkk; have := HN.out; omega
                  have HKK : Hid ((os.map Rx.toRs)[k]? = some q.toRs) := by unfold Hid; simp [hkk]
                  obtain ⟨g, off, ea, d0, -, -, -, d4, -⟩ := (HL.out.row.below HBS.out).cells HOI.out
                  obtain ⟨g', off', eb, e0, -, -, -, e4, -⟩ := (HL.out.row.below HBS.out).cells hkk
                  subst ea
                  cases eb
                  clear hkk
                  have HNX : Hid (¬ (o.kd = 3 ∧ q.kd = 3 ∧ q.host = o.host) → Hid (o.kd = 3 → ∀ (j : Nat) (x : Rs), j < k + 1 → (os.map Rx.toRs)[j]? = some x → x.kd = 3 → x.host ≠ o.host)) := fun hno h3 j x hj hx hx3 hh => by
                    by_cases hjk : j < k
                    · exact HFK.out h3 j x hjk hx hx3 hh
                    · obtain rfl : j = k := by omega
                      rw [HKK.out] at hx; cases hx; exact hno ⟨h3, hx3, hh⟩
                  by_cases q1 : o.kd = 3
                  · have q1' : (o.kd == 3) = true := by simp [q1]
                    have HQ1 := hideL q1
                    clear q1
                    by_cases q2 : q.kd = 3
                    · have q2' : (q.kd == 3) = true := by simp [q2]
                      have HQ2 := hideL q2
                      clear q2
                      by_cases q3 : o.host = q.host
                      · have HCH : Hid (chkF (os.map Rx.toRs) = (i, 0, 141)) := by
                          unfold Hid chkF fltF
                          rw [if_neg (by rw [HAS.out, HCL.out]; exact fun h => h rfl), if_neg (by rw [HCL.out]; omega), HK1.out, show lk2 (os.map Rx.toRs) = some (i, 0) from lookF_stop HF.out HKI.out (hst_some HQ1.out (List.mem_of_getElem? (by rw [List.getElem?_take_of_lt h5]; exact HKK.out)) HQ2.out q3.symm)]
                          rfl
                        rw [q3] at d4
                        clear q3 HNX
                        go_wp2_with fail
                        go_quiet (fail)
                        obtain ⟨wq, hwq⟩ : ∃ X, wr.drewN nq = X := ⟨_, rfl⟩
                        have hgq : Gr wr wq := by rw [← hwq]; exact Gr.drewN _ _
                        have HXQ := hideL (hgq.below.cells HXS.out)
                        have HBQ := hideL (HBS.out.trans (hgq.below.mono HBS.out.size))
                        rw [hwq]
                        clear hwq hgq
                        obtain ⟨⟨f0, f1, f2⟩, ⟨g0, g1, g2⟩, ⟨k0, k1, k2⟩, hbut, hlast⟩ := set3 HXQ.out (.int .i64 i) (.int .i64 0) (.int .i64 141)
                        have HBT := hideL hbut
                        clear hbut hlast
                        go_wp2
                        refine bodyPost_ret (v := .tuple #[.slice none 0 0, .agg #[.int .i64 i, .int .i64 0, .int .i64 141]]) (by simp [results, Try.results15, go_sem, k0, k1, k2]) rfl ?_
                        exact rce_fault HCH.out (by decide) (HBQ.out.trans (HBT.out.below HBQ.out.size (by omega)))
                      · have q3' := ba_ne q3
                        have HQ3 := hideL q3
                        clear q3
                        go_wp2_with fail
                        go_quiet (fail)
                        go_wp2_with fail
                        go_roundw
                        case rel => exact ⟨k + 1, by go_num, by omega, HGS.out.trans (Gr.drewN _ _), HNX.out (fun h => HQ3.out h.2.2.symm)⟩
                        case measure => simp [intOf]; omega
                    · have q2' : (q.kd == 3) = false := by simpa using q2
                      have HQ2 := hideL q2
                      clear q2
                      go_wp2_with fail
                      go_quiet (fail)
                      go_wp2_with fail
                      go_roundw
                      case rel => exact ⟨k + 1, by go_num, by omega, HGS.out.trans (Gr.drewN _ _), HNX.out (fun h => HQ2.out h.2.1)⟩
                      case measure => simp [intOf]; omega
                  · have q1' : (o.kd == 3) = false := by simpa using q1
                    have HQ1 := hideL q1
                    clear q1
                    go_wp2_with fail
                    go_quiet (fail)
                    go_wp2_with fail
                    go_roundw
                    case rel => exact ⟨k + 1, by go_num, by omega, HGS.out.trans (Gr.drewN _ _), HNX.out (fun h => HQ1.out h.1)⟩
                    case measure => simp [intOf]; omega
                · have h5' : ¬ (k : Int) < i := by omega
                  go_wp2_with fail
                  go_roundw
                  case rel => exact ⟨i + 1, by go_num, by omega, HXS.out, HBS.out, fun j y hj hy => by
                    by_cases hji : j < i
                    · exact HF.out j y hji hy
                    · obtain rfl : j = i := by omega
                      rw [HKI.out] at hy; cases hy
                      refine hst_none fun h3 q hq hq3 => ?_
                      obtain ⟨m, hm⟩ := List.getElem?_of_mem hq
                      have hml := (List.getElem?_eq_some_iff.1 hm).1
                      rw [List.length_take] at hml
                      rw [List.getElem?_take_of_lt (by omega)] at hm
                      exact HFK.out h3 m q (by omega) hm hq3⟩
                  case measure => simp [intOf]; omega
            · have h3' : ¬ (i : Int) < n := by omega
              have HK2 : Hid (lk2 (os.map Rx.toRs) = none) := lookF_none (fun j x hx => HF.out j x (by have := (List.getElem?_eq_some_iff.1 hx).1; have := HCL.out; omega) hx)
              clear HF
              go_wp2_with fail
              go_loopw [9] (fun t wr => ∃ (i : Nat), t = .int .i64 i ∧ i ≤ n ∧ wr.heap[B]? = some f38 ∧ Below w.heap.size w wr ∧ Hid (∀ (j : Nat) (x : Rs), j < i → (os.map Rx.toRs)[j]? = some x → misF x = none)) (fun t _ => n - (intOf t).toNat)
              case atStart => exact ⟨0, rfl, by omega, HX.out, HB.out, fun j y hj => by omega⟩
              case round =>
                clear HX HB h3 h3' hi i0
                obtain ⟨i, rfl, hi, hx, hb, HF⟩ := hrel
                rename World => wr
                have HX := hideL hx
                have HB := hideL hb
                clear hx hb
                have i0 : (0 : Int) ≤ i := by omega
                by_cases h3 : i < n
                · have h3' : (i : Int) < n := by omega
                  rcases hki : os[i]? with _ | o
                  · have := List.getElem?_eq_none_iff.1 hki; have := HN.out; omega
                  have HKI : Hid ((os.map Rx.toRs)[i]? = some o.toRs) := by unfold Hid; simp [hki]
                  have HOI := hideL hki
                  have HRO := hideL (HL.out.each o (List.mem_of_getElem? hki))
                  obtain ⟨g, off, ea, d0, d1, d2, d3, d4, d5, d6, d7⟩ := (HL.out.row.below HB.out).cells hki
                  subst ea
                  obtain ⟨m, hm⟩ : ∃ m, o.tgs.length = m := ⟨_, rfl⟩
                  have HM := hideL hm
                  rw [hm] at d3
                  have hml : m ≤ 1048576 := by rw [← hm]; exact HRO.out.lt
                  clear hki hm d1 d2 d4 d5 d6 d7
                  have HD0 := hideL (fun (W : World) (h : Below wr.heap.size wr W) => cell_of_below h d0)
                  have HD3 := hideL (fun (W : World) (h : Below wr.heap.size wr W) => cell_of_below h d3)
                  go_wp2_with fail
                  rename World => wo
                  clear d0 d3
                  go_loopw [10, 11, 12] (fun s f t ws => ∃ (k T : Nat) (fb : Bool), s = .float .f64 T ∧ f = .bool fb ∧ t = .int .i64 k ∧ k ≤ m ∧ Gr wo ws ∧ Hid (fb = true → T = sumF (o.tgs.take k) ∧ ∀ (j : Nat) (y : Tg), j < k → o.tgs[j]? = some y → okW y.wt = true) ∧ Hid (fb = false → wgB o.tgs = false)) (fun _ _ t _ => m - (intOf t).toNat)
                  case atStart => exact ⟨0, 0, true, rfl, rfl, rfl, by omega, Gr.refl _, fun _ => ⟨rfl, fun j y h => by omega⟩, fun h => by cases h⟩
                  case round =>
                    obtain ⟨k, T, fb, rfl, rfl, rfl, hk, hgr, HT, HNF⟩ := hrel
                    have HGS := hideL hgr
                    have HBS := hideL (HB.out.trans (hgr.below.mono HB.out.size))
                    have HXS := hideL (hgr.below.cells HX.out)
                    have d0 := HD0.out _ hgr.below
                    have d3 := HD3.out _ hgr.below
                    clear hgr
                    have k0 : (0 : Int) ≤ k := by omega
                    by_cases h5 : k < m
                    · have h5' : (k : Int) < m := by omega
                      rcases hkt : o.tgs[k]? with _ | t
                      · have := List.getElem?_eq_none_iff.1 hkt; have := HM.out; omega
                      obtain ⟨g2, off2, hta, c0, c1, c2⟩ := (HRO.out.ts.below HBS.out).tcells hkt
                      have HKT := hideL hkt
                      rw [hta] at d3
                      clear hkt hta c0 c1
                      cases fb
                      · obtain ⟨r, qn, hadd⟩ := arith14 .add T t.wt wr (.inl rfl)
                        go_wp2_with fail
                        go_roundw
                        case rel => exact ⟨k + 1, r, false, rfl, rfl, by go_num, by omega, HGS.out.trans (Gr.drewN _ _), fun h => (by cases h), fun _ => HNF.out rfl⟩
                        case measure => simp [intOf]; omega
                      · obtain ⟨b1, hb1⟩ : ∃ b, (FloatKind.f64.format.order t.wt 0 == some .gt || FloatKind.f64.format.order t.wt 0 == some .eq) = b := ⟨_, rfl⟩
                        obtain ⟨b2, hb2⟩ : ∃ b, (FloatKind.f64.format.order t.wt 4636737291354636288 == some .lt || FloatKind.f64.format.order t.wt 4636737291354636288 == some .eq) = b := ⟨_, rfl⟩
                        have HOK : Hid (okW t.wt = (b1 && b2)) := by unfold Hid okW fge fle; rw [hb1, hb2]
                        cases b1
                        · obtain ⟨r, qn, hadd⟩ := arith14 .add T t.wt wr (.inl rfl)
                          go_wp2_with fail
                          go_roundw
                          case rel => exact ⟨k + 1, r, false, rfl, rfl, by go_num, by omega, HGS.out.trans (Gr.drewN _ _), fun h => (by cases h), fun _ => wgB_no HKT.out (by rw [HOK.out]; rfl)⟩
                          case measure => simp [intOf]; omega
                        · cases b2
                          · obtain ⟨r, qn, hadd⟩ := arith14 .add T t.wt wr (.inl rfl)
                            go_wp2_with fail
                            go_roundw
                            case rel => exact ⟨k + 1, r, false, rfl, rfl, by go_num, by omega, HGS.out.trans (Gr.drewN _ _), fun h => (by cases h), fun _ => wgB_no HKT.out (by rw [HOK.out]; rfl)⟩
                            case measure => simp [intOf]; omega
                          · have HO : Hid (okW t.wt = true) := HOK.out
                            have hadd : ∀ W : World, (binOp .add 55 (.float .f64 T) (.float .f64 t.wt)).run Try.prog W = .ok (.float .f64 (Fl.S T t.wt)) W := fun W => run_float_arith W .add 55 .f64 _ _ _ (Fl.add_S (by rw [(HT.out rfl).1]; exact sumF_le _) (okW_mb HO.out))
                            have HTN : Hid (Fl.S T t.wt = sumF (o.tgs.take (k + 1))) := by unfold Hid; rw [take_snoc HKT.out, sumF_snoc, (HT.out rfl).1]
                            generalize Fl.S T t.wt = T2 at hadd HTN
                            go_wp2_with fail
                            go_roundw
                            case rel => exact ⟨k + 1, T2, true, rfl, rfl, by go_num, by omega, HGS.out, fun _ => ⟨HTN.out, fun j y hj hy => by
                              by_cases hjk : j < k
                              · exact (HT.out rfl).2 j y hjk hy
                              · obtain rfl : j = k := by omega
                                rw [HKT.out] at hy; cases hy; exact HO.out⟩, fun h => by cases h⟩
                            case measure => simp [intOf]; omega
                    · have h5' : ¬ (k : Int) < m := by omega
                      have HNX : Hid (misF o.toRs = none → ∀ (j : Nat) (x : Rs), j < i + 1 → (os.map Rx.toRs)[j]? = some x → misF x = none) := fun h j x hj hx => by
                        by_cases hji : j < i
                        · exact HF.out j x hji hx
                        · obtain rfl : j = i := by omega
                          rw [HKI.out] at hx; cases hx; exact h
                      have hsub : ∀ W : World, (binOp .sub 55 (.float .f64 4636737291354636288) (.float .f64 4517110426252607488)).run Try.prog W = .ok (.float .f64 4636737291287527424) W := fun W => run_float_arith W .sub 55 .f64 _ _ _ (by decide +kernel)
                      have hadd2 : ∀ W : World, (binOp .add 55 (.float .f64 4636737291354636288) (.float .f64 4517110426252607488)).run Try.prog W = .ok (.float .f64 4636737291421745152) W := fun W => run_float_arith W .add 55 .f64 _ _ _ (by decide +kernel)
                      by_cases hk2 : o.kd = 2
                      · have hk2' : (o.kd == 2) = true := by simp [hk2]
                        have HKD : Hid (o.toRs.kd = 2) := hk2
                        clear hk2
                        cases fb
                        · have HWG : Hid (o.toRs.tgs.all (fun _ => true) = o.toRs.tgs.all (fun _ => true)) := rfl
                          clear HWG
                          have HWG : Hid (wgB o.toRs.tgs = false) := HNF.out rfl
                          have HCH : Hid (chkF (os.map Rx.toRs) = (i, 0, 142)) := by
                            unfold Hid chkF fltF
                            rw [if_neg (by rw [HAS.out, HCL.out]; exact fun h => h rfl), if_neg (by rw [HCL.out]; omega), HK1.out, HK2.out, show lk3 (os.map Rx.toRs) = some (i, 0) from lookF_stop HF.out HKI.out (by unfold misF; rw [if_pos ⟨HKD.out, HWG.out⟩])]
                            rfl
                          obtain ⟨⟨f0, f1, f2⟩, ⟨g0, g1, g2⟩, ⟨k0, k1, k2⟩, hbut, hlast⟩ := set3 HXS.out (.int .i64 i) (.int .i64 0) (.int .i64 142)
                          have HBT := hideL hbut
                          clear hbut hlast
                          go_wp2
                          refine bodyPost_ret (v := .tuple #[.slice none 0 0, .agg #[.int .i64 i, .int .i64 0, .int .i64 142]]) (by simp [results, Try.results15, go_sem, k0, k1, k2]) rfl ?_
                          exact rce_fault HCH.out (by decide) (HBS.out.trans (HBT.out.below HBS.out.size (by omega)))
                        · have HW : Hid (wgB o.toRs.tgs = (fge T 4636737291287527424 && fle T 4636737291421745152)) := by
                            unfold Hid
                            rw [(HT.out rfl).1, List.take_of_length_le (by have := HM.out; omega)]
                            exact wgB_all (fun j y hy => (HT.out rfl).2 j y (by have := (List.getElem?_eq_some_iff.1 hy).1; have := HM.out; omega) hy)
                          unfold fge fle at HW
                          cases hb1 : (FloatKind.f64.format.order T 4636737291287527424 == some .gt || FloatKind.f64.format.order T 4636737291287527424 == some .eq)
                          · rw [hb1] at HW
                            have HWG : Hid (wgB o.toRs.tgs = false) := HW.out
                            have HCH : Hid (chkF (os.map Rx.toRs) = (i, 0, 142)) := by
                              unfold Hid chkF fltF
                              rw [if_neg (by rw [HAS.out, HCL.out]; exact fun h => h rfl), if_neg (by rw [HCL.out]; omega), HK1.out, HK2.out, show lk3 (os.map Rx.toRs) = some (i, 0) from lookF_stop HF.out HKI.out (by unfold misF; rw [if_pos ⟨HKD.out, HWG.out⟩])]
                              rfl
                            obtain ⟨⟨f0, f1, f2⟩, ⟨g0, g1, g2⟩, ⟨k0, k1, k2⟩, hbut, hlast⟩ := set3 HXS.out (.int .i64 i) (.int .i64 0) (.int .i64 142)
                            have HBT := hideL hbut
                            clear hbut hlast
                            go_wp2
                            refine bodyPost_ret (v := .tuple #[.slice none 0 0, .agg #[.int .i64 i, .int .i64 0, .int .i64 142]]) (by simp [results, Try.results15, go_sem, k0, k1, k2]) rfl ?_
                            exact rce_fault HCH.out (by decide) (HBS.out.trans (HBT.out.below HBS.out.size (by omega)))
                          · rw [hb1] at HW
                            cases hb2 : (FloatKind.f64.format.order T 4636737291421745152 == some .lt || FloatKind.f64.format.order T 4636737291421745152 == some .eq)
                            · rw [hb2] at HW
                              have HWG : Hid (wgB o.toRs.tgs = false) := HW.out
                              have HCH : Hid (chkF (os.map Rx.toRs) = (i, 0, 142)) := by
                                unfold Hid chkF fltF
                                rw [if_neg (by rw [HAS.out, HCL.out]; exact fun h => h rfl), if_neg (by rw [HCL.out]; omega), HK1.out, HK2.out, show lk3 (os.map Rx.toRs) = some (i, 0) from lookF_stop HF.out HKI.out (by unfold misF; rw [if_pos ⟨HKD.out, HWG.out⟩])]
                                rfl
                              obtain ⟨⟨f0, f1, f2⟩, ⟨g0, g1, g2⟩, ⟨k0, k1, k2⟩, hbut, hlast⟩ := set3 HXS.out (.int .i64 i) (.int .i64 0) (.int .i64 142)
                              have HBT := hideL hbut
                              clear hbut hlast
                              go_wp2
                              refine bodyPost_ret (v := .tuple #[.slice none 0 0, .agg #[.int .i64 i, .int .i64 0, .int .i64 142]]) (by simp [results, Try.results15, go_sem, k0, k1, k2]) rfl ?_
                              exact rce_fault HCH.out (by decide) (HBS.out.trans (HBT.out.below HBS.out.size (by omega)))
                            · rw [hb2] at HW
                              go_wp2_with fail
                              go_roundw
                              case rel => exact ⟨i + 1, by go_num, by omega, HXS.out, HBS.out, HNX.out (by unfold misF; rw [if_neg (fun h => by have := h.2.symm.trans HW.out; cases this)])⟩
                              case measure => simp [intOf]; omega
                      · have hk2' : (o.kd == 2) = false := by simpa using hk2
                        have HKD : Hid (¬ o.toRs.kd = 2) := hk2
                        clear hk2
                        go_wp2_with fail
                        go_roundw
                        case rel => exact ⟨i + 1, by go_num, by omega, HXS.out, HBS.out, HNX.out (by unfold misF; rw [if_neg (fun h => HKD.out h.1)])⟩
                        case measure => simp [intOf]; omega
                · have h3' : ¬ (i : Int) < n := by omega
                  have HK3 : Hid (lk3 (os.map Rx.toRs) = none) := lookF_none (fun j x hx => HF.out j x (by have := (List.getElem?_eq_some_iff.1 hx).1; have := HCL.out; omega) hx)
                  clear HF
                  go_wp2_with fail
                  have HDP := hideL (depths_any wr a n c os (HL.out.below HB.out) HN.out h64 (astF_ord (by rw [HAS.out, HCL.out])).ks (loo_split HK1.out))
                  refine HDP.out.mono ?_
                  intro e w5 h5
                  obtain ⟨bd, rfl, hbd, hb5⟩ := h5
                  have HBD := hideL hbd
                  have HX5 := hideL (hb5.cells HX.out)
                  have HB5 := hideL (HB.out.trans (hb5.mono HB.out.size))
                  clear hbd hb5 HDP HX HB h3 h3' hi i0
                  go_wp2_with fail
                  go_loopw [16] (fun t ws => ∃ (i : Nat), t = .int .i64 i ∧ i ≤ n ∧ ws = w5 ∧ Hid (∀ (j : Nat) (x : Rs), j < i → (os.map Rx.toRs)[j]? = some x → rinF (os.map Rx.toRs) x = none)) (fun t _ => n - (intOf t).toNat)
                  case atStart => exact ⟨0, rfl, by omega, (by first | trivial | rfl), fun j y hj => by omega⟩
                  case round =>
                    obtain ⟨i, rfl, hi, hww, HF⟩ := hrel
                    subst hww
                    have i0 : (0 : Int) ≤ i := by omega
                    by_cases h3 : i < n
                    · have h3' : (i : Int) < n := by omega
                      rcases hki : os[i]? with _ | o
                      · have := List.getElem?_eq_none_iff.1 hki; have := HN.out; omega
                      have HKI : Hid ((os.map Rx.toRs)[i]? = some o.toRs) := by unfold Hid; simp [hki]
                      obtain ⟨g, off, ea, d0, -⟩ := (HL.out.row.below HB5.out).cells hki
                      subst ea
                      clear hki
                      have HNX : Hid (rinF (os.map Rx.toRs) o.toRs = none → ∀ (j : Nat) (x : Rs), j < i + 1 → (os.map Rx.toRs)[j]? = some x → rinF (os.map Rx.toRs) x = none) := fun h j x hj hx => by
                        by_cases hji : j < i
                        · exact HF.out j x hji hx
                        · obtain rfl : j = i := by omega
                          rw [HKI.out] at hx; cases hx; exact h
                      obtain ⟨v, hv⟩ : ∃ v, (if o.toRs.kd = 2 then dR (os.map Rx.toRs) 8 o.toRs.key else 0) = v := ⟨_, rfl⟩
                      have hc := blkN_cell HBD.out (rowD_at (r := 8) HKI.out)
                      rw [hv] at hc
                      have HV := hideL hv
                      clear hv
                      by_cases hk2 : o.kd = 2
                      · have hk2' : (o.kd == 2) = true := by simp [hk2]
                        have HKD : Hid (o.toRs.kd = 2) := hk2
                        clear hk2
                        by_cases hv0 : v = 0
                        · have HR0 : Hid (rinF (os.map Rx.toRs) o.toRs = some 0) := by
                            unfold Hid rinF
                            rw [if_pos ⟨HKD.out, by have := HV.out; rw [if_pos HKD.out] at this; rw [this]; exact hv0⟩]
                          subst hv0
                          have HCH : Hid (chkF (os.map Rx.toRs) = (i, 0, 143)) := by
                            unfold Hid chkF fltF
                            rw [if_neg (by rw [HAS.out, HCL.out]; exact fun h => h rfl), if_neg (by rw [HCL.out]; omega), HK1.out, HK2.out, HK3.out, show lk4 (os.map Rx.toRs) = some (i, 0) from lookF_stop HF.out HKI.out HR0.out]
                            rfl
                          obtain ⟨⟨f0, f1, f2⟩, ⟨g0, g1, g2⟩, ⟨k0, k1, k2⟩, hbut, hlast⟩ := set3 HX5.out (.int .i64 i) (.int .i64 0) (.int .i64 143)
                          have HBT := hideL hbut
                          clear hbut hlast
                          go_wp2
                          refine bodyPost_ret (v := .tuple #[.slice none 0 0, .agg #[.int .i64 i, .int .i64 0, .int .i64 143]]) (by simp [results, Try.results15, go_sem, k0, k1, k2]) rfl ?_
                          exact rce_fault HCH.out (by decide) (HB5.out.trans (HBT.out.below HB5.out.size (by omega)))
                        · have hv0' : ((v : Int) == 0) = false := by simp [hv0]
                          have HV0 := hideL hv0
                          clear hv0
                          go_wp2_with fail
                          go_roundw
                          case rel => exact ⟨i + 1, by go_num, by omega, (by first | trivial | rfl), HNX.out (by unfold rinF; rw [if_neg (fun h => by have := HV.out; rw [if_pos HKD.out] at this; exact HV0.out (this ▸ h.2))])⟩
                          case measure => simp [intOf]; omega
                      · have hk2' : (o.kd == 2) = false := by simpa using hk2
                        have HKD : Hid (¬ o.toRs.kd = 2) := hk2
                        clear hk2
                        go_wp2_with fail
                        go_roundw
                        case rel => exact ⟨i + 1, by go_num, by omega, (by first | trivial | rfl), HNX.out (by unfold rinF; rw [if_neg (fun h => HKD.out h.1)])⟩
                        case measure => simp [intOf]; omega
                    · have h3' : ¬ (i : Int) < n := by omega
                      have HK4 : Hid (lk4 (os.map Rx.toRs) = none) := lookF_none (fun j x hx => HF.out j x (by have := (List.getElem?_eq_some_iff.1 hx).1; have := HCL.out; omega) hx)
                      clear HF
                      go_wp2_with fail
                      obtain ⟨i45, hi45, hx0, hx1, hx2⟩ := info_parts info45
                      have HORD := hideL (astF_ord (C := os.map Rx.toRs) (by rw [HAS.out, HCL.out]))
                      clear h3 h3' hi i0
                      go_loopw [17, 18] (fun v t wr => ∃ (i : Nat) (L : List Wg3), t = .int .i64 i ∧ i ≤ n ∧ L.length ≤ i * 1048576 ∧ wr.ownsRow w.heap.size 45 3 v L.length (rowsOf wRow L) ∧ Below w.heap.size w wr ∧ wr.heap[B]? = some f38 ∧ Hid (L = wnC (os.map Rx.toRs) i)) (fun _ t _ => n - (intOf t).toNat)
                      case atStart => exact ⟨0, [], rfl, by omega, by simp, ⟨by simp [rowsOf], .inl ⟨rfl, rfl⟩⟩, HB5.out, HX5.out, rfl⟩
                      case round =>
                        clear HB5 HX5 HBD
                        obtain ⟨i, L, rfl, hi, hLl, hown, hbel, hx, HLE⟩ := hrel
                        obtain ⟨va, vc, rfl, _, _, _⟩ := own_form hown
                        have HOW := hideL hown
                        have HB := hideL hbel
                        have HX := hideL hx
                        clear hown hbel hx
                        have i0 : (0 : Int) ≤ i := by omega
                        by_cases h3 : i < n
                        · have h3' : (i : Int) < n := by omega
                          rcases hki : os[i]? with _ | o
                          · have := List.getElem?_eq_none_iff.1 hki; have := HN.out; omega
                          have HKI : Hid ((os.map Rx.toRs)[i]? = some o.toRs) := by unfold Hid; simp [hki]
                          have HOI := hideL hki
                          have HRO := hideL (HL.out.each o (List.mem_of_getElem? hki))
                          obtain ⟨g, off, ea, d0, d1, d2, d3, d4, d5, d6, d7⟩ := (HL.out.row.below HB.out).cells hki
                          subst ea
                          have hkd := HORD.out.kind o.toRs (List.mem_of_getElem? HKI.out)
                          have hk1 : 1 ≤ o.kd := hkd.1
                          have hk4 : o.kd ≤ 4 := hkd.2.1
                          have HST := hideL (wnC_step HKI.out)
                          clear hki hkd d1 d2 d3 d4 d6 d7
                          by_cases hk3 : o.kd < 3
                          · have HLN : Hid (L = wnC (os.map Rx.toRs) (i + 1)) := by unfold Hid; rw [HST.out, if_neg (by show ¬ (o.kd = 3 ∨ o.kd = 4); omega), List.append_nil]; exact HLE.out
                            go_wp2_with fail
                            go_roundw
                            case rel => exact ⟨i + 1, L, by go_num, by omega, Nat.le_trans hLl (Nat.mul_le_mul_right _ (Nat.le_succ i)), HOW.out, HB.out, HX.out, HLN.out⟩
                            case measure => simp [intOf]; omega
                          · have HST2 : Hid (wnC (os.map Rx.toRs) (i + 1) = wnC (os.map Rx.toRs) i ++ wnR i o.rus o.rus.length) := by
                              unfold Hid; rw [HST.out, if_pos (by show o.kd = 3 ∨ o.kd = 4; omega)]
                            have hk20 : o.rus.length ≤ 1048576 := HRO.out.lr
                            obtain ⟨kr, hkr⟩ : ∃ kr, o.rus.length = kr := ⟨_, rfl⟩
                            have HKR := hideL hkr
                            rw [hkr] at d5 hk20 HST2
                            clear hkr
                            go_wp2_with fail
                            clear d0 d5
                            go_loopw [17, 19] (fun v t ws => ∃ (m : Nat) (P : List Wg3), t = .int .i64 m ∧ m ≤ kr ∧ P.length ≤ i * 1048576 + m ∧ ws.ownsRow w.heap.size 45 3 v P.length (rowsOf wRow P) ∧ Below w.heap.size w ws ∧ ws.heap[B]? = some f38 ∧ Hid (P = wnC (os.map Rx.toRs) i ++ wnR i o.rus m)) (fun _ t _ => kr - (intOf t).toNat)
                            case atStart => exact ⟨0, L, rfl, Nat.zero_le _, Nat.le_trans hLl (Nat.le_add_right _ _), HOW.out, HB.out, HX.out, by unfold Hid; rw [← HLE.out]; simp [wnR]⟩
                            case round =>
                              obtain ⟨m, P, rfl, hmk, hPl, hownP, hbelP, hbox, HPE⟩ := hrel
                              obtain ⟨pa, pc, rfl, _, _, _⟩ := own_form hownP
                              have HOP := hideL hownP
                              have HBP := hideL hbelP
                              have HXP := hideL hbox
                              clear hownP hbelP hbox
                              have m0 : (0 : Int) ≤ m := by omega
                              obtain ⟨g', off', eb, -, -, -, -, -, d5, -⟩ := (HL.out.row.below HBP.out).cells HOI.out
                              cases eb
                              rw [HKR.out] at d5
                              by_cases h4 : m < kr
                              · have h4' : (m : Int) < kr := by omega
                                rcases hkx : o.rus[m]? with _ | x
                                · have := List.getElem?_eq_none_iff.1 hkx; have := HKR.out; omega
                                obtain ⟨g2, off2, hra, r0, r1, r2, r3⟩ := (HRO.out.rs.below HBP.out).rcells hkx
                                rw [hra] at d5
                                have HRA := hideL hra
                                have HKX := hideL hkx
                                have HWS := hideL (wnR_step i o.rus m)
                                have hopx := HRO.out.sr x (List.mem_of_getElem? hkx)
                                clear hkx hra
                                obtain ⟨w6, hw6⟩ : ∃ X, wr.alloc (.cells #[.string x.pa, .string x.me, .string x.sp, .bool x.al] 71 (0, 0)) = X := ⟨_, rfl⟩
                                have HG6 : Hid (Gr wr w6) := by rw [← hw6]; exact Gr.alloc _ _
                                have HX6 : Hid (w6.heap[wr.heap.size]? = some (.cells #[.string x.pa, .string x.me, .string x.sp, .bool x.al] 71 (0, 0))) := by rw [← hw6]; exact heap_alloc_new wr _
                                obtain ⟨E, hE⟩ : ∃ E, wr.heap.size = E := ⟨_, rfl⟩
                                rw [hE] at HX6
                                go_wp2_with fail
                                clear hw6 hE d5 r0 r1 r2 r3
                                go_loopw [17, 21] (fun v t ws => ∃ (q : Nat), v = .slice pa P.length pc ∧ t = .int .i64 q ∧ q ≤ m ∧ Gr w6 ws ∧ Hid (∀ (j : Nat) (z : Ru), j < q → o.rus[j]? = some z → covB z x = false)) (fun _ t _ => m - (intOf t).toNat)
                                case atStart => exact ⟨0, rfl, rfl, by omega, Gr.refl _, fun j z h => by omega⟩
                                case round =>
                                  obtain ⟨q, rfl, rfl, hq, hgq, HF⟩ := hrel
                                  have HGQ := hideL hgq
                                  clear hgq
                                  have HGX := hideL (HG6.out.trans HGQ.out)
                                  have HBX := hideL (HBP.out.trans (HGX.out.below.mono HBP.out.size))
                                  have HOX := hideL (own_stay HOP.out HGX.out.below)
                                  have HXX := hideL (HGX.out.below.cells HXP.out)
                                  have HEX := hideL (HGQ.out.below.cells HX6.out)
                                  have q0 : (0 : Int) ≤ q := by omega
                                  by_cases h7 : q < m
                                  · have h7' : (q : Int) < m := by omega
                                    have h8' : (q : Int) < kr := by omega
                                    rcases hky : o.rus[q]? with _ | y
                                    · have := List.getElem?_eq_none_iff.1 hky; have := HKR.out; omega
                                    obtain ⟨g'', off'', ec, -, -, -, -, -, d5, -⟩ := (HL.out.row.below HBX.out).cells HOI.out
                                    cases ec
                                    rw [HKR.out, HRA.out] at d5
                                    obtain ⟨g3, off3, hrb, r0, r1, r2, r3⟩ := (HRO.out.rs.below HBX.out).rcells hky
                                    rw [HRA.out] at hrb
                                    cases hrb
                                    have hopy := HRO.out.sr y (List.mem_of_getElem? hky)
                                    have HKY := hideL hky
                                    obtain ⟨e0, e1, -, -⟩ := box4 HEX.out
                                    have hlt := lt_of_block HEX.out
                                    have e0' := fun X => (alloc_cell wr X hlt).trans e0
                                    have e1' := fun X => (alloc_cell wr X hlt).trans e1
                                    have HCP := hideL (fun W => rcpath_any y.pa x.pa W hopy.1 hopx.1)
                                    obtain ⟨cc, hcc⟩ : ∃ cc, cpB y.pa x.pa = cc := ⟨_, rfl⟩
                                    have HCC := hideL hcc
                                    rw [hcc] at HCP
                                    clear hky hcc e0 e1 hlt
                                    cases hq1 : (y.me.toList == [42])
                                    · cases hq2 : (y.me.toList == x.me.toList)
                                      · have HNC : Hid (covB y x = false) := by unfold Hid covB; rw [hq1, hq2]; rfl
                                        go_wp2_with (first | (go_at_call 35; refine (HCP.out _).mono ?_; rintro e w8 ⟨rfl, hw8⟩; have hw8 := hw8.symm; subst hw8))
                                        go_roundw
                                        case rel => exact ⟨q + 1, rfl, by go_num, by omega, HGQ.out.trans (Gr.alloc _ _), fun j z hj hz => by
                                          by_cases hjq : j < q
                                          · exact HF.out j z hjq hz
                                          · obtain rfl : j = q := by omega
                                            rw [HKY.out] at hz; cases hz; exact HNC.out⟩
                                        case measure => simp [intOf]; omega
                                      · cases cc
                                        · have HNC : Hid (covB y x = false) := by unfold Hid covB; rw [HCC.out, Bool.and_false]
                                          go_wp2_with (first | (go_at_call 35; refine (HCP.out _).mono ?_; rintro e w8 ⟨rfl, hw8⟩; have hw8 := hw8.symm; subst hw8))
                                          go_roundw
                                          case rel => exact ⟨q + 1, rfl, by go_num, by omega, HGQ.out.trans (Gr.alloc _ _), fun j z hj hz => by
                                            by_cases hjq : j < q
                                            · exact HF.out j z hjq hz
                                            · obtain rfl : j = q := by omega
                                              rw [HKY.out] at hz; cases hz; exact HNC.out⟩
                                          case measure => simp [intOf]; omega
                                        · have HCV : Hid (covB y x = true) := by unfold Hid covB; rw [hq1, hq2, HCC.out]; rfl
                                          have HPN : Hid (P ++ [(i, m, q)] = wnC (os.map Rx.toRs) i ++ wnR i o.rus (m + 1)) := by unfold Hid; rw [HWS.out, cvrF_at HF.out HKY.out HKX.out HCV.out h7, if_pos h7, HPE.out, List.append_assoc]
                                          have HOY := hideL (own_stay HOX.out ((Gr.alloc wr (.cells #[.string y.pa, .string y.me, .string y.sp, .bool y.al] 71 (0, 0))).below))
                                          have HBY := hideL (HBX.out.trans ((Gr.alloc wr (.cells #[.string y.pa, .string y.me, .string y.sp, .bool y.al] 71 (0, 0))).below.mono HBX.out.size))
                                          have HXY := hideL ((Gr.alloc wr (.cells #[.string y.pa, .string y.me, .string y.sp, .bool y.al] 71 (0, 0))).below.cells HXX.out)
                                          obtain ⟨wy, hwy⟩ : ∃ X, wr.alloc (.cells #[.string y.pa, .string y.me, .string y.sp, .bool y.al] 71 (0, 0)) = X := ⟨_, rfl⟩
                                          have hby := heap_alloc_new wr (.cells #[.string y.pa, .string y.me, .string y.sp, .bool y.al] 71 (0, 0))
                                          have ey0 := e0' (.cells #[.string y.pa, .string y.me, .string y.sp, .bool y.al] 71 (0, 0))
                                          have ey1 := e1' (.cells #[.string y.pa, .string y.me, .string y.sp, .bool y.al] 71 (0, 0))
                                          rw [hwy] at HOY HBY HXY hby ey0 ey1
                                          obtain ⟨yc0, yc1, -, -⟩ := box4 hby
                                          clear hby
                                          have HOD : Hid ((wy.alloc (.cells #[.int .i64 i, .int .i64 m, .int .i64 q] 45 (0, 0))).ownsRow w.heap.size 45 3 (.slice pa P.length pc) P.length (rowsOf wRow P)) := HOY.out.alloc _
                                          have HND : Hid (∀ j u, (wRow (i, m, q))[j]? = some u → (wy.alloc (.cells #[.int .i64 i, .int .i64 m, .int .i64 q] 45 (0, 0))).cell? ((⟨wy.heap.size, 0, none⟩ : Addr).add j) = some u) := World.news_of_block (w := wy.alloc (.cells #[.int .i64 i, .int .i64 m, .int .i64 q] 45 (0, 0))) (Go.heap_alloc_new wy _)
                                          have hszD : w.heap.size ≤ (wy.alloc (.cells #[.int .i64 i, .int .i64 m, .int .i64 q] 45 (0, 0))).heap.size := Nat.le_trans HBY.out.size (by simp)
                                          have hlm : P.length + 1 ≤ maxLen := by unfold maxLen; omega
                                          have hlb : (P.length + 1) * 24 ≤ 140737488355328 := by omega
                                          go_wp2_with fail
                                          refine (HCP.out _).mono ?_
                                          rintro e w8 ⟨rfl, hw8⟩
                                          have hw8 := hw8.symm
                                          subst hw8
                                          go_wp2_with (at_builtin; refine wpList_append_at _ rfl (.tmp 234) (.tmp 239) 36 rfl w.heap.size 45 i45 _ 3 24 Try.underlying36 hi45 hx0 hx1 hx2 rfl (by decide) (.slice pa P.length pc) P.length (rowsOf wRow P) rfl HOD.out ⟨wy.heap.size, 0, none⟩ 1 1 (wRow (i, m, q)) rfl rfl HND.out (by intro u hu; simp [wRow] at hu; rcases hu with rfl | rfl | rfl <;> rfl) hlm hlb hszD ?_; intro v7 w7 hown7 hgrow7 hat7; have HO7 : Hid (w7.ownsRow w.heap.size 45 3 v7 (P ++ [(i, m, q)]).length (rowsOf wRow (P ++ [(i, m, q)]))) := (by unfold Hid; rw [List.length_append, rowsOf_append, rowsOf_one]; exact hown7); have HB7 := hideL (HBY.out.trans (below_app (mm := 0) HOY.out HBY.out.size hgrow7)); have HX7 := hideL (app_keep (mm := 0) HOY.out hgrow7 (show wy.heap[B]? = some (.cells #[.int .i64 0, .int .i64 0, .int .i64 0] 38 (0, 0)) from HXY.out) (by decide)); clear hown7 hgrow7 hat7)
                                          go_roundw
                                          case rel => exact ⟨m + 1, P ++ [(i, m, q)], by go_num, by omega, by rw [List.length_append]; simp; omega, HO7.out, HB7.out, HX7.out, HPN.out⟩
                                          case measure => simp [intOf]; omega
                                    · cases cc
                                      · have HNC : Hid (covB y x = false) := by unfold Hid covB; rw [HCC.out, Bool.and_false]
                                        go_wp2_with (first | (go_at_call 35; refine (HCP.out _).mono ?_; rintro e w8 ⟨rfl, hw8⟩; have hw8 := hw8.symm; subst hw8))
                                        go_roundw
                                        case rel => exact ⟨q + 1, rfl, by go_num, by omega, HGQ.out.trans (Gr.alloc _ _), fun j z hj hz => by
                                          by_cases hjq : j < q
                                          · exact HF.out j z hjq hz
                                          · obtain rfl : j = q := by omega
                                            rw [HKY.out] at hz; cases hz; exact HNC.out⟩
                                        case measure => simp [intOf]; omega
                                      · have HCV : Hid (covB y x = true) := by unfold Hid covB; rw [hq1, HCC.out, Bool.or_true]; rfl
                                        have HPN : Hid (P ++ [(i, m, q)] = wnC (os.map Rx.toRs) i ++ wnR i o.rus (m + 1)) := by unfold Hid; rw [HWS.out, cvrF_at HF.out HKY.out HKX.out HCV.out h7, if_pos h7, HPE.out, List.append_assoc]
                                        have HOY := hideL (own_stay HOX.out ((Gr.alloc wr (.cells #[.string y.pa, .string y.me, .string y.sp, .bool y.al] 71 (0, 0))).below))
                                        have HBY := hideL (HBX.out.trans ((Gr.alloc wr (.cells #[.string y.pa, .string y.me, .string y.sp, .bool y.al] 71 (0, 0))).below.mono HBX.out.size))
                                        have HXY := hideL ((Gr.alloc wr (.cells #[.string y.pa, .string y.me, .string y.sp, .bool y.al] 71 (0, 0))).below.cells HXX.out)
                                        obtain ⟨wy, hwy⟩ : ∃ X, wr.alloc (.cells #[.string y.pa, .string y.me, .string y.sp, .bool y.al] 71 (0, 0)) = X := ⟨_, rfl⟩
                                        have hby := heap_alloc_new wr (.cells #[.string y.pa, .string y.me, .string y.sp, .bool y.al] 71 (0, 0))
                                        have ey0 := e0' (.cells #[.string y.pa, .string y.me, .string y.sp, .bool y.al] 71 (0, 0))
                                        have ey1 := e1' (.cells #[.string y.pa, .string y.me, .string y.sp, .bool y.al] 71 (0, 0))
                                        rw [hwy] at HOY HBY HXY hby ey0 ey1
                                        obtain ⟨yc0, yc1, -, -⟩ := box4 hby
                                        clear hby
                                        have HOD : Hid ((wy.alloc (.cells #[.int .i64 i, .int .i64 m, .int .i64 q] 45 (0, 0))).ownsRow w.heap.size 45 3 (.slice pa P.length pc) P.length (rowsOf wRow P)) := HOY.out.alloc _
                                        have HND : Hid (∀ j u, (wRow (i, m, q))[j]? = some u → (wy.alloc (.cells #[.int .i64 i, .int .i64 m, .int .i64 q] 45 (0, 0))).cell? ((⟨wy.heap.size, 0, none⟩ : Addr).add j) = some u) := World.news_of_block (w := wy.alloc (.cells #[.int .i64 i, .int .i64 m, .int .i64 q] 45 (0, 0))) (Go.heap_alloc_new wy _)
                                        have hszD : w.heap.size ≤ (wy.alloc (.cells #[.int .i64 i, .int .i64 m, .int .i64 q] 45 (0, 0))).heap.size := Nat.le_trans HBY.out.size (by simp)
                                        have hlm : P.length + 1 ≤ maxLen := by unfold maxLen; omega
                                        have hlb : (P.length + 1) * 24 ≤ 140737488355328 := by omega
                                        go_wp2_with fail
                                        refine (HCP.out _).mono ?_
                                        rintro e w8 ⟨rfl, hw8⟩
                                        have hw8 := hw8.symm
                                        subst hw8
                                        go_wp2_with (at_builtin; refine wpList_append_at _ rfl (.tmp 234) (.tmp 239) 36 rfl w.heap.size 45 i45 _ 3 24 Try.underlying36 hi45 hx0 hx1 hx2 rfl (by decide) (.slice pa P.length pc) P.length (rowsOf wRow P) rfl HOD.out ⟨wy.heap.size, 0, none⟩ 1 1 (wRow (i, m, q)) rfl rfl HND.out (by intro u hu; simp [wRow] at hu; rcases hu with rfl | rfl | rfl <;> rfl) hlm hlb hszD ?_; intro v7 w7 hown7 hgrow7 hat7; have HO7 : Hid (w7.ownsRow w.heap.size 45 3 v7 (P ++ [(i, m, q)]).length (rowsOf wRow (P ++ [(i, m, q)]))) := (by unfold Hid; rw [List.length_append, rowsOf_append, rowsOf_one]; exact hown7); have HB7 := hideL (HBY.out.trans (below_app (mm := 0) HOY.out HBY.out.size hgrow7)); have HX7 := hideL (app_keep (mm := 0) HOY.out hgrow7 (show wy.heap[B]? = some (.cells #[.int .i64 0, .int .i64 0, .int .i64 0] 38 (0, 0)) from HXY.out) (by decide)); clear hown7 hgrow7 hat7)
                                        go_roundw
                                        case rel => exact ⟨m + 1, P ++ [(i, m, q)], by go_num, by omega, by rw [List.length_append]; simp; omega, HO7.out, HB7.out, HX7.out, HPN.out⟩
                                        case measure => simp [intOf]; omega
                                  · have h7' : ¬ (q : Int) < m := by omega
                                    have HPN : Hid (P = wnC (os.map Rx.toRs) i ++ wnR i o.rus (m + 1)) := by
                                      unfold Hid
                                      rw [HWS.out, cvrF_no (fun j z hj hz => HF.out j z (by omega) hz) HKX.out, if_neg (Nat.lt_irrefl m), List.append_nil]; exact HPE.out
                                    go_wp2_with fail
                                    go_roundw
                                    case rel => exact ⟨m + 1, P, by go_num, by omega, by omega, HOX.out, HBX.out, HXX.out, HPN.out⟩
                                    case measure => simp [intOf]; omega
                              · have h4' : ¬ (m : Int) < kr := by omega
                                have HLN : Hid (P = wnC (os.map Rx.toRs) (i + 1)) := by unfold Hid; rw [HST2.out, HPE.out, show m = kr by omega]
                                go_wp2_with fail
                                go_roundw
                                case rel => exact ⟨i + 1, P, by go_num, by omega, by omega, HOP.out, HBP.out, HXP.out, HLN.out⟩
                                case measure => simp [intOf]; omega
                        · have h3' : ¬ (i : Int) < n := by omega
                          obtain rfl : i = n := by omega
                          have HCH : Hid (chkF (os.map Rx.toRs) = (0, 0, 0)) := by
                            unfold Hid chkF fltF
                            rw [if_neg (by rw [HAS.out, HCL.out]; exact fun h => h rfl), if_neg (by rw [HCL.out]; omega), HK1.out, HK2.out, HK3.out, HK4.out]
                            rfl
                          obtain ⟨⟨f0, f1, f2⟩, ⟨g0, g1, g2⟩, ⟨k0, k1, k2⟩, hbut, hlast⟩ := set3 HX.out (.int .i64 0) (.int .i64 0) (.int .i64 0)
                          have HBT := hideL hbut
                          clear hbut hlast
                          go_wp2
                          refine bodyPost_ret (v := .tuple #[.slice va L.length vc, .agg #[.int .i64 0, .int .i64 0, .int .i64 0]]) (by simp [results, Try.results15, go_sem, k0, k1, k2]) rfl ?_
                          unfold RcE
                          rw [HCH.out, if_pos rfl]
                          exact ⟨_, rfl, by rw [show wnC (os.map Rx.toRs) (os.map Rx.toRs).length = L from by rw [HCL.out]; exact HLE.out.symm]; exact HBT.out.own HOW.out (show wr.heap[B]? = some (.cells #[.int .i64 0, .int .i64 0, .int .i64 0] 38 (0, 0)) from HX.out) (by decide), HB.out.trans (HBT.out.below HB.out.size (by omega))⟩
    · have h64' : (64 : Int) < n := by omega
      have HCH : Hid (chkF (os.map Rx.toRs) = (0, 0, 124)) := by
        unfold Hid chkF fltF; rw [if_neg (by rw [HAS.out, HCL.out]; exact fun h => h rfl), if_pos (by rw [HCL.out]; omega)]
      obtain ⟨⟨f0, f1, f2⟩, ⟨g0, g1, g2⟩, ⟨k0, k1, k2⟩, hbut, hlast⟩ := set3 HX2.out (.int .i64 0) (.int .i64 0) (.int .i64 124)
      have HBT := hideL hbut
      clear hbut hlast
      go_wp2
      refine bodyPost_ret (v := .tuple #[.slice none 0 0, .agg #[.int .i64 0, .int .i64 0, .int .i64 124]]) (by simp [results, Try.results15, go_sem, k0, k1, k2]) rfl ?_
      exact rce_fault HCH.out (by decide) (HB2.out.trans (HBT.out.below HB2.out.size (by omega)))
  · have ho : outI (os.map Rx.toRs) = (astF (os.map Rx.toRs) : Int) := by unfold outI; rw [if_neg (by rw [HCL.out]; exact ha)]
    rw [ho]
    have HCH : Hid (chkF (os.map Rx.toRs) = (astF (os.map Rx.toRs), 0, 2)) := by
      unfold Hid chkF fltF; rw [if_pos (by rw [HCL.out]; exact ha)]
    clear ho ha
    generalize astF (os.map Rx.toRs) = i at HCH
    have i0 : (0 : Int) ≤ i := by omega
    obtain ⟨⟨f0, f1, f2⟩, ⟨g0, g1, g2⟩, ⟨k0, k1, k2⟩, hbut, hlast⟩ := set3 HX2.out (.int .i64 i) (.int .i64 0) (.int .i64 2)
    have HBT := hideL hbut
    clear hbut hlast
    go_wp2
    refine bodyPost_ret (v := .tuple #[.slice none 0 0, .agg #[.int .i64 i, .int .i64 0, .int .i64 2]]) (by simp [results, Try.results15, go_sem, k0, k1, k2]) rfl ?_
    exact rce_fault HCH.out (by decide) (HB2.out.trans (HBT.out.below HB2.out.size (by omega)))
end Go.Proofs.Ytmljljpldljpjaa
