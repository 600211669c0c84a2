/-
  LinesOwn.
-/
import Derived.Test.YtjmgngocpokpgaaDoorAwk
import Derived.Test.YtjmgngocpokpgaaDoorBuf
namespace Go.Proofs.YtjmgngocpokpgaaDoor
open Go.RowKit
set_option linter.unusedVariables false
set_option linter.unusedSimpArgs false
theorem oct_zL (l : List UInt8) : Octets (zL l) := fun i => by
  by_cases h : i < l.length
  · have : (zL l).getD i 0 = (l[i].toNat : Int) := by simp [zL, List.getD, h]
    rw [this]
    have := l[i].toNat_lt
    omega
  · have : (zL l).getD i 0 = 0 := by simp [zL, List.getD, h]
    rw [this]; omega
theorem linF_few : ∀ (n : Nat) (r : List UInt8) (num docs : Nat), (linF n r num docs).length ≤ r.length + 1
  | 0, r, num, docs => by simp [linF]
  | n + 1, r, num, docs => by
    rw [linF]
    split
    · simp
    · rename_i hr
      split
      · simp
      · have h1 := linF_few n (Lib.cut r [10]).2.1 (num + 1) (docs + docN (readF (Lib.cut r [10]).1 num).1)
        have h2 := readF_few (Lib.cut r [10]).1 num
        have h3 := cut10 r hr
        rw [List.length_append, List.length_map]
        omega
theorem toks_few (l : List UInt8) : (toksOf (scnF l)).length ≤ 65537 := by
  have : (scnF l).length ≤ 65537 := by
    unfold scnF
    split
    · simp
    · have := linF_few (l.length + 1) l 1 0
      unfold allF
      omega
  unfold toksOf
  split
  · simp
  · simpa using this
/-- Scan, its answer named. -/
theorem scan_call (a : Option Addr) (n cap : Nat) (l : List UInt8) (w : World) (hn : l.length = n) (hB : Has w a (zL l)) (hl : n ≤ maxLen) (hm : HasM w) (T : List Tk) (fd fl fe : Int) (N : Nat) (hN : T.length = N) (hT : toksOf (scnF l) = T) (hF : fltOf (scnF l) = (fd, fl, fe)) :
    Calls Tryd.prog 11 #[.slice a n cap] w fun e w' => ∃ av cv, e = .returned (.tuple #[.slice av N cv, .agg #[.int .i64 fd, .int .i64 fl, .int .i64 fe]]) ∧ w'.ownsRow w.heap.size 39 5 (.slice av N cv) N (T.flatMap Tk.row) ∧ (0 < N → ∃ g, av = some ⟨g, 0, none⟩) ∧ Below w.heap.size w w' := by
  refine (scan_any a n cap l w hn hB hl hm).mono ?_
  rintro e w' ⟨tv, rfl, hrow, hb⟩
  rw [hT, hN] at hrow
  obtain ⟨av, cv, rfl, hav⟩ := own_sh hrow
  exact ⟨av, cv, by rw [hF], hrow, hav, hb⟩
/-- No bytes, in a block of their own. -/
theorem buf_none (w : World) : Buf (w.alloc (.cells #[] 5 (0, 0))) w.heap.size (.slice (some ⟨w.heap.size, 0, none⟩) 0 0) [] :=
  ⟨Octets.nil, .inr ⟨_, 0, 0, #[], rfl, Nat.le_refl _, Go.heap_alloc_new w _, by simp, by decide, by simp, fun j hj => by simp at hj⟩⟩
theorem below_buf {w w2 : World} {o : Obj} {v : Value} (h : (w.alloc o).grownBy w2 v.ownBlock) (hv : ∀ k, v.ownBlock = some k → w.heap.size ≤ k) : Below w.heap.size w w2 :=
  ((Below.refl _ w).alloc (Nat.le_refl _) _).grown h (by simp) hv
/-- Bytes handed on, written over: all else is as it was. -/
structure Ovw (w4 wr : World) (ao : Option Addr) (n : Nat) : Prop where
  oth : ∀ k, (∀ x, ao = some x → k ≠ x.block) → wr.heap[k]? = w4.heap[k]?
  size : wr.heap.size = w4.heap.size
  cel : ∀ j, j < n → ∃ g off c cur, ao = some ⟨g, off, none⟩ ∧ 0 ≤ c ∧ c ≤ 255 ∧ wr.heap[g]? = some (.cells cur 5 (0, 0)) ∧ cur[off + j]? = some (.int .u8 c)
theorem Ovw.start {w : World} {base : Nat} {ao : Option Addr} {c n : Nat} {zs : List Int} (hn : zs.length = n) (h : Buf w base (.slice ao n c) zs) : Ovw w w ao n := by
  subst hn
  refine ⟨fun _ _ => rfl, rfl, fun j hj => ?_⟩
  rcases h.2 with ⟨_, rfl⟩ | ⟨g, off, cap, cur, hv, _, hg, _, _, _, h4⟩
  · simp at hj
  · cases hv
    have hc := h4 j hj
    rw [cell_block hg] at hc
    exact ⟨g, off, _, cur, rfl, (h.1 j).1, (h.1 j).2, hg, hc⟩
theorem Ovw.put {w4 wr : World} {g off n i : Nat} {c : Int} (h : Ovw w4 wr (some ⟨g, off, none⟩) n) (h0 : 0 ≤ c) (h1 : c ≤ 255) : Ovw w4 (wr.setCell ⟨g, off + i, none⟩ (.int .u8 c)) (some ⟨g, off, none⟩) n := by
  refine ⟨fun k hk => (heap_setCell_other wr ⟨g, off + i, none⟩ k _ (hk ⟨g, off, none⟩ rfl)).trans (h.oth k hk), by simpa using h.size, fun j hj => ?_⟩
  obtain ⟨g', off', c', cur, he, a0, a1, hg, hc⟩ := h.cel j hj
  cases he
  by_cases e : j = i
  · subst e
    refine ⟨g, off, c, _, rfl, h0, h1, heap_setCell_same wr g (off + j) _ _ _ hg, ?_⟩
    have := (Array.getElem?_eq_some_iff.1 hc).1
    simp [this]
  · refine ⟨g, off, c', _, rfl, a0, a1, heap_setCell_same wr g (off + i) _ _ _ hg, ?_⟩
    rw [Array.getElem?_setIfInBounds_ne (by omega)]
    exact hc
/-- A list of tokens, written over from its beginning. -/
structure Otk (w4 wr : World) (base : Nat) (v : Value) (N i : Nat) (T : List Tk) : Prop where
  oth : ∀ k, v.ownBlock ≠ some k → wr.heap[k]? = w4.heap[k]?
  size : wr.heap.size = w4.heap.size
  row : ∃ xs, wr.ownsRow base 39 5 v N xs ∧ ∀ j, i * 5 ≤ j → xs[j]? = (T.flatMap Tk.row)[j]?
theorem Otk.put {w4 wr : World} {base g N i c : Nat} {T : List Tk} (h : Otk w4 wr base (.slice (some ⟨g, 0, none⟩) N c) N i T) (hi : i < N) (v0 v1 v2 v3 v4 : Value) :
    Otk w4 (((((wr.setCell ⟨g, i * 5, none⟩ v0).setCell ⟨g, i * 5 + 1, none⟩ v1).setCell ⟨g, i * 5 + 2, none⟩ v2).setCell ⟨g, i * 5 + 3, none⟩ v3).setCell ⟨g, i * 5 + 4, none⟩ v4) base (.slice (some ⟨g, 0, none⟩) N c) N (i + 1) T := by
  have hne : ∀ k, (Value.slice (some ⟨g, 0, none⟩) N c).ownBlock ≠ some k → k ≠ g := fun k hk e => hk (by rw [e]; rfl)
  refine ⟨fun k hk => ?_, by simpa using h.size, ?_⟩
  · exact (heap_setCell_other _ _ _ _ (hne k hk)).trans ((heap_setCell_other _ _ _ _ (hne k hk)).trans ((heap_setCell_other _ _ _ _ (hne k hk)).trans ((heap_setCell_other _ _ _ _ (hne k hk)).trans ((heap_setCell_other _ _ _ _ (hne k hk)).trans (h.oth k hk)))))
  · obtain ⟨xs, hr, hx⟩ := h.row
    rcases hr.2 with ⟨hv, _⟩ | ⟨g', cap, cur, hv, hb, hg, h1, h2, h3, h4⟩
    · cases hv
    · cases hv
      have s1 := heap_setCell_same _ g (i * 5) _ _ v0 hg
      have s2 := heap_setCell_same _ g (i * 5 + 1) _ _ v1 s1
      have s3 := heap_setCell_same _ g (i * 5 + 2) _ _ v2 s2
      have s4 := heap_setCell_same _ g (i * 5 + 3) _ _ v3 s3
      have s5 := heap_setCell_same _ g (i * 5 + 4) _ _ v4 s4
      refine ⟨_, ⟨?_, .inr ⟨g, c, _, rfl, hb, s5, h1, h2, by simpa using h3, rfl⟩⟩, fun j hj => ?_⟩
      · simp
        omega
      · rw [← hx j (by omega), ← h4]
        simp only [List.getElem?_take, Array.getElem?_toList]
        split
        · rw [Array.getElem?_setIfInBounds_ne (by omega), Array.getElem?_setIfInBounds_ne (by omega), Array.getElem?_setIfInBounds_ne (by omega), Array.getElem?_setIfInBounds_ne (by omega), Array.getElem?_setIfInBounds_ne (by omega)]
        · rfl
theorem Otk.drew {w4 wr : World} {base : Nat} {v : Value} {N i : Nat} {T : List Tk} (h : Otk w4 wr base v N i T) (q : Nat) : Otk w4 (wr.drewN q) base v N i T :=
  ⟨fun k hk => (by simpa using h.oth k hk), by simpa using h.size, by
    obtain ⟨xs, h1, h2⟩ := h.row
    exact ⟨xs, own_blk h1 (fun k hk => by simp), h2⟩⟩
theorem Otk.cell {w4 wr : World} {base g N i c : Nat} {T : List Tk} (h : Otk w4 wr base (.slice (some ⟨g, 0, none⟩) N c) N i T) (t : Tk) (ht : T[i]? = some t) (j : Nat) (u : Value) (hj : j < 5) (hu : t.row[j]? = some u) : wr.cell? ⟨g, i * 5 + j, none⟩ = some u ∧ wr.frozen? ⟨g, i * 5 + j, none⟩ = false := by
  obtain ⟨xs, hr, hx⟩ := h.row
  have := hr.cells rfl (i * 5 + j) u (by rw [hx _ (by omega), flat_row T i j t ht hj]; exact hu)
  rw [Go.WideShapes.add_plain, Nat.zero_add] at this
  refine ⟨this, ?_⟩
  rcases hr.2 with ⟨hv, _⟩ | ⟨g', cap, cur, hv, hb, hg, _⟩
  · cases hv
  · cases hv
    simp [World.frozen?, hg]
set_option maxRecDepth 100000 in
set_option maxHeartbeats 8000000 in
theorem own_any (a : Option Addr) (n cap : Nat) (l : List UInt8) (w : World) (hm : HasM w) (hn : l.length = n) (hB : Has w a (zL l)) (hbare : a = none → cap = 0) (hl : n ≤ 140737488351232) :
    Calls Tryd.prog 8 #[.slice a n cap] w fun e w' => e = .returned (.bool true) ∧ Below w.heap.size w w' := by
  obtain ⟨i5, hi5, hz50, hz51, hz52⟩ := info_parts Tryd.info5
  obtain ⟨i39, hi39, hy0, hy1, hy2⟩ := info_parts Tryd.info39
  have hw0 := hm.lt
  go_enter Tryd.func8, Tryd.ntmps8
  go_wp2_with fail
  refine (awake_any w hm).mono ?_
  rintro e w1 ⟨rfl, b1⟩
  have HM1 := hide2 (hm.below b1 hw0)
  have HH1 := hide2 (hB.of_below b1)
  have HB1 := hide2 b1
  have HN := hide2 hn
  have HH0 := hide2 hB
  clear b1 hB hm hn
  have hbz := buf_none w1
  have HZ := hide2 hbz
  clear hbz
  go_wp2_with (at_builtin; refine wpList_append_buf _ rfl (.tmp 15) (.tmp 16) 22 rfl w1.heap.size i5 Tryd.underlying22 hi5 hz50 hz51 hz52 (.slice (some ⟨w1.heap.size, 0, none⟩) 0 0) [] rfl HZ.out a n cap (zL l) rfl (by rw [zL_length]; exact HN.out) hbare (HH1.out.of_below ((Below.refl _ w1).alloc (Nat.le_refl _) _)) (oct_zL l) (by simp; omega) (by simp) ?_; intro v2 w2 hbuf hgr _)
  rw [List.nil_append] at hbuf
  have b2 : Below w1.heap.size w1 w2 := below_buf hgr (fun k hk => by cases hk; exact Nat.le_refl _)
  clear hgr HZ
  obtain ⟨ao, ci, hv2, _, hHi, _, hci⟩ := hbuf.form
  rw [zL_length, HN.out] at hv2
  subst hv2
  have hol : ∀ x, ao = some x → w1.heap.size ≤ x.block ∧ x.block < w2.heap.size := fun x hx => by subst hx; exact hbuf.low rfl
  have HB2 := hide2 (HB1.out.trans (b2.mono HB1.out.size))
  have HM2 := hide2 (HM1.out.below b2 HM1.out.lt)
  have HBF := hide2 hbuf
  clear hbuf b2
  obtain ⟨T, hT⟩ : ∃ T, toksOf (scnF l) = T := ⟨_, rfl⟩
  obtain ⟨fd, fl, fe, hF⟩ : ∃ fd fl fe, fltOf (scnF l) = (fd, fl, fe) := ⟨_, _, _, rfl⟩
  obtain ⟨N, hN⟩ : ∃ N, T.length = N := ⟨_, rfl⟩
  have hNl : N ≤ 65537 := by rw [← hN, ← hT]; exact toks_few l
  have HT := hide2 hT
  have HF := hide2 hF
  have HNN := hide2 hN
  clear hT hF hN
  refine (scan_call ao n ci l w2 HN.out hHi (by unfold maxLen; omega) HM2.out T fd fl fe N HNN.out HT.out HF.out).mono ?_
  rintro e w3 ⟨ava, ca, rfl, hra, hava, b3⟩
  have HRA := hide2 hra
  have HB3 := hide2 b3
  have hs3 := b3.size
  clear hra b3
  go_wp2_with fail
  have b3a : Below w3.heap.size w3 (w3.alloc (.cells #[.int .i64 fd, .int .i64 fl, .int .i64 fe] 32)) := (Below.refl _ w3).alloc (Nat.le_refl _) _
  have k3a : (w3.alloc (.cells #[.int .i64 fd, .int .i64 fl, .int .i64 fe] 32)).heap[w3.heap.size]? = some (.cells #[.int .i64 fd, .int .i64 fl, .int .i64 fe] 32 (0, 0)) := Go.heap_alloc_new w3 _
  have s3a : (w3.alloc (.cells #[.int .i64 fd, .int .i64 fl, .int .i64 fe] 32)).heap.size = w3.heap.size + 1 := by simp
  obtain ⟨w3a, hw3a⟩ : ∃ W, w3.alloc (.cells #[.int .i64 fd, .int .i64 fl, .int .i64 fe] 32) = W := ⟨_, rfl⟩
  rw [hw3a] at b3a k3a s3a ⊢
  have B23 : Below w2.heap.size w2 w3a := HB3.out.trans (b3a.mono HB3.out.size)
  have HB23 := hide2 B23
  have HB3a := hide2 b3a
  have K3 := hide2 k3a
  have HM3 := hide2 (HM2.out.below B23 HM2.out.lt)
  have HH3 := hide2 (hHi.of_below B23)
  clear hw3a b3a k3a B23
  refine (scan_call ao n ci l w3a HN.out HH3.out (by unfold maxLen; omega) HM3.out T fd fl fe N HNN.out HT.out HF.out).mono ?_
  rintro e w4 ⟨avb, cb, rfl, hrb, havb, b4⟩
  have HRB := hide2 hrb
  have HB4 := hide2 b4
  have hs4 := b4.size
  clear hrb b4
  go_wp2_with fail
  have b4a : Below w4.heap.size w4 (w4.alloc (.cells #[.int .i64 fd, .int .i64 fl, .int .i64 fe] 32)) := (Below.refl _ w4).alloc (Nat.le_refl _) _
  have s4a : (w4.alloc (.cells #[.int .i64 fd, .int .i64 fl, .int .i64 fe] 32)).heap.size = w4.heap.size + 1 := by simp
  obtain ⟨w4a, hw4a⟩ : ∃ W, w4.alloc (.cells #[.int .i64 fd, .int .i64 fl, .int .i64 fe] 32) = W := ⟨_, rfl⟩
  rw [hw4a] at b4a s4a ⊢
  have B34 : Below w3a.heap.size w3a w4a := HB4.out.trans (b4a.mono HB4.out.size)
  have HB34 := hide2 B34
  have HB24 := hide2 (HB23.out.trans (B34.mono HB23.out.size))
  have HB4a := hide2 b4a
  clear hw4a b4a B34
  have hsz : w2.heap.size ≤ w3.heap.size ∧ w3.heap.size + 1 = w3a.heap.size ∧ w3a.heap.size ≤ w4.heap.size ∧ w4.heap.size + 1 = w4a.heap.size := ⟨hs3, s3a.symm, hs4, s4a.symm⟩
  have hz3 : w3a.heap.size ≤ w3.heap.size + 1 ∧ w3.heap.size + 1 ≤ w3a.heap.size ∧ w4a.heap.size ≤ w4.heap.size + 1 ∧ w4.heap.size + 1 ≤ w4a.heap.size := by omega
  clear s3a s4a hsz
  have HOV : Hid (Ovw w4a w4a ao n) := Ovw.start (by rw [zL_length]; exact HN.out) (HBF.out.keep (fun k hk => HB24.out.block k (HBF.out.low hk).2))
  have HBW := hide2 (HB2.out.trans (HB24.out.mono HB2.out.size))
  have hnl : (n : Int) ≤ 140737488351232 := by omega
  go_loopw [8] (fun t wr => ∃ i : Nat, t = .int .i64 i ∧ i ≤ n ∧ Ovw w4a wr ao n ∧ Below w.heap.size w wr) (fun t _ => n - (intOf t).toNat)
  case atStart => exact ⟨0, rfl, by omega, HOV.out, HBW.out⟩
  case round =>
    obtain ⟨i, rfl, hi, hov, hbw⟩ := hrel
    have i0 : (0 : Int) ≤ i := by omega
    by_cases hin : i < n
    · have hi2 : (i : Int) < n := by omega
      obtain ⟨g, off, c, cur, rfl, c0, c1, hg, hcu⟩ := hov.cel i hin
      have hci : wr.cell? ⟨g, off + i, none⟩ = some (.int .u8 c) := by rw [cell_block hg]; exact hcu
      have hfi : wr.frozen? ⟨g, off + i, none⟩ = false := by simp [World.frozen?, hg]
      have hgl := (hol _ rfl).1
      have hg0 := HB1.out.size
      go_wp2_with fail
      go_roundw
      case rel => exact ⟨i + 1, by go_num, by omega, hov.put (by omega) (by omega), hbw.setCell (p := ⟨g, off + i, none⟩) (Nat.le_trans hg0 hgl) _⟩
      case measure => simp [intOf]; omega
    · have hi2 : ¬ (i : Int) < n := by omega
      have HOW := hide2 hov
      have HBW2 := hide2 hbw
      have hs5 : w4a.heap.size ≤ wr.heap.size := Nat.le_of_eq hov.size.symm
      have hsw := hbw.size
      clear hov hbw HOV HBW
      have HM5 := hide2 (HasM.below (show HasM w from by obtain ⟨m, hm⟩ := HM1.out; exact ⟨m, (HB1.out.cell (p := ⟨0, 0, none⟩) hw0).symm.trans hm⟩) HBW2.out hw0)
      have HH5 : Hid (Has wr a (zL l)) := HH0.out.of_below HBW2.out
      have HZ5 := hide2 (buf_none wr)
      -- the lists, and the first fault, as they were
      have hkeep : ∀ k, w2.heap.size ≤ k → wr.heap[k]? = w4a.heap[k]? := fun k hk => HOW.out.oth k (fun x hx => by have := (hol x hx).2; omega)
      have HA5 : Hid (wr.ownsRow w2.heap.size 39 5 (.slice ava N ca) N (T.flatMap Tk.row)) := own_blk HRA.out (fun k hk => (hkeep k (HRA.out.lt k hk).1).trans ((HB34.out.block k (by have := (HRA.out.lt k hk).2; omega)).trans (HB3a.out.block k (HRA.out.lt k hk).2)))
      have HBB5 : Hid (wr.ownsRow w3a.heap.size 39 5 (.slice avb N cb) N (T.flatMap Tk.row)) := own_blk HRB.out (fun k hk => (hkeep k (by have := (HRB.out.lt k hk).1; omega)).trans (HB4a.out.block k (HRB.out.lt k hk).2))
      have HK5 : Hid (wr.heap[w3.heap.size]? = some (.cells #[.int .i64 fd, .int .i64 fl, .int .i64 fe] 32 (0, 0))) := (hkeep _ (by omega)).trans ((HB34.out.block _ (by omega)).trans K3.out)
      have hla : ∀ k, (Value.slice ava N ca).ownBlock = some k → w2.heap.size ≤ k ∧ k < w3.heap.size := fun k hk => HRA.out.lt k hk
      have hlb : ∀ k, (Value.slice avb N cb).ownBlock = some k → w3a.heap.size ≤ k ∧ k < w4.heap.size := fun k hk => HRB.out.lt k hk
      clear hkeep HOW HRA HRB HB34 HB3a HB4a K3 HBF
      go_wp2_with (at_builtin; refine wpList_append_buf _ rfl (.tmp 43) (.tmp 44) 22 rfl wr.heap.size i5 Tryd.underlying22 hi5 hz50 hz51 hz52 (.slice (some ⟨wr.heap.size, 0, none⟩) 0 0) [] rfl HZ5.out a n cap (zL l) rfl (by rw [zL_length]; exact HN.out) hbare (HH5.out.of_below ((Below.refl _ wr).alloc (Nat.le_refl _) _)) (oct_zL l) (by simp; omega) (by simp) ?_; intro v6 w6 hbuf hgr _)
      rw [List.nil_append] at hbuf
      have b6 : Below wr.heap.size wr w6 := below_buf hgr (fun k hk => by cases hk; exact Nat.le_refl _)
      clear hgr HZ5
      obtain ⟨ao6, ci6, hv6, _, hHi6, _, hci6⟩ := hbuf.form
      rw [zL_length, HN.out] at hv6
      subst hv6
      have HM6 := hide2 (HM5.out.below b6 HM5.out.lt)
      have HB6 := hide2 b6
      have hs6 := b6.size
      clear hbuf b6
      refine (scan_call ao6 n ci6 l w6 HN.out hHi6 (by unfold maxLen; omega) HM6.out T fd fl fe N HNN.out HT.out HF.out).mono ?_
      rintro e w7 ⟨avc, cc, rfl, hrc, havc, b7⟩
      have HB57 := hide2 (HB6.out.trans (b7.mono HB6.out.size))
      have hs7 := b7.size
      have hlc : ∀ k, (Value.slice avc N cc).ownBlock = some k → w6.heap.size ≤ k ∧ k < w7.heap.size := fun k hk => hrc.lt k hk
      have HA7 : Hid (w7.ownsRow w2.heap.size 39 5 (.slice ava N ca) N (T.flatMap Tk.row)) := own_blk HA5.out (fun k hk => HB57.out.block k (HA5.out.lt k hk).2)
      have HBB7 : Hid (w7.ownsRow w3a.heap.size 39 5 (.slice avb N cb) N (T.flatMap Tk.row)) := own_blk HBB5.out (fun k hk => HB57.out.block k (HBB5.out.lt k hk).2)
      have HRC := hide2 hrc
      have hk7 := (HB57.out.block w3.heap.size (by omega)).trans HK5.out
      have HBW7 := hide2 (HBW2.out.trans (HB57.out.mono HBW2.out.size))
      clear hrc b7 HA5 HBB5 HK5 HB57
      have q0 := cell_of hk7 0 _ rfl
      have q1 := cell_of hk7 1 _ rfl
      have q2 := cell_of hk7 2 _ rfl
      have hq : w3.heap.size < w7.heap.size := by omega
      go_wp2_with fail
      have b7a : Below w7.heap.size w7 (w7.alloc (.cells #[.int .i64 fd, .int .i64 fl, .int .i64 fe] 32)) := (Below.refl _ w7).alloc (Nat.le_refl _) _
      obtain ⟨w7a, hw7a⟩ : ∃ W, w7.alloc (.cells #[.int .i64 fd, .int .i64 fl, .int .i64 fe] 32) = W := ⟨_, rfl⟩
      rw [hw7a] at b7a ⊢
      clear hw7a hk7 q0 q1 q2
      have HA8 : Hid (w7a.ownsRow w2.heap.size 39 5 (.slice ava N ca) N (T.flatMap Tk.row)) := own_blk HA7.out (fun k hk => b7a.block k (HA7.out.lt k hk).2)
      have HBB8 : Hid (w7a.ownsRow w3a.heap.size 39 5 (.slice avb N cb) N (T.flatMap Tk.row)) := own_blk HBB7.out (fun k hk => b7a.block k (HBB7.out.lt k hk).2)
      have HC8 : Hid (w7a.ownsRow w6.heap.size 39 5 (.slice avc N cc) N (T.flatMap Tk.row)) := own_blk HRC.out (fun k hk => b7a.block k (HRC.out.lt k hk).2)
      have HW8 := hide2 (HBW7.out.trans (b7a.mono HBW7.out.size))
      have hs8 := b7a.size
      clear HA7 HBB7 HRC HBW7 b7a
      have hNi : (N : Int) ≤ 65537 := by omega
      have hnac : ∀ k, (Value.slice avc N cc).ownBlock = some k → (Value.slice ava N ca).ownBlock ≠ some k := fun k h1 h2 => by have := hla k h2; have := hlc k h1; omega
      have hnab : ∀ k, (Value.slice avb N cb).ownBlock = some k → (Value.slice ava N ca).ownBlock ≠ some k := fun k h1 h2 => by have := hla k h2; have := hlb k h1; omega
      have HNAC := hide2 hnac
      have HNAB := hide2 hnab
      have HLA := hide2 hla
      clear hnac hnab hla hlb hlc hol
      have hww := HB2.out.size
      go_loopw [11] (fun t wr => ∃ i : Nat, t = .int .i64 i ∧ i ≤ N ∧ Otk w7a wr w2.heap.size (.slice ava N ca) N i T ∧ Below w.heap.size w wr) (fun t _ => N - (intOf t).toNat)
      case atStart => exact ⟨0, rfl, by omega, ⟨fun _ _ => rfl, rfl, _, HA8.out, fun _ _ => rfl⟩, HW8.out⟩
      case round =>
        obtain ⟨i, rfl, hi, hov, hbw⟩ := hrel
        have i0 : (0 : Int) ≤ i := by omega
        by_cases hin : i < N
        · have hi2 : (i : Int) < N := by omega
          obtain ⟨ga, rfl⟩ := hava (by omega)
          obtain ⟨gc, rfl⟩ := havc (by omega)
          rcases hti : T[i]? with _ | t
          · have := List.getElem?_eq_none_iff.1 hti; have := HNN.out; omega
          obtain ⟨kd, ln, cl, tx, q⟩ := t
          have HRCi : wr.ownsRow w6.heap.size 39 5 (.slice (some ⟨gc, 0, none⟩) N cc) N (T.flatMap Tk.row) := own_blk HC8.out (fun k hk => hov.oth k (HNAC.out k hk))
          obtain ⟨a0, z0⟩ := hov.cell _ hti 0 _ (by omega) rfl
          obtain ⟨a1, z1⟩ := hov.cell _ hti 1 _ (by omega) rfl
          obtain ⟨a2, z2⟩ := hov.cell _ hti 2 _ (by omega) rfl
          obtain ⟨a3, z3⟩ := hov.cell _ hti 3 _ (by omega) rfl
          obtain ⟨a4, z4⟩ := hov.cell _ hti 4 _ (by omega) rfl
          have e0 := row_cell HRCi i _ hti 0 _ (by omega) rfl
          have e1 := row_cell HRCi i _ hti 1 _ (by omega) rfl
          have e2 := row_cell HRCi i _ hti 2 _ (by omega) rfl
          have e3 := row_cell HRCi i _ hti 3 _ (by omega) rfl
          have e4 := row_cell HRCi i _ hti 4 _ (by omega) rfl
          rw [Nat.add_zero] at a0 z0 e0
          dsimp only at a0 a1 a2 a3 a4 e0 e1 e2 e3 e4
          have hgl := (HLA.out ga rfl).1
          have HOV2 := hide2 hov
          have HBW3 := hide2 hbw
          clear hov hbw HRCi hti
          go_wp2_with fail
          go_quiet (fail)
          go_wp2_with fail
          go_roundw
          case rel => exact ⟨i + 1, by go_num, by omega, (HOV2.out.drew nq).put (by omega) _ _ _ _ _, (((((below_drewN HBW3.out nq).setCell (p := ⟨ga, _, none⟩) (Nat.le_trans hww hgl) _).setCell (p := ⟨ga, _, none⟩) (Nat.le_trans hww hgl) _).setCell (p := ⟨ga, _, none⟩) (Nat.le_trans hww hgl) _).setCell (p := ⟨ga, _, none⟩) (Nat.le_trans hww hgl) _).setCell (p := ⟨ga, _, none⟩) (Nat.le_trans hww hgl) _⟩
          case measure => simp [intOf]; omega
        · have hi2 : ¬ (i : Int) < N := by omega
          obtain ⟨xs, hrow, _⟩ := hov.row
          have HROW := hide2 hrow
          have HBc : Hid (wr.ownsRow w3a.heap.size 39 5 (.slice avb N cb) N (T.flatMap Tk.row)) := own_blk HBB8.out (fun k hk => hov.oth k (HNAB.out k hk))
          have HCc : Hid (wr.ownsRow w6.heap.size 39 5 (.slice avc N cc) N (T.flatMap Tk.row)) := own_blk HC8.out (fun k hk => hov.oth k (HNAC.out k hk))
          have HBW3 := hide2 hbw
          have hsz8 : w7a.heap.size ≤ wr.heap.size := Nat.le_of_eq hov.size.symm
          have HZN : Hid (∀ j u, ([zTk, zTk].flatMap Tk.row)[j]? = some u → (wr.alloc (.cells #[.int .i64 0, .int .i64 0, .int .i64 0, .string ⟨#[]⟩, .bool false, .int .i64 0, .int .i64 0, .int .i64 0, .string ⟨#[]⟩, .bool false] 39)).cell? ((⟨wr.heap.size, 0, none⟩ : Addr).add j) = some u) := World.news_of_block (heap_alloc_new wr _)
          have HZO : ∀ u ∈ [zTk, zTk].flatMap Tk.row, u.oneCell' = true := by
            intro u hu
            obtain ⟨t, _, ht⟩ := List.mem_flatMap.1 hu
            exact Tk.row_one t u ht
          clear hrow hov hbw HBB8 HC8
          have hw2 : w2.heap.size ≤ wr.heap.size := by omega
          go_wp2_with (at_builtin; refine wpList_append_form _ rfl (.tmp 88) (.tmp 91) 29 rfl w2.heap.size 39 i39 _ 5 48 Tryd.underlying29 hi39 hy0 hy1 hy2 rfl (by decide) (.slice ava N ca) N xs rfl (HROW.out.alloc _) ⟨wr.heap.size, 0, none⟩ 2 2 ([zTk, zTk].flatMap Tk.row) rfl rfl HZN.out HZO (by omega) (by unfold maxLen; omega) (by omega) (by simp; omega) ?_; intro g9 c9 w9 hown9 hgrow9)
          have hsame : ∀ k, k < wr.heap.size → (Value.slice ava N ca).ownBlock ≠ some k → w9.heap[k]? = wr.heap[k]? := fun k hk hne => (hgrow9.block k (by simp; omega) (fun e => hne e.symm)).trans (Go.heap_alloc_old wr _ hk)
          have HB9 : Hid (w9.ownsRow w3a.heap.size 39 5 (.slice avb N cb) N (T.flatMap Tk.row)) := own_blk HBc.out (fun k hk => hsame k (HBc.out.lt k hk).2 (HNAB.out k hk))
          have HC9 : Hid (w9.ownsRow w6.heap.size 39 5 (.slice avc N cc) N (T.flatMap Tk.row)) := own_blk HCc.out (fun k hk => hsame k (HCc.out.lt k hk).2 (HNAC.out k hk))
          have HW9 : Hid (Below w.heap.size w w9) := (HBW3.out.alloc HBW3.out.size _).grown hgrow9 (by have := HBW3.out.size; simp; omega) (fun k hk => Nat.le_trans hww (HLA.out k hk).1)
          clear hown9 hgrow9 hsame HBc HCc HBW3 HROW HZN HZO
          go_loopw [12] (fun t wr => ∃ i : Nat, t = .int .i64 i ∧ i ≤ N ∧ ∃ q, wr = w9.drewN q) (fun t _ => N - (intOf t).toNat)
          case atStart => exact ⟨0, rfl, by omega, 0, rfl⟩
          case round =>
            obtain ⟨i, rfl, hi, q9, hwr⟩ := hrel
            have i0 : (0 : Int) ≤ i := by omega
            have HWR := hide2 hwr
            have hcell : ∀ x, wr.cell? x = w9.cell? x := fun x => by rw [HWR.out]; simp
            have HCL := hide2 hcell
            clear hwr hcell
            by_cases hin : i < N
            · have hi2 : (i : Int) < N := by omega
              obtain ⟨gb, rfl⟩ := havb (by omega)
              obtain ⟨gc, rfl⟩ := havc (by omega)
              rcases hti : T[i]? with _ | t
              · have := List.getElem?_eq_none_iff.1 hti; have := HNN.out; omega
              obtain ⟨kd, ln, cl, tx, q⟩ := t
              have a0 := (HCL.out _).trans (row_cell HB9.out i _ hti 0 _ (by omega) rfl)
              have a1 := (HCL.out _).trans (row_cell HB9.out i _ hti 1 _ (by omega) rfl)
              have a2 := (HCL.out _).trans (row_cell HB9.out i _ hti 2 _ (by omega) rfl)
              have a3 := (HCL.out _).trans (row_cell HB9.out i _ hti 3 _ (by omega) rfl)
              have a4 := (HCL.out _).trans (row_cell HB9.out i _ hti 4 _ (by omega) rfl)
              have e0 := (HCL.out _).trans (row_cell HC9.out i _ hti 0 _ (by omega) rfl)
              have e1 := (HCL.out _).trans (row_cell HC9.out i _ hti 1 _ (by omega) rfl)
              have e2 := (HCL.out _).trans (row_cell HC9.out i _ hti 2 _ (by omega) rfl)
              have e3 := (HCL.out _).trans (row_cell HC9.out i _ hti 3 _ (by omega) rfl)
              have e4 := (HCL.out _).trans (row_cell HC9.out i _ hti 4 _ (by omega) rfl)
              rw [Nat.add_zero] at a0 e0
              dsimp only at a0 a1 a2 a3 a4 e0 e1 e2 e3 e4
              clear hti
              go_wp2_with fail
              go_quiet (fail)
              go_wp2_with fail
              go_roundw
              case rel => exact ⟨i + 1, by go_num, by omega, q9 + nq, by rw [HWR.out]; simp⟩
              case measure => simp [intOf]; omega
            · have hi2 : ¬ (i : Int) < N := by omega
              have hN2 : (2 : Int) ≤ (N : Int) + 2 := by omega
              go_wp2
              go_ret
              refine ⟨ret_bool ?_, ?_⟩
              · simp
              · rw [HWR.out]; exact below_drewN HW9.out _
end Go.Proofs.YtjmgngocpokpgaaDoor
