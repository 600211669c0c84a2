/-
  The walk of SumScans.
-/
import Derived.Test.YtcjefhgnmpomjaaDoorRScan
import Derived.Test.YtcjefhgnmpomjaaDoorQRound
namespace Go.Proofs.YtcjefhgnmpomjaaDoor
open Go.RowKit Go.Shelf
set_option linter.unusedVariables false
attribute [local go_sem] Oper.semAt_some

theorem RGath.ll {w W : World} {xs : List Told} {gs : List Sl} {v4 v5 : Value} (h : RGath w W xs gs v4 v5) : ∃ a c, v4 = .slice a gs.length c ∧ LL W a gs := by
  have hb : ∀ s ∈ gs, Bs W s.a s.n s.cap s.zs := fun s hs => by
    obtain ⟨h1, h2, h3⟩ := h.own s hs
    obtain ⟨a, cp, e, hB⟩ := own_bs h1 h2 (by omega)
    cases e; exact hB
  obtain ⟨a, cp, e, hL, _⟩ := own_ll h.out hb
  exact ⟨a, cp, e, hL⟩

/-- One record that is told is the one of the list at that place. -/
theorem told_at {zs : List Int} {pre xs : List Told} {x : Told} {gs : List Sl} {m : Nat} (h : Row1 zs 0 (pre ++ [x])) (hA : AllOf zs 0 xs) (hl : xs.length = m) (hs : gs.map (·.zs) = xs.map (·.ps)) :
    pre.length < m ∧ (xs.map fun x => (x.behind : Int)).getD pre.length 0 = x.behind ∧ ∃ s, gs[pre.length]? = some s ∧ s.zs = x.ps := by
  obtain ⟨q1, q2, q3, _⟩ := row_all zs 0 (pre ++ [x]) xs h hA
  have hlt : pre.length < xs.length := by simp at q1; omega
  refine ⟨by omega, ?_, ?_⟩
  · have := congrArg (·[pre.length]?) q3
    simp at this
    obtain ⟨y, hy1, hy2⟩ : ∃ y, xs[pre.length]? = some y ∧ y.behind = x.behind := by
      have h2 : xs[pre.length]? = some xs[pre.length] := List.getElem?_eq_getElem hlt
      refine ⟨_, h2, ?_⟩
      rw [h2] at this; simpa using this.symm
    simp [List.getD, hy1, hy2]
  · have e2 := congrArg (·[pre.length]?) q2
    simp at e2
    have h2 : xs[pre.length]? = some xs[pre.length] := List.getElem?_eq_getElem hlt
    rw [h2] at e2
    have e3 := congrArg (·[pre.length]?) hs
    simp [h2] at e3
    obtain ⟨s, hs1, hs2⟩ := e3
    exact ⟨s, hs1, by rw [hs2]; simpa using e2.symm⟩

/-- Between two rounds: all lies as it lay, but for the count. -/
def Cnt (w6 : World) (C : Nat → Prop) (pre : List Told) (W : World) : Prop :=
  Below w6.heap.size w6 W ∧ w6.heap.size + 1 ≤ W.heap.size ∧ W.heap[w6.heap.size]? = some (.cells #[.int .i64 (pre.length : Int)] 3 (0, 0)) ∧ C pre.length
theorem cnt_own (w6 : World) (C : Nat → Prop) (B : Nat) (hB : w6.heap.size ≤ B) : OwnFrom B (Cnt w6 C) := by
  intro s X Y row hs hg hr
  obtain ⟨h1, h2, h3, h4⟩ := hs
  refine ⟨h1.grown hg h1.size (fun k h => Nat.le_trans hB (hr k h).1), Nat.le_trans h2 hg.size, ?_, h4⟩
  exact (hg.block _ (lt_heap h3) (fun e => by obtain ⟨_, o, ho, hc⟩ := hr _ e.symm; rw [h3] at ho; cases ho; cases hc)).trans h3
theorem cnt_step {w6 W : World} {k : Int} (B Bn bb q : Nat) (z : Int) (hb : Below w6.heap.size w6 W) (hs : w6.heap.size + 1 ≤ W.heap.size) (hk : W.heap[w6.heap.size]? = some (.cells #[.int .i64 k] 3 (0, 0))) (h0 : 0 < w6.heap.size) (h1 : Bn < w6.heap.size) (h2 : bb < w6.heap.size) :
    KeepsFrom B W ((W.drewN q).setCell ⟨w6.heap.size, 0, none⟩ (.int .i64 z)) ∧ Keeps3 Bn bb W ((W.drewN q).setCell ⟨w6.heap.size, 0, none⟩ (.int .i64 z)) ∧ Below w6.heap.size w6 ((W.drewN q).setCell ⟨w6.heap.size, 0, none⟩ (.int .i64 z)) ∧
      w6.heap.size + 1 ≤ ((W.drewN q).setCell ⟨w6.heap.size, 0, none⟩ (.int .i64 z)).heap.size ∧ ((W.drewN q).setCell ⟨w6.heap.size, 0, none⟩ (.int .i64 z)).heap[w6.heap.size]? = some (.cells #[.int .i64 z] 3 (0, 0)) := by
  have hz : (W.drewN q).heap = W.heap := rfl
  have oth : ∀ j, j ≠ w6.heap.size → ((W.drewN q).setCell ⟨w6.heap.size, 0, none⟩ (.int .i64 z)).heap[j]? = W.heap[j]? := fun j hj => Below.heap_setCell (W.drewN q) _ _ j hj
  have sz : ((W.drewN q).setCell ⟨w6.heap.size, 0, none⟩ (.int .i64 z)).heap.size = W.heap.size := by simp
  refine ⟨⟨by omega, fun j o _ hj ho => ?_⟩, ⟨by omega, oth 0 (by omega), oth Bn (by omega), oth bb (by omega)⟩, (below_drewN hb q).setCell (Nat.le_refl _) _, by omega, one_setCell (show (W.drewN q).heap[w6.heap.size]? = _ from hk)⟩
  rw [oth j (fun e => by subst e; rw [hk] at hj; cases hj; cases ho)]
  exact hj
theorem row_len (zs : List Int) : ∀ (k : Nat) (xs : List Told), Row1 zs k xs → k ≤ zs.length → k + xs.length ≤ zs.length
  | k, [], _, h => by simpa using h
  | k, x :: r, h, hk => by
    obtain ⟨⟨N, hN, hb, _⟩, h'⟩ := h
    have h1 := hN.1
    have h2 := hN.2.2.2.1
    simp at h1 h2
    have := row_len zs x.behind r h' (by omega)
    simp only [List.length_cons]; omega
theorem last_behind : ∀ (k : Nat) (xs : List Told), 0 < xs.length → (xs.map fun x => (x.behind : Int)).getD (xs.length - 1) 0 = (lastOf k xs : Int)
  | _, [], h => by simp at h
  | k, [x], _ => by simp [lastOf]
  | k, x :: y :: r, _ => by
    have := last_behind x.behind (y :: r) (by simp)
    simp only [lastOf] at this ⊢
    simpa using this

set_option maxRecDepth 100000 in
set_option maxHeartbeats 4000000 in
theorem scans_any (a : Option Addr) (n cap : Nat) (zs : List Int) (most : Int) (w : World) (hP : Bs w a n cap zs) (hT : Tab w) (hl : n ≤ 68719476736) (hm0 : -9223372036854775808 ≤ most) (hm1 : most ≤ 9223372036854775807) :
    Calls Tryd.prog 5 #[.slice a n cap, .int .i64 most] w fun e w' => e = .returned (.bool true) ∧ Below w.heap.size w w' := by
  refine (callsIn_wide (n := 3)).1 ?_
  refine callsIn_of_wp_marks Tryd.func5 rfl trivial ?_ rfl
  simp only [Tryd.ntmps5, List.size_toArray, List.length_cons, List.length_nil, Nat.reduceAdd, Nat.reduceSub, Array.replicate_succ, Array.replicate_zero, List.push_toArray, List.append_toArray, List.nil_append, List.cons_append]
  gi_wp2_with fail
  refine ⟨trivial, ?_⟩
  have b2 : Below w.heap.size w ((w.alloc (.cells #[.int .i64 most] 3)).alloc (.cells #[.bool false] 4)) := ((Below.refl _ w).alloc (Nat.le_refl _) _).alloc (by simp) _
  refine (callsIn_wide.2 (lent_row a n cap zs _ hP.len (hP.has.of_below b2) hP.oct hP.bare (by omega))).mono ?_
  rintro e w1 ⟨g, cp, rfl, hR1, hb1⟩
  have hs2 : ((w.alloc (.cells #[.int .i64 most] 3)).alloc (.cells #[.bool false] 4)).heap.size = w.heap.size + 2 := by simp
  rw [hs2] at hR1 hb1
  have B1 : Below w.heap.size w w1 := b2.trans (hb1.mono (by omega))
  have hM : w1.heap[w.heap.size]? = some (.cells #[.int .i64 most] 3 (0, 0)) := (hb1.block _ (by omega)).trans ((Go.heap_alloc_old _ _ _ (by simp)).trans (heap_alloc_new w _))
  have hO : w1.heap[w.heap.size + 1]? = some (.cells #[.bool false] 4 (0, 0)) := by
    refine (hb1.block _ (by omega)).trans ?_
    have := heap_alloc_new (w.alloc (.cells #[.int .i64 most] 3)) (.cells #[.bool false] 4)
    rw [World.size_alloc] at this; exact this
  have hz1 := hb1.size
  rw [hs2] at hz1
  clear hb1 b2 hs2
  gi_wp2_with fail
  refine ⟨trivial, ?_⟩
  refine (callsIn_wide.2 (rscan_any a n cap zs _ (hP.below B1) (by omega))).mono ?_
  rintro e w2 ⟨xs, gs, v4, v5, hAll, rfl, hG⟩
  obtain ⟨a4, c4, rfl, hL4⟩ := hG.ll
  obtain ⟨a5, c5, rfl, hI5⟩ := own_ints hG.places
  have b12 := hG.below
  have hsame := hG.same
  have hxl : xs.length = gs.length := by have := congrArg List.length hsame; simpa using this.symm
  obtain ⟨m, hm⟩ : ∃ m, gs.length = m := ⟨_, rfl⟩
  have HM : Hid (gs.length = m) := hm
  have HXM : Hid (xs.length = m) := hxl.trans hm
  rw [hm] at hI5 ⊢
  clear hG hm hxl
  have hmn : m ≤ n := by have := row_len zs 0 xs hAll.1 (by omega); have := HXM.out; have := hP.len; omega
  gi_upto_if 26 with fail
  gi_cut [8] from 1000 (fun t wx => t = .int .i64 (lastOf 0 xs) ∧ Below w2.heap.size w2 wx ∧ wx.heap[w2.heap.size]? = some (.cells #[.slice a4 m c4] 35 (0, 0)) ∧ wx.heap[w2.heap.size + 1]? = some (.cells #[.slice a5 m c5] 36 (0, 0)) ∧ w2.heap.size + 2 ≤ wx.heap.size)
  case first =>
    have B3 : Below w2.heap.size w2 ((w2.alloc (.cells #[.slice a4 m c4] 35)).alloc (.cells #[.slice a5 m c5] 36)) := ((Below.refl _ w2).alloc (Nat.le_refl _) _).alloc (by simp) _
    have h6 : ((w2.alloc (.cells #[.slice a4 m c4] 35)).alloc (.cells #[.slice a5 m c5] 36)).heap[w2.heap.size]? = some (.cells #[.slice a4 m c4] 35 (0, 0)) := (Go.heap_alloc_old _ _ _ (by simp)).trans (heap_alloc_new w2 _)
    have h7 : ((w2.alloc (.cells #[.slice a4 m c4] 35)).alloc (.cells #[.slice a5 m c5] 36)).heap[w2.heap.size + 1]? = some (.cells #[.slice a5 m c5] 36 (0, 0)) := by
      have := heap_alloc_new (w2.alloc (.cells #[.slice a4 m c4] 35)) (.cells #[.slice a5 m c5] 36)
      rw [World.size_alloc] at this; exact this
    have hz3 : w2.heap.size + 2 ≤ ((w2.alloc (.cells #[.slice a4 m c4] 35)).alloc (.cells #[.slice a5 m c5] 36)).heap.size := by simp
    have c7 := cell_of_row _ _ 0 _ _ _ h7
    obtain ⟨W3, hW3⟩ : ∃ W3, (w2.alloc (.cells #[.slice a4 m c4] 35)).alloc (.cells #[.slice a5 m c5] 36) = W3 := ⟨_, rfl⟩
    rw [hW3] at B3 h6 h7 hz3 c7 ⊢
    clear hW3
    by_cases hm0 : m = 0
    · have HL : Hid (lastOf 0 xs = 0) := by
        have : xs = [] := List.length_eq_zero_iff.1 (HXM.out.trans hm0)
        subst this; rfl
      have hm' : ¬ 0 < m := by omega
      gi_wp2_with fail
      gi_meet
      case rel => exact ⟨by rw [HL.out]; rfl, B3, h6, h7, hz3⟩
    · rcases hI5 with h0 | ⟨g5, rfl, hc5⟩
      · exact absurd h0 hm0
      have hm' : 0 < m := by omega
      have HL : Hid ((xs.map fun x => (x.behind : Int)).getD (m - 1) 0 = (lastOf 0 xs : Int)) := by
        have := last_behind 0 xs (by rw [HXM.out]; omega)
        rw [HXM.out] at this; exact this
      have hcl : W3.cell? ⟨g5, m - 1, none⟩ = some (.int .i64 (lastOf 0 xs)) := by
        have h1 := hc5 (m - 1) (by omega)
        rw [HL.out] at h1
        exact (B3.cell (p := ⟨g5, m - 1, none⟩) (by have := World.block_lt_of_cell? w2 _ h1; simpa using this)).trans h1
      have e1 : ((m : Int) - 1).toNat = m - 1 := by omega
      have e2 : (0 : Int) ≤ (m : Int) - 1 := by omega
      have e3 : (m : Int) - 1 < m := by omega
      clear hc5
      gi_wp2_with fail
      gi_meet
      case rel => exact ⟨rfl, B3, h6, h7, hz3⟩
  case rest =>
    obtain ⟨rfl, B3, h6, h7, hz3⟩ := hcut
    have B13 : Below w1.heap.size w1 wc := b12.trans (B3.mono b12.size)
    have R3 : Row wc (w.heap.size + 2) g n cp zs := hR1.below B13 hR1.lt.2
    have T3 : Tab wc := hT.below (B1.trans (B13.mono B1.size)) hT.pos
    gi_wp2_with fail
    refine ⟨trivial, ?_⟩
    refine (callsIn_wide.2 (scan_any (some ⟨g, 0, none⟩) n cp zs _ R3.len R3.has R3.oct T3 (by omega))).mono ?_
    rintro e w4 ⟨ys, v, hAl2, rfl, hown4, hlies4, hb4⟩
    obtain ⟨q1, q2, q3, q4, q5⟩ := row_all zs 0 ys xs hAl2.1 hAll
    have hyl : ys.length = m := (q5 hAl2.2).trans HXM.out
    have hyx : ys.map (·.ps) = gs.map (·.zs) := by
      rw [q2, hsame, List.take_of_length_le (by simp; have := q5 hAl2.2; omega)]
    have hylast : lastOf 0 ys = lastOf 0 xs := q4 (q5 hAl2.2)
    obtain ⟨al, cl, rfl, hLl⟩ := LL.scanned hown4 hlies4 (told_fit hP.oct 0 ys hAl2.1)
    rw [hylast, hyl]
    have HY : Hid ((ys.map tl).length = m ∧ (ys.map tl).map (·.zs) = gs.map (·.zs)) := ⟨by simpa using hyl, by rw [← hyx]; simp [tl, Function.comp_def]⟩
    clear q1 q2 q3 q4 q5 hyl hyx hylast hown4 hlies4 hAl2
    have R4 := R3.below hb4 R3.lt.2
    gi_wp2_with fail
    refine ⟨trivial, ?_⟩
    refine (callsIn_wide.2 (each_any (some ⟨g, 0, none⟩) n cp zs _ R4.len R4.has (by omega))).mono ?_
    rintro e w5 ⟨rfl, hc5, hH5, hz5, hb5⟩
    have B25 : Below w2.heap.size w2 w5 := B3.trans ((hb4.trans (hb5.mono hb4.size)).mono B3.size)
    have L5l : LL w5 al (ys.map tl) := hLl.below hb5
    have L5 : LL w5 a4 gs := hL4.below B25
    have h65 : w5.heap[w2.heap.size]? = some (.cells #[.slice a4 m c4] 35 (0, 0)) := (hb5.block _ (by have := hb4.size; omega)).trans ((hb4.block _ (by omega)).trans h6)
    have h75 : w5.heap[w2.heap.size + 1]? = some (.cells #[.slice a5 m c5] 36 (0, 0)) := (hb5.block _ (by have := hb4.size; omega)).trans ((hb4.block _ (by omega)).trans h7)
    have c6 := cell_of_row _ _ 0 _ _ _ h65
    gi_wp2_with fail
    refine ⟨trivial, ?_⟩
    refine (callsIn_wide.2 (lists_any al a4 m cl c4 (ys.map tl) gs _ HY.out.1 (by omega) L5l L5 HY.out.2)).mono ?_
    rintro e w6 ⟨rfl, hb6⟩
    have hnil : ∀ (b : Nat) (W : World), (binOp BinOp.eql 42 (.func (.func 31) #[] #[.pointer (some ⟨b, 0, none⟩)]) .nilFunc).run Tryd.prog W = .ok (.bool false) W := fun _ _ => by kernel_rfl
    gi_wp2_with fail
    have z2 := b12.size
    have z4 := hb4.size
    have z6 := hb6.size
    have B26 : Below w2.heap.size w2 w6 := B25.trans (hb6.mono B25.size)
    have B16 : Below w1.heap.size w1 w6 := b12.trans (B26.mono b12.size)
    have B06 : Below w.heap.size w w6 := B1.trans (B16.mono B1.size)
    have fM : w6.heap[w.heap.size]? = some (.cells #[.int .i64 most] 3 (0, 0)) := (B16.block _ (by omega)).trans hM
    have fO : w6.heap[w.heap.size + 1]? = some (.cells #[.bool false] 4 (0, 0)) := (B16.block _ (by omega)).trans hO
    have R6 : Row w6 (w.heap.size + 2) g n cp zs := hR1.below B16 hR1.lt.2
    have P6 : Bs w6 a n cap zs := hP.below B06
    have L6 : LL w6 a4 gs := L5.below hb6
    have f6 : w6.heap[w2.heap.size]? = some (.cells #[.slice a4 m c4] 35 (0, 0)) := (hb6.block _ (by omega)).trans h65
    have f7 : w6.heap[w2.heap.size + 1]? = some (.cells #[.slice a5 m c5] 36 (0, 0)) := (hb6.block _ (by omega)).trans h75
    have I6 : m = 0 ∨ ∃ g5, a5 = some ⟨g5, 0, none⟩ ∧ ∀ j, j < m → w6.cell? ⟨g5, j, none⟩ = some (.int .i64 ((xs.map fun x => (x.behind : Int)).getD j 0)) := by
      rcases hI5 with h | ⟨g5, h1, h2⟩
      · exact .inl h
      · exact .inr ⟨g5, h1, fun j hj => (B26.cell (p := ⟨g5, j, none⟩) (by have := World.block_lt_of_cell? w2 _ (h2 j hj); simpa using this)).trans (h2 j hj)⟩
    have T6 : Tab w6 := hT.below B06 hT.pos
    have cB6 : w6.cell? ⟨w4.heap.size, 0, none⟩ = some (.slice (some ⟨w4.heap.size + 1, 0, none⟩) n n) := (hb6.cell (p := ⟨w4.heap.size, 0, none⟩) (by show w4.heap.size < w5.heap.size; omega)).trans hc5
    have H6 : Has w6 (some ⟨w4.heap.size + 1, 0, none⟩) zs := hH5.of_below hb6
    have p6 := T6.pos
    clear B25 L5l L5 h65 h75 c6 hI5 hc5 hH5 hb5 hLl HY R4 R3 T3 B13 B3 h6 h7 hb4 hb6 hL4 hM hO b12 B16 B26 hnil B1 hR1
    obtain ⟨wL, hwL⟩ : ∃ wL, w6.alloc (.cells #[.int .i64 0] 3) = wL := ⟨_, rfl⟩
    have BL : Below w6.heap.size w6 wL := by rw [← hwL]; exact (Below.refl _ w6).alloc (Nat.le_refl _) _
    have sL : wL.heap.size = w6.heap.size + 1 := by rw [← hwL]; simp
    have kL : wL.heap[w6.heap.size]? = some (.cells #[.int .i64 0] 3 (0, 0)) := by rw [← hwL]; exact heap_alloc_new w6 _
    rw [hwL]
    clear hwL
    refine wpIn_range_meet (n := 3) (by decide) (gf := 31) (lb := #[.pointer (some ⟨w4.heap.size, 0, none⟩)]) rfl (enters_of Tryd.func31 (by kernel_rfl) rfl)
      (each_seq 2 (by decide) w4.heap.size (w4.heap.size + 1) n zs hP.len (by omega) hP.oct wL (by omega) (by omega) (T6.below BL p6) ((BL.cell (p := ⟨w4.heap.size, 0, none⟩) (by show w4.heap.size < w6.heap.size; omega)).trans cB6) (H6.of_below BL)) Keeps3.trans ?hKb (Below.refl _ _) (fun _ => rfl)
      (Cnt w6 fun k => most < 1 ∨ (k : Int) < most) (Cnt w6 fun k => 1 ≤ k ∧ (k : Int) = most) (cnt_own w6 _ _ BL.size) (cnt_own w6 _ _ BL.size) (lies_own _ _) ?h0
      (fun x => { tmps := #[Value.slice a n cap, Value.int IntKind.i64 most, undef, Value.pointer (some { block := w.heap.size, off := 0 }), Value.pointer (some { block := w.heap.size + 1, off := 0 }), Value.slice (some { block := g, off := 0 }) n cp, Value.pointer (some { block := w2.heap.size, off := 0 }), Value.pointer (some { block := w2.heap.size + 1, off := 0 }), Value.int IntKind.i64 ↑(lastOf 0 xs), Value.slice al m cl, Value.int IntKind.i64 ↑(lastOf 0 xs), Value.func (Fn.func 31) #[] #[Value.pointer (some { block := w4.heap.size, off := 0 })], Value.pointer (some { block := w6.heap.size, off := 0 }), .int .i64 x.behind, .slice (some ⟨x.g, 0, none⟩) x.ps.length x.ps.length, undef, undef, Value.slice a n cap, Value.slice (some { block := g, off := 0 }) n cp, Value.tuple #[Value.slice a4 m c4, Value.slice a5 m c5], Value.slice a n cap, Value.tuple #[Value.slice a4 m c4, Value.slice a5 m c5], Value.slice a4 m c4, Value.slice a5 m c5, Value.slice a5 m c5, Value.int IntKind.i64 ↑m, Value.bool (decide (0 < m)), u27, u28, u29, u30, u31, u32, Value.tuple #[Value.slice al m cl, Value.int IntKind.i64 ↑(lastOf 0 xs)], Value.slice (some { block := g, off := 0 }) n cp, Value.tuple #[Value.slice al m cl, Value.int IntKind.i64 ↑(lastOf 0 xs)], Value.slice al m cl, Value.int IntKind.i64 ↑(lastOf 0 xs), Value.slice (some { block := g, off := 0 }) n cp, Value.func (Fn.func 31) #[] #[Value.pointer (some { block := w4.heap.size, off := 0 })], Value.slice al m cl, Value.slice a4 m c4, Value.bool true, Value.bool false, Value.bool false, Value.int IntKind.i64 ↑(lastOf 0 xs), Value.int IntKind.i64 ↑(lastOf 0 xs), Value.bool false, Value.bool false, Value.bool false, Value.func (Fn.func 31) #[] #[Value.pointer (some { block := w4.heap.size, off := 0 })], Value.bool false, Value.bool false, Value.func (Fn.func 31) #[] #[Value.pointer (some { block := w4.heap.size, off := 0 })], .int .i64 x.behind, .slice (some ⟨x.g, 0, none⟩) x.ps.length x.ps.length, undef, undef, undef, undef, undef, undef, undef, undef, undef, undef, undef, undef, undef, undef, undef, undef, undef, undef, undef, undef, undef, undef, undef, undef, undef, undef, undef, undef, undef, undef, undef, undef, undef, undef, undef, undef, undef, undef, undef, undef, undef, undef, undef, undef, undef, undef, undef, undef, undef, undef, undef, undef, undef, undef, undef, undef, undef, undef, undef, undef, undef, undef, undef, undef, undef, undef, undef, undef, undef, undef, undef, undef, undef, undef, undef, undef, undef, undef], defers := [] }) ?assign ?body ?mid
    case hKb =>
      intro W l o o' hlw hW _ _
      have hlt := lt_heap hW
      exact ⟨by simp, World.putObj_heap_other (by omega), World.putObj_heap_other (by omega), World.putObj_heap_other (by omega)⟩
    case h0 => exact ⟨BL, by omega, kL, by by_cases h : most < 1; exact .inl h; exact .inr (by simp; omega)⟩
    case assign =>
      intro l x W K hK
      simp only [tolds]
      gi_wp2
      exact hK
    case body =>
      rintro l pre x W ⟨hbW, hsW, hkW, hC⟩ hxx hsp hlen
      obtain ⟨hpm, hpb, s, hs1, hs2⟩ := told_at hsp hAll HXM.out hsame
      rcases I6 with h0 | ⟨g5, rfl, hc5⟩
      · omega
      have LW := L6.below hbW
      rcases LW.2 with h0 | ⟨b4, o4, rfl, hc4⟩
      · rw [h0] at hs1; simp at hs1
      have c12 : W.cell? ⟨w6.heap.size, 0, none⟩ = some (.int .i64 (pre.length : Int)) := cell_of_row _ _ 0 _ _ _ hkW
      have f12 : W.frozen? ⟨w6.heap.size, 0, none⟩ = false := frozen_of_row _ _ 0 _ _ hkW
      have cM : W.cell? ⟨w.heap.size, 0, none⟩ = some (.int .i64 most) := cell_of_row _ _ 0 _ _ _ ((hbW.block _ (by omega)).trans fM)
      have c6 : W.cell? ⟨w2.heap.size, 0, none⟩ = some (.slice (some ⟨b4, o4, none⟩) m c4) := cell_of_row _ _ 0 _ _ _ ((hbW.block _ (by omega)).trans f6)
      have c7 : W.cell? ⟨w2.heap.size + 1, 0, none⟩ = some (.slice (some ⟨g5, 0, none⟩) m c5) := cell_of_row _ _ 0 _ _ _ ((hbW.block _ (by omega)).trans f7)
      have cS : W.cell? ⟨b4, o4 + pre.length, none⟩ = some (.slice s.a s.n s.cap) := hc4 _ s hs1
      have cP : W.cell? ⟨g5, pre.length, none⟩ = some (.int .i64 (x.behind : Int)) := by
        have h1 := hc5 pre.length hpm
        rw [hpb] at h1
        exact (hbW.cell (p := ⟨g5, pre.length, none⟩) (by have := World.block_lt_of_cell? w6 _ h1; simpa using this)).trans h1
      have SB := LW.1 s (List.mem_of_getElem? hs1)
      have s1 : ∀ q, (convert 22 9 (.slice (some ⟨x.g, 0, none⟩) x.ps.length x.ps.length)).run Tryd.prog (W.drewN q) = .ok (.string (bstr x.ps)) (W.drewN q) := fun q => str_of _ _ _ _ _ rfl (has_drewN (Has.of_block hxx.2) q)
      have s2 : ∀ q, (convert 22 9 (.slice s.a s.n s.cap)).run Tryd.prog (W.drewN q) = .ok (.string (bstr x.ps)) (W.drewN q) := fun q => str_of _ _ _ _ _ (by rw [← hs2]; exact SB.len) (has_drewN (by rw [← hs2]; exact SB.has) q)
      obtain ⟨k, hk⟩ : ∃ k, pre.length = k := ⟨_, rfl⟩
      rw [hk] at hpm cP cS c12
      have k0 : (0 : Int) ≤ k := by omega
      have k1 : (k : Int) < m := by omega
      have k2 : ¬ (m : Int) ≤ k := by omega
      have k3 : ¬ m ≤ k := by omega
      have k4 : decide (m ≤ k) = false := by simp; omega
      have HK : Hid (pre.length = k) := hk
      have HC : Hid (most < 1 ∨ (k : Int) < most) := by rw [← hk]; exact hC
      have HW : Hid (Below w6.heap.size w6 W ∧ w6.heap.size + 1 ≤ W.heap.size ∧ W.heap[w6.heap.size]? = some (.cells #[.int .i64 (k : Int)] 3 (0, 0))) := ⟨hbW, hsW, by rw [← hk]; exact hkW⟩
      clear hk hC hkW hbW hs1 hs2 SB hc4 hc5 LW hsp hxx hpb hlen
      gi_wp2_with fail
      refine qr_region (by kernel_rfl) (by kernel_rfl) (by kernel_rfl) ?_
      repeat (gi_big_quiet_step (fail))
      refine wpQuietIn_nil ?_
      rintro _ ⟨nq, rfl⟩
      obtain ⟨hw1, hw2, hw3⟩ := HW.out
      by_cases hmk : (k : Int) + 1 = most
      · gi_wp2_with fail
        obtain ⟨j1, j2, j3, j4, j5⟩ := cnt_step wL.heap.size w4.heap.size (w4.heap.size + 1) nq most hw1 hw2 hw3 p6 (by omega) (by omega)
        have el : (((pre ++ [x]).length : Nat) : Int) = most := by have := HK.out; simp; omega
        exact ⟨j1, rfl, j3, j4, by rw [el]; exact j5, by simp, el⟩
      · gi_wp2_with fail
        obtain ⟨j1, j2, j3, j4, j5⟩ := cnt_step wL.heap.size w4.heap.size (w4.heap.size + 1) nq ((k : Int) + 1) hw1 hw2 hw3 p6 (by omega) (by omega)
        have el : (((pre ++ [x]).length : Nat) : Int) = (k : Int) + 1 := by have := HK.out; simp; omega
        exact ⟨j1, j2, j3, j4, by rw [el]; exact j5, by have := HC.out; omega⟩
    case mid =>
      rintro D W hD hor hKD
      obtain ⟨kk, hbW, hsW, hkW, hkk⟩ : ∃ kk : Nat, Below w6.heap.size w6 W ∧ w6.heap.size + 1 ≤ W.heap.size ∧ W.heap[w6.heap.size]? = some (.cells #[.int .i64 (kk : Int)] 3 (0, 0)) ∧ ((kk = m ∧ (most < 1 ∨ (m : Int) < most)) ∨ (kk ≤ m ∧ 1 ≤ kk ∧ (kk : Int) = most)) := by
        rcases hor with ⟨ys', hS, h1, h2, h3, h4⟩ | ⟨pre, hSp, h1, h2, h3, h4⟩
        · obtain ⟨_, _, _, _, q5⟩ := row_all zs 0 ys' xs hS.1 hAll
          have e : ys'.length = m := (q5 hS.2).trans HXM.out
          exact ⟨ys'.length, h1, h2, h3, .inl ⟨e, by rw [← e]; exact h4⟩⟩
        · obtain ⟨q1, _⟩ := row_all zs 0 pre xs hSp hAll
          have := HXM.out
          exact ⟨pre.length, h1, h2, h3, .inr ⟨by omega, h4⟩⟩
      clear hor
      have c12 : W.cell? ⟨w6.heap.size, 0, none⟩ = some (.int .i64 (kk : Int)) := cell_of_row _ _ 0 _ _ _ hkW
      have f12 : W.frozen? ⟨w6.heap.size, 0, none⟩ = false := frozen_of_row _ _ 0 _ _ hkW
      have cM : W.cell? ⟨w.heap.size, 0, none⟩ = some (.int .i64 most) := cell_of_row _ _ 0 _ _ _ ((hbW.block _ (by omega)).trans fM)
      have c6 : W.cell? ⟨w2.heap.size, 0, none⟩ = some (.slice a4 m c4) := cell_of_row _ _ 0 _ _ _ ((hbW.block _ (by omega)).trans f6)
      obtain ⟨t90, ht90⟩ : ∃ t : Bool, decide (0 < most ∧ most < (m : Int)) = t := ⟨_, rfl⟩
      have HT90 : Hid (decide (0 < most ∧ most < (m : Int)) = t90) := ht90
      clear ht90
      gi_upto_region 18 with fail
      gi_cut [90] from 1000 (fun t wx => t = .bool t90 ∧ wx = W)
      case first =>
        by_cases hmp : 0 < most
        · have hd : Hid (decide (most < (m : Int)) = t90) := by show _ = _; rw [← HT90.out]; simp [hmp]
          gi_wp2_with fail
          gi_meet
          case rel => exact ⟨by rw [← hd.out], rfl⟩
        · have hd : Hid (false = t90) := by show _ = _; rw [← HT90.out]; simp [hmp]
          gi_wp2_with fail
          gi_meet
          case rel => exact ⟨by rw [← hd.out], rfl⟩
      case rest =>
        obtain ⟨rfl, hwc⟩ := hcut
        subst hwc
        gi_upto_if 90 with fail
        gi_cut [91] from 1000 (fun t wx => wx = wc)
        case first =>
          cases t90 with
          | true =>
            have h := HT90.out
            have e : (kk : Int) = most := by simp at h; omega
            clear h
            gi_wp2_with fail
            gi_meet
            case rel => rfl
          | false =>
            have h := HT90.out
            have e : kk = m := by simp at h; omega
            clear h
            subst e
            gi_wp2_with fail
            gi_meet
            case rel => rfl
        case rest =>
          subst hcut
          gi_wp2_with fail
          clear c12 f12 cM c6 hkk HT90
          have zW := hsW
          obtain ⟨j1, j2, j3, j4, j5⟩ := cnt_step 0 w4.heap.size (w4.heap.size + 1) 0 0 hbW hsW hkW p6 (by omega) (by omega)
          have hdd : (wc.drewN 0).setCell ⟨w6.heap.size, 0, none⟩ (.int .i64 0) = wc.setCell ⟨w6.heap.size, 0, none⟩ (.int .i64 0) := rfl
          rw [hdd] at j3 j4 j5
          have hDM : (wc.setCell ⟨w6.heap.size, 0, none⟩ (.int .i64 0)).heap[D]? = some (.deferred (some [])) := (Below.heap_setCell wc _ _ D (by show D ≠ w6.heap.size; omega)).trans hKD
          obtain ⟨wM, hwM⟩ : ∃ wM, wc.setCell ⟨w6.heap.size, 0, none⟩ (.int .i64 0) = wM := ⟨_, rfl⟩
          rw [hwM] at j3 j4 j5 hDM ⊢
          have hDl : D < wM.heap.size := lt_heap hDM
          clear hwM hdd j1 j2 hbW hsW hkW hKD
          refine wpIn_range_meet (n := 3) (by decide) (gf := 31) (lb := #[.pointer (some ⟨w4.heap.size, 0, none⟩)]) rfl (enters_of Tryd.func31 (by kernel_rfl) rfl)
            (each_seq 2 (by decide) w4.heap.size (w4.heap.size + 1) n zs hP.len (by omega) hP.oct wM (by omega) (by omega) (T6.below j3 p6) ((j3.cell (p := ⟨w4.heap.size, 0, none⟩) (by show w4.heap.size < w6.heap.size; omega)).trans cB6) (H6.of_below j3)) Keeps3.trans ?hKb2 (Below.refl _ _) (fun _ => rfl)
            (fun pre W => Cnt w6 (fun _ => True) pre W ∧ W.heap[D]? = some (.deferred (some []))) (fun _ _ => False) ?own2 (fun _ _ _ _ hs _ _ => hs) (lies_own _ _) ?h02
            (fun x => { tmps := #[Value.slice a n cap, Value.int IntKind.i64 most, undef, Value.pointer (some { block := w.heap.size, off := 0 }), Value.pointer (some { block := w.heap.size + 1, off := 0 }), Value.slice (some { block := g, off := 0 }) n cp, Value.pointer (some { block := w2.heap.size, off := 0 }), Value.pointer (some { block := w2.heap.size + 1, off := 0 }), Value.int IntKind.i64 ↑(lastOf 0 xs), Value.slice al m cl, Value.int IntKind.i64 ↑(lastOf 0 xs), Value.func (Fn.func 31) #[] #[Value.pointer (some { block := w4.heap.size, off := 0 })], Value.pointer (some { block := w6.heap.size, off := 0 }), undef, undef, .int .i64 x.behind, .slice (some ⟨x.g, 0, none⟩) x.ps.length x.ps.length, Value.slice a n cap, Value.slice (some { block := g, off := 0 }) n cp, Value.tuple #[Value.slice a4 m c4, Value.slice a5 m c5], Value.slice a n cap, Value.tuple #[Value.slice a4 m c4, Value.slice a5 m c5], Value.slice a4 m c4, Value.slice a5 m c5, Value.slice a5 m c5, Value.int IntKind.i64 ↑m, Value.bool (decide (0 < m)), u27, u28, u29, u30, u31, u32, Value.tuple #[Value.slice al m cl, Value.int IntKind.i64 ↑(lastOf 0 xs)], Value.slice (some { block := g, off := 0 }) n cp, Value.tuple #[Value.slice al m cl, Value.int IntKind.i64 ↑(lastOf 0 xs)], Value.slice al m cl, Value.int IntKind.i64 ↑(lastOf 0 xs), Value.slice (some { block := g, off := 0 }) n cp, Value.func (Fn.func 31) #[] #[Value.pointer (some { block := w4.heap.size, off := 0 })], Value.slice al m cl, Value.slice a4 m c4, Value.bool true, Value.bool false, Value.bool false, Value.int IntKind.i64 ↑(lastOf 0 xs), Value.int IntKind.i64 ↑(lastOf 0 xs), Value.bool false, Value.bool false, Value.bool false, Value.func (Fn.func 31) #[] #[Value.pointer (some { block := w4.heap.size, off := 0 })], Value.bool false, Value.bool false, Value.func (Fn.func 31) #[] #[Value.pointer (some { block := w4.heap.size, off := 0 })], undef, undef, undef, undef, undef, undef, undef, undef, undef, undef, undef, undef, undef, undef, undef, undef, undef, undef, undef, undef, undef, undef, undef, undef, undef, undef, undef, undef, undef, u83, u84, u85, u86, u87, u88, u89, Value.bool t90, u91, u92, u93, u94, u95, u96, u97, Value.func (Fn.func 31) #[] #[Value.pointer (some { block := w4.heap.size, off := 0 })], .int .i64 x.behind, .slice (some ⟨x.g, 0, none⟩) x.ps.length x.ps.length, undef, undef, undef, undef, undef, undef, undef, undef, undef, undef, undef, undef, undef, undef, undef, undef, undef, undef, undef, undef, undef, undef, undef, undef, undef, undef, undef, undef, undef, undef, undef, undef, undef], defers := [] }) ?assign2 ?body2 ?mid2
          case hKb2 =>
            intro W l o o' hlw hW _ _
            have hlt := lt_heap hW
            exact ⟨by simp, World.putObj_heap_other (by omega), World.putObj_heap_other (by omega), World.putObj_heap_other (by omega)⟩
          case own2 =>
            intro s X Y row hs hg hr
            exact ⟨cnt_own w6 _ _ j3.size s X Y row hs.1 hg hr, (hg.block D (lt_heap hs.2) (fun e => by have := (hr D e.symm).1; omega)).trans hs.2⟩
          case h02 => exact ⟨⟨j3, j4, j5, trivial⟩, hDM⟩
          case assign2 =>
            intro l x W K hK
            simp only [tolds]
            gi_wp2
            exact hK
          case body2 =>
            rintro l pre x W ⟨⟨hbW, hsW, hkW, _⟩, hDW⟩ hxx hsp hlen
            obtain ⟨hpm, hpb, s, hs1, hs2⟩ := told_at hsp hAll HXM.out hsame
            rcases I6 with h0 | ⟨g5, rfl, hc5⟩
            · omega
            have LW := L6.below hbW
            rcases LW.2 with h0 | ⟨b4, o4, rfl, hc4⟩
            · rw [h0] at hs1; simp at hs1
            have c12 : W.cell? ⟨w6.heap.size, 0, none⟩ = some (.int .i64 (pre.length : Int)) := cell_of_row _ _ 0 _ _ _ hkW
            have f12 : W.frozen? ⟨w6.heap.size, 0, none⟩ = false := frozen_of_row _ _ 0 _ _ hkW
            have c6 : W.cell? ⟨w2.heap.size, 0, none⟩ = some (.slice (some ⟨b4, o4, none⟩) m c4) := cell_of_row _ _ 0 _ _ _ ((hbW.block _ (by omega)).trans f6)
            have c7 : W.cell? ⟨w2.heap.size + 1, 0, none⟩ = some (.slice (some ⟨g5, 0, none⟩) m c5) := cell_of_row _ _ 0 _ _ _ ((hbW.block _ (by omega)).trans f7)
            have cS : W.cell? ⟨b4, o4 + pre.length, none⟩ = some (.slice s.a s.n s.cap) := hc4 _ s hs1
            have cP : W.cell? ⟨g5, pre.length, none⟩ = some (.int .i64 (x.behind : Int)) := by
              have h1 := hc5 pre.length hpm
              rw [hpb] at h1
              exact (hbW.cell (p := ⟨g5, pre.length, none⟩) (by have := World.block_lt_of_cell? w6 _ h1; simpa using this)).trans h1
            have SB := LW.1 s (List.mem_of_getElem? hs1)
            have s1 : ∀ q, (convert 22 9 (.slice (some ⟨x.g, 0, none⟩) x.ps.length x.ps.length)).run Tryd.prog (W.drewN q) = .ok (.string (bstr x.ps)) (W.drewN q) := fun q => str_of _ _ _ _ _ rfl (has_drewN (Has.of_block hxx.2) q)
            have s2 : ∀ q, (convert 22 9 (.slice s.a s.n s.cap)).run Tryd.prog (W.drewN q) = .ok (.string (bstr x.ps)) (W.drewN q) := fun q => str_of _ _ _ _ _ (by rw [← hs2]; exact SB.len) (has_drewN (by rw [← hs2]; exact SB.has) q)
            obtain ⟨k, hk⟩ : ∃ k, pre.length = k := ⟨_, rfl⟩
            rw [hk] at hpm cP cS c12
            have k0 : (0 : Int) ≤ k := by omega
            have k1 : (k : Int) < m := by omega
            have k2 : ¬ (m : Int) ≤ k := by omega
            have k3 : ¬ m ≤ k := by omega
            have k4 : decide (m ≤ k) = false := by simp; omega
            have HK : Hid (pre.length = k) := hk
            have HW : Hid (Below w6.heap.size w6 W ∧ w6.heap.size + 1 ≤ W.heap.size ∧ W.heap[w6.heap.size]? = some (.cells #[.int .i64 (k : Int)] 3 (0, 0))) := ⟨hbW, hsW, by rw [← hk]; exact hkW⟩
            clear hk hkW hbW hs1 hs2 SB hc4 hc5 LW hsp hxx hpb hlen
            gi_wp2_with fail
            refine qr_region (by kernel_rfl) (by kernel_rfl) (by kernel_rfl) ?_
            repeat (gi_big_quiet_step (fail))
            refine wpQuietIn_nil ?_
            rintro _ ⟨nq, rfl⟩
            obtain ⟨hw1, hw2, hw3⟩ := HW.out
            gi_wp2_with fail
            obtain ⟨j1', j2', j3', j4', j5'⟩ := cnt_step wM.heap.size w4.heap.size (w4.heap.size + 1) nq ((k : Int) + 1) hw1 hw2 hw3 p6 (by omega) (by omega)
            have el : (((pre ++ [x]).length : Nat) : Int) = (k : Int) + 1 := by have := HK.out; simp; omega
            exact ⟨j1', j2', ⟨j3', j4', by rw [el]; exact j5', trivial⟩, (Below.heap_setCell (W.drewN nq) _ _ D (by show D ≠ w6.heap.size; omega)).trans hDW⟩
          case mid2 =>
            rintro D2 W hD2 (⟨ys', hS, ⟨hbW, hsW, hkW, _⟩, hDW⟩ | ⟨_, _, h⟩) hKD2
            rotate_left
            · exact h.elim
            obtain ⟨_, _, _, _, q5⟩ := row_all zs 0 ys' xs hS.1 hAll
            have e : ys'.length = m := (q5 hS.2).trans HXM.out
            rw [e] at hkW
            have c12 : W.cell? ⟨w6.heap.size, 0, none⟩ = some (.int .i64 (m : Int)) := cell_of_row _ _ 0 _ _ _ hkW
            have c6 : W.cell? ⟨w2.heap.size, 0, none⟩ = some (.slice a4 m c4) := cell_of_row _ _ 0 _ _ _ ((hbW.block _ (by omega)).trans f6)
            have hOW := (hbW.block _ (by omega)).trans fO
            have cO : W.cell? ⟨w.heap.size + 1, 0, none⟩ = some (.bool false) := cell_of_row _ _ 0 _ _ _ hOW
            have fOf : W.frozen? ⟨w.heap.size + 1, 0, none⟩ = false := frozen_of_row _ _ 0 _ _ hOW
            have RW : Row W (w.heap.size + 2) g n cp zs := R6.below hbW R6.lt.2
            have PW : Bs W a n cap zs := P6.below hbW
            clear e q5 hS hkW
            gi_wp2_with fail
            refine ⟨trivial, ?_⟩
            refine (callsIn_wide.2 (kept_any (w.heap.size + 2) g n cp a cap zs _ RW PW.has)).mono ?_
            rintro e w7 ⟨rfl, hw7⟩
            subst hw7
            gi_wp2_with fail
            have hs7 : ∀ k, k ≠ w.heap.size + 1 → (w7.setCell ⟨w.heap.size + 1, 0, none⟩ (.bool true)).heap[k]? = w7.heap[k]? := fun k hk => Below.heap_setCell w7 _ _ k hk
            have B7 : Below w.heap.size w (w7.setCell ⟨w.heap.size + 1, 0, none⟩ (.bool true)) := (B06.trans (hbW.mono B06.size)).setCell (by simp) _
            have hO7 : (w7.setCell ⟨w.heap.size + 1, 0, none⟩ (.bool true)).heap[w.heap.size + 1]? = some (.cells #[.bool true] 4 (0, 0)) := one_setCell hOW
            have hD7 : (w7.setCell ⟨w.heap.size + 1, 0, none⟩ (.bool true)).heap[D]? = some (.deferred (some [])) := (hs7 D (by omega)).trans hDW
            have hD27 : (w7.setCell ⟨w.heap.size + 1, 0, none⟩ (.bool true)).heap[D2]? = some (.deferred (some [])) := (hs7 D2 (by omega)).trans hKD2
            obtain ⟨w8, hw8⟩ : ∃ w8, w7.setCell ⟨w.heap.size + 1, 0, none⟩ (.bool true) = w8 := ⟨_, rfl⟩
            rw [hw8] at B7 hO7 hD7 hD27 ⊢
            have z8 : w7.heap.size = w8.heap.size := by rw [← hw8]; simp
            refine ⟨by simp, .inl ⟨_, _, rfl, run_takeDeferred hD27, ?_⟩⟩
            have hD9 : (w8.putObj D2 (.deferred none)).heap[D]? = some (.deferred (some [])) := (World.putObj_heap_other (by omega)).trans hD7
            refine ⟨by simp, .inl ⟨_, _, rfl, run_takeDeferred hD9, ?_⟩⟩
            have hO9 : ((w8.putObj D2 (.deferred none)).putObj D (.deferred none)).heap[w.heap.size + 1]? = some (.cells #[.bool true] 4 (0, 0)) := (World.putObj_heap_other (by omega)).trans ((World.putObj_heap_other (by omega)).trans hO7)
            have c9 := cell_of_row _ _ 0 _ _ _ hO9
            have b9 : Below w.heap.size w ((w8.putObj D2 (.deferred none)).putObj D (.deferred none)) := (B7.grown (grownBy_putObj' _ D2 (.deferred none)) B7.size (fun k e => by cases e; omega)).grown (grownBy_putObj' _ D (.deferred none)) (by have := B7.size; simp; omega) (fun k e => by cases e; omega)
            refine ⟨.bool true, ?_, rfl, b9⟩
            simp [results, Tryd.results5, go_sem, c9]
end Go.Proofs.YtcjefhgnmpomjaaDoor
