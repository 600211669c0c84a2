/-
  The walk of ScriptReads.
-/
import Derived.Test.YtnbhadfhgecajaaNexts
import Derived.Deep.Cut
import Derived.Deep.DeepCutAuto
namespace Go.Proofs.Ytnbhadfhgecajaa
open Go.RowKit
set_option linter.unusedVariables false

theorem equalIn_func_nil (d : Nat) (f : Fn) (cs : Array Value) (w : World) : (Op.equalIn (d + 1) 29 (.func f #[] cs) .nilFunc).run Try.prog w = .ok false w := by
  simp [Op.equalIn, run_underlying Try.underlying29]
theorem func_nil (f : Fn) (cs : Array Value) (w : World) : (binOp BinOp.eql 29 (.func f #[] cs) .nilFunc).run Try.prog w = .ok (.bool false) w := by
  simp only [binOp]
  simp [Op.equal, Op.maxDepth, equalIn_func_nil 9999 f cs w]
theorem cell_of_below {A B : World} (hb : Below A.heap.size A B) {p : Addr} {u : Value} (h : A.cell? p = some u) : B.cell? p = some u := (hb.cell (p := p) (World.block_lt_of_cell? A _ h)).trans h
theorem carries_both (op : Int) : ∃ b : Bool, (∀ w, Calls Try.prog 16 #[.int .i64 op] w fun e w' => e = .returned (.bool b) ∧ w' = w) ∧ (∀ w, Calls Try.prog 17 #[.int .i64 op] w fun e w' => e = .returned (.bool b) ∧ w' = w) := by
  by_cases h : carries op
  · exact ⟨true, fun w => carries_yes op w h, fun w => rcarries_yes op w h⟩
  · exact ⟨false, fun w => carries_no op w h, fun w => rcarries_no op w h⟩
theorem But.set {b : Nat} {A : World} (o : Nat) (v : Value) : But b A (A.setCell ⟨b, o, none⟩ v) :=
  ⟨rfl, rfl, rfl, by simp [World.setCell], fun j _ hne => Below.heap_setCell _ _ _ _ hne⟩
theorem octets_set {zs : List Int} (hz : Octets zs) (i : Nat) (z : Int) (h0 : 0 ≤ z) (h1 : z ≤ 255) : Octets (zs.set i z) := fun j => by
  have := hz j
  simp only [List.getD, List.getElem?_set] at *
  split
  · split
    · simp; omega
    · simp
  · exact this
theorem vals_set (zs : List Int) (i : Nat) (z : Int) : vals (zs.set i z) = (vals zs).set i (.int .u8 z) := by simp [vals, List.map_set]
theorem Row.stored {w : World} {base g n cap : Nat} {zs : List Int} (h : Row w base g n cap zs) (i : Nat) (z : Int) (hi : i < n) (h0 : 0 ≤ z) (h1 : z ≤ 255) : Row (w.setCell ⟨g, i, none⟩ (.int .u8 z)) base g n cap (zs.set i z) := by
  refine ⟨by simpa using h.len, octets_set h.oct i z h0 h1, h.small, ?_⟩
  have := (h.owns.stored i (.int .u8 z)).1
  rw [← vals_set, List.set_append_left _ _ (by have := h.len; omega)] at this
  exact this
theorem dr_held {A B : World} {base c : Nat} {a : Option Addr} {zs : List Int} {xs : List Told} (h : DR A base a c zs xs) (hb : ∀ k, ((Value.slice a xs.length c).ownBlock = some k ∨ ∃ x ∈ xs, x.s.d.val.ownBlock = some k) → B.heap[k]? = A.heap[k]?) : DR B base a c zs xs :=
  ⟨h.all, own_blk' h.own (fun k hk => hb k (.inl hk)), fun x hx => own_block (h.lies x hx) (fun k hk => hb k (.inr ⟨x, hx, hk⟩))⟩
theorem dl_held {A B : World} {base c : Nat} {a : Option Addr} {zs : List Int} {xs : List Told} (h : DL A base a c zs xs) (hb : ∀ k, base ≤ k → k < A.heap.size → B.heap[k]? = A.heap[k]?) : DL B base a c zs xs :=
  ⟨h.all, own_blk' h.own (fun k hk => hb k (h.own.lt k hk).1 (h.own.lt k hk).2), fun x hx => own_block (h.lies x hx) (fun k hk => hb k ((h.lies x hx).lt k hk).1 ((h.lies x hx).lt k hk).2)⟩
theorem cell_of_drew {wr w3 : World} {p : Addr} {u : Value} (hb : Below wr.drew.heap.size wr.drew w3) (h : wr.cell? p = some u) : w3.cell? p = some u :=
  (hb.cell (p := p) (World.block_lt_of_cell? wr _ h)).trans h
theorem _root_.Go.RowKit.Below.cells {A B : World} (hb : Below A.heap.size A B) {j : Nat} {o : Obj} (h : A.heap[j]? = some o) : B.heap[j]? = some o := (hb.block j (Array.getElem?_eq_some_iff.1 h).1).trans h

set_option maxRecDepth 100000 in
set_option maxHeartbeats 4000000 in
theorem reads_any (n : Nat) (zs : List Int) (a : Option Addr) (cap : Nat) (most op : Int) (w : World) (hP : Bs w a n cap zs) (hl : n ≤ 1048576) (hm0 : -9223372036854775808 ≤ most) (hm1 : most ≤ 9223372036854775807) (ho0 : -9223372036854775808 ≤ op) (ho1 : op ≤ 9223372036854775807) :
    Calls Try.prog 3 #[.slice a n cap, .int .i64 most, .int .i64 op] w fun e w' => e = .returned (.bool true) ∧ Below w.heap.size w w' := by
  have hl2 : n ≤ 1099511627776 := by omega
  have HP : Hid (Bs w a n cap zs) := hP
  clear hP
  have hba : Below w.heap.size w (w.alloc (.cells #[.int .i64 most] 3)) := (Below.refl _ w).alloc (Nat.le_refl _) _
  have hbx : (w.alloc (.cells #[.int .i64 most] 3)).heap[w.heap.size]? = some (.cells #[.int .i64 most] 3 (0, 0)) := heap_alloc_new _ _
  obtain ⟨wa, hwa⟩ : ∃ W, w.alloc (.cells #[.int .i64 most] 3) = W := ⟨_, rfl⟩
  rw [hwa] at hba hbx
  have hsa : wa.heap.size = w.heap.size + 1 := by rw [← hwa]; simp
  have HWa : Hid (w.alloc (.cells #[.int .i64 most] 3) = wa) := hwa
  clear hwa
  go_enter Try.func3, Try.ntmps3
  go_wp2_with fail
  rw [HWa.out]
  refine (rdecode_dr a n cap zs _ (HP.out.below hba) hl2).mono ?_
  rintro e w1 ⟨xs, ar, cr, rfl, hR1, hb1⟩
  have HRL : Hid (∀ k, ((Value.slice ar xs.length cr).ownBlock = some k ∨ ∃ x ∈ xs, x.s.d.val.ownBlock = some k) → k < w1.heap.size) := fun k hk => by
    rcases hk with hk | ⟨x, hx, hk⟩
    · exact (hR1.own.lt k hk).2
    · exact ((hR1.lies x hx).lt k hk).2
  obtain ⟨L, hL⟩ : ∃ L, xs.length = L := ⟨_, rfl⟩
  rw [hL]
  go_wp2_with fail
  obtain ⟨w2, hw2⟩ : ∃ W, w1.alloc (.cells #[.slice ar L cr] 23) = W := ⟨_, rfl⟩
  have hb2 : Below w1.heap.size w1 w2 := by rw [← hw2]; exact (Below.refl _ _).alloc (Nat.le_refl _) _
  have bw2 : w2.heap[w1.heap.size]? = some (.cells #[.slice ar L cr] 23 (0, 0)) := by rw [← hw2]; exact heap_alloc_new _ _
  have HWl : Hid (w.heap.size ≤ w1.heap.size) := Nat.le_trans (by omega) hb1.size
  have HS12 : Hid (w1.heap.size ≤ w2.heap.size) := hb2.size
  have Bw1 : Below w.heap.size w w1 := hba.trans (hb1.mono hba.size)
  have Bw2 : Below w.heap.size w w2 := Bw1.trans (hb2.mono Bw1.size)
  have bm2 := hb2.cells (hb1.cells hbx)
  have hR2 := hR1.below hb2
  have P2 := HP.out.below Bw2
  rw [hw2]
  clear hw2 hR1 hba hbx
  refine (lent_row a n cap zs _ P2.len P2.has P2.oct P2.bare (by omega)).mono ?_
  rintro e w3 ⟨g, cp, rfl, hG3, hb3⟩
  have Bw3 : Below w.heap.size w w3 := Bw2.trans (hb3.mono Bw2.size)
  have bm3 := hb3.cells bm2
  have bw3 := hb3.cells bw2
  have HR3 : Hid (DR w3 wa.heap.size ar cr zs xs) := hR2.below hb3
  have HG3 : Hid (Row w3 w2.heap.size g n cp zs) := hG3
  have HSg : Hid (w2.heap.size ≤ g ∧ g < w3.heap.size) := hG3.lt
  clear hR2 P2 hG3 bm2 bw2 Bw2
  go_wp2_with fail
  refine (decode_dl (some ⟨g, 0, none⟩) n cp zs _ HG3.out.bs hl2).mono ?_
  rintro e w4 ⟨ys, al, cl, rfl, hD4, hb4⟩
  have hyl : ys.length = L := (all_len hD4.all HR3.out.all).trans hL
  rw [hyl]
  have HYL : Hid (ys.length = L) := hyl
  have Bw4 : Below w.heap.size w w4 := Bw3.trans (hb4.mono Bw3.size)
  have bm4 := hb4.cells bm3
  have bw4 := hb4.cells bw3
  have HR4 : Hid (DR w4 wa.heap.size ar cr zs xs) := HR3.out.below hb4
  have HG4 : Hid (Row w4 w2.heap.size g n cp zs) := HG3.out.below hb4 HG3.out.lt.2
  have HD4 : Hid (DL w4 w3.heap.size al cl zs ys) := hD4
  clear hD4 hyl HR3 HG3 bm3 bw3 hb2 hb1
  obtain ⟨w5, hw5⟩ : ∃ W, w4.alloc (.cells #[.int .i64 0] 3) = W := ⟨_, rfl⟩
  have hb5 : Below w4.heap.size w4 w5 := by rw [← hw5]; exact (Below.refl _ _).alloc (Nat.le_refl _) _
  have s5 : w5.heap.size = w4.heap.size + 1 := by rw [← hw5]; simp
  have bn5 : w5.heap[w4.heap.size]? = some (.cells #[.int .i64 0] 3 (0, 0)) := by rw [← hw5]; exact heap_alloc_new _ _
  obtain ⟨w6, hw6⟩ : ∃ W, w5.alloc (.cells #[.bool true] 4) = W := ⟨_, rfl⟩
  have hb6 : Below w5.heap.size w5 w6 := by rw [← hw6]; exact (Below.refl _ _).alloc (Nat.le_refl _) _
  have bf6 : w6.heap[w5.heap.size]? = some (.cells #[.bool true] 4 (0, 0)) := by rw [← hw6]; exact heap_alloc_new _ _
  have hb46 : Below w4.heap.size w4 w6 := hb5.trans (hb6.mono hb5.size)
  have bn6 := hb6.cells bn5
  have bm6 := hb46.cells bm4
  have bw6 := hb46.cells bw4
  have HR6 : Hid (DR w6 wa.heap.size ar cr zs xs) := HR4.out.below hb46
  have HG6 : Hid (Row w6 w2.heap.size g n cp zs) := HG4.out.below hb46 HG4.out.lt.2
  have HD6 : Hid (DL w6 w3.heap.size al cl zs ys) := HD4.out.below hb46
  have Bw6 : Below w.heap.size w w6 := Bw4.trans (hb46.mono Bw4.size)
  have HW5 : Hid (w4.alloc (.cells #[.int .i64 0] 3) = w5) := hw5
  have HW6 : Hid (w5.alloc (.cells #[.bool true] 4) = w6) := hw6
  have HS5 : Hid (w5.heap.size = w4.heap.size + 1) := s5
  have hml : w.heap.size < w4.heap.size := by have := (Array.getElem?_eq_some_iff.1 bm4).1; exact this
  clear hb46 hb6 hb5 bn5 HR4 HG4 HD4 bm4 bw4 hw5 hw6 s5
  go_wp2_with fail
  simp only [HW5.out, HW6.out]
  refine (each_any (some ⟨g, 0, none⟩) n cp zs _ HG6.out.bs hl2).mono ?_
  rintro e w7 ⟨av, cv, rfl, hB7, hO7, hs7, hb7⟩
  have e5 := HS5.out
  rw [e5] at bf6
  obtain ⟨bn, hbn⟩ : ∃ b, w4.heap.size = b := ⟨_, rfl⟩
  obtain ⟨bf, hbf⟩ : ∃ b, w4.heap.size + 1 = b := ⟨_, rfl⟩
  obtain ⟨bm, hbm⟩ : ∃ b, w.heap.size = b := ⟨_, rfl⟩
  obtain ⟨bw, hbw⟩ : ∃ b, w1.heap.size = b := ⟨_, rfl⟩
  obtain ⟨Bn, hBn⟩ : ∃ b, w6.heap.size = b := ⟨_, rfl⟩
  have bf7 := hb7.cells bf6
  have bn7 := hb7.cells bn6
  have bm7 := hb7.cells bm6
  have bw7 := hb7.cells bw6
  have hnBn : w6.heap.size ≠ w4.heap.size := by have := (Array.getElem?_eq_some_iff.1 bn6).1; omega
  have HR7 : Hid (DR w7 wa.heap.size ar cr zs xs) := HR6.out.below hb7
  have HG7 : Hid (Row w7 w2.heap.size g n cp zs) := HG6.out.below hb7 HG6.out.lt.2
  have HD7 : Hid (DL w7 w3.heap.size al cl zs ys) := HD6.out.below hb7
  have Bw7 : Below w.heap.size w w7 := Bw6.trans (hb7.mono Bw6.size)
  have hmn : w.heap.size ≠ w4.heap.size := by omega
  have hmb : w.heap.size ≤ w4.heap.size := by omega
  have hw7 : w.heap.size ≤ w7.heap.size := Bw7.size
  clear HR6 HG6 HD6 bf6 bn6 bm6 bw6 e5 HS5 HW5 HW6 hml hb7 hs7 Bw6 Bw4 Bw3 Bw1
  rw [hbf] at bf7
  rw [hbn] at bn7 hmn hmb hnBn
  rw [hbm] at bm7 hmn
  rw [hbw] at bw7
  rw [hBn] at hB7 hnBn hO7
  have HB7 : Hid (w7.cell? ⟨Bn, 0, none⟩ = some (.slice av n cv)) := hB7
  have HO7 : Hid (w7.ownsRow (Bn + 1) 5 1 (.slice av n cv) n (vals zs)) := hO7
  have HNl : Hid (zs.length = n) := HG7.out.len
  have HXL : Hid (xs.length = L) := hL
  have HBM : Hid (w.heap.size = bm) := hbm
  clear hB7 hO7 hL
  simp only [hbf, hbw, hBn]
  simp only [hbn]
  simp only [hbm]
  clear hbn hbf hbw hBn hbm
  have hq : ∀ W : World, (binOp BinOp.eql 29 (.func (.func 26) #[] #[.pointer (some ⟨Bn, 0, none⟩)]) .nilFunc).run Try.prog W = .ok (.bool false) W := fun W => func_nil _ _ W
  go_wp2_with fail
  clear hq
  rw [← HXL.out] at bw7
  refine (next1 bf bn bw bm Bn n cv cr (Bn + 1) wa.heap.size av ar zs xs most _ HNl.out hl2 HG7.out.oct bf7 bn7 bw7 bm7 hmn HB7.out hnBn HO7.out HR7.out).mono ?_
  rintro e w8 ⟨⟨v8, rfl⟩, N, bn8, hu8, hN1, hN2, hN3⟩
  have bf8 := hu8.cells bf7 (cells_ne bf7 bn7 (by decide))
  have bw8 := hu8.cells bw7 (cells_ne bw7 bn7 (by decide))
  have bm8 := hu8.cells bm7 hmn
  have HR8 : Hid (DR w8 wa.heap.size ar cr zs xs) := HR7.out.but hu8 bn7
  have HG8 : Hid (Row w8 w2.heap.size g n cp zs) := HG7.out.but hu8 bn7
  have HD8 : Hid (DL w8 w3.heap.size al cl zs ys) := HD7.out.but hu8 bn7
  have HO8 : Hid (w8.ownsRow (Bn + 1) 5 1 (.slice av n cv) n (vals zs)) := hu8.own HO7.out bn7 (by decide)
  have HB8 : Hid (w8.cell? ⟨Bn, 0, none⟩ = some (.slice av n cv)) := (World.cell?_of_block (w := w7) (a := ⟨Bn, 0, none⟩) (hu8.block Bn (World.block_lt_of_cell? w7 _ HB7.out) hnBn)).trans HB7.out
  have Bw8 : Below w.heap.size w w8 := Bw7.trans (hu8.below hw7 hmb)
  rw [HXL.out] at bw8 hN2 hN3
  have HBN : Hid (w8.heap[bn]? = some (.cells #[.int .i64 N] 3 (0, 0))) := bn8
  have HBF : Hid (w8.heap[bf]? = some (.cells #[.bool true] 4 (0, 0))) := bf8
  have HBW : Hid (w8.heap[bw]? = some (.cells #[.slice ar L cr] 23 (0, 0))) := bw8
  have c0 : w8.cell? ⟨bf, 0, none⟩ = some (.bool true) := by simp [World.cell?, bf8]
  have c1 : w8.cell? ⟨bn, 0, none⟩ = some (.int .i64 N) := by simp [World.cell?, bn8]
  have c2 : w8.cell? ⟨bm, 0, none⟩ = some (.int .i64 most) := by simp [World.cell?, bm8]
  have c3 : w8.cell? ⟨bw, 0, none⟩ = some (.slice ar L cr) := by simp [World.cell?, bw8]
  have f1 : w8.frozen? ⟨bn, 0, none⟩ = false := by simp [World.frozen?, bn8]
  have hLl : L ≤ 1048576 := by
    have h2 := row_sum zs xs 0 HR8.out.all.1
    have h4 : ∀ l : List St, 5 * l.length ≤ (l.map fun s => 5 + s.d.n).sum := by
      intro l
      induction l with
      | nil => simp
      | cons x r ih => simp; omega
    have h5 := h4 (xs.map (·.s))
    have h6 := HXL.out
    have h7 := HNl.out
    simp at h5
    simp at h2
    omega
  have hcase : ((most ≤ 0) ∧ N = L) ∨ ((0 < most) ∧ (N : Int) ≤ most ∧ N = L) ∨ ((0 < most) ∧ (N : Int) = most ∧ (N : Int) < L) ∨ ((most ≤ 0) ∧ (N : Int) = most ∧ (N : Int) < L) := by
    by_cases h1 : 0 < most
    · have := hN1 h1
      rcases hN2 with h2 | h2
      · exact .inr (.inl ⟨h1, this, h2⟩)
      · by_cases h3 : N = L
        · exact .inr (.inl ⟨h1, this, h3⟩)
        · exact .inr (.inr (.inl ⟨h1, h2, by omega⟩))
    · rcases hN2 with h2 | h2
      · exact .inl ⟨by omega, h2⟩
      · by_cases h3 : N = L
        · exact .inl ⟨by omega, h3⟩
        · exact .inr (.inr (.inr ⟨by omega, h2, by omega⟩))
  clear hN1 hN2 bf7 bn7 bm7 bw7 bn8 bf8 bw8 bm8 HR7 HG7 HD7 HO7 HB7 Bw7
  go_upto_region 10 with fail
  go_cut [49] (fun v wc => v = .bool false ∧ wc = w8)
  case first =>
    rcases hcase with ⟨h1, h2⟩ | ⟨h1, h2, h3⟩ | ⟨h1, h2, h3⟩ | ⟨h1, h2, h3⟩
    · subst h2
      go_wp2
      go_meet
      case rel => exact ⟨rfl, rfl⟩
    · subst h3
      go_wp2
      go_meet
      case rel => exact ⟨congrArg Value.bool (decide_eq_false (by omega)), rfl⟩
    · subst h2
      go_wp2
      go_meet
      case rel => exact ⟨rfl, rfl⟩
    · subst h2
      go_wp2
      go_meet
      case rel => exact ⟨rfl, rfl⟩
  case rest =>
    obtain ⟨rfl, hwc⟩ := hcut
    have hwc := hwc.symm
    subst hwc
    clear hcase
    obtain ⟨w9, hw9⟩ : ∃ W, w8.setCell ⟨bn, 0, none⟩ (.int .i64 0) = W := ⟨_, rfl⟩
    have hu9 : But bn w8 w9 := by rw [← hw9]; exact But.of_set (Below.refl _ _) _
    have bn9 : w9.heap[bn]? = some (.cells #[.int .i64 0] 3 (0, 0)) := by rw [← hw9]; exact one_setCell HBN.out
    have HW9 : Hid (w8.setCell ⟨bn, 0, none⟩ (.int .i64 0) = w9) := hw9
    have bf9 := hu9.cells HBF.out (cells_ne HBF.out HBN.out (by decide))
    have bw9 := hu9.cells HBW.out (cells_ne HBW.out HBN.out (by decide))
    have HR9 : Hid (DR w9 wa.heap.size ar cr zs xs) := HR8.out.but hu9 HBN.out
    have HG9 : Hid (Row w9 w2.heap.size g n cp zs) := HG8.out.but hu9 HBN.out
    have HD9 : Hid (DL w9 w3.heap.size al cl zs ys) := HD8.out.but hu9 HBN.out
    have HO9 : Hid (w9.ownsRow (Bn + 1) 5 1 (.slice av n cv) n (vals zs)) := hu9.own HO8.out HBN.out (by decide)
    have HB9 : Hid (w9.cell? ⟨Bn, 0, none⟩ = some (.slice av n cv)) := (World.cell?_of_block (w := w8) (a := ⟨Bn, 0, none⟩) (hu9.block Bn (World.block_lt_of_cell? w8 _ HB8.out) hnBn)).trans HB8.out
    have Bw9 : Below w.heap.size w w9 := Bw8.trans (hu9.below Bw8.size hmb)
    clear hw9 HR8 HG8 HD8 HO8 HB8 HBN HBF HBW Bw8 hu8 hu9
    go_wp2_with fail
    rw [HW9.out]
    clear HW9 c0 c1 c2 c3 f1 hN3
    rw [← HXL.out] at bw9
    refine (next2 bf bn bw Bn n cv cr (Bn + 1) wa.heap.size av ar zs xs _ HNl.out hl2 HG9.out.oct bf9 bn9 bw9 HB9.out hnBn HO9.out HR9.out).mono ?_
    rintro e w10 ⟨⟨v10, rfl⟩, bn10, hu10⟩
    have bf10 := hu10.cells bf9 (cells_ne bf9 bn9 (by decide))
    have bw10 := hu10.cells bw9 (cells_ne bw9 bn9 (by decide))
    rw [HXL.out] at bn10 bw10
    have HR10 : Hid (DR w10 wa.heap.size ar cr zs xs) := HR9.out.but hu10 bn9
    have HG10 : Hid (Row w10 w2.heap.size g n cp zs) := HG9.out.but hu10 bn9
    have HD10 : Hid (DL w10 w3.heap.size al cl zs ys) := HD9.out.but hu10 bn9
    have Bw10 : Below w.heap.size w w10 := Bw9.trans (hu10.below Bw9.size hmb)
    have HP10 : Hid (Bs w10 a n cap zs) := HP.out.below Bw10
    have c0 : w10.cell? ⟨bf, 0, none⟩ = some (.bool true) := by simp [World.cell?, bf10]
    have c1 : w10.cell? ⟨bn, 0, none⟩ = some (.int .i64 L) := by simp [World.cell?, bn10]
    have c3 : w10.cell? ⟨bw, 0, none⟩ = some (.slice ar L cr) := by simp [World.cell?, bw10]
    have HBW : Hid (w10.heap[bw]? = some (.cells #[.slice ar L cr] 23 (0, 0))) := bw10
    clear HR9 HG9 HD9 HO9 HB9 Bw9 bf9 bn9 bw9 bf10 bn10 bw10 hu10
    have HMay : Hid (∀ x ∈ ys, x.s.d.zs.length = x.s.d.n ∧ x.s.d.n ≤ 65535) := fun x hx => (row_may HG10.out.oct ys 0 HD10.out.all.1 x hx).2.2
    go_wp2_with fail
    refine (kept_any w2.heap.size g n cp a cap zs _ HG10.out HP10.out.has).mono ?_
    rintro e w11 ⟨rfl, q11, rfl⟩
    obtain ⟨w11, hw11⟩ : ∃ W, w10.drewN q11 = W := ⟨_, rfl⟩
    have hb11 : Below w10.heap.size w10 w11 := by rw [← hw11]; exact below_drewN (Below.refl _ _) q11
    rw [hw11]
    have d0 := cell_of_below hb11 c0
    have d1 := cell_of_below hb11 c1
    have d3 := cell_of_below hb11 c3
    have HR11 : Hid (DR w11 wa.heap.size ar cr zs xs) := HR10.out.below hb11
    have HG11 : Hid (Row w11 w2.heap.size g n cp zs) := HG10.out.below hb11 HG10.out.lt.2
    have HD11 : Hid (DL w11 w3.heap.size al cl zs ys) := HD10.out.below hb11
    have HBW11 : Hid (w11.heap[bw]? = some (.cells #[.slice ar L cr] 23 (0, 0))) := hb11.cells HBW.out
    have Bw11 : Below w.heap.size w w11 := Bw10.trans (hb11.mono Bw10.size)
    clear hw11 c0 c1 c3 HR10 HG10 HD10 HBW Bw10 hb11 HP10
    obtain ⟨cb, hC1, hC2⟩ := carries_both op
    have HC2 : Hid (∀ w, Calls Try.prog 17 #[.int .i64 op] w fun e w' => e = .returned (.bool cb) ∧ w' = w) := hC2
    have HC1 : Hid (∀ w, Calls Try.prog 16 #[.int .i64 op] w fun e w' => e = .returned (.bool cb) ∧ w' = w) := hC1
    clear hC1 hC2
    go_wp2_with fail
    refine (HC1.out _).mono ?_
    rintro e w12 ⟨rfl, hw12⟩
    subst hw12
    go_wp2_with fail
    refine (HC2.out _).mono ?_
    rintro e w13 ⟨rfl, hw13⟩
    subst hw13
    have hcc : (cb != cb) = false := by simp
    clear HC1 HC2
    go_wp2_with fail
    clear d0 d1 d3 hcc
    have hg0 : w.heap.size ≤ g := by have h1 := HSg.out; have h2 := HS12.out; have h3 := HWl.out; omega
    go_loopw [13] (fun t W => ∃ (i : Nat) (ps : List Int), i ≤ n ∧ t = .int .i64 i ∧ Row W w2.heap.size g n cp ps ∧ But g w13 W) (fun t _ => n - (intOf t).toNat)
    case atStart => exact ⟨0, zs, by omega, rfl, HG11.out, But.refl _ _⟩
    case round =>
      obtain ⟨i, ps, hi, rfl, hpR, hpB⟩ := hrel
      by_cases hiN : i < n
      · have hcell := hpR.cellAt i (by omega)
        have hfro : wr.frozen? ⟨g, i, none⟩ = false := hpR.owns.frozenAt i
        have oz := hpR.oct i
        have hz' : (ps ++ [201, 202]).getD i 0 = ps.getD i 0 := by have := hpR.len; simp [List.getD, List.getElem?_append_left (show i < ps.length by omega)]
        rw [hz'] at hcell
        obtain ⟨z, hz⟩ : ∃ z, ps.getD i 0 = z := ⟨_, rfl⟩
        rw [hz] at hcell oz
        obtain ⟨z0, z1⟩ := oz
        clear hz hz'
        go_wp2
        go_roundw
        case rel => exact ⟨i + 1, ps.set i ((z + 91) % 256), by omega, by go_num, hpR.stored i _ hiN (by omega) (by omega), hpB.trans (But.set _ _)⟩
        case measure => simp [intOf]; omega
      · have HRr : Hid (DR wr wa.heap.size ar cr zs xs) := dr_held HR11.out (fun k hk => hpB.block k (by
            have h1 := HRL.out k hk; have h2 := HSg.out; have h3 := HS12.out; have h4 := HG11.out.lt.2; omega) (by
            have h1 := HRL.out k hk; have h2 := HSg.out; have h3 := HS12.out; omega))
        have HDr : Hid (DL wr w3.heap.size al cl zs ys) := dl_held HD11.out (fun k h1 h2 => hpB.block k h2 (by have := HSg.out; omega))
        have HBWr : Hid (wr.heap[bw]? = some (.cells #[.slice ar L cr] 23 (0, 0))) := hpB.cells HBW11.out (by
          obtain ⟨cur, hcur⟩ := own_cells HG11.out.owns g rfl
          exact cells_ne HBW11.out hcur (by decide))
        have Bwr : Below w.heap.size w wr := Bw11.trans (hpB.below Bw11.size hg0)
        clear hpR hpB HR11 HG11 HD11 HBW11 Bw11
        go_wp2_with fail
        obtain ⟨w14, h14⟩ : ∃ W, W = wr := ⟨_, rfl⟩
        subst h14
        go_loopw [14] (fun t W => ∃ i : Nat, i ≤ L ∧ t = .int .i64 i ∧ Below w14.heap.size w14 W) (fun t _ => L - (intOf t).toNat)
        case atStart => exact ⟨0, by omega, rfl, Below.refl _ _⟩
        case round =>
          obtain ⟨i, hi', rfl, hBW⟩ := hrel
          by_cases hik : i < L
          · obtain ⟨x, hx⟩ : ∃ x, ys[i]? = some x := ⟨ys[i]'(by have := HYL.out; omega), List.getElem?_eq_getElem _⟩
            obtain ⟨y, hy⟩ : ∃ y, xs[i]? = some y := ⟨xs[i]'(by have := HXL.out; omega), List.getElem?_eq_getElem _⟩
            have hsig : ssig x.s = ssig y.s := by
              have h1 := congrArg (·[i]?) (det ys xs zs zs 0 0 rfl HDr.out.all HRr.out.all)
              simpa [hx, hy] using h1
            have hmay := HMay.out x (List.mem_of_getElem? hx)
            obtain ⟨g1, rfl⟩ := HDr.out.some (by have := HYL.out; omega)
            obtain ⟨g2, rfl⟩ := HRr.out.some (by have := HXL.out; omega)
            have hDi := HDr.out.below hBW
            have hRi := HRr.out.below hBW
            have m0 := hDi.cell i x hx 0 _ rfl
            have m1 := hDi.cell i x hx 1 _ rfl
            have m2 := hDi.cell i x hx 2 _ rfl
            have m3 := hDi.cell i x hx 3 _ rfl
            have r0 := hRi.cell i y hy 0 _ rfl
            have r1 := hRi.cell i y hy 1 _ rfl
            have r2 := hRi.cell i y hy 2 _ rfl
            have r3 := hRi.cell i y hy 3 _ rfl
            have r4 := hRi.cell i y hy 4 _ rfl
            have e1 := lies_has (hDi.lies x (List.mem_of_getElem? hx))
            have e2 := lies_has (hRi.lies y (List.mem_of_getElem? hy))
            obtain ⟨at1, op1, x1, y1, a1, dn, d1, dz⟩ := x
            obtain ⟨at2, op2, x2, y2, a2, dn2, d2, dz2⟩ := y
            simp only [ssig, Prod.mk.injEq] at hsig
            obtain ⟨rfl, rfl, rfl, rfl, rfl⟩ := hsig
            dsimp only [Sl.val] at m0 m1 m2 m3 r0 r1 r2 r3 r4 hmay e1 e2
            rw [Nat.add_zero] at m0 r0
            have k3 : wr.cell? ⟨bw, 0, none⟩ = some (.slice (some ⟨g2, 0, none⟩) L cr) := by simp [World.cell?, hBW.cells HBWr.out]
            have HH1 : Hid (Has wr a1 dz) := e1
            have HH2 : Hid (Has wr a2 dz) := e2
            have HL1 : Hid (dz.length = dn) := hmay.1
            have hd2 := hmay.2
            have i0' : (0 : Int) ≤ i := by omega
            have i1' : (i : Int) < L := by omega
            obtain ⟨at3, hat⟩ : ∃ t : Int, (at2 : Int) = t := ⟨_, rfl⟩
            rw [hat] at r4
            clear e1 e2 hx hy hmay hDi hRi hat
            go_wp2_with fail
            go_region_held3 (fun w' => w'.cell? ⟨bw, 0, none⟩ = some (.slice (some ⟨g2, 0, none⟩) L cr) ∧ w'.cell? ⟨g1, i * 4, none⟩ = some (.int .i64 op1) ∧ w'.cell? ⟨g1, i * 4 + 1, none⟩ = some (.int .i64 x1) ∧ w'.cell? ⟨g1, i * 4 + 2, none⟩ = some (.int .i64 y1) ∧ w'.cell? ⟨g1, i * 4 + 3, none⟩ = some (.slice a1 dn d1) ∧ w'.cell? ⟨g2, i * 5, none⟩ = some (.int .i64 op1) ∧ w'.cell? ⟨g2, i * 5 + 1, none⟩ = some (.int .i64 x1) ∧ w'.cell? ⟨g2, i * 5 + 2, none⟩ = some (.int .i64 y1) ∧ w'.cell? ⟨g2, i * 5 + 3, none⟩ = some (.slice a2 dn d2) ∧ w'.cell? ⟨g2, i * 5 + 4, none⟩ = some (.int .i64 at3)) (go_keep)
              (first | (go_at_call 13; refine (step_any op1 x1 y1 at3 a1 a2 dn d1 d2 dz _ HL1.out (has_drewN HH1.out 1) (has_drewN HH2.out 1) (by omega)).mono ?_; rintro e w3' ⟨rfl, hb3'⟩; have HB3 : Hid (Below w14.heap.size w14 w3') := (hBW.drew.trans (hb3'.mono hBW.drew.size)); have n3 := cell_of_drew hb3' k3; have n4 := cell_of_drew hb3' m0; have n5 := cell_of_drew hb3' m1; have n6 := cell_of_drew hb3' m2; have n7 := cell_of_drew hb3' m3; have n8 := cell_of_drew hb3' r0; have n9 := cell_of_drew hb3' r1; have n10 := cell_of_drew hb3' r2; have n11 := cell_of_drew hb3' r3; have n12 := cell_of_drew hb3' r4; clear hb3'))
            go_wp2
            go_roundw
            case rel => exact ⟨i + 1, by omega, by go_num, HB3.out⟩
            case measure => simp [intOf]; omega
          · go_wp2
            go_ret
            exact ⟨rfl, Bwr.trans (hBW.mono Bwr.size)⟩
end Go.Proofs.Ytnbhadfhgecajaa
