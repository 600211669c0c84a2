/-
  read, of a payload that begins with no kind.
-/
import Derived.Test.YteeclghhoioapaaDoorRd
namespace Go.Proofs.YteeclghhoioapaaDoor
open Go.RowKit
set_option linter.unusedVariables false
set_option linter.unusedSimpArgs false
set_option maxRecDepth 100000
set_option maxHeartbeats 8000000 in
theorem read0 (a : Option Addr) (n cap : Nat) (p : List Int) (w : World) (h : Bs w a n cap p) (ha : ∀ x, a = some x → x.spot = none ∧ x.block < w.heap.size) (hs : n ≤ 1048576) (hk : ∀ j : Int, 1 ≤ j → j ≤ 5 → (Cur.nm 1 ⟨p, false⟩).1 ≠ j) :
    Calls Tryd.prog 35 #[.slice a n cap] w fun e w' => RdE w p e w' := by
  obtain ⟨k0, c0, hK⟩ : ∃ k0 c0, Cur.nm 1 ⟨p, false⟩ = (k0, c0) := ⟨_, _, rfl⟩
  rw [hK] at hk
  have hk1 := hk 1 (by decide) (by decide); have hk2 := hk 2 (by decide) (by decide); have hk3 := hk 3 (by decide) (by decide); have hk4 := hk 4 (by decide) (by decide); have hk5 := hk 5 (by decide) (by decide)
  clear hk
  simp only at hk1 hk2 hk3 hk4 hk5
  have hE : pread p = endC { kind := k0, name := ByteArray.empty, ver := 0, frm := 0, non := 0, err := 0, text := ByteArray.empty } c0 := by
    unfold pread
    simp only [hK]
    rw [if_neg hk1, if_neg hk2, if_neg hk3, if_neg hk4, if_neg hk5]
  unfold RdE
  rw [hE]
  have hm1 : ({ kind := k0, name := ByteArray.empty, ver := 0, frm := 0, non := 0, err := 0, text := ByteArray.empty } : Ms).name.size ≤ maxLen := by show (0 : Nat) ≤ maxLen; exact Nat.zero_le _
  have hm2 : ({ kind := k0, name := ByteArray.empty, ver := 0, frm := 0, non := 0, err := 0, text := ByteArray.empty } : Ms).text.size ≤ maxLen := by show (0 : Nat) ≤ maxLen; exact Nat.zero_le _
  have HM := hideL (fun w => may_any { kind := k0, name := ByteArray.empty, ver := 0, frm := 0, non := 0, err := 0, text := ByteArray.empty } w hm1 hm2)
  have HK := hideL hK
  have HC0 : Hid (Cu ((w.alloc (.cells (mcs zeroM).toArray 29)).alloc (.cells #[.slice a n cap, .bool false] 102)) (w.heap.size + 1) ⟨p, false⟩) := by
    have hb := ((Below.refl w.heap.size w).alloc (Nat.le_refl _) (.cells (mcs zeroM).toArray 29)).alloc (by simp) (.cells #[.slice a n cap, .bool false] 102)
    refine ⟨a, n, cap, ?_, h.below hb, fun x hx => ⟨(ha x hx).1, by have := (ha x hx).2; omega⟩⟩
    have := heap_alloc_new (w.alloc (.cells (mcs zeroM).toArray 29)) (.cells #[.slice a n cap, .bool false] 102)
    simpa using this
  have HR0 : Hid (((w.alloc (.cells (mcs zeroM).toArray 29)).alloc (.cells #[.slice a n cap, .bool false] 102)).heap[w.heap.size]? = some (.cells (mcs zeroM).toArray 29 (0, 0)) ∧ Below w.heap.size w ((w.alloc (.cells (mcs zeroM).toArray 29)).alloc (.cells #[.slice a n cap, .bool false] 102))) :=
    ⟨(heap_alloc_old _ _ (by simp)).trans (heap_alloc_new _ _), ((Below.refl w.heap.size w).alloc (Nat.le_refl _) _).alloc (by simp) _⟩
  clear hE hm1 hm2 hK h ha
  simp only [mv, mcs, zeroM] at HC0 HR0 HM
  simp only [endC, mv] at *
  go_enter Tryd.func35, Tryd.ntmps35
  go_wp2_with (first
    | (go_at_call 51; have hq := HC0; clear hq; refine (number_any (w.heap.size + 1) ⟨p, false⟩ 1 _ HC0.out (by decide)).mono ?_; rintro e w1 ⟨rfl, hc1, hb1⟩; rw [HK.out] at hc1 ⊢; have HR1 : Hid (Rd0 w w1 (w.heap.size + 1) c0) := ⟨hc1, (hb1.block _ (by simp; omega) (by omega)).trans HR0.out.1, by omega, Bt.under HR0.out.2 hb1 (by omega)⟩; clear hc1 hb1 HC0 HR0 HK))
  have hD := HR1.out.start { kind := k0, name := ByteArray.empty, ver := 0, frm := 0, non := 0, err := 0, text := ByteArray.empty }
  clear HR1
  generalize hMM : w1.heap.size = M at hD ⊢
  simp only [mv, mcs] at hD
  obtain ⟨W, hWW⟩ : ∃ W, w1.alloc (.cells #[.int .i64 k0, .string ⟨#[]⟩, .int .i64 0, .int .i64 0, .int .i64 0, .int .i64 0, .string ⟨#[]⟩] 29) = W := ⟨_, rfl⟩
  have hD : Rd w W (w.heap.size + 1) M c0 { kind := k0, name := ByteArray.empty, ver := 0, frm := 0, non := 0, err := 0, text := ByteArray.empty } := by rw [← hWW]; exact hD
  rw [hWW]
  clear hWW hMM
  obtain ⟨a2, n2, cap2, hC, hB, -⟩ := hD.cu
  obtain ⟨t0, t1, -, -⟩ := two_cells hC
  obtain ⟨g0, g1, g2, g3, g4, g5, g6, -⟩ := cs7 hD.mx
  obtain ⟨r0, r1, r2, r3, r4, r5, r6, q0, q1, q2, q3, q4, q5, q6⟩ := cs7 hD.rx
  have hl := hB.len
  have HD := hideL hD
  clear hD hC hB
  obtain ⟨rest, short⟩ := c0
  simp only at t1 hl ⊢
  cases short
  · by_cases h0 : n2 = 0
    · subst h0
      refine wp_region_held_drew (S := (fun w' => w'.cell? ⟨M, 0, none⟩ = some (.int .i64 k0) ∧ w'.cell? ⟨M, 1, none⟩ = some (.string ByteArray.empty) ∧ w'.cell? ⟨M, 2, none⟩ = some (.int .i64 0) ∧ w'.cell? ⟨M, 3, none⟩ = some (.int .i64 0) ∧ w'.cell? ⟨M, 4, none⟩ = some (.int .i64 0) ∧ w'.cell? ⟨M, 5, none⟩ = some (.int .i64 0) ∧ w'.cell? ⟨M, 6, none⟩ = some (.string ByteArray.empty) ∧ w'.cell? ⟨w.heap.size + 1, 0, none⟩ = some (.slice a2 0 cap2) ∧ w'.cell? ⟨w.heap.size + 1, 1, none⟩ = some (.bool false))) (by kernel_rfl) ⟨g0, g1, g2, g3, g4, g5, g6, t0, t1⟩ (fun hHeld => ?_)
      have hD := HD.out.below ((Below.refl _ _).drew)
      clear HD
      have hq := cell_of_below ((Below.refl _ _).drew) g0; clear g0; have g0 := hq; clear hq
      have hq := cell_of_below ((Below.refl _ _).drew) g1; clear g1; have g1 := hq; clear hq
      have hq := cell_of_below ((Below.refl _ _).drew) g2; clear g2; have g2 := hq; clear hq
      have hq := cell_of_below ((Below.refl _ _).drew) g3; clear g3; have g3 := hq; clear hq
      have hq := cell_of_below ((Below.refl _ _).drew) g4; clear g4; have g4 := hq; clear hq
      have hq := cell_of_below ((Below.refl _ _).drew) g5; clear g5; have g5 := hq; clear hq
      have hq := cell_of_below ((Below.refl _ _).drew) g6; clear g6; have g6 := hq; clear hq
      have hq := cell_of_below ((Below.refl _ _).drew) t0; clear t0; have t0 := hq; clear hq
      have hq := cell_of_below ((Below.refl _ _).drew) t1; clear t1; have t1 := hq; clear hq
      clear r0 r1 r2 r3 r4 r5 r6 q0 q1 q2 q3 q4 q5 q6
      generalize W.drew = V at *
      have HD := hideL hD
      clear hD
      refine' wpAnyH_take (i := 0) (v := _) rfl (by kernel_rfl) (by kernel_rfl) (by kernel_rfl) (fun _ _ _ h => h) (Or.inl ⟨by rfl, ?_⟩) (by assumption) ?_; rotate_left
      · intro w hSw; (try dsimp only at hSw); go_simp <;> with_reducible rfl
      (try simp only [Act.put, List.getElem_toArray, List.getElem_cons_zero, List.getElem_cons_succ, List.setIfInBounds_toArray, List.set_cons_zero, List.set_cons_succ])
      refine' wpAnyH_take (i := 1) (v := _) rfl (by kernel_rfl) (by kernel_rfl) (by kernel_rfl) (fun _ _ _ h => h) (Or.inl ⟨by rfl, ?_⟩) (by assumption) ?_; rotate_left
      · intro w hSw; (try dsimp only at hSw); go_simp <;> with_reducible rfl
      (try simp only [Act.put, List.getElem_toArray, List.getElem_cons_zero, List.getElem_cons_succ, List.setIfInBounds_toArray, List.set_cons_zero, List.set_cons_succ])
      refine' wpAnyH_take (i := 2) (v := _) rfl (by kernel_rfl) (by kernel_rfl) (by kernel_rfl) (fun _ _ _ h => h) (Or.inl ⟨by rfl, ?_⟩) (by assumption) ?_; rotate_left
      · intro w hSw; (try dsimp only at hSw); go_simp <;> with_reducible rfl
      (try simp only [Act.put, List.getElem_toArray, List.getElem_cons_zero, List.getElem_cons_succ, List.setIfInBounds_toArray, List.set_cons_zero, List.set_cons_succ])
      refine' wpAnyH_take (i := 3) (v := _) rfl (by kernel_rfl) (by kernel_rfl) (by kernel_rfl) (fun _ _ _ h => h) (Or.inl ⟨by rfl, ?_⟩) (by assumption) ?_; rotate_left
      · intro w hSw; (try dsimp only at hSw); go_simp <;> with_reducible rfl
      (try simp only [Act.put, List.getElem_toArray, List.getElem_cons_zero, List.getElem_cons_succ, List.setIfInBounds_toArray, List.set_cons_zero, List.set_cons_succ])
      refine' wpAnyH_take (i := 4) (v := _) rfl (by kernel_rfl) (by kernel_rfl) (by kernel_rfl) (fun _ _ _ h => h) (Or.inl ⟨by rfl, ?_⟩) (by assumption) ?_; rotate_left
      · intro w hSw; (try dsimp only at hSw); go_simp <;> with_reducible rfl
      (try simp only [Act.put, List.getElem_toArray, List.getElem_cons_zero, List.getElem_cons_succ, List.setIfInBounds_toArray, List.set_cons_zero, List.set_cons_succ])
      refine' wpAnyH_take (i := 5) (v := _) rfl (by kernel_rfl) (by kernel_rfl) (by kernel_rfl) (fun _ _ _ h => h) (Or.inl ⟨by rfl, ?_⟩) (by assumption) ?_; rotate_left
      · intro w hSw; (try dsimp only at hSw); go_simp <;> with_reducible rfl
      (try simp only [Act.put, List.getElem_toArray, List.getElem_cons_zero, List.getElem_cons_succ, List.setIfInBounds_toArray, List.set_cons_zero, List.set_cons_succ])
      refine' wpAnyH_take (i := 6) (v := _) rfl (by kernel_rfl) (by kernel_rfl) (by kernel_rfl) (fun _ _ _ h => h) (Or.inl ⟨by rfl, ?_⟩) (by assumption) ?_; rotate_left
      · intro w hSw; (try dsimp only at hSw); go_simp <;> with_reducible rfl
      (try simp only [Act.put, List.getElem_toArray, List.getElem_cons_zero, List.getElem_cons_succ, List.setIfInBounds_toArray, List.set_cons_zero, List.set_cons_succ])
      refine' wpAnyH_take (i := 7) (v := _) rfl (by kernel_rfl) (by kernel_rfl) (by kernel_rfl) (fun _ _ _ h => h) (Or.inl ⟨by rfl, ?_⟩) (by assumption) ?_; rotate_left
      · intro w hSw; (try dsimp only at hSw); go_simp <;> with_reducible rfl
      (try simp only [Act.put, List.getElem_toArray, List.getElem_cons_zero, List.getElem_cons_succ, List.setIfInBounds_toArray, List.set_cons_zero, List.set_cons_succ])
      refine' wpAnyH_take (i := 8) (v := _) rfl (by kernel_rfl) (by kernel_rfl) (by kernel_rfl) (fun _ _ _ h => h) (Or.inl ⟨by rfl, ?_⟩) (by assumption) ?_; rotate_left
      · intro w hSw; (try dsimp only at hSw); go_simp <;> with_reducible rfl
      (try simp only [Act.put, List.getElem_toArray, List.getElem_cons_zero, List.getElem_cons_succ, List.setIfInBounds_toArray, List.set_cons_zero, List.set_cons_succ])
      refine' wpAnyH_take (i := 9) (v := _) rfl (by kernel_rfl) (by kernel_rfl) (by kernel_rfl) (fun _ _ _ h => h) (Or.inl ⟨by rfl, ?_⟩) (by assumption) ?_; rotate_left
      · intro w hSw; (try dsimp only at hSw); go_simp <;> with_reducible rfl
      (try simp only [Act.put, List.getElem_toArray, List.getElem_cons_zero, List.getElem_cons_succ, List.setIfInBounds_toArray, List.set_cons_zero, List.set_cons_succ])
      refine' wpAnyH_take (i := 10) (v := _) rfl (by kernel_rfl) (by kernel_rfl) (by kernel_rfl) (fun _ _ _ h => h) (Or.inl ⟨by rfl, ?_⟩) (by assumption) ?_; rotate_left
      · intro w hSw; (try dsimp only at hSw); go_simp <;> with_reducible rfl
      (try simp only [Act.put, List.getElem_toArray, List.getElem_cons_zero, List.getElem_cons_succ, List.setIfInBounds_toArray, List.set_cons_zero, List.set_cons_succ])
      refine' wpAnyH_take (i := 11) (v := _) rfl (by kernel_rfl) (by kernel_rfl) (by kernel_rfl) (fun _ _ _ h => h) (Or.inl ⟨by rfl, ?_⟩) (by assumption) ?_; rotate_left
      · intro w hSw; (try dsimp only at hSw); go_simp <;> with_reducible rfl
      (try simp only [Act.put, List.getElem_toArray, List.getElem_cons_zero, List.getElem_cons_succ, List.setIfInBounds_toArray, List.set_cons_zero, List.set_cons_succ])
      refine wpAnyH_ready (rs := [12]) (by kernel_rfl) (by simp) ?_
      refine AllReadyH.cons rfl (fun K hK => ?_) AllReadyH.nil
      go_simp
      go_at_call 28
      refine (HM.out _).mono ?_
      rintro e wm ⟨rfl, hbm⟩
      have hg0 := cell_of_below hbm g0; clear g0; have g0 := hg0; clear hg0
      have hg1 := cell_of_below hbm g1; clear g1; have g1 := hg1; clear hg1
      have hg2 := cell_of_below hbm g2; clear g2; have g2 := hg2; clear hg2
      have hg3 := cell_of_below hbm g3; clear g3; have g3 := hg3; clear hg3
      have hg4 := cell_of_below hbm g4; clear g4; have g4 := hg4; clear hg4
      have hg5 := cell_of_below hbm g5; clear g5; have g5 := hg5; clear hg5
      have hg6 := cell_of_below hbm g6; clear g6; have g6 := hg6; clear hg6
      have ht0 := cell_of_below hbm t0; clear t0; have t0 := ht0; clear ht0
      have ht1 := cell_of_below hbm t1; clear t1; have t1 := ht1; clear ht1
      have HBM := hideL hbm; clear hbm
      go_simp
      refine hK.out _ _ ⟨g0, g1, g2, g3, g4, g5, g6, t0, t1⟩ (fun hHeld => ?_)
      clear hK K
      (try simp only [Act.put, List.getElem_toArray, List.getElem_cons_zero, List.getElem_cons_succ, List.setIfInBounds_toArray, List.set_cons_zero, List.set_cons_succ])
      refine' wpAnyH_take (i := 13) (v := _) rfl (by kernel_rfl) (by kernel_rfl) (by kernel_rfl) (fun _ _ _ h => h) (Or.inl ⟨by rfl, ?_⟩) (by assumption) ?_; rotate_left
      · intro w hSw; (try dsimp only at hSw); go_simp <;> with_reducible rfl
      (try simp only [Act.put, List.getElem_toArray, List.getElem_cons_zero, List.getElem_cons_succ, List.setIfInBounds_toArray, List.set_cons_zero, List.set_cons_succ])
      have hV := HD.out.below HBM.out
      have hP := put7_spec (R := w.heap.size) hV.rx (.int .i64 k0) (.string ByteArray.empty) (.int .i64 0) (.int .i64 0) (.int .i64 0) (.int .i64 0) (.string ByteArray.empty)
      obtain ⟨o1, o2, o3⟩ := hV.out hP.2
      obtain ⟨r0, r1, r2, r3, r4, r5, r6, q0, q1, q2, q3, q4, q5, q6⟩ := cs7 hV.rx
      obtain ⟨y0, y1, y2, y3, y4, y5, y6, -⟩ := cs7 o1
      obtain ⟨p0, p1, p2, p3, p4, p5, p6, -⟩ := cs7 (kind := k0) (name := ByteArray.empty) (ver := 0) (frm := 0) (non := 0) (err := 0) (text := ByteArray.empty) hP.1
      have u0 : (put7 wm w.heap.size (.int .i64 k0) (.string ByteArray.empty) (.int .i64 0) (.int .i64 0) (.int .i64 0) (.int .i64 0) (.string ByteArray.empty)).cell? ⟨w.heap.size + 1, 0, none⟩ = some (.slice a2 0 cap2) := (cell_same o2 0).trans t0
      have u1 : (put7 wm w.heap.size (.int .i64 k0) (.string ByteArray.empty) (.int .i64 0) (.int .i64 0) (.int .i64 0) (.int .i64 0) (.string ByteArray.empty)).cell? ⟨w.heap.size + 1, 1, none⟩ = some (.bool false) := (cell_same o2 1).trans t1
      have HY := hideL y0; have HYS := hideL (And.intro y0 (And.intro y1 (And.intro y2 (And.intro y3 (And.intro y4 (And.intro y5 (And.intro y6 (And.intro u0 u1))))))))
      have HPS := hideL (And.intro p0 (And.intro p1 (And.intro p2 (And.intro p3 (And.intro p4 (And.intro p5 p6))))))
      have HO := hideL o3
      clear hV hP o1 o2 o3 y0 y1 y2 y3 y4 y5 y6 p0 p1 p2 p3 p4 p5 p6 u0 u1 HY
      refine wpAnyH_ready (rs := [14]) (by kernel_rfl) (by simp) ?_
      refine AllReadyH.cons rfl (fun K hK => ?_) AllReadyH.nil
      go_simp
      have hKK := hK.out; clear hK
      change K _ (put7 wm w.heap.size (.int .i64 k0) (.string ByteArray.empty) (.int .i64 0) (.int .i64 0) (.int .i64 0) (.int .i64 0) (.string ByteArray.empty))
      refine hKK _ _ HYS.out (fun hHeld => ?_)
      clear hKK K
      (try simp only [Act.put, List.getElem_toArray, List.getElem_cons_zero, List.getElem_cons_succ, List.setIfInBounds_toArray, List.set_cons_zero, List.set_cons_succ])
      generalize put7 wm w.heap.size (.int .i64 k0) (.string ByteArray.empty) (.int .i64 0) (.int .i64 0) (.int .i64 0) (.int .i64 0) (.string ByteArray.empty) = V7 at HPS HO hHeld ⊢
      clear HYS
      refine' wpAnyH_take (i := 15) (v := _) rfl (by kernel_rfl) (by kernel_rfl) (by kernel_rfl) (fun _ _ _ h => h) (Or.inl ⟨by rfl, ?_⟩) (by assumption) ?_; rotate_left
      · intro w hSw; (try dsimp only at hSw); go_simp <;> with_reducible rfl
      (try simp only [Act.put, List.getElem_toArray, List.getElem_cons_zero, List.getElem_cons_succ, List.setIfInBounds_toArray, List.set_cons_zero, List.set_cons_succ])
      refine wpAnyH_done (by kernel_rfl) ?_ _
      obtain ⟨p0, p1, p2, p3, p4, p5, p6⟩ := HPS.out
      go_wp2
      exact bodyPost_ret (v := .tuple #[.agg #[.int .i64 k0, .string ByteArray.empty, .int .i64 0, .int .i64 0, .int .i64 0, .int .i64 0, .string ByteArray.empty], .bool (okM { kind := k0, name := ByteArray.empty, ver := 0, frm := 0, non := 0, err := 0, text := ByteArray.empty })]) (by simp [results, Tryd.results35, go_sem, p0, p1, p2, p3, p4, p5, p6]) rfl ⟨ret_tup (by simp [List.eq_nil_of_length_eq_zero hl]), HO.out⟩
    · have h0i : decide ((n2 : Int) = 0) = false := decide_eq_false (by omega)
      have h0j : ((n2 : Int) == 0) = false := beq_eq_false_iff_ne.2 (by omega)
      refine wp_region_held_drew (S := (fun w' => w'.cell? ⟨M, 0, none⟩ = some (.int .i64 k0) ∧ w'.cell? ⟨M, 1, none⟩ = some (.string ByteArray.empty) ∧ w'.cell? ⟨M, 2, none⟩ = some (.int .i64 0) ∧ w'.cell? ⟨M, 3, none⟩ = some (.int .i64 0) ∧ w'.cell? ⟨M, 4, none⟩ = some (.int .i64 0) ∧ w'.cell? ⟨M, 5, none⟩ = some (.int .i64 0) ∧ w'.cell? ⟨M, 6, none⟩ = some (.string ByteArray.empty) ∧ w'.cell? ⟨w.heap.size + 1, 0, none⟩ = some (.slice a2 n2 cap2) ∧ w'.cell? ⟨w.heap.size + 1, 1, none⟩ = some (.bool false))) (by kernel_rfl) ⟨g0, g1, g2, g3, g4, g5, g6, t0, t1⟩ (fun hHeld => ?_)
      have hD := HD.out.below ((Below.refl _ _).drew)
      clear HD
      have hq := cell_of_below ((Below.refl _ _).drew) g0; clear g0; have g0 := hq; clear hq
      have hq := cell_of_below ((Below.refl _ _).drew) g1; clear g1; have g1 := hq; clear hq
      have hq := cell_of_below ((Below.refl _ _).drew) g2; clear g2; have g2 := hq; clear hq
      have hq := cell_of_below ((Below.refl _ _).drew) g3; clear g3; have g3 := hq; clear hq
      have hq := cell_of_below ((Below.refl _ _).drew) g4; clear g4; have g4 := hq; clear hq
      have hq := cell_of_below ((Below.refl _ _).drew) g5; clear g5; have g5 := hq; clear hq
      have hq := cell_of_below ((Below.refl _ _).drew) g6; clear g6; have g6 := hq; clear hq
      have hq := cell_of_below ((Below.refl _ _).drew) t0; clear t0; have t0 := hq; clear hq
      have hq := cell_of_below ((Below.refl _ _).drew) t1; clear t1; have t1 := hq; clear hq
      clear r0 r1 r2 r3 r4 r5 r6 q0 q1 q2 q3 q4 q5 q6
      generalize W.drew = V at *
      have HD := hideL hD
      clear hD
      refine' wpAnyH_take (i := 0) (v := _) rfl (by kernel_rfl) (by kernel_rfl) (by kernel_rfl) (fun _ _ _ h => h) (Or.inl ⟨by rfl, ?_⟩) (by assumption) ?_; rotate_left
      · intro w hSw; (try dsimp only at hSw); go_simp <;> with_reducible rfl
      (try simp only [Act.put, List.getElem_toArray, List.getElem_cons_zero, List.getElem_cons_succ, List.setIfInBounds_toArray, List.set_cons_zero, List.set_cons_succ])
      refine' wpAnyH_take (i := 1) (v := _) rfl (by kernel_rfl) (by kernel_rfl) (by kernel_rfl) (fun _ _ _ h => h) (Or.inl ⟨by rfl, ?_⟩) (by assumption) ?_; rotate_left
      · intro w hSw; (try dsimp only at hSw); go_simp <;> with_reducible rfl
      (try simp only [Act.put, List.getElem_toArray, List.getElem_cons_zero, List.getElem_cons_succ, List.setIfInBounds_toArray, List.set_cons_zero, List.set_cons_succ])
      refine' wpAnyH_take (i := 2) (v := _) rfl (by kernel_rfl) (by kernel_rfl) (by kernel_rfl) (fun _ _ _ h => h) (Or.inl ⟨by rfl, ?_⟩) (by assumption) ?_; rotate_left
      · intro w hSw; (try dsimp only at hSw); go_simp <;> with_reducible rfl
      (try simp only [Act.put, List.getElem_toArray, List.getElem_cons_zero, List.getElem_cons_succ, List.setIfInBounds_toArray, List.set_cons_zero, List.set_cons_succ])
      refine' wpAnyH_take (i := 3) (v := _) rfl (by kernel_rfl) (by kernel_rfl) (by kernel_rfl) (fun _ _ _ h => h) (Or.inl ⟨by rfl, ?_⟩) (by assumption) ?_; rotate_left
      · intro w hSw; (try dsimp only at hSw); go_simp <;> with_reducible rfl
      (try simp only [Act.put, List.getElem_toArray, List.getElem_cons_zero, List.getElem_cons_succ, List.setIfInBounds_toArray, List.set_cons_zero, List.set_cons_succ])
      refine' wpAnyH_take (i := 4) (v := _) rfl (by kernel_rfl) (by kernel_rfl) (by kernel_rfl) (fun _ _ _ h => h) (Or.inl ⟨by rfl, ?_⟩) (by assumption) ?_; rotate_left
      · intro w hSw; (try dsimp only at hSw); go_simp <;> with_reducible rfl
      (try simp only [Act.put, List.getElem_toArray, List.getElem_cons_zero, List.getElem_cons_succ, List.setIfInBounds_toArray, List.set_cons_zero, List.set_cons_succ])
      refine' wpAnyH_take (i := 5) (v := _) rfl (by kernel_rfl) (by kernel_rfl) (by kernel_rfl) (fun _ _ _ h => h) (Or.inl ⟨by rfl, ?_⟩) (by assumption) ?_; rotate_left
      · intro w hSw; (try dsimp only at hSw); go_simp <;> with_reducible rfl
      (try simp only [Act.put, List.getElem_toArray, List.getElem_cons_zero, List.getElem_cons_succ, List.setIfInBounds_toArray, List.set_cons_zero, List.set_cons_succ])
      refine' wpAnyH_take (i := 6) (v := _) rfl (by kernel_rfl) (by kernel_rfl) (by kernel_rfl) (fun _ _ _ h => h) (Or.inl ⟨by rfl, ?_⟩) (by assumption) ?_; rotate_left
      · intro w hSw; (try dsimp only at hSw); go_simp <;> with_reducible rfl
      (try simp only [Act.put, List.getElem_toArray, List.getElem_cons_zero, List.getElem_cons_succ, List.setIfInBounds_toArray, List.set_cons_zero, List.set_cons_succ])
      refine' wpAnyH_take (i := 7) (v := _) rfl (by kernel_rfl) (by kernel_rfl) (by kernel_rfl) (fun _ _ _ h => h) (Or.inl ⟨by rfl, ?_⟩) (by assumption) ?_; rotate_left
      · intro w hSw; (try dsimp only at hSw); go_simp <;> with_reducible rfl
      (try simp only [Act.put, List.getElem_toArray, List.getElem_cons_zero, List.getElem_cons_succ, List.setIfInBounds_toArray, List.set_cons_zero, List.set_cons_succ])
      refine' wpAnyH_take (i := 8) (v := _) rfl (by kernel_rfl) (by kernel_rfl) (by kernel_rfl) (fun _ _ _ h => h) (Or.inl ⟨by rfl, ?_⟩) (by assumption) ?_; rotate_left
      · intro w hSw; (try dsimp only at hSw); go_simp <;> with_reducible rfl
      (try simp only [Act.put, List.getElem_toArray, List.getElem_cons_zero, List.getElem_cons_succ, List.setIfInBounds_toArray, List.set_cons_zero, List.set_cons_succ])
      refine' wpAnyH_take (i := 9) (v := _) rfl (by kernel_rfl) (by kernel_rfl) (by kernel_rfl) (fun _ _ _ h => h) (Or.inl ⟨by rfl, ?_⟩) (by assumption) ?_; rotate_left
      · intro w hSw; (try dsimp only at hSw); go_simp <;> with_reducible rfl
      (try simp only [Act.put, List.getElem_toArray, List.getElem_cons_zero, List.getElem_cons_succ, List.setIfInBounds_toArray, List.set_cons_zero, List.set_cons_succ])
      refine' wpAnyH_take (i := 10) (v := _) rfl (by kernel_rfl) (by kernel_rfl) (by kernel_rfl) (fun _ _ _ h => h) (Or.inl ⟨by rfl, ?_⟩) (by assumption) ?_; rotate_left
      · intro w hSw; (try dsimp only at hSw); go_simp <;> with_reducible rfl
      (try simp only [Act.put, List.getElem_toArray, List.getElem_cons_zero, List.getElem_cons_succ, List.setIfInBounds_toArray, List.set_cons_zero, List.set_cons_succ])
      refine' wpAnyH_take (i := 11) (v := undef) rfl (by kernel_rfl) (by kernel_rfl) (by kernel_rfl) (fun _ _ _ h => h) (Or.inr ⟨by rfl, rfl⟩) (by assumption) ?_
      (try simp only [Act.put, List.getElem_toArray, List.getElem_cons_zero, List.getElem_cons_succ, List.setIfInBounds_toArray, List.set_cons_zero, List.set_cons_succ])
      refine' wpAnyH_take (i := 12) (v := undef) rfl (by kernel_rfl) (by kernel_rfl) (by kernel_rfl) (fun _ _ _ h => h) (Or.inr ⟨by rfl, rfl⟩) (by assumption) ?_
      (try simp only [Act.put, List.getElem_toArray, List.getElem_cons_zero, List.getElem_cons_succ, List.setIfInBounds_toArray, List.set_cons_zero, List.set_cons_succ])
      refine' wpAnyH_take (i := 13) (v := _) rfl (by kernel_rfl) (by kernel_rfl) (by kernel_rfl) (fun _ _ _ h => h) (Or.inl ⟨by rfl, ?_⟩) (by assumption) ?_; rotate_left
      · intro w hSw; (try dsimp only at hSw); go_simp <;> with_reducible rfl
      (try simp only [Act.put, List.getElem_toArray, List.getElem_cons_zero, List.getElem_cons_succ, List.setIfInBounds_toArray, List.set_cons_zero, List.set_cons_succ])
      have hV := HD.out
      have hP := put7_spec (R := w.heap.size) hV.rx (.int .i64 k0) (.string ByteArray.empty) (.int .i64 0) (.int .i64 0) (.int .i64 0) (.int .i64 0) (.string ByteArray.empty)
      obtain ⟨o1, o2, o3⟩ := hV.out hP.2
      obtain ⟨r0, r1, r2, r3, r4, r5, r6, q0, q1, q2, q3, q4, q5, q6⟩ := cs7 hV.rx
      obtain ⟨y0, y1, y2, y3, y4, y5, y6, -⟩ := cs7 o1
      obtain ⟨p0, p1, p2, p3, p4, p5, p6, -⟩ := cs7 (kind := k0) (name := ByteArray.empty) (ver := 0) (frm := 0) (non := 0) (err := 0) (text := ByteArray.empty) hP.1
      have u0 : (put7 V w.heap.size (.int .i64 k0) (.string ByteArray.empty) (.int .i64 0) (.int .i64 0) (.int .i64 0) (.int .i64 0) (.string ByteArray.empty)).cell? ⟨w.heap.size + 1, 0, none⟩ = some (.slice a2 n2 cap2) := (cell_same o2 0).trans t0
      have u1 : (put7 V w.heap.size (.int .i64 k0) (.string ByteArray.empty) (.int .i64 0) (.int .i64 0) (.int .i64 0) (.int .i64 0) (.string ByteArray.empty)).cell? ⟨w.heap.size + 1, 1, none⟩ = some (.bool false) := (cell_same o2 1).trans t1
      have HY := hideL y0; have HYS := hideL (And.intro y0 (And.intro y1 (And.intro y2 (And.intro y3 (And.intro y4 (And.intro y5 (And.intro y6 (And.intro u0 u1))))))))
      have HPS := hideL (And.intro p0 (And.intro p1 (And.intro p2 (And.intro p3 (And.intro p4 (And.intro p5 p6))))))
      have HO := hideL o3
      clear hV hP o1 o2 o3 y0 y1 y2 y3 y4 y5 y6 p0 p1 p2 p3 p4 p5 p6 u0 u1 HY
      refine wpAnyH_ready (rs := [14]) (by kernel_rfl) (by simp) ?_
      refine AllReadyH.cons rfl (fun K hK => ?_) AllReadyH.nil
      go_simp
      have hKK := hK.out; clear hK
      change K _ (put7 V w.heap.size (.int .i64 k0) (.string ByteArray.empty) (.int .i64 0) (.int .i64 0) (.int .i64 0) (.int .i64 0) (.string ByteArray.empty))
      refine hKK _ _ HYS.out (fun hHeld => ?_)
      clear hKK K
      (try simp only [Act.put, List.getElem_toArray, List.getElem_cons_zero, List.getElem_cons_succ, List.setIfInBounds_toArray, List.set_cons_zero, List.set_cons_succ])
      generalize put7 V w.heap.size (.int .i64 k0) (.string ByteArray.empty) (.int .i64 0) (.int .i64 0) (.int .i64 0) (.int .i64 0) (.string ByteArray.empty) = V7 at HPS HO hHeld ⊢
      clear HYS
      refine' wpAnyH_take (i := 15) (v := _) rfl (by kernel_rfl) (by kernel_rfl) (by kernel_rfl) (fun _ _ _ h => h) (Or.inl ⟨by rfl, ?_⟩) (by assumption) ?_; rotate_left
      · intro w hSw; (try dsimp only at hSw); go_simp <;> with_reducible rfl
      (try simp only [Act.put, List.getElem_toArray, List.getElem_cons_zero, List.getElem_cons_succ, List.setIfInBounds_toArray, List.set_cons_zero, List.set_cons_succ])
      refine wpAnyH_done (by kernel_rfl) ?_ _
      obtain ⟨p0, p1, p2, p3, p4, p5, p6⟩ := HPS.out
      go_wp2
      exact bodyPost_ret (v := .tuple #[.agg #[.int .i64 k0, .string ByteArray.empty, .int .i64 0, .int .i64 0, .int .i64 0, .int .i64 0, .string ByteArray.empty], .bool false]) (by simp [results, Tryd.results35, go_sem, p0, p1, p2, p3, p4, p5, p6]) rfl ⟨ret_tup (by have : rest ≠ [] := (fun h => h0 (by rw [← hl, h]; rfl)); simp [this]), HO.out⟩
  · refine wp_region_held_drew (S := (fun w' => w'.cell? ⟨M, 0, none⟩ = some (.int .i64 k0) ∧ w'.cell? ⟨M, 1, none⟩ = some (.string ByteArray.empty) ∧ w'.cell? ⟨M, 2, none⟩ = some (.int .i64 0) ∧ w'.cell? ⟨M, 3, none⟩ = some (.int .i64 0) ∧ w'.cell? ⟨M, 4, none⟩ = some (.int .i64 0) ∧ w'.cell? ⟨M, 5, none⟩ = some (.int .i64 0) ∧ w'.cell? ⟨M, 6, none⟩ = some (.string ByteArray.empty) ∧ w'.cell? ⟨w.heap.size + 1, 0, none⟩ = some (.slice a2 n2 cap2) ∧ w'.cell? ⟨w.heap.size + 1, 1, none⟩ = some (.bool true))) (by kernel_rfl) ⟨g0, g1, g2, g3, g4, g5, g6, t0, t1⟩ (fun hHeld => ?_)
    have hD := HD.out.below ((Below.refl _ _).drew)
    clear HD
    have hq := cell_of_below ((Below.refl _ _).drew) g0; clear g0; have g0 := hq; clear hq
    have hq := cell_of_below ((Below.refl _ _).drew) g1; clear g1; have g1 := hq; clear hq
    have hq := cell_of_below ((Below.refl _ _).drew) g2; clear g2; have g2 := hq; clear hq
    have hq := cell_of_below ((Below.refl _ _).drew) g3; clear g3; have g3 := hq; clear hq
    have hq := cell_of_below ((Below.refl _ _).drew) g4; clear g4; have g4 := hq; clear hq
    have hq := cell_of_below ((Below.refl _ _).drew) g5; clear g5; have g5 := hq; clear hq
    have hq := cell_of_below ((Below.refl _ _).drew) g6; clear g6; have g6 := hq; clear hq
    have hq := cell_of_below ((Below.refl _ _).drew) t0; clear t0; have t0 := hq; clear hq
    have hq := cell_of_below ((Below.refl _ _).drew) t1; clear t1; have t1 := hq; clear hq
    clear r0 r1 r2 r3 r4 r5 r6 q0 q1 q2 q3 q4 q5 q6
    generalize W.drew = V at *
    have HD := hideL hD
    clear hD
    refine' wpAnyH_take (i := 0) (v := _) rfl (by kernel_rfl) (by kernel_rfl) (by kernel_rfl) (fun _ _ _ h => h) (Or.inl ⟨by rfl, ?_⟩) (by assumption) ?_; rotate_left
    · intro w hSw; (try dsimp only at hSw); go_simp <;> with_reducible rfl
    (try simp only [Act.put, List.getElem_toArray, List.getElem_cons_zero, List.getElem_cons_succ, List.setIfInBounds_toArray, List.set_cons_zero, List.set_cons_succ])
    refine' wpAnyH_take (i := 1) (v := _) rfl (by kernel_rfl) (by kernel_rfl) (by kernel_rfl) (fun _ _ _ h => h) (Or.inl ⟨by rfl, ?_⟩) (by assumption) ?_; rotate_left
    · intro w hSw; (try dsimp only at hSw); go_simp <;> with_reducible rfl
    (try simp only [Act.put, List.getElem_toArray, List.getElem_cons_zero, List.getElem_cons_succ, List.setIfInBounds_toArray, List.set_cons_zero, List.set_cons_succ])
    refine' wpAnyH_take (i := 2) (v := _) rfl (by kernel_rfl) (by kernel_rfl) (by kernel_rfl) (fun _ _ _ h => h) (Or.inl ⟨by rfl, ?_⟩) (by assumption) ?_; rotate_left
    · intro w hSw; (try dsimp only at hSw); go_simp <;> with_reducible rfl
    (try simp only [Act.put, List.getElem_toArray, List.getElem_cons_zero, List.getElem_cons_succ, List.setIfInBounds_toArray, List.set_cons_zero, List.set_cons_succ])
    refine' wpAnyH_take (i := 3) (v := _) rfl (by kernel_rfl) (by kernel_rfl) (by kernel_rfl) (fun _ _ _ h => h) (Or.inl ⟨by rfl, ?_⟩) (by assumption) ?_; rotate_left
    · intro w hSw; (try dsimp only at hSw); go_simp <;> with_reducible rfl
    (try simp only [Act.put, List.getElem_toArray, List.getElem_cons_zero, List.getElem_cons_succ, List.setIfInBounds_toArray, List.set_cons_zero, List.set_cons_succ])
    refine' wpAnyH_take (i := 4) (v := _) rfl (by kernel_rfl) (by kernel_rfl) (by kernel_rfl) (fun _ _ _ h => h) (Or.inl ⟨by rfl, ?_⟩) (by assumption) ?_; rotate_left
    · intro w hSw; (try dsimp only at hSw); go_simp <;> with_reducible rfl
    (try simp only [Act.put, List.getElem_toArray, List.getElem_cons_zero, List.getElem_cons_succ, List.setIfInBounds_toArray, List.set_cons_zero, List.set_cons_succ])
    refine' wpAnyH_take (i := 5) (v := undef) rfl (by kernel_rfl) (by kernel_rfl) (by kernel_rfl) (fun _ _ _ h => h) (Or.inr ⟨by rfl, rfl⟩) (by assumption) ?_
    (try simp only [Act.put, List.getElem_toArray, List.getElem_cons_zero, List.getElem_cons_succ, List.setIfInBounds_toArray, List.set_cons_zero, List.set_cons_succ])
    refine' wpAnyH_take (i := 6) (v := undef) rfl (by kernel_rfl) (by kernel_rfl) (by kernel_rfl) (fun _ _ _ h => h) (Or.inr ⟨by rfl, rfl⟩) (by assumption) ?_
    (try simp only [Act.put, List.getElem_toArray, List.getElem_cons_zero, List.getElem_cons_succ, List.setIfInBounds_toArray, List.set_cons_zero, List.set_cons_succ])
    refine' wpAnyH_take (i := 7) (v := undef) rfl (by kernel_rfl) (by kernel_rfl) (by kernel_rfl) (fun _ _ _ h => h) (Or.inr ⟨by rfl, rfl⟩) (by assumption) ?_
    (try simp only [Act.put, List.getElem_toArray, List.getElem_cons_zero, List.getElem_cons_succ, List.setIfInBounds_toArray, List.set_cons_zero, List.set_cons_succ])
    refine' wpAnyH_take (i := 8) (v := undef) rfl (by kernel_rfl) (by kernel_rfl) (by kernel_rfl) (fun _ _ _ h => h) (Or.inr ⟨by rfl, rfl⟩) (by assumption) ?_
    (try simp only [Act.put, List.getElem_toArray, List.getElem_cons_zero, List.getElem_cons_succ, List.setIfInBounds_toArray, List.set_cons_zero, List.set_cons_succ])
    refine' wpAnyH_take (i := 9) (v := _) rfl (by kernel_rfl) (by kernel_rfl) (by kernel_rfl) (fun _ _ _ h => h) (Or.inl ⟨by rfl, ?_⟩) (by assumption) ?_; rotate_left
    · intro w hSw; (try dsimp only at hSw); go_simp <;> with_reducible rfl
    (try simp only [Act.put, List.getElem_toArray, List.getElem_cons_zero, List.getElem_cons_succ, List.setIfInBounds_toArray, List.set_cons_zero, List.set_cons_succ])
    refine' wpAnyH_take (i := 10) (v := _) rfl (by kernel_rfl) (by kernel_rfl) (by kernel_rfl) (fun _ _ _ h => h) (Or.inl ⟨by rfl, ?_⟩) (by assumption) ?_; rotate_left
    · intro w hSw; (try dsimp only at hSw); go_simp <;> with_reducible rfl
    (try simp only [Act.put, List.getElem_toArray, List.getElem_cons_zero, List.getElem_cons_succ, List.setIfInBounds_toArray, List.set_cons_zero, List.set_cons_succ])
    refine' wpAnyH_take (i := 11) (v := undef) rfl (by kernel_rfl) (by kernel_rfl) (by kernel_rfl) (fun _ _ _ h => h) (Or.inr ⟨by rfl, rfl⟩) (by assumption) ?_
    (try simp only [Act.put, List.getElem_toArray, List.getElem_cons_zero, List.getElem_cons_succ, List.setIfInBounds_toArray, List.set_cons_zero, List.set_cons_succ])
    refine' wpAnyH_take (i := 12) (v := undef) rfl (by kernel_rfl) (by kernel_rfl) (by kernel_rfl) (fun _ _ _ h => h) (Or.inr ⟨by rfl, rfl⟩) (by assumption) ?_
    (try simp only [Act.put, List.getElem_toArray, List.getElem_cons_zero, List.getElem_cons_succ, List.setIfInBounds_toArray, List.set_cons_zero, List.set_cons_succ])
    refine' wpAnyH_take (i := 13) (v := _) rfl (by kernel_rfl) (by kernel_rfl) (by kernel_rfl) (fun _ _ _ h => h) (Or.inl ⟨by rfl, ?_⟩) (by assumption) ?_; rotate_left
    · intro w hSw; (try dsimp only at hSw); go_simp <;> with_reducible rfl
    (try simp only [Act.put, List.getElem_toArray, List.getElem_cons_zero, List.getElem_cons_succ, List.setIfInBounds_toArray, List.set_cons_zero, List.set_cons_succ])
    have hV := HD.out
    have hP := put7_spec (R := w.heap.size) hV.rx (.int .i64 k0) (.string ByteArray.empty) (.int .i64 0) (.int .i64 0) (.int .i64 0) (.int .i64 0) (.string ByteArray.empty)
    obtain ⟨o1, o2, o3⟩ := hV.out hP.2
    obtain ⟨r0, r1, r2, r3, r4, r5, r6, q0, q1, q2, q3, q4, q5, q6⟩ := cs7 hV.rx
    obtain ⟨y0, y1, y2, y3, y4, y5, y6, -⟩ := cs7 o1
    obtain ⟨p0, p1, p2, p3, p4, p5, p6, -⟩ := cs7 (kind := k0) (name := ByteArray.empty) (ver := 0) (frm := 0) (non := 0) (err := 0) (text := ByteArray.empty) hP.1
    have u0 : (put7 V w.heap.size (.int .i64 k0) (.string ByteArray.empty) (.int .i64 0) (.int .i64 0) (.int .i64 0) (.int .i64 0) (.string ByteArray.empty)).cell? ⟨w.heap.size + 1, 0, none⟩ = some (.slice a2 n2 cap2) := (cell_same o2 0).trans t0
    have u1 : (put7 V w.heap.size (.int .i64 k0) (.string ByteArray.empty) (.int .i64 0) (.int .i64 0) (.int .i64 0) (.int .i64 0) (.string ByteArray.empty)).cell? ⟨w.heap.size + 1, 1, none⟩ = some (.bool true) := (cell_same o2 1).trans t1
    have HY := hideL y0; have HYS := hideL (And.intro y0 (And.intro y1 (And.intro y2 (And.intro y3 (And.intro y4 (And.intro y5 (And.intro y6 (And.intro u0 u1))))))))
    have HPS := hideL (And.intro p0 (And.intro p1 (And.intro p2 (And.intro p3 (And.intro p4 (And.intro p5 p6))))))
    have HO := hideL o3
    clear hV hP o1 o2 o3 y0 y1 y2 y3 y4 y5 y6 p0 p1 p2 p3 p4 p5 p6 u0 u1 HY
    refine wpAnyH_ready (rs := [14]) (by kernel_rfl) (by simp) ?_
    refine AllReadyH.cons rfl (fun K hK => ?_) AllReadyH.nil
    go_simp
    have hKK := hK.out; clear hK
    change K _ (put7 V w.heap.size (.int .i64 k0) (.string ByteArray.empty) (.int .i64 0) (.int .i64 0) (.int .i64 0) (.int .i64 0) (.string ByteArray.empty))
    refine hKK _ _ HYS.out (fun hHeld => ?_)
    clear hKK K
    (try simp only [Act.put, List.getElem_toArray, List.getElem_cons_zero, List.getElem_cons_succ, List.setIfInBounds_toArray, List.set_cons_zero, List.set_cons_succ])
    generalize put7 V w.heap.size (.int .i64 k0) (.string ByteArray.empty) (.int .i64 0) (.int .i64 0) (.int .i64 0) (.int .i64 0) (.string ByteArray.empty) = V7 at HPS HO hHeld ⊢
    clear HYS
    refine' wpAnyH_take (i := 15) (v := _) rfl (by kernel_rfl) (by kernel_rfl) (by kernel_rfl) (fun _ _ _ h => h) (Or.inl ⟨by rfl, ?_⟩) (by assumption) ?_; rotate_left
    · intro w hSw; (try dsimp only at hSw); go_simp <;> with_reducible rfl
    (try simp only [Act.put, List.getElem_toArray, List.getElem_cons_zero, List.getElem_cons_succ, List.setIfInBounds_toArray, List.set_cons_zero, List.set_cons_succ])
    refine wpAnyH_done (by kernel_rfl) ?_ _
    obtain ⟨p0, p1, p2, p3, p4, p5, p6⟩ := HPS.out
    go_wp2
    exact bodyPost_ret (v := .tuple #[.agg #[.int .i64 k0, .string ByteArray.empty, .int .i64 0, .int .i64 0, .int .i64 0, .int .i64 0, .string ByteArray.empty], .bool false]) (by simp [results, Tryd.results35, go_sem, p0, p1, p2, p3, p4, p5, p6]) rfl ⟨ret_tup (by simp), HO.out⟩
end Go.Proofs.YteeclghhoioapaaDoor
