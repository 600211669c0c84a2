/- HealthApart's walk. -/
import Derived.Test.YtlgpohjffahbcaaHk
namespace Go.Proofs.Ytlgpohjffahbcaa
open Go.RowKit Ieee
set_option linter.unusedVariables false
set_option linter.unusedSimpArgs false
theorem Pv.cases_ {w : World} {v : Value} {b : Option Nat} {o : Option St} (h : Pv w v b o) : (v = .pointer none ∧ o = none ∧ b = none) ∨ ∃ k s, v = .pointer (some ⟨k, 0, none⟩) ∧ o = some s ∧ b = some k ∧ Hs w k s := by
  cases h with
  | nil => exact .inl ⟨rfl, rfl, rfl⟩
  | at_ b s h => exact .inr ⟨b, s, rfl, rfl, rfl, h⟩
def Ru.row (r : Ru) : Array Value := #[.int .i64 r.rise, .int .i64 r.fall, .slice r.a r.L.length r.c, .int .i64 r.cp, .bool r.none]
/-- a run in a block -/
def Rb (w : World) (b : Nat) (r : Ru) : Prop := w.heap[b]? = some (.cells r.row 24 (0, 0))
theorem Rb.cells {w : World} {b : Nat} {r : Ru} (h : Rb w b r) : w.cell? ⟨b, 0, none⟩ = some (.int .i64 r.rise) ∧ w.cell? ⟨b, 1, none⟩ = some (.int .i64 r.fall) ∧ w.cell? ⟨b, 2, none⟩ = some (.slice r.a r.L.length r.c) ∧ w.cell? ⟨b, 3, none⟩ = some (.int .i64 r.cp) ∧ w.cell? ⟨b, 4, none⟩ = some (.bool r.none) := by
  unfold Rb Ru.row at h
  refine ⟨?_, ?_, ?_, ?_, ?_⟩ <;> simp [World.cell?, h]
theorem Rb.below {w w' : World} {b : Nat} {r : Ru} {B : Nat} (h : Rb w b r) (g : Below B w w') (hb : b < B) : Rb w' b r := (g.block b hb).trans h
theorem Stp.hs {w w' : World} {b : Nat} {s : St} {bs bs' : List Nat} (g : Stp w w' bs bs') (h : Hs w b s) (hb : b ∉ bs) : Hs w' b s := (g.old b (lt_of_block h) hb).trans h
set_option maxRecDepth 100000 in
set_option maxHeartbeats 4000000 in
theorem apart_any (r q : Ru) (w : World) (hr : Rin w r) (hq : Rin w q) : Calls Try.prog 8 #[r.val, q.val] w fun e w' => e = .returned (.bool true) ∧ Below w.heap.size w w' := by
  obtain ⟨w1, hw1⟩ : ∃ w1, w.alloc (.cells #[.int .i64 r.rise, .int .i64 r.fall, .slice r.a r.L.length r.c, .int .i64 r.cp, .bool r.none] 24 (0, 0)) = w1 := ⟨_, rfl⟩
  obtain ⟨w2, hw2⟩ : ∃ w2, w1.alloc (.cells #[.int .i64 q.rise, .int .i64 q.fall, .slice q.a q.L.length q.c, .int .i64 q.cp, .bool q.none] 24 (0, 0)) = w2 := ⟨_, rfl⟩
  have hB1 : Below w.heap.size w w1 := hw1 ▸ (Below.refl _ w).alloc (Nat.le_refl _) _
  have hB2 : Below w1.heap.size w1 w2 := hw2 ▸ (Below.refl _ w1).alloc (Nat.le_refl _) _
  have hk1 : Rb w2 w.heap.size r := by
    have h0 : w1.heap[w.heap.size]? = some (.cells r.row 24 (0, 0)) := hw1 ▸ Go.heap_alloc_new w _
    exact (hB2.block _ (lt_of_block h0)).trans h0
  have hk2 : Rb w2 w1.heap.size q := (hw2 ▸ Go.heap_alloc_new w1 (.cells q.row 24 (0, 0)) : w2.heap[w1.heap.size]? = some (.cells q.row 24 (0, 0)))
  have hB : Below w.heap.size w w2 := hB1.trans (hB2.mono hB1.size)
  have HB := hide2 hB
  have HR := hide2 (hr.below hB)
  have HQ := hide2 (hq.below hB)
  have HK1 := hide2 hk1
  have HK2 := hide2 hk2
  have O1 := hide2 ((runO_ok hr 200).mono (m := 900) (by decide))
  have ha := awake_any w2
  unfold Ru.val at *
  clear hr hq hB hB1 hB2 hk1 hk2
  go_enter Try.func8, Try.ntmps8
  go_wp2_with fail
  refine ha.mono ?_
  rintro e w3 ⟨rfl, hb3⟩
  obtain ⟨m0, m1, m2, m3, m4⟩ := (HK1.out.below hb3 (lt_of_block HK1.out)).cells
  have HB3 := hide2 hb3
  have hbr := both_any r w3 (HR.out.below hb3)
  unfold Ru.val at hbr
  clear ha hb3 hw1 hw2
  go_wp2_with fail
  refine hbr.mono ?_
  rintro e w4 ⟨v1, b1, u1, bs1, rfl, hT1, hb4⟩
  have HT1 := hide2 hT1
  have HB4 := hide2 (HB3.out.trans (hb4.mono HB3.out.size))
  clear hbr m0 m1 m2 m3 m4 hb4
  rcases hT1.pv.cases_ with ⟨rfl, he, rfl⟩ | ⟨k, s, rfl, he, rfl, hs⟩
  · have c1 := probe_nil true W1 w4
    have c2 := healthy_any _ _ _ w4 (.nil)
    have c3 := row_any _ _ _ w4 (.nil)
    have c4 := took_any _ _ _ w4 (.nil)
    have c5 := timed_any _ _ _ w4 (.nil)
    have c6 := turns_any _ _ _ w4 (.nil)
    have c7 := copy_nil w4
    have c8 := slower_any _ _ _ _ _ _ w4 (.nil) (.nil) (by decide) (by decide)
    rw [slow_self] at c8
    have hz : (FloatKind.f64.format.order 0 0 == some .eq) = true := by decide +kernel
    clear hT1 he
    go_wp2_with (first
      | (go_at_call 11; refine c1.mono ?_; rintro e w7 ⟨rfl, rfl⟩)
      | (go_at_call 20; refine c2.mono ?_; rintro e w7 ⟨rfl, rfl⟩)
      | (go_at_call 22; refine c3.mono ?_; rintro e w7 ⟨rfl, rfl⟩)
      | (go_at_call 23; refine c4.mono ?_; rintro e w7 ⟨rfl, rfl⟩)
      | (go_at_call 24; refine c5.mono ?_; rintro e w7 ⟨rfl, rfl⟩)
      | (go_at_call 21; refine c6.mono ?_; rintro e w7 ⟨rfl, rfl⟩)
      | (go_at_call 14; refine c7.mono ?_; rintro e w7 ⟨rfl, rfl⟩)
      | (go_at_call 17; refine c8.mono ?_; rintro e w7 ⟨rfl, rfl⟩))
    go_ret
    exact ⟨rfl, HB.out.trans (HB4.out.mono HB.out.size)⟩
  · have HS := hide2 hs
    have OS := hide2 (O1.out.st s he)
    have c1 := copy_any k s w4 hs
    clear hT1 he
    go_wp2_with fail
    refine c1.mono ?_
    rintro e w5 ⟨rfl, h5, hb5⟩
    have HC := hide2 h5
    have HS5 := hide2 (hs.below hb5 (lt_of_block hs))
    have HB5 := hide2 (HB4.out.trans (hb5.mono HB4.out.size))
    have hkk : k < w4.heap.size := lt_of_block hs
    have HKK := hide2 hkk
    clear c1 hs h5 hb5
    have c2 := healthy_any _ _ _ w5 HS5.out.pv
    have c3 := row_any _ _ _ w5 HS5.out.pv
    have c4 := took_any _ _ _ w5 HS5.out.pv
    obtain ⟨c, hc⟩ : ∃ c, w4.heap.size = c := ⟨_, rfl⟩
    have HCE := hide2 hc
    rw [hc]
    have HN := hide2 HQ.out.p.len
    have hqb := (HK2.out.below HB5.out (lt_of_block HK2.out))
    have HQB := hide2 hqb
    obtain ⟨n0, n1, n2, n3, n4⟩ := hqb.cells
    obtain ⟨n, hn⟩ : ∃ n, q.L.length = n := ⟨_, rfl⟩
    have HNN := hide2 hn
    have hnl : n ≤ 140737488355328 := by rw [← hn]; exact HN.out
    rw [hn] at n2
    clear hkk hc hqb hn n0 n1 n3 n4
    go_wp2_with (first
      | (go_at_call 20; refine c2.mono ?_; rintro e w7 ⟨rfl, rfl⟩)
      | (go_at_call 22; refine c3.mono ?_; rintro e w7 ⟨rfl, rfl⟩)
      | (go_at_call 23; refine c4.mono ?_; rintro e w7 ⟨rfl, rfl⟩))
    have hcs : w2.heap.size ≤ c := by rw [← HCE.out]; exact HB4.out.size
    have hq1 := lt_of_block HK2.out
    have hq0 := lt_of_block HK1.out
    have HCS := hide2 (And.intro hcs (And.intro hq1 hq0))
    have hqc : w1.heap.size ≠ c := by omega
    have HQC := hide2 hqc
    have HC2 : Hid (Hs w7 c s) := HCE.out ▸ HC
    have HCell : Hid (∀ wx, Stp w7 wx [c] [c] → Rb wx w1.heap.size q) := fun wx hx => (hx.old _ (lt_of_block HQB.out) (by simpa using HQC.out)).trans HQB.out
    clear hcs hq1 hq0 hqc
    go_loopw [11] (fun t wr => ∃ j : Nat, j ≤ n ∧ j ≤ 200 ∧ t = .int .i64 j ∧ Hid (∃ s', Hs wr c s' ∧ Ok s' (900 + j) ∧ Stp w7 wr [c] [c])) (fun t _ => n - (intOf t).toNat)
    case atStart => exact ⟨0, by omega, by omega, rfl, (⟨s, HC2.out, OS.out, Stp.refl _ _⟩ : ∃ s', Hs w7 c s' ∧ Ok s' (900 + 0) ∧ Stp w7 w7 [c] [c])⟩
    case round =>
      obtain ⟨j, hj, hj2, rfl, HV⟩ := hrel
      obtain ⟨s', hs', ho', hst⟩ := HV.out
      have HS' := hide2 hs'
      have HST := hide2 hst
      obtain ⟨r0, r1, r2, r3, r4⟩ := (HCell.out wr hst).cells
      rw [HNN.out] at r2
      have k0 : (0 : Int) ≤ j := by omega
      by_cases hlt : j < n ∧ j < 200
      · obtain ⟨h1, h2⟩ := hlt
        obtain ⟨g, off, ha', q1, q2, hq'⟩ := (HQ.out.below HB5.out).p.at_ (k := j) (by have := HNN.out; omega)
        have hg : g < w2.heap.size := by
          obtain ⟨g', off', ha2, q1', _⟩ := HQ.out.p.at_ (k := j) (by have := HNN.out; omega)
          rw [ha'] at ha2; cases ha2
          exact World.block_lt_of_cell? w2 _ q1'
        obtain ⟨⟨ok, t⟩, hp⟩ : ∃ p, q.L.getD j (false, 0) = p := ⟨_, rfl⟩
        rw [hp] at q1 q2 hq'
        rw [ha'] at r2
        have hgc : g ≠ c := by have := HCS.out; omega
        have HX : Hid (∀ wx, Stp w7 wx [c] [c] → wx.cell? ⟨w1.heap.size, 2, none⟩ = some (.slice (some ⟨g, off, none⟩) n q.c) ∧ wx.cell? ⟨g, off + j * 2, none⟩ = some (.bool ok) ∧ wx.cell? ⟨g, off + j * 2 + 1, none⟩ = some (.float .f64 t)) := fun wx hx => by
          have hb := (HCell.out wx hx).cells.2.2.1
          rw [HNN.out, ha'] at hb
          have hgg : wx.heap[g]? = w7.heap[g]? := hx.old g (by have := HB5.out.size; omega) (by simpa using hgc)
          refine ⟨hb, ?_, ?_⟩
          · rw [← q1]; unfold World.cell?; dsimp only; rw [hgg]
          · rw [← q2]; unfold World.cell?; dsimp only; rw [hgg]
        obtain ⟨e2, e3, e4⟩ := HX.out wr hst
        have hsd : Hs wr.drew c s' := hs'
        have HP1 := hide2 (probe_any c s' (900 + j) ok t wr.drew hsd ho' (by omega) hq')
        have hd : Stp w7 wr.drew [c] [c] := hst.trans (Stp.of_below [c] (Below.refl _ _).drew)
        have HD := hide2 hd
        have HO' := hide2 (ho'.probe ok t)
        have k1 : (j : Int) < n := by omega
        have k2 : (j : Int) < 200 := by omega
        have HJ := hide2 (And.intro h1 h2)
        clear hs' ho' hst r0 r1 r3 r4 q1 q2 hq' hg hp hgc hsd hd h1 h2 hj hj2 n2 ha' r2
        go_wp2_with fail
        go_region_held3 (fun w' => w'.cell? ⟨w1.heap.size, 2, none⟩ = some (.slice (some ⟨g, off, none⟩) n q.c) ∧ w'.cell? ⟨g, off + j * 2, none⟩ = some (.bool ok) ∧ w'.cell? ⟨g, off + j * 2 + 1, none⟩ = some (.float .f64 t)) (go_keep)
          (first | (go_at_call 11; refine HP1.out.mono ?_; rintro e w8 ⟨rfl, hp3, hs3⟩; have H8 := hide2 hp3; have hb3 := HD.out.trans hs3; have HB8 := hide2 hb3; obtain ⟨f2, f3, f4⟩ := HX.out w8 hb3; clear hp3 hs3 hb3))
        go_wp2
        go_roundw
        case rel =>
          refine ⟨j + 1, by have := HJ.out; omega, by have := HJ.out; omega, by go_num, (⟨_, H8.out, ?_, HB8.out⟩ : ∃ s', Hs w8 c s' ∧ Ok s' (900 + (j + 1)) ∧ Stp w7 w8 [c] [c])⟩
          exact HO'.out
        case measure => simp [intOf]; have := HJ.out; omega
      · have hkc : k ≠ c := by have := HKK.out; have := HCE.out; omega
        have hHk : Hs wr k s := hst.hs HS5.out (by simpa using hkc)
        have hBR : Below w2.heap.size w7 wr := hst.below (fun x hx => by have := HCS.out; simp at hx; omega) HB5.out.size
        have HBR := hide2 (HB5.out.trans hBR)
        have hbq := both_any q wr (HQ.out.below HBR.out)
        unfold Ru.val at hbq
        rw [HNN.out] at hbq
        have hge : ¬ ((j : Int) < n) ∨ (j : Int) < n ∧ ¬ (j : Int) < 200 := by omega
        clear hs' ho' hst hkc hBR c2 c3 c4 n2 hj hj2
        rcases hge with hge | ⟨hge, hge2⟩
        · clear hlt
          go_wp2_with fail
          refine hbq.mono ?_
          rintro e w9 ⟨v2, b2, u2, bs2, rfl, -, hb9⟩
          have H9 := hide2 (hHk.below hb9 (lt_of_block hHk))
          have HB9 := hide2 (HBR.out.trans (hb9.mono HBR.out.size))
          have d1 := copy_any k s w9 H9.out
          clear hbq hb9 hHk r0 r1 r2 r3 r4
          go_wp2_with fail
          refine d1.mono ?_
          rintro e w10 ⟨rfl, h10, hb10⟩
          have G1 := (H9.out.below hb10 (lt_of_block H9.out)).pv
          have HB10 := hide2 (HB9.out.trans (hb10.mono HB9.out.size))
          have a1 := healthy_any _ _ _ w10 G1
          have a2 := row_any _ _ _ w10 G1
          have a3 := took_any _ _ _ w10 G1
          have b1 := healthy_any _ _ _ w10 h10.pv
          have b2 := row_any _ _ _ w10 h10.pv
          have b3 := took_any _ _ _ w10 h10.pv
          have al := alike_any s.took w10
          have hne : k ≠ w9.heap.size := by have := lt_of_block H9.out; omega
          obtain ⟨c9, hc9⟩ : ∃ c9, w9.heap.size = c9 := ⟨_, rfl⟩
          rw [hc9] at b1 b2 b3 hne ⊢
          have a1 : Calls Try.prog 20 #[.pointer (some ⟨k, 0, none⟩)] w10 fun e w' => e = .returned (.bool s.up) ∧ w' = w10 := a1
          have a2 : Calls Try.prog 22 #[.pointer (some ⟨k, 0, none⟩)] w10 fun e w' => e = .returned (.int .i64 s.row) ∧ w' = w10 := a2
          have a3 : Calls Try.prog 23 #[.pointer (some ⟨k, 0, none⟩)] w10 fun e w' => e = .returned (.float .f64 s.took) ∧ w' = w10 := a3
          have b1 : Calls Try.prog 20 #[.pointer (some ⟨c9, 0, none⟩)] w10 fun e w' => e = .returned (.bool s.up) ∧ w' = w10 := b1
          have b2 : Calls Try.prog 22 #[.pointer (some ⟨c9, 0, none⟩)] w10 fun e w' => e = .returned (.int .i64 s.row) ∧ w' = w10 := b2
          have b3 : Calls Try.prog 23 #[.pointer (some ⟨c9, 0, none⟩)] w10 fun e w' => e = .returned (.float .f64 s.took) ∧ w' = w10 := b3
          have F20 : ∀ x, x = k ∨ x = c9 → Calls Try.prog 20 #[.pointer (some ⟨x, 0, none⟩)] w10 fun e w' => e = .returned (.bool s.up) ∧ w' = w10 := fun x hx => by rcases hx with rfl | rfl <;> assumption
          have F22 : ∀ x, x = k ∨ x = c9 → Calls Try.prog 22 #[.pointer (some ⟨x, 0, none⟩)] w10 fun e w' => e = .returned (.int .i64 s.row) ∧ w' = w10 := fun x hx => by rcases hx with rfl | rfl <;> assumption
          have F23 : ∀ x, x = k ∨ x = c9 → Calls Try.prog 23 #[.pointer (some ⟨x, 0, none⟩)] w10 fun e w' => e = .returned (.float .f64 s.took) ∧ w' = w10 := fun x hx => by rcases hx with rfl | rfl <;> assumption
          generalize s.up = x0 at *
          generalize s.row = x1 at *
          generalize s.took = x2 at *
          have g0 : (x0 == x0) = true := by simp
          have g1 : (x1 == x1) = true := by simp
          clear a1 a2 a3 b1 b2 b3 d1 G1 h10 hb10 hc9 hne
          go_wp2_with (first
            | (go_at_call 20; refine (F20 _ (by first | exact .inl rfl | exact .inr rfl)).mono ?_; rintro e w7 ⟨rfl, rfl⟩)
            | (go_at_call 22; refine (F22 _ (by first | exact .inl rfl | exact .inr rfl)).mono ?_; rintro e w7 ⟨rfl, rfl⟩)
            | (go_at_call 23; refine (F23 _ (by first | exact .inl rfl | exact .inr rfl)).mono ?_; rintro e w7 ⟨rfl, rfl⟩)
            | (go_at_call 25; refine al.mono ?_; rintro e w7 ⟨rfl, rfl⟩))
          go_ret
          exact ⟨rfl, HB.out.trans (HB10.out.mono HB.out.size)⟩
        · clear hlt
          go_wp2_with fail
          refine hbq.mono ?_
          rintro e w9 ⟨v2, b2, u2, bs2, rfl, -, hb9⟩
          have H9 := hide2 (hHk.below hb9 (lt_of_block hHk))
          have HB9 := hide2 (HBR.out.trans (hb9.mono HBR.out.size))
          have d1 := copy_any k s w9 H9.out
          clear hbq hb9 hHk r0 r1 r2 r3 r4
          go_wp2_with fail
          refine d1.mono ?_
          rintro e w10 ⟨rfl, h10, hb10⟩
          have G1 := (H9.out.below hb10 (lt_of_block H9.out)).pv
          have HB10 := hide2 (HB9.out.trans (hb10.mono HB9.out.size))
          have a1 := healthy_any _ _ _ w10 G1
          have a2 := row_any _ _ _ w10 G1
          have a3 := took_any _ _ _ w10 G1
          have b1 := healthy_any _ _ _ w10 h10.pv
          have b2 := row_any _ _ _ w10 h10.pv
          have b3 := took_any _ _ _ w10 h10.pv
          have al := alike_any s.took w10
          have hne : k ≠ w9.heap.size := by have := lt_of_block H9.out; omega
          obtain ⟨c9, hc9⟩ : ∃ c9, w9.heap.size = c9 := ⟨_, rfl⟩
          rw [hc9] at b1 b2 b3 hne ⊢
          have a1 : Calls Try.prog 20 #[.pointer (some ⟨k, 0, none⟩)] w10 fun e w' => e = .returned (.bool s.up) ∧ w' = w10 := a1
          have a2 : Calls Try.prog 22 #[.pointer (some ⟨k, 0, none⟩)] w10 fun e w' => e = .returned (.int .i64 s.row) ∧ w' = w10 := a2
          have a3 : Calls Try.prog 23 #[.pointer (some ⟨k, 0, none⟩)] w10 fun e w' => e = .returned (.float .f64 s.took) ∧ w' = w10 := a3
          have b1 : Calls Try.prog 20 #[.pointer (some ⟨c9, 0, none⟩)] w10 fun e w' => e = .returned (.bool s.up) ∧ w' = w10 := b1
          have b2 : Calls Try.prog 22 #[.pointer (some ⟨c9, 0, none⟩)] w10 fun e w' => e = .returned (.int .i64 s.row) ∧ w' = w10 := b2
          have b3 : Calls Try.prog 23 #[.pointer (some ⟨c9, 0, none⟩)] w10 fun e w' => e = .returned (.float .f64 s.took) ∧ w' = w10 := b3
          have F20 : ∀ x, x = k ∨ x = c9 → Calls Try.prog 20 #[.pointer (some ⟨x, 0, none⟩)] w10 fun e w' => e = .returned (.bool s.up) ∧ w' = w10 := fun x hx => by rcases hx with rfl | rfl <;> assumption
          have F22 : ∀ x, x = k ∨ x = c9 → Calls Try.prog 22 #[.pointer (some ⟨x, 0, none⟩)] w10 fun e w' => e = .returned (.int .i64 s.row) ∧ w' = w10 := fun x hx => by rcases hx with rfl | rfl <;> assumption
          have F23 : ∀ x, x = k ∨ x = c9 → Calls Try.prog 23 #[.pointer (some ⟨x, 0, none⟩)] w10 fun e w' => e = .returned (.float .f64 s.took) ∧ w' = w10 := fun x hx => by rcases hx with rfl | rfl <;> assumption
          generalize s.up = x0 at *
          generalize s.row = x1 at *
          generalize s.took = x2 at *
          have g0 : (x0 == x0) = true := by simp
          have g1 : (x1 == x1) = true := by simp
          clear a1 a2 a3 b1 b2 b3 d1 G1 h10 hb10 hc9 hne
          go_wp2_with (first
            | (go_at_call 20; refine (F20 _ (by first | exact .inl rfl | exact .inr rfl)).mono ?_; rintro e w7 ⟨rfl, rfl⟩)
            | (go_at_call 22; refine (F22 _ (by first | exact .inl rfl | exact .inr rfl)).mono ?_; rintro e w7 ⟨rfl, rfl⟩)
            | (go_at_call 23; refine (F23 _ (by first | exact .inl rfl | exact .inr rfl)).mono ?_; rintro e w7 ⟨rfl, rfl⟩)
            | (go_at_call 25; refine al.mono ?_; rintro e w7 ⟨rfl, rfl⟩))
          go_ret
          exact ⟨rfl, HB.out.trans (HB10.out.mono HB.out.size)⟩
end Go.Proofs.Ytlgpohjffahbcaa
