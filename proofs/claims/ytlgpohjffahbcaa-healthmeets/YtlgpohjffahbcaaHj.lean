/- HealthSlower's walk; awake. -/
import Derived.Test.YtlgpohjffahbcaaHi
namespace Go.Proofs.Ytlgpohjffahbcaa
open Go.RowKit Ieee
set_option linter.unusedVariables false
set_option linter.unusedSimpArgs false
theorem runO_ok {W : World} {r : Ru} (h : Rin W r) (n : Nat) : OkD (runO r n) n := by
  unfold runO
  split
  · exact ⟨(fun x hx => by cases hx), (fun x hx => by cases hx), (fun x hx => by cases hx)⟩
  · exact bothO_ok h n
theorem OkD.mono {o : Dt} {n m : Nat} (h : OkD o n) (hm : n ≤ m) : OkD o m := ⟨h.ok, fun x hx => Nat.le_trans (h.len x hx) hm, h.lt⟩
theorem OkD.took {o : Dt} {n : Nat} (h : OkD o n) : tookO (stO o) < INF := by
  cases o with
  | none => decide
  | some x => exact (h.st _ rfl).took
theorem slow_self (o : Option St) : slowF o o = false := by unfold slowF; simp
set_option maxRecDepth 100000 in
theorem slowers_any (r q : Ru) (w : World) (hr : Rin w r) (hq : Rin w q) : Calls Try.prog 4 #[r.val, q.val] w fun e w' => e = .returned (.bool true) ∧ Below w.heap.size w w' := by
  obtain ⟨w1, hw1⟩ : ∃ w1, w.alloc (.cells #[.int .i64 r.rise, .int .i64 r.fall, .slice r.a r.L.length r.c, .int .i64 r.cp, .bool r.none] 24 (0, 0)) = w1 := ⟨_, rfl⟩
  obtain ⟨w2, hw2⟩ : ∃ w2, w1.alloc (.cells #[.int .i64 q.rise, .int .i64 q.fall, .slice q.a q.L.length q.c, .int .i64 q.cp, .bool q.none] 24 (0, 0)) = w2 := ⟨_, rfl⟩
  have hB1 : Below w.heap.size w w1 := hw1 ▸ (Below.refl _ w).alloc (Nat.le_refl _) _
  have hB2 : Below w1.heap.size w1 w2 := hw2 ▸ (Below.refl _ w1).alloc (Nat.le_refl _) _
  have hk1 : w2.heap[w.heap.size]? = some (.cells #[.int .i64 r.rise, .int .i64 r.fall, .slice r.a r.L.length r.c, .int .i64 r.cp, .bool r.none] 24 (0, 0)) := by
    have := hw1 ▸ Go.heap_alloc_new w (.cells #[.int .i64 r.rise, .int .i64 r.fall, .slice r.a r.L.length r.c, .int .i64 r.cp, .bool r.none] 24 (0, 0))
    exact (hB2.block _ (lt_of_block this)).trans this
  have hk2 : w2.heap[w1.heap.size]? = some (.cells #[.int .i64 q.rise, .int .i64 q.fall, .slice q.a q.L.length q.c, .int .i64 q.cp, .bool q.none] 24 (0, 0)) := hw2 ▸ Go.heap_alloc_new _ _
  have hB : Below w.heap.size w w2 := hB1.trans (hB2.mono hB1.size)
  have HB := hide2 hB
  have HR := hide2 (hr.below hB)
  have HQ := hide2 (hq.below hB)
  have HK2 := hide2 hk2
  have m0 : w2.cell? ⟨w.heap.size, 0, none⟩ = some (.int .i64 r.rise) := by simp [World.cell?, hk1]
  have m1 : w2.cell? ⟨w.heap.size, 1, none⟩ = some (.int .i64 r.fall) := by simp [World.cell?, hk1]
  have m2 : w2.cell? ⟨w.heap.size, 2, none⟩ = some (.slice r.a r.L.length r.c) := by simp [World.cell?, hk1]
  have m3 : w2.cell? ⟨w.heap.size, 3, none⟩ = some (.int .i64 r.cp) := by simp [World.cell?, hk1]
  have m4 : w2.cell? ⟨w.heap.size, 4, none⟩ = some (.bool r.none) := by simp [World.cell?, hk1]
  have hbr := both_any r w2 HR.out
  have O1 := hide2 ((runO_ok hr 200).mono (m := 900) (by decide))
  have O2 := hide2 ((runO_ok hq 200).mono (m := 900) (by decide))
  unfold Ru.val at *
  clear hr hq hB hB1 hB2 hk1 hk2
  go_enter Try.func4, Try.ntmps4
  go_wp2_with fail
  refine hbr.mono ?_
  rintro e w3 ⟨v1, b1, u1, bs1, rfl, hT1, hb3⟩
  have HT1 := hide2 hT1
  have HB3 := hide2 hb3
  have hk3 : w3.heap[w1.heap.size]? = some (.cells #[.int .i64 q.rise, .int .i64 q.fall, .slice q.a q.L.length q.c, .int .i64 q.cp, .bool q.none] 24 (0, 0)) := (hb3.block _ (lt_of_block HK2.out)).trans HK2.out
  have n0 : w3.cell? ⟨w1.heap.size, 0, none⟩ = some (.int .i64 q.rise) := by simp [World.cell?, hk3]
  have n1 : w3.cell? ⟨w1.heap.size, 1, none⟩ = some (.int .i64 q.fall) := by simp [World.cell?, hk3]
  have n2 : w3.cell? ⟨w1.heap.size, 2, none⟩ = some (.slice q.a q.L.length q.c) := by simp [World.cell?, hk3]
  have n3 : w3.cell? ⟨w1.heap.size, 3, none⟩ = some (.int .i64 q.cp) := by simp [World.cell?, hk3]
  have n4 : w3.cell? ⟨w1.heap.size, 4, none⟩ = some (.bool q.none) := by simp [World.cell?, hk3]
  have hbq := both_any q w3 (HQ.out.below hb3)
  unfold Ru.val at hbq
  clear hbr m0 m1 m2 m3 m4 hT1 hb3 hk3 hw1 hw2
  go_wp2_with fail
  refine hbq.mono ?_
  rintro e w4 ⟨v2, b2, u2, bs2, rfl, hT2, hb4⟩
  have HT2 := hide2 hT2
  have HT14 := hide2 (HT1.out.below hb4)
  have HB4 := hide2 (HB.out.trans ((HB3.out.trans (hb4.mono HB3.out.size)).mono HB.out.size))
  have c1 := slower_any v1 v2 b1 b2 _ _ w4 HT14.out.pv hT2.pv O1.out.took O2.out.took
  have d1 := rslower_any u1 u2 _ _ bs1 bs2 _ _ w4 (HT14.out.rd.rv O1.out) (hT2.rd.rv O2.out) O1.out.took O2.out.took
  clear hbq n0 n1 n2 n3 n4 hT2 hb4
  go_wp2_with fail
  refine c1.mono ?_
  rintro e w' ⟨rfl, rfl⟩
  clear c1
  go_wp2_with fail
  refine d1.mono ?_
  rintro e w5 ⟨rfl, hb5⟩
  have HB5 := hide2 hb5
  have c2 := slower_any v2 v1 b2 b1 _ _ w5 (HT2.out.below hb5).pv (HT14.out.below hb5).pv O2.out.took O1.out.took
  have d2 := rslower_any u2 u1 _ _ bs2 bs1 _ _ w5 ((HT2.out.below hb5).rd.rv O2.out) ((HT14.out.below hb5).rd.rv O1.out) O2.out.took O1.out.took
  obtain ⟨S1, hS1⟩ : ∃ S1, slowF (stO (runO r 200)) (stO (runO q 200)) = S1 := ⟨_, rfl⟩
  obtain ⟨S2, hS2⟩ : ∃ S2, slowF (stO (runO q 200)) (stO (runO r 200)) = S2 := ⟨_, rfl⟩
  rw [hS1]
  rw [hS2] at c2 d2
  have g1 : (S1 == S1) = true := by simp
  have g2 : (S2 == S2) = true := by simp
  clear d1 hS1 hS2 hb5
  go_wp2_with fail
  refine c2.mono ?_
  rintro e w' ⟨rfl, rfl⟩
  clear c2
  go_wp2_with fail
  refine d2.mono ?_
  rintro e w6 ⟨rfl, hb6⟩
  have HB6 := hide2 (HB5.out.trans (hb6.mono HB5.out.size))
  have c3 := slower_any v1 v1 b1 b1 _ _ w6 (HT14.out.below HB6.out).pv (HT14.out.below HB6.out).pv O1.out.took O1.out.took
  rw [slow_self] at c3
  have i1 := is_any v1 u1 b1 _ _ bs1 w6 (HT14.out.below HB6.out).pv ((HT14.out.below HB6.out).rd.rv O1.out)
  clear d2 hb6
  go_wp2_with fail
  refine c3.mono ?_
  rintro e w' ⟨rfl, rfl⟩
  clear c3
  go_wp2_with fail
  refine i1.mono ?_
  rintro e w7 ⟨rfl, hb7⟩
  have HB7 := hide2 (HB6.out.trans (hb7.mono HB6.out.size))
  have i2 := is_any v2 u2 b2 _ _ bs2 w7 (HT2.out.below HB7.out).pv ((HT2.out.below HB7.out).rd.rv O2.out)
  clear i1 hb7
  go_wp2_with fail
  refine i2.mono ?_
  rintro e w8 ⟨rfl, hb8⟩
  have HB8 := hide2 (HB4.out.trans ((HB7.out.trans (hb8.mono HB7.out.size)).mono HB4.out.size))
  clear i2 hb8
  go_wp2_with fail
  go_ret
  exact ⟨rfl, HB8.out⟩
abbrev W1 : Nat := 4607182418800017408
abbrev W8 : Nat := 4620693217682128896
abbrev W4 : Nat := 4616189618054758400
abbrev W7 : Nat := 4619567317775286272
theorem aw1 : (St.new 2 1).probe false W1 = ⟨false, 1, 2, 0, 1, 0, 0⟩ := by kernel_rfl
theorem aw2 : (⟨false, 1, 2, 0, 1, 0, 0⟩ : St).probe true W8 = ⟨false, 1, 2, 1, 1, W8, 1⟩ := by kernel_rfl
theorem aw3 : (⟨false, 1, 2, 1, 1, W8, 1⟩ : St).probe true W4 = ⟨true, 1, 2, 0, 2, W7, 2⟩ := by kernel_rfl
end Go.Proofs.Ytlgpohjffahbcaa
