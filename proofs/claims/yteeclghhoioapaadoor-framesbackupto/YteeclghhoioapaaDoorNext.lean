/-
  The contract of sum.Next.
-/
import Derived.Test.YteeclghhoioapaaDoorFrame
import Derived.RegionTactic
import Derived.ChangeAlike
import Derived.Deep.RegionHeld3
import Derived.Laws.Cover3
import Derived.Deep.DeepCutAuto
namespace Go.Proofs.YteeclghhoioapaaDoor
set_option maxRecDepth 4000
open Go.RowKit
set_option linter.unusedVariables false

set_option maxHeartbeats 400000 in
theorem next_short (a : Option Addr) (n cap : Nat) (w : World) (hl : n < 8) :
    Calls Tryd.prog 34 #[.slice a n cap] w fun e w' => e = .returned (.tuple #[.slice none 0 0, .int .i64 0, .int .i64 10]) ∧ w' = w := by
  go_enter Tryd.func34, Tryd.ntmps34
  go_wp2
  go_ret3
  exact ⟨rfl, rfl⟩

theorem eq56 (a b c d a' b' c' d' : Int) (w : World) : (Op.equalIn 10000 89 (.agg #[.int .u8 a, .int .u8 b, .int .u8 c, .int .u8 d]) (.agg #[.int .u8 a', .int .u8 b', .int .u8 c', .int .u8 d'])).run Tryd.prog w = .ok (a == a' && b == b' && c == c' && d == d') w := by
  have u5 := Tryd.underlying5
  have a5 := Tryd.isAgg5
  have z5 := Tryd.sizeOf5
  rw [show (10000 : Nat) = 9999 + 1 from rfl, Op.equalIn]
  simp only [Sem.run_bind, run_underlying Tryd.underlying89, Result.andThen_ok]
  simp only [Std.Legacy.Range.forIn_eq_forIn_range', Std.Legacy.Range.size, Nat.sub_zero, Nat.add_sub_cancel, Nat.div_one, List.range'_succ, List.range'_zero, List.forIn_cons, List.forIn_nil]
  go_simp
  by_cases h1 : a = a' <;> by_cases h2 : b = b' <;> by_cases h3 : c = c' <;> by_cases h4 : d = d' <;> simp [h1, h2, h3, h4]

/-- A record is there: its payload has N bytes. -/
def Good (s0 s1 s2 s3 c0 c1 c2 c3 : Int) (rest : List Int) (N : Nat) : Prop :=
  (N : Int) = s0 * 16777216 + s1 * 65536 + s2 * 256 + s3 ∧ N ≤ 131072 ∧ N ≤ rest.length ∧ four (check s0 s1 s2 s3 (rest.take N)) = [c0, c1, c2, c3]
def NextPost (w : World) (s0 s1 s2 s3 c0 c1 c2 c3 : Int) (rest : List Int) (e : Ending) (w' : World) : Prop :=
  Below w.heap.size w w' ∧ (((∀ N, ¬ Good s0 s1 s2 s3 c0 c1 c2 c3 rest N) ∧ e = .returned (.tuple #[.slice none 0 0, .int .i64 0, .int .i64 10])) ∨
    ∃ (N g : Nat), Good s0 s1 s2 s3 c0 c1 c2 c3 rest N ∧ e = .returned (.tuple #[.slice (some ⟨g, 0, none⟩) N N, .int .i64 (8 + (N : Int)), .int .i64 0]) ∧ w.heap.size ≤ g ∧ w'.heap[g]? = some (.cells (vals (rest.take N)).toArray 5 (0, 0)))

theorem two_blocks (w : World) (A B : Array Value) : ((w.alloc (.cells A 89)).alloc (.cells B 89)).drew.heap[w.heap.size]? = some (.cells A 89 (0, 0)) ∧ ((w.alloc (.cells A 89)).alloc (.cells B 89)).drew.heap[w.heap.size + 1]? = some (.cells B 89 (0, 0)) ∧ Below w.heap.size w ((w.alloc (.cells A 89)).alloc (.cells B 89)).drew := by
  refine ⟨?_, ?_, ?_⟩
  · exact (heap_alloc_old (w.alloc (.cells A 89)) (.cells B 89) (by simp)).trans (heap_alloc_new w _)
  · have := heap_alloc_new (w.alloc (.cells A 89)) (.cells B 89)
    rw [World.size_alloc] at this
    exact this
  · exact (((Below.refl _ w).alloc (Nat.le_refl _) _).alloc (by simp) _).drew

theorem four_cells {w : World} {p : Nat} {a b c d : Value} {t : TypeId} {fr : Nat × Nat} (h : w.heap[p]? = some (.cells #[a, b, c, d] t fr)) : w.cell? ⟨p, 0, none⟩ = some a ∧ w.cell? ⟨p, 1, none⟩ = some b ∧ w.cell? ⟨p, 2, none⟩ = some c ∧ w.cell? ⟨p, 3, none⟩ = some d :=
  ⟨cell_of_row w p 0 _ t fr h, cell_of_row w p 1 _ t fr h, cell_of_row w p 2 _ t fr h, cell_of_row w p 3 _ t fr h⟩
theorem lt_heap {w : World} {p : Nat} {o : Obj} (h : w.heap[p]? = some o) : p < w.heap.size := (Array.getElem?_eq_some_iff.1 h).1

theorem keep8 {w1 w2 : World} {p5 p6 : Nat} {s0 s1 s2 s3 c0 c1 c2 c3 : Int} (hb2 : Below w1.drew.heap.size w1.drew w2) (H5 : Hid (w1.heap[p5]? = some (.cells #[.int .u8 s0, .int .u8 s1, .int .u8 s2, .int .u8 s3] 89 (0, 0)))) (H6 : Hid (w1.heap[p6]? = some (.cells #[.int .u8 c0, .int .u8 c1, .int .u8 c2, .int .u8 c3] 89 (0, 0)))) :
    (w2.cell? ⟨p5, 0, none⟩ = some (.int .u8 s0) ∧ w2.cell? ⟨p5, 1, none⟩ = some (.int .u8 s1) ∧ w2.cell? ⟨p5, 2, none⟩ = some (.int .u8 s2) ∧ w2.cell? ⟨p5, 3, none⟩ = some (.int .u8 s3)) ∧ (w2.cell? ⟨p6, 0, none⟩ = some (.int .u8 c0) ∧ w2.cell? ⟨p6, 1, none⟩ = some (.int .u8 c1) ∧ w2.cell? ⟨p6, 2, none⟩ = some (.int .u8 c2) ∧ w2.cell? ⟨p6, 3, none⟩ = some (.int .u8 c3)) :=
  ⟨four_cells ((hb2.block p5 (lt_heap H5.out)).trans H5.out), four_cells ((hb2.block p6 (lt_heap H6.out)).trans H6.out)⟩
theorem ret_next {v u : Value} {a b : Int} (h : a = b) : Ending.returned (.tuple #[v, .int .i64 a, u]) = .returned (.tuple #[v, .int .i64 b, u]) := by rw [h]
theorem next_len {n : Nat} {a : Addr} (HN : Hid (([] : List Int).length + 8 = n)) : Value.slice (some a) 0 0 = .slice (some a) (n - 8) (8 - 8) := by
  have := HN.out
  simp at this
  subst this; rfl
theorem next_rest {w wx : World} {b off : Nat} {rest : List Int} (HR : Hid (∀ j, j < rest.length → w.cell? ⟨b, off + 8 + j, none⟩ = some (.int .u8 (rest.getD j 0)))) (hB : Below w.heap.size w wx) : Has wx (some ⟨b, off + 8, none⟩) rest := by
  refine Has.of_below ?_ hB
  refine .inr ⟨_, rfl, fun j hj => ?_⟩
  rw [Go.WideShapes.add_plain]; exact HR.out j hj

set_option maxHeartbeats 1000000 in
theorem next_long (b off n cap : Nat) (s0 s1 s2 s3 c0 c1 c2 c3 : Int) (rest : List Int) (w : World) (hn : rest.length + 8 = n) (hcap : n ≤ cap) (hm : cap ≤ maxLen)
    (e0 : w.cell? ⟨b, off, none⟩ = some (.int .u8 s0)) (e1 : w.cell? ⟨b, off + 1, none⟩ = some (.int .u8 s1)) (e2 : w.cell? ⟨b, off + 2, none⟩ = some (.int .u8 s2)) (e3 : w.cell? ⟨b, off + 3, none⟩ = some (.int .u8 s3))
    (e4 : w.cell? ⟨b, off + 4, none⟩ = some (.int .u8 c0)) (e5 : w.cell? ⟨b, off + 4 + 1, none⟩ = some (.int .u8 c1)) (e6 : w.cell? ⟨b, off + 4 + 2, none⟩ = some (.int .u8 c2)) (e7 : w.cell? ⟨b, off + 4 + 3, none⟩ = some (.int .u8 c3))
    (hR : ∀ j, j < rest.length → w.cell? ⟨b, off + 8 + j, none⟩ = some (.int .u8 (rest.getD j 0)))
    (hT : Tab w) (hb : b < w.heap.size) (o0 : 0 ≤ s0 ∧ s0 ≤ 255) (o1 : 0 ≤ s1 ∧ s1 ≤ 255) (o2 : 0 ≤ s2 ∧ s2 ≤ 255) (o3 : 0 ≤ s3 ∧ s3 ≤ 255) (hz : Octets rest) :
    Calls Tryd.prog 34 #[.slice (some ⟨b, off, none⟩) n cap] w fun e w' => NextPost w s0 s1 s2 s3 c0 c1 c2 c3 rest e w' := by
  unfold maxLen at hm
  have hn8 : (8 : Int) ≤ n := by omega
  have hn8' : ¬ (n : Int) < 8 := by omega
  have hc8 : (8 : Int) ≤ cap := by omega
  have hnc : (n : Int) ≤ cap := by omega
  have hc4 : (4 : Int) ≤ cap := by omega
  have hat : ∀ w, (Instr.arrayAt 89 (.slice (some ⟨b, off, none⟩) 4 cap)).run Tryd.prog w = .ok (.pointer (some ⟨b, off, none⟩)) w := fun w => run_arrayAt w 89 _ 4 _ 4 cap Tryd.underlying89 (by omega)
  have hat2 : ∀ w, (Instr.arrayAt 89 (.slice (some ⟨b, off + 4, none⟩) 4 (cap - 4))).run Tryd.prog w = .ok (.pointer (some ⟨b, off + 4, none⟩)) w := fun w => run_arrayAt w 89 _ 4 _ 4 _ Tryd.underlying89 (by omega)
  have HR : Hid (∀ j, j < rest.length → w.cell? ⟨b, off + 8 + j, none⟩ = some (.int .u8 (rest.getD j 0))) := hR
  have HN : Hid (rest.length + 8 = n) := hn
  clear hR
  obtain ⟨M, hM⟩ : ∃ M, s0 * 16777216 + s1 * 65536 + s2 * 256 + s3 = M := ⟨_, rfl⟩
  have M0 : 0 ≤ M := by omega
  have M1 : M < 4294967296 := by omega
  have HM : Hid (s0 * 16777216 + s1 * 65536 + s2 * 256 + s3 = M) := hM
  clear hM
  go_enter Tryd.func34, Tryd.ntmps34
  go_upto_region 3 with fail
  go_cut [5, 6, 7] (fun t5 t6 t7 wx => ∃ (p5 p6 : Nat) (ra : Addr), t5 = .pointer (some ⟨p5, 0, none⟩) ∧ t6 = .pointer (some ⟨p6, 0, none⟩) ∧ t7 = .slice (some ra) (n - 8) (cap - 8) ∧
    wx.heap[p5]? = some (.cells #[.int .u8 s0, .int .u8 s1, .int .u8 s2, .int .u8 s3] 89 (0, 0)) ∧ wx.heap[p6]? = some (.cells #[.int .u8 c0, .int .u8 c1, .int .u8 c2, .int .u8 c3] 89 (0, 0)) ∧
    Below w.heap.size w wx ∧ Has wx (some ra) rest)
  case first =>
    by_cases hcap8 : cap = 8
    · subst hcap8
      have h0 : rest = [] := List.length_eq_zero_iff.1 (by omega)
      subst h0
      go_region
      · go_wp2_with fail
        go_meet
        case rel => exact ⟨w.heap.size, w.heap.size + 1, _, rfl, rfl, next_len HN, (two_blocks w _ _).1, (two_blocks w _ _).2.1, (two_blocks w _ _).2.2, .inr ⟨_, rfl, fun j hj => by simp at hj⟩⟩
      · go_wp2_with fail
        go_meet
        case rel => exact ⟨w.heap.size + 1, w.heap.size, _, rfl, rfl, next_len HN, (two_blocks w _ _).2.1, (two_blocks w _ _).1, (two_blocks w _ _).2.2, .inr ⟨_, rfl, fun j hj => by simp at hj⟩⟩
    · have hcap9 : 8 < cap := by omega
      go_region
      · go_wp2_with fail
        go_meet
        case rel => exact ⟨w.heap.size, w.heap.size + 1, _, rfl, rfl, rfl, (two_blocks w _ _).1, (two_blocks w _ _).2.1, (two_blocks w _ _).2.2, next_rest HR (two_blocks w _ _).2.2⟩
      · go_wp2_with fail
        go_meet
        case rel => exact ⟨w.heap.size + 1, w.heap.size, _, rfl, rfl, rfl, (two_blocks w _ _).2.1, (two_blocks w _ _).1, (two_blocks w _ _).2.2, next_rest HR (two_blocks w _ _).2.2⟩
  case rest =>
    obtain ⟨p5, p6, ra, rfl, rfl, rfl, h5, h6, hB, hH⟩ := hcut
    obtain ⟨k0, k1, k2, k3⟩ := four_cells h5
    clear e0 e1 e2 e3 e4 e5 e6 e7 hat hat2 HR
    go_wp2_with fail
    refine (join_any s0 s1 s2 s3 _ o0.1 o0.2 o1.1 o1.2 o2.1 o2.2 o3.1 o3.2).mono ?_
    rintro e w1 ⟨rfl, hb1⟩
    rw [HM.out]
    have B1 : Below w.heap.size w w1 := hB.trans (hb1.mono hB.size)
    have h51 : w1.heap[p5]? = some (.cells #[.int .u8 s0, .int .u8 s1, .int .u8 s2, .int .u8 s3] 89 (0, 0)) := (hb1.block p5 (lt_heap h5)).trans h5
    have h61 : w1.heap[p6]? = some (.cells #[.int .u8 c0, .int .u8 c1, .int .u8 c2, .int .u8 c3] 89 (0, 0)) := (hb1.block p6 (lt_heap h6)).trans h6
    have H51 : Hid (w1.heap[p5]? = some (.cells #[.int .u8 s0, .int .u8 s1, .int .u8 s2, .int .u8 s3] 89 (0, 0))) := h51
    have H61 : Hid (w1.heap[p6]? = some (.cells #[.int .u8 c0, .int .u8 c1, .int .u8 c2, .int .u8 c3] 89 (0, 0))) := h61
    have hH1 : Hid (Has w1 (some ra) rest) := hH.of_below hb1
    clear hb1 h5 h6 hB hH k0 k1 k2 k3 h51 h61
    have hlen : n - 8 = rest.length := by omega
    by_cases hA : 131072 < M
    · go_wp2
      go_ret3
      exact ⟨B1, .inl ⟨fun N h => by have := h.1; have := h.2.1; have := HM.out; omega, rfl⟩⟩
    by_cases hA2 : (rest.length : Int) < M
    · go_wp2
      go_ret3
      exact ⟨B1, .inl ⟨fun N h => by have := h.1; have := h.2.2.1; have := HM.out; omega, rfl⟩⟩
    have hA' : M ≤ 131072 := by omega
    have hA2' : M ≤ (rest.length : Int) := by omega
    have hA3' : M ≤ (cap : Int) - 8 := by omega
    clear hA hA2
    have hlT : (rest.take M.toNat).length = M.toNat := by rw [List.length_take]; omega
    have HL : Hid ((rest.take M.toNat).length = M.toNat) := hlT
    clear hlT
    have hHd : Hid (Has w1.drew (some ra) (rest.take M.toNat)) := by
      rcases hH1.out with ⟨h, _⟩ | ⟨x, hx, hB⟩
      · cases h
      · cases hx
        refine .inr ⟨_, rfl, fun j hj => ?_⟩
        rw [HL.out] at hj
        have := hB j (by omega)
        rw [show (rest.take M.toNat).getD j 0 = rest.getD j 0 by simp [List.getD, hj]]
        exact this
    have hTd : Hid (Tab w1.drew) := fun i hi => hT.below B1 hT.pos i hi
    have hzt : Octets (rest.take M.toNat) := fun i => by
      by_cases hi : i < M.toNat
      · have := hz i
        rwa [show (rest.take M.toNat).getD i 0 = rest.getD i 0 by simp [List.getD, hi]]
      · rw [show (rest.take M.toNat).getD i 0 = 0 by simp [List.getD, List.getElem?_take, hi]]; omega
    obtain ⟨k0, k1, k2, k3⟩ := four_cells H51.out
    obtain ⟨l0, l1, l2, l3⟩ := four_cells H61.out
    have p5lt : p5 < w1.heap.size := lt_heap H51.out
    have p6lt : p6 < w1.heap.size := lt_heap H61.out
    have yb := check_bd s0 s1 s2 s3 _ hzt o0 o1 o2 o3
    obtain ⟨y, hy⟩ : ∃ y, check s0 s1 s2 s3 (rest.take M.toNat) = y := ⟨_, rfl⟩
    rw [hy] at yb
    obtain ⟨y0, y1⟩ := yb
    have HY : Hid (check s0 s1 s2 s3 (rest.take M.toNat) = y) := hy
    clear hy hz
    by_cases hE : four y = [c0, c1, c2, c3]
    · have hq : ∀ w, (Op.equalIn 10000 89 (.agg #[.int .u8 (y / 16777216), .int .u8 (y / 65536 % 256), .int .u8 (y / 256 % 256), .int .u8 (y % 256)]) (.agg #[.int .u8 c0, .int .u8 c1, .int .u8 c2, .int .u8 c3])).run Tryd.prog w = .ok true w := fun w => by
        rw [eq56]; simp [four] at hE; simp [hE]
      have HE : Hid (four y = [c0, c1, c2, c3]) := hE
      clear hE
      go_wp2_with fail
      go_region_held3 (fun w' => w'.cell? ⟨p5, 0, none⟩ = some (.int .u8 s0) ∧ w'.cell? ⟨p5, 1, none⟩ = some (.int .u8 s1) ∧ w'.cell? ⟨p5, 2, none⟩ = some (.int .u8 s2) ∧ w'.cell? ⟨p5, 3, none⟩ = some (.int .u8 s3) ∧ w'.cell? ⟨p6, 0, none⟩ = some (.int .u8 c0) ∧ w'.cell? ⟨p6, 1, none⟩ = some (.int .u8 c1) ∧ w'.cell? ⟨p6, 2, none⟩ = some (.int .u8 c2) ∧ w'.cell? ⟨p6, 3, none⟩ = some (.int .u8 c3)) (go_keep)
        (first | (go_at_call 42; refine (checkOf_any s0 s1 s2 s3 (some ra) M.toNat (cap - 8) (rest.take M.toNat) _ o0 o1 o2 o3 HL.out hHd.out hzt hTd.out (by omega)).mono ?_; rintro e w2 ⟨rfl, hb2⟩; obtain ⟨⟨m0, m1, m2, m3⟩, n0, n1, n2, n3⟩ := keep8 hb2 H51 H61; rw [HY.out]))
      go_wp2_with fail
      refine (fresh_any (some ra) M.toNat (cap - 8) (rest.take M.toNat) _ HL.out (hHd.out.of_below hb2) (by omega)).mono ?_
      rintro e w3 ⟨rfl, hF⟩
      have HF : Hid (Fresh w2 (rest.take M.toNat) w3) := hF
      have HB2 : Hid (Below w.heap.size w w2) := B1.drew.trans (hb2.mono B1.size)
      clear hF m0 m1 m2 m3 n0 n1 n2 n3 hq k0 k1 k2 k3 l0 l1 l2 l3 hTd hHd hH1 H51 H61 hb2 B1 p5lt p6lt
      go_wp2
      go_ret3
      refine ⟨HB2.out.trans (HF.out.2.mono HB2.out.size), .inr ⟨M.toNat, w2.heap.size, ⟨by have := HM.out; omega, by omega, by omega, by rw [HY.out]; exact HE.out⟩, ?_, HB2.out.size, HF.out.1⟩⟩
      exact ret_next (by omega)
    · have hq : ∀ w, (Op.equalIn 10000 89 (.agg #[.int .u8 (y / 16777216), .int .u8 (y / 65536 % 256), .int .u8 (y / 256 % 256), .int .u8 (y % 256)]) (.agg #[.int .u8 c0, .int .u8 c1, .int .u8 c2, .int .u8 c3])).run Tryd.prog w = .ok false w := fun w => by
        rw [eq56]; simp [four] at hE; congr 1; simpa using hE
      have HE : Hid (¬ four y = [c0, c1, c2, c3]) := hE
      clear hE
      go_wp2_with fail
      go_region_held3 (fun w' => w'.cell? ⟨p5, 0, none⟩ = some (.int .u8 s0) ∧ w'.cell? ⟨p5, 1, none⟩ = some (.int .u8 s1) ∧ w'.cell? ⟨p5, 2, none⟩ = some (.int .u8 s2) ∧ w'.cell? ⟨p5, 3, none⟩ = some (.int .u8 s3) ∧ w'.cell? ⟨p6, 0, none⟩ = some (.int .u8 c0) ∧ w'.cell? ⟨p6, 1, none⟩ = some (.int .u8 c1) ∧ w'.cell? ⟨p6, 2, none⟩ = some (.int .u8 c2) ∧ w'.cell? ⟨p6, 3, none⟩ = some (.int .u8 c3)) (go_keep)
        (first | (go_at_call 42; refine (checkOf_any s0 s1 s2 s3 (some ra) M.toNat (cap - 8) (rest.take M.toNat) _ o0 o1 o2 o3 HL.out hHd.out hzt hTd.out (by omega)).mono ?_; rintro e w2 ⟨rfl, hb2⟩; obtain ⟨⟨m0, m1, m2, m3⟩, n0, n1, n2, n3⟩ := keep8 hb2 H51 H61; rw [HY.out]))
      go_wp2
      go_ret3
      refine ⟨B1.drew.trans (hb2.mono B1.size), .inl ⟨fun N h => ?_, rfl⟩⟩
      have hN : N = M.toNat := by have := h.1; have := HM.out; omega
      subst hN
      have := h.2.2.2
      rw [HY.out] at this
      exact HE.out this

/-- The bytes begin with the frame of a payload of N bytes. -/
def IsRec (zs : List Int) (N : Nat) : Prop := 8 ≤ zs.length ∧ Good (zs.getD 0 0) (zs.getD 1 0) (zs.getD 2 0) (zs.getD 3 0) (zs.getD 4 0) (zs.getD 5 0) (zs.getD 6 0) (zs.getD 7 0) (zs.drop 8) N
/-- What Next leaves. -/
def Nexts (w : World) (zs : List Int) (e : Ending) (w' : World) : Prop :=
  Below w.heap.size w w' ∧ (((∀ N, ¬ IsRec zs N) ∧ e = .returned (.tuple #[.slice none 0 0, .int .i64 0, .int .i64 10])) ∨
    ∃ (N g : Nat), IsRec zs N ∧ e = .returned (.tuple #[.slice (some ⟨g, 0, none⟩) N N, .int .i64 (8 + (N : Int)), .int .i64 0]) ∧ w.heap.size ≤ g ∧ w'.heap[g]? = some (.cells (vals ((zs.drop 8).take N)).toArray 5 (0, 0)))

theorem next_any (a : Option Addr) (n cap : Nat) (zs : List Int) (w : World) (hn : zs.length = n) (hB : Has w a zs) (hcap : n ≤ cap) (hm : cap ≤ maxLen) (hz : Octets zs) (hT : Tab w) :
    Calls Tryd.prog 34 #[.slice a n cap] w fun e w' => Nexts w zs e w' := by
  by_cases h8 : n < 8
  · refine (next_short a n cap w h8).mono ?_
    rintro e w' ⟨rfl, rfl⟩
    exact ⟨Below.refl _ _, .inl ⟨fun N h => by have := h.1; omega, rfl⟩⟩
  · rcases hB with ⟨_, rfl⟩ | ⟨x, rfl, hB⟩
    · simp at hn; omega
    obtain ⟨b, off, rfl, hc⟩ := ints_at (k := .u8) hB (by omega)
    have hlt : b < w.heap.size := by have := World.block_lt_of_cell? w _ (hc 0 (by omega)); simpa using this
    refine (next_long b off n cap (zs.getD 0 0) (zs.getD 1 0) (zs.getD 2 0) (zs.getD 3 0) (zs.getD 4 0) (zs.getD 5 0) (zs.getD 6 0) (zs.getD 7 0) (zs.drop 8) w (by simp; omega) hcap hm
      (hc 0 (by omega)) (hc 1 (by omega)) (hc 2 (by omega)) (hc 3 (by omega)) (hc 4 (by omega)) (hc 5 (by omega)) (hc 6 (by omega)) (hc 7 (by omega))
      (fun j hj => by
        have := hc (8 + j) (by simp at hj; omega)
        rw [← Nat.add_assoc] at this
        rw [this]; simp [List.getD]) hT hlt (hz 0) (hz 1) (hz 2) (hz 3) (fun i => by have := hz (8 + i); simpa [List.getD] using this)).mono ?_
    rintro e w' ⟨hb, h⟩
    refine ⟨hb, ?_⟩
    rcases h with ⟨h, rfl⟩ | ⟨N, g, h, rfl, hg, hh⟩
    · exact .inl ⟨fun N hN => h N hN.2, rfl⟩
    · exact .inr ⟨N, g, ⟨by omega, h⟩, rfl, hg, hh⟩
end Go.Proofs.YteeclghhoioapaaDoor
