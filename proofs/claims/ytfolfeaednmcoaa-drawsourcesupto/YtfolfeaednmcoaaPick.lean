/- Pick, reals, awake. -/
import Derived.Test.YtfolfeaednmcoaaCum
namespace Go.Proofs.Ytfolfeaednmcoaa
open Go.RowKit Ieee
set_option linter.unusedVariables false
set_option linter.unusedSimpArgs false
/-- the sums, as a list -/
def Sums (zs : List Nat) (L : List Nat) : Prop := ∃ l, LastIs zs zs.length l ∧ L.length = zs.length ∧ ∀ i, i < zs.length → L.getD i 0 = cumAt zs l i
theorem up_one {m : Nat} (h : m < 2 ^ 53) : up (unit m) ONE = true := by
  unfold up; rw [order_one_unit h]; rfl
theorem last_lt {zs : List Nat} {l : Nat} (hG : Good zs) (h : LastIs zs zs.length l) : l < zs.length ∧ 0 < rg (zs.getD l 0) := by
  rcases h with ⟨_, _, h3⟩ | ⟨h, h2, _⟩
  · rw [List.take_length] at h3
    have := hG.2.1
    omega
  · exact ⟨h, h2⟩
theorem sums_place {zs L : List Nat} {m : Nat} (hG : Good zs) (hS : Sums zs L) (h : m < 2 ^ 53) : ¬ NoPlace L (unit m) := by
  obtain ⟨l, hl, hn, hc⟩ := hS
  obtain ⟨h1, _⟩ := last_lt hG hl
  intro hN
  have h2 := hN l (by omega)
  rw [hc l h1, cumAt, if_neg (by omega), up_one h] at h2
  cases h2
theorem pick_no (m : Nat) (a : Option Addr) (n cap : Nat) (zs : List Nat) (w : World) (hF : Fl w a n zs) (hG : ¬ Good zs) :
    Calls Try.prog 17 #[.int .u64 m, .slice a n cap] w fun e w' => w' = w ∧ e = .returned (.tuple #[.int .i64 0, .int .i64 2]) := by
  have hC := cum_no a n cap zs w hF hG
  go_enter Try.func17, Try.ntmps17
  go_wp2_with fail
  refine hC.mono ?_
  rintro e w1 ⟨rfl, rfl⟩
  clear hC
  go_wp2_with fail
  go_ret2
  exact ⟨rfl, rfl⟩
theorem pick_ok (m : Nat) (a : Option Addr) (n cap : Nat) (zs : List Nat) (w : World) (hm : m < 18446744073709551616) (hF : Fl w a n zs) (hG : Good zs) (hcap : n ≤ cap) (hc2 : cap ≤ maxLen) :
    Calls Try.prog 17 #[.int .u64 m, .slice a n cap] w fun e w' => ∃ k L, Sums zs L ∧ PlaceIs L (unit (m / 2048)) k ∧ e = .returned (.tuple #[.int .i64 k, .int .i64 0]) ∧ Below w.heap.size w w' := by
  have hC := cum_ok a n cap zs w hF hG hcap hc2
  have hs := hF.small
  go_enter Try.func17, Try.ntmps17
  go_wp2_with fail
  refine hC.mono ?_
  rintro e w1 ⟨l, L, hL, ⟨h1, h2, h3, h4⟩, rfl⟩
  have hl := hF.len
  have hSu : Sums zs L := ⟨l, by rw [hl]; exact hL, h1, h2⟩
  have hFL : Fl w1 (some ⟨w.heap.size, 0, none⟩) n L := by
    have := Fl.of_block h3 n (by omega) (by omega)
    rwa [List.take_of_length_le (by omega)] at this
  have hNo := sums_place (m := m / 2048) hG hSu (by omega)
  have hu := unit_any m w1 hm
  have hp := place_any (some ⟨w.heap.size, 0, none⟩) n n L (unit (m / 2048)) w1 hFL
  have HS : Hid (Sums zs L) := hSu
  have HB : Hid (Below w.heap.size w w1) := h4
  clear hC hF hG h1 h2 h3 h4 hL hFL hSu
  obtain ⟨u, hu'⟩ : ∃ u, unit (m / 2048) = u := ⟨_, rfl⟩
  rw [hu'] at hu hp hNo
  have HU : Hid (unit (m / 2048) = u) := hu'
  clear hu'
  go_wp2_with fail
  refine hu.mono ?_
  rintro e w2 ⟨rfl, rfl⟩
  go_wp2_with fail
  refine hp.mono ?_
  rintro e w3 ⟨rfl, ⟨k, hk, rfl⟩ | ⟨h, _⟩⟩
  · have HK : Hid (PlaceIs L u k) := hk
    clear hk hp hu hNo
    go_wp2_with fail
    go_ret2
    exact ⟨k, L, HS.out, by rw [HU.out]; exact HK.out, rfl, HB.out⟩
  · exact absurd h hNo
theorem reals_any (a1 a2 : Option Addr) (n c1 c2 : Nat) (zs : List Nat) (w : World) (h1 : Fl w a1 n zs) (h2 : Fl w a2 n zs) :
    Calls Try.prog 21 #[.slice a1 n c1, .slice a2 n c2] w fun e w' => e = .returned (.bool true) ∧ ∃ q, w' = w.drewN q := by
  have hs := h1.small
  go_enter Try.func21, Try.ntmps21
  go_wp2
  go_loopw [5] (fun t wr => ∃ k : Nat, k ≤ n ∧ t = .int .i64 k ∧ Hid (∃ q, wr = w.drewN q)) (fun t _ => n - (intOf t).toNat)
  case atStart => exact ⟨0, by omega, rfl, (⟨0, by simp [World.drewN]⟩ : ∃ q, w = w.drewN q)⟩
  case round =>
    obtain ⟨k, hk, rfl, HQ⟩ := hrel
    by_cases hlt : k < n
    · obtain ⟨b1, o1, rfl, f1⟩ := h1.cap k hlt
      obtain ⟨b2, o2, rfl, f2⟩ := h2.cap k hlt
      have e1 : wr.cell? ⟨b1, o1 + k, none⟩ = some (.float .f64 (zs.getD k 0)) := by obtain ⟨q, hq⟩ := HQ.out; rw [hq]; exact f1 k hlt
      have e2 : wr.cell? ⟨b2, o2 + k, none⟩ = some (.float .f64 (zs.getD k 0)) := by obtain ⟨q, hq⟩ := HQ.out; rw [hq]; exact f2 k hlt
      obtain ⟨z, hz⟩ : ∃ z, zs.getD k 0 = z := ⟨_, rfl⟩
      rw [hz] at e1 e2
      have k0 : (0 : Int) ≤ k := by omega
      have k1 : (k : Int) < n := by omega
      clear hz f1 f2 h1 h2
      go_wp2_with fail
      go_quiet (exact Calls.quiet_of (alike_same z _))
      go_wp2
      go_roundw
      case rel => exact ⟨k + 1, by omega, by go_num, (by obtain ⟨q, hq⟩ := HQ.out; exact ⟨q + nq, by rw [hq, drew_two]⟩ : ∃ q, wr.drewN nq = w.drewN q)⟩
      case measure => simp [intOf]; omega
    · go_wp2
      go_ret
      exact ⟨rfl, HQ.out⟩
theorem left_any (b : Nat) (a : Option Addr) (n c t : Nat) (st : Int) (w : World) (hb : w.heap[b]? = some (.cells #[.slice a n c, .int .i64 t, .int .u64 st] 68 (0, 0))) (ht : t ≤ n) (hn : n ≤ 140737488355328) :
    Calls Try.prog 29 #[.pointer (some ⟨b, 0, none⟩)] w fun e w' => e = .returned (.int .i64 ((n : Int) - t)) ∧ ∃ q, w' = w.drewN q := by
  have c0 : w.cell? ⟨b, 0, none⟩ = some (.slice a n c) := by simp [World.cell?, hb]
  have c1 : w.cell? ⟨b, 1, none⟩ = some (.int .i64 t) := by simp [World.cell?, hb]
  clear hb
  go_enter Try.func29, Try.ntmps29
  go_wp2_with fail
  go_quiet (fail)
  go_wp2
  go_ret
  exact ⟨rfl, nq, rfl⟩
def nextSt (st : Int) : Int := IntKind.u64.wrap (IntKind.u64.wrap (st * 6364136223846793005) + 1442695040888963407)
theorem next_empty (b : Nat) (a : Option Addr) (n c : Nat) (st : Int) (w : World) (hb : w.heap[b]? = some (.cells #[.slice a n c, .int .i64 n, .int .u64 st] 68 (0, 0))) (hn : n ≤ 140737488355328) :
    Calls Try.prog 27 #[.pointer (some ⟨b, 0, none⟩)] w fun e w' => e = .returned (.int .u64 (nextSt st)) ∧ ∃ q, w' = (w.drewN q).setCell ⟨b, 2, none⟩ (.int .u64 (nextSt st)) := by
  have hL := left_any b a n c n st w hb (Nat.le_refl _) hn
  have c2 : w.cell? ⟨b, 2, none⟩ = some (.int .u64 st) := by simp [World.cell?, hb]
  have z2 : w.frozen? ⟨b, 2, none⟩ = false := by simp [World.frozen?, hb]
  rw [Int.sub_self] at hL
  clear hb
  go_enter Try.func27, Try.ntmps27
  go_wp2_with fail
  refine hL.mono ?_
  rintro e w1 ⟨rfl, q, rfl⟩
  clear hL
  go_wp2_with fail
  go_ret
  exact ⟨rfl, q, rfl⟩
theorem new_any (st : Int) (w : World) : Calls Try.prog 23 #[.int .u64 st] w fun e w' => e = .returned (.pointer (some ⟨w.heap.size, 0, none⟩)) ∧ w' = w.alloc (.cells #[.slice none 0 0, .int .i64 0, .int .u64 st] 68 (0, 0)) := by
  go_enter Try.func23, Try.ntmps23
  go_wp2_with fail
  go_ret
  exact ⟨rfl, rfl⟩
theorem S_of_add {s b r : Nat} (hs : s ≤ INF) (hb : mb b) (h : double.add s b = some r) : S s b = r := by
  rw [add_S hs hb] at h; injection h
abbrev Q1 : Nat := 4598175219545276416
abbrev Q2 : Nat := 4602678819172646912
abbrev Q3 : Nat := 4604930618986332160
theorem s1 : S 0 Q1 = Q1 := S_of_add (by decide) (by decide) (by decide +kernel)
theorem s2 : S Q1 0 = Q1 := S_of_add (by decide) (by decide) (by decide +kernel)
theorem s3 : S Q1 Q2 = Q3 := S_of_add (by decide) (by decide) (by decide +kernel)
theorem s4 : S Q3 Q1 = ONE := S_of_add (by decide) (by decide) (by decide +kernel)
theorem s5 : S ONE 0 = ONE := S_of_add (by decide) (by decide) (by decide +kernel)
theorem may5 : May [Q1, 0, Q2, Q1, 0] 5 := fun j hj => by
  match j, hj with
  | 0, _ => decide
  | 1, _ => decide
  | 2, _ => decide
  | 3, _ => decide
  | 4, _ => decide
theorem may4 : May [Q1, 0, Q2, Q1] 4 := fun j hj => by
  match j, hj with
  | 0, _ => decide
  | 1, _ => decide
  | 2, _ => decide
  | 3, _ => decide
theorem tot5 : tot [Q1, 0, Q2, Q1, 0] = ONE := by simp only [tot, List.foldl]; rw [s1, s2, s3, s4, s5]
theorem tot4 : tot [Q1, 0, Q2, Q1] = ONE := by simp only [tot, List.foldl]; rw [s1, s2, s3, s4]
theorem good5 : Good [Q1, 0, Q2, Q1, 0] := ⟨may5, by rw [tot5]; decide, by rw [tot5]; decide⟩
theorem good4 : Good [Q1, 0, Q2, Q1] := ⟨may4, by rw [tot4]; decide, by rw [tot4]; decide⟩
theorem cum_small {zs L : List Nat} {l : Nat} (hl : LastIs zs zs.length l) (hp : 3 < zs.length) (h3 : 0 < rg (zs.getD 3 0)) (h4 : zs.length ≤ 4 ∨ zs.length = 5 ∧ rg (zs.getD 4 0) = 0) : l = 3 := by
  rcases hl with ⟨_, h, _⟩ | ⟨h1, h2, h5, _⟩
  · have := h 3 hp; omega
  · rcases Nat.lt_trichotomy l 3 with h | h | h
    · have := h5 3 h hp; omega
    · exact h
    · rcases h4 with h4 | ⟨h4, h6⟩
      · omega
      · have e : l = 4 := by omega
        rw [e] at h2; omega
theorem sums5 {L : List Nat} (h : Sums [Q1, 0, Q2, Q1, 0] L) : L = [Q1, Q1, Q3, ONE, ONE] := by
  obtain ⟨l, h1, h2, h3⟩ := h
  have hl : l = 3 := cum_small (L := L) h1 (by decide) (by decide) (.inr ⟨by decide, by decide⟩)
  rw [hl] at h3
  simp only [List.length_cons, List.length_nil] at h2 h3
  match L, h2 with
  | [x0, x1, x2, x3, x4], _ =>
    have a0 := h3 0 (by decide)
    have a1 := h3 1 (by decide)
    have a2 := h3 2 (by decide)
    have a3 := h3 3 (by decide)
    have a4 := h3 4 (by decide)
    simp [cumAt, tot] at a0 a1 a2 a3 a4
    rw [a0, a1, a2, a3, a4]
    simp only [s1, s2, s3]
theorem sums4 {L : List Nat} (h : Sums [Q1, 0, Q2, Q1] L) : L = [Q1, Q1, Q3, ONE] := by
  obtain ⟨l, h1, h2, h3⟩ := h
  have hl : l = 3 := cum_small (L := L) h1 (by decide) (by decide) (.inl (by decide))
  rw [hl] at h3
  simp only [List.length_cons, List.length_nil] at h2 h3
  match L, h2 with
  | [x0, x1, x2, x3], _ =>
    have a0 := h3 0 (by decide)
    have a1 := h3 1 (by decide)
    have a2 := h3 2 (by decide)
    have a3 := h3 3 (by decide)
    simp [cumAt, tot] at a0 a1 a2 a3
    rw [a0, a1, a2, a3]
    simp only [s1, s2, s3]
theorem unit_half : unit (9223372036854775808 / 2048) = Q2 := by
  have e : (9223372036854775808 / 2048 : Nat) = 2 ^ 52 := by decide
  have h := unit_add (m := 0) (j := 52) (by decide) (by decide)
  rw [unit_zero, Nat.zero_add] at h
  have h2 : double.add 0 (half (53 - 52)) = some Q2 := by decide +kernel
  rw [h2] at h
  rw [e]
  injection h with h; exact h.symm
theorem place4 {k : Nat} (h : PlaceIs [Q1, Q1, Q3, ONE] Q2 k) : k = 2 := by
  obtain ⟨h1, h2, h3⟩ := h
  have u1 : up Q2 Q1 = false := by decide +kernel
  have u3 : up Q2 Q3 = true := by decide +kernel
  rcases Nat.lt_trichotomy k 2 with h | h | h
  · match k, h with
    | 0, _ => simp [u1] at h2
    | 1, _ => simp [u1] at h2
  · exact h
  · have := h3 2 h
    simp [u3] at this
theorem good0 : ¬ Good [] := fun h => by have := h.2.1; simp [tot] at this
theorem blk_new (w : World) (L : List Nat) (cs : Array Value) (hc : cs = (fvals L).toArray) : (w.alloc (.cells cs 29 (0, 0))).heap[w.heap.size]? = some (.cells (fvals L).toArray 29 (0, 0)) := by rw [hc]; exact Go.heap_alloc_new w _
theorem fl_new {w : World} {B : Nat} {L : List Nat} {n : Nat} (h : w.heap[B]? = some (.cells (fvals L).toArray 29 (0, 0))) (hn : L.length = n) (hs : n ≤ 17592186044415) : Fl w (some ⟨B, 0, none⟩) n L := by
  have := Fl.of_block h n (by omega) (by omega)
  rwa [List.take_of_length_le (by omega)] at this
set_option maxRecDepth 100000 in
theorem awake_any (w : World) : Calls Try.prog 30 #[] w fun e w' => e = .returned (.bool true) ∧ Below w.heap.size w w' := by
  go_enter Try.func30, Try.ntmps30
  go_wp2_with fail
  have b1 := blk_new w [Q1, 0, Q2, Q1, 0] _ rfl
  have L1 := (Below.refl w.heap.size w).alloc (Nat.le_refl _) (.cells (fvals [Q1, 0, Q2, Q1, 0]).toArray 29 (0, 0))
  obtain ⟨w1, hw1⟩ : ∃ W, w.alloc (.cells (fvals [Q1, 0, Q2, Q1, 0]).toArray 29 (0, 0)) = W := ⟨_, rfl⟩
  have hw1' : w.alloc (.cells #[.float .f64 4598175219545276416, .float .f64 0, .float .f64 4602678819172646912, .float .f64 4598175219545276416, .float .f64 0] 29 (0, 0)) = w1 := hw1
  rw [hw1']
  rw [hw1] at b1 L1
  refine (cum_ok (some ⟨w.heap.size, 0, none⟩) 5 5 [Q1, 0, Q2, Q1, 0] w1 (fl_new b1 rfl (by decide)) good5 (by decide) (by decide)).mono ?_
  rintro e w2 ⟨l, L, hL, ⟨h1, h2, h3, h4⟩, rfl⟩
  have hLs := sums5 ⟨l, hL, h1, h2⟩
  subst hLs
  obtain ⟨B, hB⟩ : ∃ B, w1.heap.size = B := ⟨_, rfl⟩
  have K2 : Hid (w2.heap[B]? = some (.cells (fvals [Q1, Q1, Q3, ONE, ONE]).toArray 29 (0, 0))) := by rw [← hB]; exact h3
  have s1 := L1.size
  have L2 : Hid (Below w.heap.size w w2) := L1.trans (h4.mono s1)
  have HS : Hid (w.heap.size ≤ w1.heap.size ∧ B < w2.heap.size) := ⟨s1, (Array.getElem?_eq_some_iff.1 K2.out).1⟩
  rw [hB]
  clear b1 L1 hw1 hw1' h1 h2 h3 h4 hL hB s1
  go_wp2_with fail
  have b3 := blk_new w2 [Q1, 0, Q2, Q1] _ rfl
  have L3 := L2.out.alloc L2.out.size (.cells (fvals [Q1, 0, Q2, Q1]).toArray 29 (0, 0))
  have M3 := (Below.refl w2.heap.size w2).alloc (Nat.le_refl _) (.cells (fvals [Q1, 0, Q2, Q1]).toArray 29 (0, 0))
  obtain ⟨w3, hw3⟩ : ∃ W, w2.alloc (.cells (fvals [Q1, 0, Q2, Q1]).toArray 29 (0, 0)) = W := ⟨_, rfl⟩
  have hw3' : w2.alloc (.cells #[.float .f64 4598175219545276416, .float .f64 0, .float .f64 4602678819172646912, .float .f64 4598175219545276416] 29 (0, 0)) = w3 := hw3
  rw [hw3']
  rw [hw3] at b3 L3 M3
  have hpk := pick_ok 9223372036854775808 (some ⟨w2.heap.size, 0, none⟩) 4 4 [Q1, 0, Q2, Q1] w3 (by decide) (fl_new b3 rfl (by decide)) good4 (by decide) (by decide)
  refine hpk.mono ?_
  rintro e w4 ⟨k, L, hS, hk, rfl, h4⟩
  rw [sums4 hS, unit_half] at hk
  have hk2 := place4 hk
  subst hk2
  have L4 : Hid (Below w.heap.size w w4) := L3.trans (h4.mono (Nat.le_trans L2.out.size M3.size))
  have K4 : Hid (w4.heap[B]? = some (.cells (fvals [Q1, Q1, Q3, ONE, ONE]).toArray 29 (0, 0))) := by
    rw [h4.block B (by have := HS.out.2; have := M3.size; omega), M3.block B HS.out.2]; exact K2.out
  clear b3 L3 M3 hw3 hw3' hpk hS hk h4 L2 K2 HS
  go_wp2_with fail
  refine (cum_no none 0 0 [] w4 (Fl.nil w4) good0).mono ?_
  rintro e w5 ⟨rfl, rfl⟩
  go_wp2_with fail
  refine (below_ok 10 3 w5 (by decide) (by decide) (by decide) (by decide)).mono ?_
  rintro e w6 ⟨rfl, rfl⟩
  go_wp2_with fail
  refine (new_any 0 w6).mono ?_
  rintro e w7 ⟨rfl, hw7⟩
  have hsrc : w7.heap[w6.heap.size]? = some (.cells #[.slice none 0 0, .int .i64 0, .int .u64 0] 68 (0, 0)) := by rw [hw7]; exact Go.heap_alloc_new w6 _
  have M7 : Below w6.heap.size w6 w7 := by rw [hw7]; exact (Below.refl _ _).alloc (Nat.le_refl _) _
  have L7 : Hid (Below w.heap.size w w7) := L4.out.trans (M7.mono L4.out.size)
  have K7 : Hid (w7.heap[B]? = some (.cells (fvals [Q1, Q1, Q3, ONE, ONE]).toArray 29 (0, 0))) := by
    rw [M7.block B (Array.getElem?_eq_some_iff.1 K4.out).1]; exact K4.out
  obtain ⟨C, hC⟩ : ∃ C, w6.heap.size = C := ⟨_, rfl⟩
  have J7 : Hid (w7.heap[C]? = some (.cells #[.slice none 0 0, .int .i64 0, .int .u64 0] 68 (0, 0))) := by rw [← hC]; exact hsrc
  have HC : Hid (w.heap.size ≤ C) := by rw [← hC]; exact L4.out.size
  rw [hC]
  clear hsrc M7 K4 L4 hw7 hC
  go_wp2_with fail
  have b8 := blk_new w7 [Q1, Q1, Q3, ONE, ONE] _ rfl
  have M8 := (Below.refl w7.heap.size w7).alloc (Nat.le_refl _) (.cells (fvals [Q1, Q1, Q3, ONE, ONE]).toArray 29 (0, 0))
  obtain ⟨w8, hw8⟩ : ∃ W, w7.alloc (.cells (fvals [Q1, Q1, Q3, ONE, ONE]).toArray 29 (0, 0)) = W := ⟨_, rfl⟩
  have hw8' : w7.alloc (.cells #[.float .f64 4598175219545276416, .float .f64 4598175219545276416, .float .f64 4604930618986332160, .float .f64 4607182418800017408, .float .f64 4607182418800017408] 29 (0, 0)) = w8 := hw8
  rw [hw8']
  rw [hw8] at b8 M8
  have K8 : w8.heap[B]? = some (.cells (fvals [Q1, Q1, Q3, ONE, ONE]).toArray 29 (0, 0)) := by
    rw [M8.block B (Array.getElem?_eq_some_iff.1 K7.out).1]; exact K7.out
  have J8 : Hid (w8.heap[C]? = some (.cells #[.slice none 0 0, .int .i64 0, .int .u64 0] 68 (0, 0))) := by
    rw [M8.block C (Array.getElem?_eq_some_iff.1 J7.out).1]; exact J7.out
  have L8 : Hid (Below w.heap.size w w8) := L7.out.trans (M8.mono L7.out.size)
  refine (reals_any (some ⟨B, 0, none⟩) (some ⟨w7.heap.size, 0, none⟩) 5 5 5 [Q1, Q1, Q3, ONE, ONE] w8 (fl_new K8 rfl (by decide)) (fl_new b8 rfl (by decide))).mono ?_
  rintro e w9 ⟨rfl, q, rfl⟩
  have L9 : Hid (Below w.heap.size w (w8.drewN q)) := below_drewN L8.out q
  have J9 : Hid ((w8.drewN q).heap[C]? = some (.cells #[.slice none 0 0, .int .i64 0, .int .u64 0] 68 (0, 0))) := J8.out
  obtain ⟨w9, hw9⟩ : ∃ W, w8.drewN q = W := ⟨_, rfl⟩
  rw [hw9] at L9 J9 ⊢
  clear b8 M8 hw8 hw8' K8 J8 L8 K7 J7 L7 hw9
  go_wp2_with fail
  refine (unit_any 9223372036854775808 w9 (by decide)).mono ?_
  rw [unit_half]
  rintro e w10 ⟨rfl, rfl⟩
  have hq : (FloatKind.f64.format.order 4602678819172646912 4602678819172646912 == some .eq) = true := by decide +kernel
  go_wp2_with fail
  refine (next_empty C none 0 0 0 w10 J9.out (by decide)).mono ?_
  have hn : nextSt 0 = 1442695040888963407 := by decide
  rw [hn]
  rintro e w11 ⟨rfl, q2, rfl⟩
  have L11 : Hid (Below w.heap.size w ((w10.drewN q2).setCell ⟨C, 2, none⟩ (.int .u64 1442695040888963407))) := (below_drewN L9.out q2).trans ((But.set 2 _).below L9.out.size HC.out)
  clear L9 J9
  go_wp2_with fail
  go_ret
  exact ⟨rfl, L11.out⟩
end Go.Proofs.Ytfolfeaednmcoaa
