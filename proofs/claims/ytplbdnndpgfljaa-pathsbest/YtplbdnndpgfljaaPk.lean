/-
  How two patterns of hosts stand: compare.
-/
import Derived.Test.YtplbdnndpgfljaaPj
namespace Go.Proofs.Ytplbdnndpgfljaa
open Go.RowKit
set_option linter.unusedVariables false
set_option linter.unusedSimpArgs false
set_option maxRecDepth 100000
theorem Two.drewN {w w1 : World} {a0 a1 b0 b1 : Value} (h : Two w w1 a0 a1 b0 b1) (q : Nat) : Two w (w1.drewN q) a0 a1 b0 b1 :=
  ⟨h.c0, h.c1, h.d0, h.d1, h.f0, h.f1, h.g0, h.g1, below_drewN h.below q⟩
theorem Two.start (w : World) (a0 a1 b0 b1 : Value) : Two w ((w.alloc (.cells #[a0, a1] 37 (0, 0))).alloc (.cells #[b0, b1] 37 (0, 0))) a0 a1 b0 b1 := two_of (Below.refl _ _)
theorem new3 (W : World) (x y z : Value) (k : Nat) (v : Value) (h : [x, y, z][k]? = some v) : (W.alloc (.cells #[x, y, z] 3 (0, 0))).cell? ⟨W.heap.size, k, none⟩ = some v := by
  have := World.news_of_block (heap_alloc_new W (.cells #[x, y, z] 3 (0, 0))) k v (by simpa using h)
  rwa [Go.WideShapes.add_plain, Nat.zero_add] at this
set_option maxHeartbeats 8000000 in
theorem compare_any (n m : Int) (t u : List UInt8) (w : World) (h1 : t.length ≤ 2 ^ 62) (h2 : u.length ≤ 2 ^ 62) : Calls Try.prog 49 #[patV (n, t), patV (m, u)] w fun e w' => e = .returned (.int .i64 (cmpF (n, t) (m, u))) ∧ Below w.heap.size w w' := by
  have hC := fun w => Try.cmp_Compare_int u.length t.length w
  have hS := fun w => compareS_any n m w
  have hB : ∀ w, Calls Try.prog 62 #[.string ⟨t.toArray⟩, .string ⟨u.toArray⟩] w fun e w' => e = .returned (.int .i64 (Lib.compareBytes t u)) ∧ w' = w := fun w => Try.strings_Compare ⟨t.toArray⟩ ⟨u.toArray⟩ w
  have hE : cmpF (n, t) (m, u) = (if Lib.compareInt n m = 0 then if (if n = 1 then Lib.compareInt u.length t.length else 0) = 0 then Lib.compareBytes t u else (if n = 1 then Lib.compareInt u.length t.length else 0) else Lib.compareInt n m) := rfl
  generalize cmpF (n, t) (m, u) = r at hE
  generalize Lib.compareInt n m = x at hS hE
  generalize Lib.compareBytes t u = z at hB hE
  generalize Lib.compareInt u.length t.length = y at hC hE
  have HE := hide2 hE
  clear hE
  have hO : ∀ (W : World) (g : Nat) (v : Int), v = (if n = 1 then y else 0) → W.cell? ⟨g, 0, none⟩ = some (.int .i64 x) → W.cell? ⟨g, 1, none⟩ = some (.int .i64 v) → W.cell? ⟨g, 2, none⟩ = some (.int .i64 z) → Calls Try.prog 60 #[.slice (some ⟨g, 0, none⟩) 3 3] W fun e w' => e = .returned (.int .i64 r) ∧ w' = W := by
    intro W g v hv k0 k1 k2
    have := orInt_any x v z W g k0 k1 k2
    rw [hv] at this
    rw [HE.out]
    exact this
  have HO := hide2 hO
  clear hO
  unfold patV
  have HT := hide2 (Two.start w (.int .i64 n) (.string ⟨t.toArray⟩) (.int .i64 m) (.string ⟨u.toArray⟩))
  by_cases hn : n = 1
  · subst hn
    go_enter Try.func49, Try.ntmps49
    go_wp2_with (go_at_call 59; refine (hC _).mono ?_; rintro e w1 ⟨rfl, hw⟩; have hw := hw.symm; subst hw)
    generalize (w.alloc (.cells #[.int .i64 1, .string ⟨t.toArray⟩] 37 (0, 0))).alloc (.cells #[.int .i64 m, .string ⟨u.toArray⟩] 37 (0, 0)) = wx at HT ⊢
    obtain ⟨c0, c1, d0, d1, -, -, -, -, -⟩ := HT.out
    go_region_held3 (fun w' => w'.cell? ⟨w.heap.size, 0, none⟩ = some (.int .i64 1) ∧ w'.cell? ⟨w.heap.size, 1, none⟩ = some (.string ⟨t.toArray⟩) ∧ w'.cell? ⟨w.heap.size + 1, 0, none⟩ = some (.int .i64 m) ∧ w'.cell? ⟨w.heap.size + 1, 1, none⟩ = some (.string ⟨u.toArray⟩)) (go_keep) (first
      | (go_at_call 61; refine (hS _).mono ?_; rintro e w1 ⟨rfl, hw⟩; have hw := hw.symm; subst hw)
      | (go_at_call 62; refine (hB _).mono ?_; rintro e w1 ⟨rfl, hw⟩; have hw := hw.symm; subst hw)
      | (go_at_call 60; refine (HO.out (wx.alloc (.cells #[.int .i64 x, .int .i64 y, .int .i64 z] 3 (0, 0))).drew wx.heap.size y (by first | rfl | simp) (new3 wx _ _ _ 0 _ rfl) (new3 wx _ _ _ 1 _ rfl) (new3 wx _ _ _ 2 _ rfl)).mono ?_; rintro e w1 ⟨rfl, hw⟩; have hw := hw.symm; subst hw))
    all_goals
      go_wp2
      go_ret
      exact ⟨rfl, below_drewN (HT.out.below.alloc HT.out.below.size _) 1⟩
  · have hn' : (n == 1) = false := by simpa using hn
    have HN := hide2 hn
    clear hn
    go_enter Try.func49, Try.ntmps49
    go_wp2_with (go_at_call 59; refine (hC _).mono ?_; rintro e w1 ⟨rfl, hw⟩; have hw := hw.symm; subst hw)
    generalize (w.alloc (.cells #[.int .i64 n, .string ⟨t.toArray⟩] 37 (0, 0))).alloc (.cells #[.int .i64 m, .string ⟨u.toArray⟩] 37 (0, 0)) = wx at HT ⊢
    obtain ⟨c0, c1, d0, d1, -, -, -, -, -⟩ := HT.out
    go_region_held3 (fun w' => w'.cell? ⟨w.heap.size, 0, none⟩ = some (.int .i64 n) ∧ w'.cell? ⟨w.heap.size, 1, none⟩ = some (.string ⟨t.toArray⟩) ∧ w'.cell? ⟨w.heap.size + 1, 0, none⟩ = some (.int .i64 m) ∧ w'.cell? ⟨w.heap.size + 1, 1, none⟩ = some (.string ⟨u.toArray⟩)) (go_keep) (first
      | (go_at_call 61; refine (hS _).mono ?_; rintro e w1 ⟨rfl, hw⟩; have hw := hw.symm; subst hw)
      | (go_at_call 62; refine (hB _).mono ?_; rintro e w1 ⟨rfl, hw⟩; have hw := hw.symm; subst hw)
      | (go_at_call 60; refine (HO.out (wx.alloc (.cells #[.int .i64 x, .int .i64 0, .int .i64 z] 3 (0, 0))).drew wx.heap.size 0 (if_neg HN.out).symm (new3 wx _ _ _ 0 _ rfl) (new3 wx _ _ _ 1 _ rfl) (new3 wx _ _ _ 2 _ rfl)).mono ?_; rintro e w1 ⟨rfl, hw⟩; have hw := hw.symm; subst hw))
    all_goals
      go_wp2
      go_ret
      exact ⟨rfl, below_drewN (HT.out.below.alloc HT.out.below.size _) 1⟩
end Go.Proofs.Ytplbdnndpgfljaa
