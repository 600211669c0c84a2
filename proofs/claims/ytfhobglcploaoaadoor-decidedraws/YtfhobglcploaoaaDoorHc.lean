/-
  awake.
-/
import Derived.Test.YtfhobglcploaoaaDoorHb
namespace Go.Proofs.YtfhobglcploaoaaDoor
open Go.RowKit
set_option linter.unusedVariables false
set_option linter.unusedSimpArgs false
set_option maxRecDepth 100000
def bA (l : List UInt8) : ByteArray := ⟨l.toArray⟩
def T0 (b0 b2 b3 b4 : Nat) : Tb := ⟨0, [⟨bA [42], bA [114], [⟨bA [47, 97, 42], bA [71, 69, 84], [⟨bA [115], 4607182418800017408⟩], some ⟨b0, 0, none⟩, 1⟩], some ⟨b2, 0, none⟩, 1, [⟨bA [47, 97, 120], bA [42], false⟩], some ⟨b3, 0, none⟩, 1⟩], some ⟨b4, 0, none⟩, 1, [], none, 0⟩
def Y0 (b6 : Nat) : List Hy := [⟨bA [115], [bA [101, 49], bA [101, 50]], some ⟨b6, 0, none⟩, 2⟩]
theorem d0 (b0 b2 b3 b4 b6 : Nat) : decF (T0 b0 b2 b3 b4).hos (Y0 b6) (bA [71, 69, 84]) (bA [120]) (bA [47, 97, 98]) 4602678819172646912 3 = ⟨1, 0, bA [114], 0, bA [115], bA [101, 50]⟩ := by kernel_rfl
theorem d1 (b0 b2 b3 b4 b6 : Nat) : decF (T0 b0 b2 b3 b4).hos (Y0 b6) (bA [71, 69, 84]) (bA [120]) (bA [47, 97, 120]) 4602678819172646912 3 = ⟨4, 403, bA [114], 0, e0, e0⟩ := by kernel_rfl
theorem cel_one {W : World} {b k : Nat} {r : List Value} {t : TypeId} (h : W.heap[b]? = some (.cells r.toArray t (0, 0))) : Cel W (some ⟨b, 0, none⟩) k [r] := by
  refine .inr ⟨b, 0, rfl, fun i r' hi j u hu => ?_⟩
  rcases i with _ | i
  · simp at hi
    subst hi
    rw [cell_block h]
    simpa using hu
  · simp at hi
theorem cel_two {W : World} {b : Nat} {x y : Value} {t : TypeId} (h : W.heap[b]? = some (.cells #[x, y] t (0, 0))) : Cel W (some ⟨b, 0, none⟩) 1 [[x], [y]] := by
  refine .inr ⟨b, 0, rfl, fun i r' hi j u hu => ?_⟩
  rcases i with _ | _ | i
  · simp at hi
    subst hi
    rcases j with _ | j
    · simp at hu; subst hu; rw [cell_block h]; rfl
    · simp at hu
  · simp at hi
    subst hi
    rcases j with _ | j
    · simp at hu; subst hu; rw [cell_block h]; rfl
    · simp at hu
  · simp at hi
theorem eight (w : World) (o0 o1 o2 o3 o4 o5 o6 o7 : Obj) : Gr w ((((((((w.alloc o0).alloc o1).alloc o2).alloc o3).alloc o4).alloc o5).alloc o6).alloc o7) ∧ ∀ k, k < 8 → ((((((((w.alloc o0).alloc o1).alloc o2).alloc o3).alloc o4).alloc o5).alloc o6).alloc o7).heap[w.heap.size + k]? = #[o0, o1, o2, o3, o4, o5, o6, o7][k]? := by
  have he : ((((((((w.alloc o0).alloc o1).alloc o2).alloc o3).alloc o4).alloc o5).alloc o6).alloc o7) = Go.Sort.grow w #[o0, o1, o2, o3, o4, o5, o6, o7] := by
    simp only [Go.Sort.alloc_eq_grow, Go.Sort.grow_grow]
    rfl
  rw [he]
  refine ⟨⟨0, _, rfl⟩, fun k hk => ?_⟩
  show (w.heap ++ #[o0, o1, o2, o3, o4, o5, o6, o7])[w.heap.size + k]? = _
  rw [Array.getElem?_append_right (by omega)]
  congr 1
  omega
theorem small_ok {l : List UInt8} (h : l.length ≤ 3) : okS (bA l) := by unfold okS bA; show l.length ≤ _; omega
set_option maxHeartbeats 8000000 in
theorem awake_any (w : World) (hst : Sts w) : Calls Tryd.prog 13 #[] w fun e w' => e = .returned (.bool true) ∧ Below w.heap.size w w' := by
  obtain ⟨B0, hB0⟩ : ∃ B, w.heap.size = B := ⟨_, rfl⟩
  obtain ⟨B1, hB1⟩ : ∃ B, B0 + 1 = B := ⟨_, rfl⟩
  obtain ⟨B2, hB2⟩ : ∃ B, B1 + 1 = B := ⟨_, rfl⟩
  obtain ⟨B3, hB3⟩ : ∃ B, B2 + 1 = B := ⟨_, rfl⟩
  obtain ⟨B4, hB4⟩ : ∃ B, B3 + 1 = B := ⟨_, rfl⟩
  obtain ⟨B5, hB5⟩ : ∃ B, B4 + 1 = B := ⟨_, rfl⟩
  obtain ⟨B6, hB6⟩ : ∃ B, B5 + 1 = B := ⟨_, rfl⟩
  obtain ⟨B7, hB7⟩ : ∃ B, B6 + 1 = B := ⟨_, rfl⟩
  obtain ⟨hgr, hat⟩ := eight w (.cells #[.string ⟨#[115]⟩, .float .f64 4607182418800017408] 52 (0, 0)) (.cells #[.string ⟨#[47, 97, 42]⟩, .string ⟨#[71, 69, 84]⟩, .slice (some ⟨B0, 0, none⟩) 1 1] 50 (0, 0)) (.cells #[.string ⟨#[47, 97, 42]⟩, .string ⟨#[71, 69, 84]⟩, .slice (some ⟨B0, 0, none⟩) 1 1] 50 (0, 0)) (.cells #[.string ⟨#[47, 97, 120]⟩, .string ⟨#[42]⟩, .bool false] 64 (0, 0)) (.cells #[.string ⟨#[42]⟩, .string ⟨#[114]⟩, .slice (some ⟨B2, 0, none⟩) 1 1, .slice (some ⟨B3, 0, none⟩) 1 1] 45 (0, 0)) (.cells #[.int .i64 0, .slice (some ⟨B4, 0, none⟩) 1 1, .slice none 0 0] 25 (0, 0)) (.cells #[.string ⟨#[101, 49]⟩, .string ⟨#[101, 50]⟩] 9 (0, 0)) (.cells #[.string ⟨#[115]⟩, .slice (some ⟨B6, 0, none⟩) 2 2] 54 (0, 0))
  obtain ⟨w8, hw8⟩ : ∃ X, ((((((((w.alloc (.cells #[.string ⟨#[115]⟩, .float .f64 4607182418800017408] 52 (0, 0))).alloc (.cells #[.string ⟨#[47, 97, 42]⟩, .string ⟨#[71, 69, 84]⟩, .slice (some ⟨B0, 0, none⟩) 1 1] 50 (0, 0))).alloc (.cells #[.string ⟨#[47, 97, 42]⟩, .string ⟨#[71, 69, 84]⟩, .slice (some ⟨B0, 0, none⟩) 1 1] 50 (0, 0))).alloc (.cells #[.string ⟨#[47, 97, 120]⟩, .string ⟨#[42]⟩, .bool false] 64 (0, 0))).alloc (.cells #[.string ⟨#[42]⟩, .string ⟨#[114]⟩, .slice (some ⟨B2, 0, none⟩) 1 1, .slice (some ⟨B3, 0, none⟩) 1 1] 45 (0, 0))).alloc (.cells #[.int .i64 0, .slice (some ⟨B4, 0, none⟩) 1 1, .slice none 0 0] 25 (0, 0))).alloc (.cells #[.string ⟨#[101, 49]⟩, .string ⟨#[101, 50]⟩] 9 (0, 0))).alloc (.cells #[.string ⟨#[115]⟩, .slice (some ⟨B6, 0, none⟩) 2 2] 54 (0, 0))) = X := ⟨_, rfl⟩
  rw [hw8] at hgr hat
  rw [hB0] at hat
  have x0 : w8.heap[B0]? = some (.cells #[.string ⟨#[115]⟩, .float .f64 4607182418800017408] 52 (0, 0)) := by have := hat 0 (by omega); rwa [show B0 + 0 = B0 by omega] at this
  have x2 : w8.heap[B2]? = some (.cells #[.string ⟨#[47, 97, 42]⟩, .string ⟨#[71, 69, 84]⟩, .slice (some ⟨B0, 0, none⟩) 1 1] 50 (0, 0)) := by have := hat 2 (by omega); rwa [show B0 + 2 = B2 by omega] at this
  have x3 : w8.heap[B3]? = some (.cells #[.string ⟨#[47, 97, 120]⟩, .string ⟨#[42]⟩, .bool false] 64 (0, 0)) := by have := hat 3 (by omega); rwa [show B0 + 3 = B3 by omega] at this
  have x4 : w8.heap[B4]? = some (.cells #[.string ⟨#[42]⟩, .string ⟨#[114]⟩, .slice (some ⟨B2, 0, none⟩) 1 1, .slice (some ⟨B3, 0, none⟩) 1 1] 45 (0, 0)) := by have := hat 4 (by omega); rwa [show B0 + 4 = B4 by omega] at this
  have x5 : w8.heap[B5]? = some (.cells #[.int .i64 0, .slice (some ⟨B4, 0, none⟩) 1 1, .slice none 0 0] 25 (0, 0)) := by have := hat 5 (by omega); rwa [show B0 + 5 = B5 by omega] at this
  have x6 : w8.heap[B6]? = some (.cells #[.string ⟨#[101, 49]⟩, .string ⟨#[101, 50]⟩] 9 (0, 0)) := by have := hat 6 (by omega); rwa [show B0 + 6 = B6 by omega] at this
  have x7 : w8.heap[B7]? = some (.cells #[.string ⟨#[115]⟩, .slice (some ⟨B6, 0, none⟩) 2 2] 54 (0, 0)) := by have := hat 7 (by omega); rwa [show B0 + 7 = B7 by omega] at this
  have HGR := hideL hgr
  have HTI : Hid (Tin w8 (T0 B0 B2 B3 B4)) := by
    refine ⟨cel_one x4, .inl rfl, (show (1 : Nat) ≤ 140737488355328 by decide), (show (0 : Nat) ≤ 140737488355328 by decide), fun o ho => ?_⟩
    obtain rfl := List.mem_singleton.1 ho
    refine ⟨cel_one x2, cel_one x3, (show (1 : Nat) ≤ 140737488355328 by decide), (show (1 : Nat) ≤ 140737488355328 by decide), fun o ho => ?_, fun o ho => ?_, small_ok (by decide), small_ok (by decide)⟩
    · obtain rfl := List.mem_singleton.1 ho
      refine ⟨cel_one x0, (show (1 : Nat) ≤ 140737488355328 by decide), small_ok (by decide), fun o ho => ?_⟩
      obtain rfl := List.mem_singleton.1 ho
      exact small_ok (by decide)
    · obtain rfl := List.mem_singleton.1 ho
      exact small_ok (by decide)
  have HLI : Hid (Lin w8 (some ⟨B7, 0, none⟩) 1 (Y0 B6)) := by
    refine ⟨cel_one x7, rfl, by decide, fun o ho => ?_⟩
    obtain rfl := List.mem_singleton.1 ho
    refine ⟨cel_two x6, (show (2 : Nat) ≤ 140737488355328 by decide), fun s hs => ?_, small_ok (by decide)⟩
    rcases List.mem_cons.1 hs with rfl | hs
    · exact small_ok (by decide)
    · obtain rfl := List.mem_singleton.1 hs
      exact small_ok (by decide)
  have HS8 := hideL (hst.below hgr.below)
  have HDA := hideL (fun W (h : Below w8.heap.size w8 W) => decide_any W (T0 B0 B2 B3 B4) (some ⟨B7, 0, none⟩) 1 1 (Y0 B6) (bA [71, 69, 84]) (bA [120]) (bA [47, 97, 98]) 4602678819172646912 3 (HTI.out.below h) (HLI.out.below h) (small_ok (by decide)) (small_ok (by decide)) (HS8.out.below h))
  have HDB := hideL (fun W (h : Below w8.heap.size w8 W) => decide_any W (T0 B0 B2 B3 B4) (some ⟨B7, 0, none⟩) 1 1 (Y0 B6) (bA [71, 69, 84]) (bA [120]) (bA [47, 97, 120]) 4602678819172646912 3 (HTI.out.below h) (HLI.out.below h) (small_ok (by decide)) (small_ok (by decide)) (HS8.out.below h))
  rw [d0] at HDA
  rw [d1] at HDB
  unfold Dn.val at HDA HDB
  obtain ⟨p0, p1, p2⟩ := three_cells x5
  have HX5 := hideL x5
  clear hgr hat hst x0 x2 x3 x4 x5 x6 x7
  go_enter Tryd.func13, Tryd.ntmps13
  go_wp2_with fail
  refine (HDA.out w8 (Below.refl _ _)).mono ?_
  rintro e w9 ⟨rfl, hb9⟩
  have HB9 := hideL (hb9.trans ((Gr.alloc w9 (.cells #[.int .i64 1, .int .i64 0, .string (bA [114]), .int .i64 0, .string (bA [115]), .string (bA [101, 50])] 33 (0, 0))).below.mono hb9.size))
  have HN9 := hideL (heap_alloc_new w9 (.cells #[.int .i64 1, .int .i64 0, .string (bA [114]), .int .i64 0, .string (bA [115]), .string (bA [101, 50])] 33 (0, 0)))
  clear hb9 p0 p1 p2 hw8 hB0 hB1 hB2 hB3 hB4 hB5 hB6 hB7
  obtain ⟨p0, p1, p2⟩ := three_cells (HB9.out.cells HX5.out)
  obtain ⟨C, hC⟩ : ∃ C, w9.heap.size = C := ⟨_, rfl⟩
  rw [hC] at HN9
  go_wp2_with fail
  refine (HDB.out _ HB9.out).mono ?_
  rintro e w11 ⟨rfl, hb11⟩
  have HN11 := hideL (hb11.cells HN9.out)
  have HB11 := hideL (HB9.out.trans (hb11.mono HB9.out.size))
  have hlt := lt_of_block HN11.out
  obtain ⟨k0, k1, k2, k3, k4, k5⟩ := six_cells HN11.out
  have q0 := fun X => (alloc_cell w11 X hlt).trans k0
  have q5 := fun X => (alloc_cell w11 X hlt).trans k5
  clear hb11 p0 p1 p2 hC hlt k0 k1 k2 k3 k4 k5
  have hb1 : (bA [101, 50]).toList = [101, 50] := by kernel_rfl
  go_wp2_with fail
  go_ret
  exact ⟨rfl, HGR.out.below.trans ((HB11.out.trans ((Gr.alloc _ _).below.mono HB11.out.size)).mono HGR.out.below.size)⟩
end Go.Proofs.YtfhobglcploaoaaDoor
